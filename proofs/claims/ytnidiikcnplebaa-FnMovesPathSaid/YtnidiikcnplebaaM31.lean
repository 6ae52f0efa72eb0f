/-
  What paths are drawn out of a code.
  What rows, paths and moves are drawn out of a code.
  Two paths drawn out of a code.
  What the walks of the laws of paths and moves share.
-/
import Derived.Test.YtnidiikcnplebaaM27
import Derived.Test.YtnidiikcnplebaaM30
import Derived.Test.YtnidiikcnplebaaM11
import Derived.Deep.CutBlock
import Derived.Test.YtnidiikcnplebaaM28
import Derived.Test.YtnidiikcnplebaaM03
/- What paths are drawn out of a code. -/
namespace Go.Proofs.Ytnidiikcnplebaa
set_option maxRecDepth 20000
open Go.ChangeShapes Go.WideShapes Go.ChangeAt Go.RowKit
set_option linter.unusedVariables false
set_option linter.unusedSimpArgs false

theorem rows_keptP {w w' : World} {B T R n K : Nat} {v : Value} {cs : List Value} (h : w.ownsRow B T K v n cs) (hg : w.grownBy w' (some R)) (hR : R < B) : w'.ownsRow B T K v n cs := by
  refine h.kept hg ?_
  cases e : v.ownBlock with
  | none => exact .inl rfl
  | some k =>
    have := (h.lt k e).1
    exact .inr (by simp; omega)
theorem own_lowerP {w : World} {B C T n K : Nat} {v : Value} {cs : List Value} (h : w.ownsRow C T K v n cs) (hB : B ≤ C) : w.ownsRow B T K v n cs := by
  refine ⟨h.1, ?_⟩
  rcases h.2 with h0 | ⟨g, cap, cur, e, hC, rest⟩
  · exact .inl h0
  · exact .inr ⟨g, cap, cur, e, Nat.le_trans hB hC, rest⟩
section
variable {P : Program} {t e : TypeId} {ops : Array Oper} {rest : List Oper} {o : Oper} {a : Act} {Q : Exit → Act → World → Prop} {w0 w : World} {R q K : Nat} {α : Type} {en : α → List Value}
/-- Appending while a reader is open. -/
theorem append_drawnE (ty : TyL P t e K) (E : Enc en K) (hgd : o.guard = none) {s x : Operand} (hop : o.op = .call { callee := .builtin .append, args := #[s, x], argTypes := #[t, t] })
    {v x' : Value} {xs ys : List α} (hs : a.eval s = v) (hx : a.eval x = x') (hown : OwnL en K w w0.heap.size e v xs) (hr : ReadsL en w x' ys) (hlen : xs.length + ys.length ≤ 1000000000) (hg : w0.grownBy w (some R)) (hR : Rd w R q) (hlt : R < w0.heap.size)
    (h : ∀ v' w', OwnL en K w' w0.heap.size e v' (xs ++ ys) → Rd w' R q → w0.grownBy w' (some R) → wpList P ops Q rest (a.put o.dst v') w') : wpList P ops Q (o :: rest) a w := by
  refine wpList_plain hgd fun _ hK => wp_appendL (w0 := w) ty E hop hs hx hown hr hlen (Below.refl _ _) hg.size fun v' w' h1 _ _ h4 => hK _ _ (h v' w' h1 ?_ ?_)
  · exact hR.keep h4 fun k hk => by have := (hown.lt k hk).1; omega
  · exact only_own (B := 0) hg h4 fun k hk => (hown.lt k hk).1
end
/-- A list stays where the code is read on. -/
theorem reads_apartP {w w' : World} {R q : Nat} {v : Value} {ws : List Wh} (h : Reads w v ws) (hr : Rd w R q) (hg : w.grownBy w' (some R)) : Reads w' v ws := by
  obtain ⟨p, cap, h1, h2, h3, h4, h5⟩ := h
  refine ⟨p, cap, h1, h2, h3, h4, fun hn => ?_⟩
  obtain ⟨g, o, e, hlt, hra⟩ := h5 hn
  refine ⟨g, o, e, Nat.lt_of_lt_of_le hlt hg.size, ?_⟩
  cases hws : ws with
  | nil => exact fun j v hv => by simp [flat] at hv
  | cons c cs =>
    rw [← hws]
    have hne : g ≠ R := by
      rintro rfl
      obtain ⟨a, ha, -⟩ := hr
      have hl : 8 < (flat ws).length := by rw [flat_length, hws]; simp; omega
      have := hra 8 _ (List.getElem?_eq_getElem hl)
      simp [World.cell?, ha] at this
    exact fun j v hv => hg.cell (hra j v hv) (by simpa using hne)
abbrev sixCellsP : Array Value := #[.int .i64 2, .int .i64 3, .int .i64 4, .int .i64 6, .int .i64 8, .int .i64 12]
theorem six_atP (k : Nat) (hk : k < 6) : ∃ d : Nat, sixCellsP[k]? = some (.int .i64 d) := by
  have key : ∀ j : Fin 6, ∃ d : Nat, sixCellsP[j.val]? = some (.int .i64 (d : Int)) := by
    intro j
    match j with
    | 0 => exact ⟨2, rfl⟩
    | 1 => exact ⟨3, rfl⟩
    | 2 => exact ⟨4, rfl⟩
    | 3 => exact ⟨6, rfl⟩
    | 4 => exact ⟨8, rfl⟩
    | 5 => exact ⟨12, rfl⟩
  exact key ⟨k, hk⟩
/-! ### Words of 32 bits -/
theorem run_quo32 {P : Program} (x y : Nat) (t : TypeId) (w : World) : ∃ r n, (binOp .quo t (.float .f32 x) (.float .f32 y)).run P w = .ok (.float .f32 r) (w.drewN n) := by
  cases h : floatBits .quo .f32 x y with
  | some z => exact ⟨z, 0, run_float_arith w .quo t .f32 x y z h⟩
  | none =>
    refine ⟨Question.cut (.nanBits .f32 x y) (w.tape w.drawn (.nanBits .f32 x y)), 1, ?_⟩
    unfold floatBits at h
    simp only at h
    simp [binOp, Op.floatArith, h, choose, Sem.run, Question.forced]
    rfl
theorem eighth_at (j : Int) (h1 : -32 ≤ j) (h2 : j ≤ 32) : ∃ z, floatBits .quo .f32 (floatOfInt .f32 j) 1090519040 = some z := by
  have key : ∀ k : Fin 65, (floatBits .quo .f32 (floatOfInt .f32 (((k.val : Nat) : Int) - 32)) 1090519040).isSome = true := by decide +kernel
  have h := key ⟨(j + 32).toNat, by omega⟩
  simp only at h
  rw [show (((j + 32).toNat : Nat) : Int) - 32 = j by omega] at h
  exact Option.isSome_iff_exists.1 h
theorem sixth_at (j : Int) (h1 : -32 ≤ j) (h2 : j ≤ 32) : ∃ z, floatBits .quo .f32 (floatOfInt .f32 j) 1098907648 = some z := by
  have key : ∀ k : Fin 65, (floatBits .quo .f32 (floatOfInt .f32 (((k.val : Nat) : Int) - 32)) 1098907648).isSome = true := by decide +kernel
  have h := key ⟨(j + 32).toNat, by omega⟩
  simp only at h
  rw [show (((j + 32).toNat : Nat) : Int) - 32 = j by omega] at h
  exact Option.isSome_iff_exists.1 h
theorem set_fltC (a c : Pn) (cs : List Pn) : (flt encC (c :: cs)).set 0 (.complex .f32 a.1 a.2) = flt encC (a :: cs) := rfl
theorem ownC_nilB (w : World) (B : Nat) (T : Nat) (hB : B ≤ w.heap.size) : OwnL encC 1 (w.alloc (.cells #[] T)) B T (.slice (some ⟨w.heap.size, 0, none⟩) 0 0) ([] : List Pn) := World.ownsRow_made w #[] 0 hB (by simp [maxLen]) (by simp)
theorem Rd.drewN {w : World} {R p : Nat} (h : Rd w R p) (n : Nat) : Rd (w.drewN n) R p := h.keep (row := none) ⟨rfl, rfl, rfl, Nat.le_refl _, fun _ _ _ => rfl⟩ (fun g e => by cases e)
theorem only_drewP {a w : World} {row : Option Nat} (h : a.grownBy w row) (n : Nat) : a.grownBy (w.drewN n) row := ⟨h.os, h.tape, h.output, h.size, h.block⟩
theorem own_drewN {w : World} {B T n K : Nat} {v : Value} {cs : List Value} (h : w.ownsRow B T K v n cs) (m : Nat) : (w.drewN m).ownsRow B T K v n cs := rows_below h (below_drewN (Below.refl _ _) m)
/-- A path drawn off a reader. -/
def DrewPa (w : World) (R p c : Nat) (e : Ending) (w' : World) : Prop :=
  ∃ (v : Value) (xs : List Pn) (q : Nat), e = .returned v ∧ q ≤ p + c ∧ xs.length ≤ 100 ∧ Rd w' R q ∧ w.grownBy w' (some R) ∧ OwnL encC 1 w' w.heap.size 35 v xs
theorem pathO_ends {xs : List V} {L : List Pn} (h : pathO xs = some L) : 1 ≤ L.length ∧ L.length ≤ 100 := by
  unfold pathO at h
  split at h
  · next hh => rw [Bool.and_eq_true] at hh; cases h; have := pvB_parts hh.2; exact ⟨this.1, this.2.1⟩
  · cases h

set_option maxHeartbeats 8000000 in
theorem path_drawn (R p : Nat) (w : World) (h : Rd w R p) (hp : p ≤ 500000) :
    Calls Try.prog 62 #[.pointer (some ⟨R, 0, none⟩)] w (DrewPa w R p 300) := by
  have hlt := h.lt
  have D := Lib.hid (design2_drawn R p w h (by omega))
  clear h
  go_enter Try.func62, Try.ntmps62
  go_wp2_with fail
  refine D.out.mono ?_; rintro e w1 ⟨v2, ws, q, rfl, hq, hr1, hg1, ho1⟩
  have P1 := Lib.hid (pick_any R q 6 _ (hr1.alloc (.cells sixCellsP 3)) (by omega) (by omega))
  have HG1 := Lib.hid (only_alloc hg1 (.cells sixCellsP 3))
  have HA := Lib.hid (fun (w' : World) (hg : (w1.alloc (.cells sixCellsP 3)).grownBy w' (some R)) => reads_apartP (ho1.below ((Below.refl _ _).alloc (Nat.le_refl _) _)) (hr1.alloc (.cells sixCellsP 3)) hg)
  have hz1 : w.heap.size ≤ w1.heap.size := hg1.size
  have hC := Lib.hid (show ∀ (j d : Nat) (w' : World), (w1.alloc (.cells sixCellsP 3)).grownBy w' (some R) → sixCellsP[j]? = some (.int .i64 d) → w'.cell? ⟨w1.heap.size, j, none⟩ = some (.int .i64 d) from fun j d w' hg hd => hg.cell (a := ⟨w1.heap.size, j, none⟩) ((World.cell?_alloc_at _ _ _ _ rfl).trans hd) (by simp; omega))
  clear D hr1 hg1 ho1
  go_wp2_with fail
  refine P1.out.mono ?_; rintro e w2 ⟨k, rfl, k0, k1, hr2, hg2⟩
  obtain ⟨j, rfl⟩ : ∃ j : Nat, k = j := ⟨k.toNat, by omega⟩
  obtain ⟨d, hd⟩ := six_atP j (by omega)
  have hcell := hC.out j d w2 hg2 hd
  have RO := Lib.hid (specRowOf_any v2 d ws w2 (HA.out w2 hg2))
  have HG2 := Lib.hid (only_trans' HG1.out hg2)
  have HR2 := Lib.hid hr2
  clear P1 hr2 hg2 hd hC HA HG1
  generalize rdO ws d = o at *
  go_wp2_with fail
  refine RO.out.mono ?_; rintro e w3 ⟨hb3, v3, rfl, ho3⟩
  have HG3 := Lib.hid (only_trans' HG2.out (only_below hb3 (some R)))
  have HR3 := Lib.hid (HR2.out.below hb3)
  have PO := Lib.hid (specPathOf_any v3 (gotL o) w3 (ownL_reads ho3))
  clear RO hb3 ho3 HG2 HR2 hcell
  obtain ⟨b1, hb1⟩ : ∃ b, o.isSome = b := ⟨_, rfl⟩
  rw [hb1]
  clear hb1
  generalize gotL o = L0 at *
  obtain ⟨L, hL⟩ : ∃ L, pathO L0 = L := ⟨_, rfl⟩
  have hL2 : ∀ x, L = some x → 1 ≤ x.length ∧ x.length ≤ 100 := fun x e => pathO_ends (hL.trans e)
  rw [hL] at PO
  have HL2 := Lib.hid hL2
  clear hL hL2
  go_wp2_with fail
  refine PO.out.mono ?_; rintro e w4 ⟨hb4, v4, rfl, ho4⟩
  have HG4 := Lib.hid (only_trans' HG3.out (only_below hb4 (some R)))
  have HR4 := Lib.hid (HR3.out.below hb4)
  have HO4 := Lib.hid (own_lowerP ho4 HG3.out.size)
  clear PO hb4 ho4 HG3 HR3
  go_upto_region 3 with fail
  go_cut [36] from 10 (fun s36 wx => ∃ (q' : Nat) (b : Bool), s36 = .bool b ∧ q' ≤ q + 3 ∧ Aside (Rd wx R q') ∧ Aside (w.grownBy wx (some R)) ∧ Aside (b = false → ∃ x, L = some x ∧ OwnL encC 1 wx w.heap.size 35 v4 x))
  case first =>
    cases b1 with
    | false =>
      go_wp2
      go_meet
      case rel => exact ⟨q + 1, true, rfl, by omega, HR4, HG4, fun e => by cases e⟩
    | true =>
      cases L with
      | none =>
        go_wp2
        go_meet
        case rel => exact ⟨q + 1, true, rfl, by omega, HR4, HG4, fun e => by cases e⟩
      | some x =>
        have P2 := Lib.hid (pick_any R (q + 1) 3 w4 HR4.out (by omega) (by omega))
        go_wp2_with fail
        refine P2.out.mono ?_; rintro e w5 ⟨k2, rfl, k20, k21, hr5, hg5⟩
        have HG5 := Lib.hid (only_trans' HG4.out hg5)
        have HR5 := Lib.hid hr5
        have HO5 := Lib.hid (rows_keptP HO4.out hg5 hlt)
        clear P2 hr5 hg5 HG4 HR4 HO4
        go_wp2
        go_meet
        case rel => exact ⟨q + 1 + 1, _, rfl, by omega, HR5, HG5, fun _ => ⟨x, rfl, HO5.out⟩⟩
  case rest =>
  obtain ⟨q1, b, rfl, hq1, HRc, HGc, HOc⟩ := hcut
  clear HO4 HG4 HR4
  go_upto_if 36 with fail
  go_cut [5, 7, 8] from 10 (fun s5 s7 s8 wx => ∃ (q' : Nat) (xs : List Pn), q' ≤ q + 20 ∧ Aside (1 ≤ xs.length) ∧ Aside (xs.length ≤ 100) ∧ Aside (Rd wx R q') ∧ Aside (w.grownBy wx (some R)) ∧ Aside (OwnL encC 1 wx w.heap.size 35 s5 xs))
  case first =>
    cases b with
    | false =>
      obtain ⟨x, hx, ho⟩ := HOc.out rfl
      have hx12 := HL2.out x hx
      have HX1 : Aside (1 ≤ x.length) := hx12.1
      have HX2 : Aside (x.length ≤ 100) := hx12.2
      have HO : Aside (OwnL encC 1 wc w.heap.size 35 v4 x) := ho
      clear HOc hx ho hx12 HL2
      go_wp2
      go_meet
      case rel => exact ⟨q1, x, by omega, HX1, HX2, HRc, HGc, HO⟩
    | true =>
      clear HOc HL2
      have hge := HGc.out.size
      have HRa := HRc.out.alloc (.cells #[] 35)
      have HGa := Lib.hid (only_alloc HGc.out (.cells #[] 35))
      have HOa := Lib.hid (ownC_nilB wc w.heap.size 35 hge)
      have P6 := Lib.hid (pick_any R q1 5 _ HRa (by omega) (by omega))
      clear HRa HRc HGc
      go_wp2_with fail
      refine P6.out.mono ?_; rintro e w5 ⟨k1', rfl, k10, k11, hr5, hg5⟩
      obtain ⟨mm, hmm⟩ : ∃ mm : Nat, 1 + k1' = (mm : Int) := ⟨(1 + k1').toNat, by omega⟩
      have wmm : IntKind.i64.wrap (mm : Int) = (mm : Int) := by rw [IntKind.wrap_i64]; omega
      have HR5 := Lib.hid hr5
      have HG5 := Lib.hid (only_trans' HGa.out hg5)
      have HO5 := Lib.hid (rows_keptP HOa.out hg5 hlt)
      clear P6 hr5 hg5 HGa HOa
      go_wp2
      go_loopw [5, 8] (fun s5 i wr => ∃ (k : Nat) (xs : List Pn) (q' : Nat), k ≤ mm ∧ i = .int .i64 k ∧ xs.length = k ∧ q' ≤ q1 + 1 + 2 * k ∧ Rd wr R q' ∧ w.grownBy wr (some R) ∧ OwnL encC 1 wr w.heap.size 35 s5 xs) (fun _ i _ => mm - (intOf i).toNat)
      case atStart => exact ⟨0, [], q1 + 1, Nat.zero_le _, rfl, rfl, by omega, HR5.out, HG5.out, HO5.out⟩
      case round =>
        clear HR5 HG5 HO5
        obtain ⟨k, xs, q', hk, rfl, hlen, hq', hr, hg, ho⟩ := hrel
        by_cases hkm : k < mm
        · have hkz : (k : Int) < (mm : Int) := by omega
          have P7 := Lib.hid (pick_any R q' 65 wr hr (by omega) (by omega))
          have HG := Lib.hid hg
          have HO := Lib.hid ho
          clear hr hg ho
          go_wp2_with fail
          refine P7.out.mono ?_; rintro e w6 ⟨s, rfl, s0, s1, hr6, hg6⟩
          obtain ⟨u, hu⟩ : ∃ u : Int, s - 32 = u := ⟨_, rfl⟩
          have wu : IntKind.i64.wrap u = u := by rw [IntKind.wrap_i64]; omega
          obtain ⟨zx, hzx⟩ := eighth_at u (by omega) (by omega)
          have R1 := Lib.hid (fun t w => run_float_arith (P := Try.prog) w .quo t .f32 _ _ _ hzx)
          have P8 := Lib.hid (pick_any R (q' + 1) 65 w6 hr6 (by omega) (by omega))
          have HG6 := Lib.hid (only_trans' HG.out hg6)
          have HO6 := Lib.hid (rows_keptP HO.out hg6 hlt)
          clear P7 hr6 hg6 HG HO hzx
          go_wp2_with (first | rw [R1.out])
          refine P8.out.mono ?_; rintro e w7 ⟨t, rfl, t0, t1, hr7, hg7⟩
          obtain ⟨x, hx⟩ : ∃ x : Int, t - 32 = x := ⟨_, rfl⟩
          have wx : IntKind.i64.wrap x = x := by rw [IntKind.wrap_i64]; omega
          obtain ⟨zy, hzy⟩ := sixth_at x (by omega) (by omega)
          have R2 := Lib.hid (fun t w => run_float_arith (P := Try.prog) w .quo t .f32 _ _ _ hzy)
          have HG7 := Lib.hid (only_trans' HG6.out hg7)
          have HO7 := Lib.hid (rows_keptP HO6.out hg7 hlt)
          have HR7 := Lib.hid hr7
          clear P8 hr7 hg7 HG6 HO6 hzy
          go_wp2_with (first | rw [R2.out] |
            (refine append_drawnE tyZ encC_ok rfl rfl (xs := xs) (ys := [(zx, zy)]) rfl rfl (World.ownsRow.alloc HO7.out _) (litC _ (zx, zy) _) (by simp; omega) (only_alloc HG7.out _) (HR7.out.alloc _) hlt ?_; intro v8 w8 ho8 hr8 hg8))
          have HO8 := Lib.hid ho8
          have HR8 := Lib.hid hr8
          have HG8 := Lib.hid hg8
          clear ho8 hr8 hg8 HG7 HO7 HR7
          go_wp2
          go_roundw
          case rel => exact ⟨k + 1, xs ++ [(zx, zy)], q' + 1 + 1, by omega, by go_num, by simp; omega, by omega, HR8.out, HG8.out, HO8.out⟩
          case measure => simp [intOf]; omega
        · have hkz : ¬ (k : Int) < (mm : Int) := by omega
          have HX1 : Aside (1 ≤ xs.length) := (show 1 ≤ xs.length by omega)
          have HX2 : Aside (xs.length ≤ 100) := (show xs.length ≤ 100 by omega)
          have HR : Aside (Rd wr R q') := hr
          have HG : Aside (w.grownBy wr (some R)) := hg
          have HO := Lib.hid ho
          clear hr hg ho hlen
          go_wp2
          go_meet
          case rel => exact ⟨q', xs, by omega, HX1, HX2, HR, HG, HO.out⟩
  case rest =>
  obtain ⟨q2, xs, hq2, HX1, HX2, HR, HG, HO⟩ := hcut
  clear HRc HGc HOc HL2
  have P9 := Lib.hid (pick_any R q2 24 wc HR.out (by omega) (by omega))
  go_wp2_with fail
  refine P9.out.mono ?_; rintro e w5 ⟨s, rfl, s0, s1, hr5, hg5⟩
  have HG5 := Lib.hid (only_trans' HG.out hg5)
  have HO5 := Lib.hid (rows_keptP HO.out hg5 hlt)
  have HR5 := Lib.hid hr5
  have hx1 := HX1.out
  clear P9 hr5 hg5 HG HO HR HX1
  by_cases e0 : s = 0
  · subst e0
    have HE := Lib.hid (ownC_nilB w5 w.heap.size 35 HG5.out.size)
    have HG6 := Lib.hid (only_alloc HG5.out (.cells #[] 35))
    have HR6 := Lib.hid (HR5.out.alloc (.cells #[] 35))
    clear HO5 HG5 HR5
    go_wp2
    go_ret
    exact ⟨_, [], q2 + 1, rfl, by omega, by simp, HR6.out, HG6.out, HE.out⟩
  · have e0' : (s == 0) = false := by simpa using e0
    have hx2 := HX2.out
    have ho := HO5.out
    cases xs with
    | nil => simp at hx1
    | cons c cs' =>
    have h2 := ho.2
    rcases h2 with ⟨rfl, h0⟩ | ⟨g, cap, cur, rfl, _⟩
    · simp at h0
    obtain ⟨old, hold⟩ : ∃ old, (flt encC (c :: cs'))[0]? = some old := ⟨.complex .f32 c.1 c.2, rfl⟩
    have hcell : w5.cell? ⟨g, 0, none⟩ = some old := by rw [ho.cellAt 0 (by simp), hold]
    have hfr := ho.frozenAt 0
    have hl0 : (0 : Int) < ((c :: cs').length : Int) := by simp
    have hlen2 : ∀ a : Pn, (a :: cs').length = (c :: cs').length := fun a => rfl
    have KEY := Lib.hid (show ∀ (a : Pn) (n : Nat), Rd ((w5.drewN n).setCell ⟨g, 0, none⟩ (.complex .f32 a.1 a.2)) R (q2 + 1) ∧ w.grownBy ((w5.drewN n).setCell ⟨g, 0, none⟩ (.complex .f32 a.1 a.2)) (some R) ∧ OwnL encC 1 ((w5.drewN n).setCell ⟨g, 0, none⟩ (.complex .f32 a.1 a.2)) w.heap.size 35 (.slice (some ⟨g, 0, none⟩) (c :: cs').length cap) (a :: cs') from fun a n => by
      have hod := own_drewN ho n
      obtain ⟨h1, h2⟩ := hod.stored 0 (.complex .f32 a.1 a.2)
      rw [set_fltC] at h1
      exact ⟨(HR5.out.drewN n).keep h2 fun k hk => by have := (hod.lt k hk).1; omega, only_own (B := 0) (v := .slice (some ⟨g, 0, none⟩) (c :: cs').length cap) (only_drewP HG5.out n) h2 fun k hk => (hod.lt k hk).1, h1⟩)
    have ST := Lib.hid (fun (x y n : Nat) (m : Mode) => store_cpx (P := Try.prog) (w := w5.drewN n) (p := x) (q := y) (old := old) hcell hfr m)
    clear ho hold hcell hfr HX2
    by_cases e1 : s = 1
    · subst e1
      clear e0 e0'
      obtain ⟨r, n, hr⟩ := run_quo32 (P := Try.prog) 0 0 26 w5
      obtain ⟨k1, k2, k3⟩ := KEY.out (r, 1065353216) n
      have S := ST.out r 1065353216 n
      have K1 := Lib.hid k1
      have K2 := Lib.hid k2
      have K3 := Lib.hid k3
      clear k1 k2 k3 KEY ST
      generalize w5.drewN n = wn at *
      go_wp2_with (first | rw [hr] | rw [S])
      go_ret
      exact ⟨_, (r, 1065353216) :: cs', q2 + 1, rfl, by omega, by simp at hx2 ⊢; omega, K1.out, K2.out, K3.out⟩
    · have e1' : (s == 1) = false := by simpa using e1
      by_cases e2 : s = 2
      · subst e2
        clear e0 e0' e1 e1'
        have R0 : ∀ w, (Op.unary .neg (.float .f32 0)).run Try.prog w = .ok (.float .f32 2147483648) w := fun w => by simp only [Op.unary, show Op.negFloat .f32 0 = 2147483648 by decide +kernel]; rfl
        have R1 : ∀ t w, (binOp .mul t (.float .f32 2147483648) (.float .f32 1065353216)).run Try.prog w = .ok (.float .f32 2147483648) w := fun t w => run_float_arith w .mul t .f32 _ _ _ (by decide +kernel)
        obtain ⟨k1, k2, k3⟩ := KEY.out (2147483648, 0) 0
        have S := ST.out 2147483648 0 0
        have K1 := Lib.hid k1
        have K2 := Lib.hid k2
        have K3 := Lib.hid k3
        clear k1 k2 k3 KEY ST
        rw [show w5.drewN 0 = w5 from rfl] at *
        go_wp2_with (first | rw [R1] | rw [R0] | rw [S])
        go_ret
        exact ⟨_, (2147483648, 0) :: cs', q2 + 1, rfl, by omega, by simp at hx2 ⊢; omega, K1.out, K2.out, K3.out⟩
      · have e2' : (s == 2) = false := by simpa using e2
        by_cases e3 : s = 3
        · subst e3
          clear e0 e0' e1 e1' e2 e2'
          obtain ⟨k1, k2, k3⟩ := KEY.out (1167867904, 0) 0
          have S := ST.out 1167867904 0 0
          have K1 := Lib.hid k1
          have K2 := Lib.hid k2
          have K3 := Lib.hid k3
          clear k1 k2 k3 KEY ST
          rw [show w5.drewN 0 = w5 from rfl] at *
          go_wp2_with (first | rw [S])
          go_ret
          exact ⟨_, (1167867904, 0) :: cs', q2 + 1, rfl, by omega, by simp at hx2 ⊢; omega, K1.out, K2.out, K3.out⟩
        · have e3' : (s == 3) = false := by simpa using e3
          clear KEY ST
          go_wp2
          go_ret
          exact ⟨_, c :: cs', q2 + 1, rfl, by omega, hx2, HR5.out, HG5.out, HO5.out⟩
end Go.Proofs.Ytnidiikcnplebaa
/- What rows, paths and moves are drawn out of a code. -/
namespace Go.Proofs.Ytnidiikcnplebaa
set_option maxRecDepth 20000
open Go.ChangeShapes Go.WideShapes Go.ChangeAt Go.RowKit
set_option linter.unusedVariables false
set_option linter.unusedSimpArgs false

section
variable {P : Program} {t e : TypeId} {ops : Array Oper} {rest : List Oper} {o : Oper} {a : Act} {Q : Exit → Act → World → Prop} {w0 w : World} {R q : Nat}
theorem build_zero8 {T : TypeId} (hgd : o.guard = none) (ho : o.op = .build T #[]) (hbu : P.built T [] = some (vec 8 nul))
    (h : wpList P ops Q rest (a.put o.dst (.agg (vec 8 V.zero.up))) w) : wpList P ops Q (o :: rest) a w := by
  have e : (#[].map fun (p : Nat × Operand) => (p.1, a.eval p.2)).toList = [] := by simp
  rw [zero_up] at h
  refine wpList_build hgd T _ ho ?_ ?_
  · show (P.built T (#[].map fun (p : Nat × Operand) => (p.1, a.eval p.2)).toList).isSome = true
    rw [e, hbu]; rfl
  · show wpList P ops Q rest (a.put o.dst (.agg ((P.built T (#[].map fun (p : Nat × Operand) => (p.1, a.eval p.2)).toList).getD #[]))) w
    rw [e, hbu]; exact h
/-- Appending while a reader is open, and what else stays. -/
theorem append_drawnG {K : Nat} {α : Type} {en : α → List Value} (ty : TyL P t e K) (E : Enc en K) (hgd : o.guard = none) {s x : Operand} (hop : o.op = .call { callee := .builtin .append, args := #[s, x], argTypes := #[t, t] })
    {v x' : Value} {xs ys : List α} (hs : a.eval s = v) (hx : a.eval x = x') (hown : OwnL en K w w0.heap.size e v xs) (hr : ReadsL en w x' ys) (hlen : xs.length + ys.length ≤ 1000000000) (hg : w0.grownBy w (some R)) (hR : Rd w R q) (hlt : R < w0.heap.size)
    (h : ∀ v' w', OwnL en K w' w0.heap.size e v' (xs ++ ys) → Rd w' R q → w0.grownBy w' (some R) → w.grownBy w' v.ownBlock → wpList P ops Q rest (a.put o.dst v') w') : wpList P ops Q (o :: rest) a w := by
  refine wpList_plain hgd fun _ hK => wp_appendL (w0 := w) ty E hop hs hx hown hr hlen (Below.refl _ _) hg.size fun v' w' h1 _ _ h4 => hK _ _ (h v' w' h1 ?_ ?_ h4)
  · exact hR.keep h4 fun k hk => by have := (hown.lt k hk).1; omega
  · exact only_own (B := 0) hg h4 fun k hk => (hown.lt k hk).1
end
theorem built_point : Try.prog.built 40 [] = some (vec 8 nul) := by kernel_rfl

/-- A point drawn off a reader. -/
def DrewV (w : World) (R p c : Nat) (e : Ending) (w' : World) : Prop :=
  ∃ (a : V) (q : Nat), e = .returned (pt a.up) ∧ q ≤ p + c ∧ Rd w' R q ∧ w.grownBy w' (some R)
theorem cycV_drawn (R p : Nat) (w : World) (h : Rd w R p) (hp : p ≤ 900000) : Calls Try.prog 130 #[.pointer (some ⟨R, 0, none⟩)] w (DrewV w R p 20) :=
  (cyc_drawn R p w h hp).mono fun e x h => by
    obtain ⟨f, q, rfl, hq⟩ := h
    exact ⟨dn f, q, by unfold pt; rw [vec_same (up_dn f)], hq⟩

/-! Lengths. -/
abbrev lenCells : Array Value := #[.int .i64 1, .int .i64 2, .int .i64 3, .int .i64 4, .int .i64 6, .int .i64 8, .int .i64 2, .int .i64 3, .int .i64 4, .int .i64 12]
theorem len_at (k : Nat) (hk : k < 10) : ∃ d : Nat, lenCells[k]? = some (.int .i64 d) ∧ d ≤ 12 := by
  have key : ∀ j : Fin 10, ∃ d : Fin 13, lenCells[j.val]? = some (.int .i64 ((d.val : Nat) : Int)) := by
    intro j
    match j with
    | 0 => exact ⟨1, rfl⟩
    | 1 => exact ⟨2, rfl⟩
    | 2 => exact ⟨3, rfl⟩
    | 3 => exact ⟨4, rfl⟩
    | 4 => exact ⟨6, rfl⟩
    | 5 => exact ⟨8, rfl⟩
    | 6 => exact ⟨2, rfl⟩
    | 7 => exact ⟨3, rfl⟩
    | 8 => exact ⟨4, rfl⟩
    | 9 => exact ⟨12, rfl⟩
  obtain ⟨d, hd⟩ := key ⟨k, hk⟩
  exact ⟨d.val, hd, by omega⟩
/-- A length drawn off a reader. -/
def DrewLen (w : World) (R p : Nat) (e : Ending) (w' : World) : Prop :=
  ∃ (m : Nat), e = .returned (.int .i64 m) ∧ m ≤ 12 ∧ Rd w' R (p + 1) ∧ w.grownBy w' (some R)
theorem len_drawn (R p : Nat) (w : World) (h : Rd w R p) (hp : p ≤ 900000) : Calls Try.prog 104 #[.pointer (some ⟨R, 0, none⟩)] w (DrewLen w R p) := by
  have hlt := h.lt
  have P1 := Lib.hid (pick_any R p 10 _ (h.alloc (.cells lenCells 3)) (by omega) (by omega))
  clear h
  go_enter Try.func104, Try.ntmps104
  go_wp2_with fail
  refine P1.out.mono ?_; rintro e w1 ⟨k, rfl, k0, k1, hr1, hg1⟩
  obtain ⟨j, rfl⟩ : ∃ j : Nat, k = j := ⟨k.toNat, by omega⟩
  obtain ⟨d, hd, hd12⟩ := len_at j (by omega)
  have hcell : w1.cell? ⟨w.heap.size, j, none⟩ = some (.int .i64 d) := hg1.cell (a := ⟨w.heap.size, j, none⟩) ((World.cell?_alloc_at _ _ _ _ rfl).trans hd) (by simp; omega)
  have HG := Lib.hid (only_trans' (World.grownBy_alloc w (.cells lenCells 3) (some R)) hg1)
  have HR := Lib.hid hr1
  clear P1 hr1 hg1 hd
  go_wp2_with fail
  go_ret
  exact ⟨d, rfl, hd12, HR.out, HG.out⟩

/-! Rows. -/
/-- A row drawn off a reader. -/
def DrewR (w : World) (R p c : Nat) (e : Ending) (w' : World) : Prop :=
  ∃ (v : Value) (xs : List V) (q : Nat), e = .returned v ∧ q ≤ p + c ∧ xs.length ≤ 13 ∧ Rd w' R q ∧ w.grownBy w' (some R) ∧ OwnL encV 8 w' w.heap.size 40 v xs

set_option maxHeartbeats 2000000 in
theorem row_drawn (R p m : Nat) (hm : m ≤ 12) (w : World) (h : Rd w R p) (hp : p ≤ 800000) :
    Calls Try.prog 103 #[.pointer (some ⟨R, 0, none⟩), .int .i64 m] w (DrewR w R p 300) := by
  have hlt := h.lt
  have HR := Lib.hid (h.alloc (.cells #[] 40))
  have HG := Lib.hid (World.grownBy_alloc w (.cells #[] 40) (some R))
  have HO := Lib.hid (ownL_nilB w w.heap.size 40 (Nat.le_refl _))
  clear h
  go_enter Try.func103, Try.ntmps103
  go_wp2
  go_loopw [5, 6] (fun s3 i wr => ∃ (k : Nat) (xs : List V) (q : Nat), k ≤ m ∧ i = .int .i64 k ∧ xs.length = k ∧ q ≤ p + 20 * k ∧ Rd wr R q ∧ w.grownBy wr (some R) ∧ OwnL encV 8 wr w.heap.size 40 s3 xs) (fun _ i _ => m - (intOf i).toNat)
  case atStart => exact ⟨0, [], p, Nat.zero_le _, rfl, rfl, by omega, HR.out, HG.out, HO.out⟩
  case round =>
    clear HR HG HO
    obtain ⟨k, xs, q, hk, rfl, hlen, hq, hr, hg, ho⟩ := hrel
    by_cases hkm : k < m
    · have hkz : (k : Int) < (m : Int) := by omega
      have C := Lib.hid (cycV_drawn R q wr hr (by omega))
      have HG := Lib.hid hg
      have HO := Lib.hid ho
      clear hr hg ho
      go_wp2_with fail
      refine C.out.mono ?_; rintro e w3 ⟨a, q3, rfl, hq3, hr3, hg4⟩
      have HG4 := Lib.hid (only_trans' HG.out hg4)
      have HO4 := Lib.hid (rows_keptP HO.out hg4 hlt)
      have HR4 := Lib.hid hr3
      clear C HG HO hg4 hr3
      go_wp2_with (first | (refine one8 tyY rfl rfl rfl ?_) |
        (refine append_drawnE tyY encV_ok rfl rfl (xs := xs) (ys := [a]) rfl rfl (World.ownsRow.alloc HO4.out _) (lit8 _ _ _) (by simp; omega) (only_alloc HG4.out _) (HR4.out.alloc _) hlt ?_; intro v5 w5 ho5 hr5 hg5))
      have HO5 := Lib.hid ho5
      have HR5 := Lib.hid hr5
      have HG5 := Lib.hid hg5
      clear ho5 hr5 hg5 HG4 HO4 HR4
      go_wp2
      go_roundw
      case rel => exact ⟨k + 1, xs ++ [a], q3, by omega, by go_num, by simp; omega, by omega, HR5.out, HG5.out, HO5.out⟩
      case measure => simp [intOf]; omega
    · have hkz : ¬ (k : Int) < (m : Int) := by omega
      have P2 := Lib.hid (pick_any R q 30 wr hr (by omega) (by omega))
      go_wp2_with fail
      refine P2.out.mono ?_; rintro e w2 ⟨s, rfl, s0, s1, hr2, hg2⟩
      have HG := Lib.hid (only_trans' hg hg2)
      have HO := Lib.hid (rows_keptP ho hg2 hlt)
      have HR := Lib.hid hr2
      clear P2 hr hg2 hg ho hr2
      by_cases e0 : s = 0
      · subst e0
        go_wp2_with (first | (refine build_zero8 rfl rfl built_point ?_) | (refine one8 tyY rfl rfl rfl ?_) |
          (refine append_drawnE tyY encV_ok rfl rfl (xs := xs) (ys := [V.zero]) rfl rfl (World.ownsRow.alloc HO.out _) (lit8 _ _ _) (by simp; omega) (only_alloc HG.out _) (HR.out.alloc _) hlt ?_; intro v5 w5 ho5 hr5 hg5))
        go_ret
        exact ⟨v5, _, _, rfl, by omega, by simp; omega, hr5, hg5, ho5⟩
      · have e0' : (s == 0) = false := by simpa using e0
        go_wp2
        go_ret
        exact ⟨_, xs, _, rfl, by omega, by omega, HR.out, HG.out, HO.out⟩

/-- A row, a row and a number, two rows out of a code. -/
def DrewRow (w : World) (e : Ending) (w' : World) : Prop := ∃ (v : Value) (xs : List V), e = .returned v ∧ ReadsL encV w' v xs ∧ Below w.heap.size w w'

theorem drawRowValid (v : Value) (w : World) (h : CodeAt w v) : Calls Try.prog 68 #[v] w (DrewRow w) := by
  have O := Lib.hid (open_any v w h)
  clear h
  go_enter Try.func68, Try.ntmps68
  go_wp2_with fail
  refine O.out.mono ?_; rintro e w1 ⟨rfl, hr, hb⟩
  have L := Lib.hid (len_drawn _ _ w1 hr (by omega))
  have z1 := hr.lt
  have HB := Lib.hid hb
  clear hr O hb
  go_wp2_with fail
  refine L.out.mono ?_; rintro e w2 ⟨m, rfl, hm, hr2, hg2⟩
  have D := Lib.hid (row_drawn _ _ m hm w2 hr2 (by omega))
  have HB2 := Lib.hid (below_only HB.out hg2 HB.out.size (Nat.le_refl _))
  clear L hr2 hg2 HB
  go_wp2_with fail
  refine D.out.mono ?_; rintro e w3 ⟨v2, xs, q, rfl, hq, hl, hr3, hg3, ho3⟩
  have HB3 := Lib.hid (below_only HB2.out hg3 HB2.out.size (Nat.le_refl _))
  have HO := Lib.hid (ownL_reads ho3)
  clear D HB2 hr3 hg3 ho3
  go_wp2
  go_ret
  exact ⟨v2, xs, rfl, HO.out, HB3.out⟩

theorem drawPathOf (v : Value) (w : World) (h : CodeAt w v) : Calls Try.prog 20 #[v] w (DrewRow w) := by
  have O := Lib.hid (drawRowValid v w h)
  clear h
  go_enter Try.func20, Try.ntmps20
  go_wp2_with fail
  refine O.out.mono ?_; rintro e w1 ⟨v2, xs, rfl, hr, hb⟩
  have HB := Lib.hid hb
  have HR := Lib.hid hr
  clear O hb hr
  go_wp2
  go_ret
  exact ⟨v2, xs, rfl, HR.out, HB.out⟩

/-! ### Moves -/
theorem ownM_nilB (w : World) (B : Nat) (T : Nat) (hB : B ≤ w.heap.size) : OwnL encM 2 (w.alloc (.cells #[] T)) B T (.slice (some ⟨w.heap.size, 0, none⟩) 0 0) ([] : List Mv) := World.ownsRow_made w #[] 0 hB (by simp [maxLen]) (by simp)
theorem litM2 (w : World) (o : Obj) (m : Mv) (T : Nat) : ReadsL encM ((w.alloc o).alloc (.cells #[.int .i64 m.1, .int .i64 m.2] T)) (.slice (some ⟨w.heap.size + 1, 0, none⟩) 1 1) [m] := by
  have h := litM (w.alloc o) m T
  have e : (w.alloc o).heap.size = w.heap.size + 1 := by simp
  rw [e] at h
  exact h
def DrewMo (w : World) (R p c : Nat) (e : Ending) (w' : World) : Prop :=
  ∃ (v : Value) (xs : List Mv) (q : Nat), e = .returned v ∧ q ≤ p + c ∧ xs.length ≤ 100 ∧ Rd w' R q ∧ w.grownBy w' (some R) ∧ OwnL encM 2 w' w.heap.size 45 v xs
set_option maxHeartbeats 4000000 in
theorem moves_drawn (R p : Nat) (w : World) (h : Rd w R p) (hp : p ≤ 500000) :
    Calls Try.prog 84 #[.pointer (some ⟨R, 0, none⟩)] w (DrewMo w R p 100) := by
  have hlt := h.lt
  have P1 := Lib.hid (pick_any R p 8 _ (h.alloc (.cells #[] 45)) (by omega) (by omega))
  have HG0 := Lib.hid (World.grownBy_alloc w (.cells #[] 45) (some R))
  have HO0 := Lib.hid (ownM_nilB w w.heap.size 45 (Nat.le_refl _))
  clear h
  go_enter Try.func84, Try.ntmps84
  go_wp2_with fail
  refine P1.out.mono ?_; rintro e w1 ⟨n, rfl, n0, n1, hr1, hg1⟩
  obtain ⟨mm, rfl⟩ : ∃ j : Nat, n = j := ⟨n.toNat, by omega⟩
  have HG1 := Lib.hid (only_trans' HG0.out hg1)
  have HO1 := Lib.hid (rows_keptP HO0.out hg1 hlt)
  have HR1 := Lib.hid hr1
  clear P1 hr1 hg1 HG0 HO0
  go_wp2
  go_loopw [3, 5] (fun s3 i wr => ∃ (k : Nat) (xs : List Mv) (q : Nat), k ≤ mm ∧ i = .int .i64 k ∧ xs.length ≤ 2 * k ∧ q ≤ p + 1 + 3 * k ∧ Rd wr R q ∧ w.grownBy wr (some R) ∧ OwnL encM 2 wr w.heap.size 45 s3 xs) (fun _ i _ => mm - (intOf i).toNat)
  case atStart => exact ⟨0, [], p + 1, Nat.zero_le _, rfl, by simp, by omega, HR1.out, HG1.out, HO1.out⟩
  case round =>
    clear HR1 HG1 HO1
    obtain ⟨k, xs, q, hk, rfl, hlen, hq, hr, hg, ho⟩ := hrel
    by_cases hkm : k < mm
    · have hkz : (k : Int) < (mm : Int) := by omega
      have P2 := Lib.hid (pick_any R q 5 wr hr (by omega) (by omega))
      have HG := Lib.hid hg
      have HO := Lib.hid ho
      clear hr hg ho
      go_wp2_with fail
      refine P2.out.mono ?_; rintro e w2 ⟨s, rfl, s0, s1, hr2, hg2⟩
      obtain ⟨u, hu⟩ : ∃ u : Int, s - 2 = u := ⟨_, rfl⟩
      have wu : IntKind.i64.wrap u = u := by rw [IntKind.wrap_i64]; omega
      have wu2 : IntKind.i64.wrap (2 * u) = 2 * u := by rw [IntKind.wrap_i64]; omega
      have P3 := Lib.hid (pick_any R (q + 1) 5 w2 hr2 (by omega) (by omega))
      have HG2 := Lib.hid (only_trans' HG.out hg2)
      have HO2 := Lib.hid (rows_keptP HO.out hg2 hlt)
      clear P2 hr2 hg2 HG HO
      go_wp2_with fail
      refine P3.out.mono ?_; rintro e w3 ⟨t, rfl, t0, t1, hr3, hg3⟩
      obtain ⟨x, hx⟩ : ∃ x : Int, t - 2 = x := ⟨_, rfl⟩
      have wx : IntKind.i64.wrap x = x := by rw [IntKind.wrap_i64]; omega
      have wx2 : IntKind.i64.wrap (2 * x) = 2 * x := by rw [IntKind.wrap_i64]; omega
      have HG3 := Lib.hid (only_trans' HG2.out hg3)
      have HO3 := Lib.hid (rows_keptP HO2.out hg3 hlt)
      have HR3 := Lib.hid hr3
      have hge := HG3.out.size
      clear P3 hr3 hg3 HG2 HO2
      have HL3 := Lib.hid (fun k h => (HO3.out.lt k h).2)
      have hc0 : ∀ o : Obj, ((w3.alloc (.cells #[.int .i64 u, .int .i64 x] 45)).alloc o).cell? ⟨w3.heap.size, 0, none⟩ = some (.int .i64 u) := fun o => (World.cell?_alloc_past _ _ _ (by simp)).trans (World.cell?_alloc_at _ _ _ _ rfl)
      have hc1 : ∀ o : Obj, ((w3.alloc (.cells #[.int .i64 u, .int .i64 x] 45)).alloc o).cell? ⟨w3.heap.size, 1, none⟩ = some (.int .i64 x) := fun o => (World.cell?_alloc_past _ _ _ (by simp)).trans (World.cell?_alloc_at _ _ _ _ rfl)
      have HC0 := Lib.hid hc0
      have HC1 := Lib.hid hc1
      clear hc0 hc1
      go_wp2_with (first | (at_builtin; refine appendL tyN encM_ok rfl rfl rfl rfl (xs := xs) (ys := [(u, x)]) (World.ownsRow.alloc (World.ownsRow.alloc HO3.out _) _) (litM2 _ _ (u, x) _) (by simp; omega) (Below.refl _ _) (by simp; have := HG3.out.size; omega) ?_; intro v8 w8 ho8 hb8 hB8 hgr8))
      have hr8 := Rd.keep ((HR3.out.alloc _).alloc _) hgr8 fun k hk => by have := (HO3.out.lt k hk).1; omega
      have hg8 := only_own (B := 0) (only_alloc (only_alloc HG3.out _) _) hgr8 fun k hk => (HO3.out.lt k hk).1
      have c0 := hgr8.cell (a := ⟨w3.heap.size, 0, none⟩) (HC0.out _) (fun e => by have h9 : w3.heap.size < w3.heap.size := HL3.out _ e.symm; omega)
      have c1 := hgr8.cell (a := ⟨w3.heap.size, 1, none⟩) (HC1.out _) (fun e => by have h9 : w3.heap.size < w3.heap.size := HL3.out _ e.symm; omega)
      have P4 := Lib.hid (pick_any R (q + 1 + 1) 3 w8 hr8 (by omega) (by omega))
      have HG8 := Lib.hid hg8
      have HO8 := Lib.hid ho8
      have hRne : w3.heap.size ≠ R := by omega
      clear hr8 hg8 ho8 hgr8 HC0 HC1 HG3 HO3 HR3
      go_wp2_with fail
      refine P4.out.mono ?_; rintro e w9 ⟨f, rfl, f0, f1, hr9, hg9⟩
      have c0 := hg9.cell c0 (by simpa using hRne)
      have c1 := hg9.cell c1 (by simpa using hRne)
      have HG9 := Lib.hid (only_trans' HG8.out hg9)
      have HO9 := Lib.hid (rows_keptP HO8.out hg9 hlt)
      have HR9 := Lib.hid hr9
      clear P4 hr9 hg9 HG8 HO8
      by_cases e0 : f = 0
      · subst e0
        go_wp2_with (first | (at_builtin; refine appendL tyN encM_ok rfl rfl rfl rfl (xs := xs ++ [(u, x)]) (ys := [(2 * u, 2 * x)]) (World.ownsRow.alloc HO9.out _) (litM _ (2 * u, 2 * x) _) (by simp; omega) (Below.refl _ _) (by simp; have := HG9.out.size; omega) ?_; intro v10 w10 ho10 hb10 hB10 hgr10))
        have hr10 := Rd.keep (HR9.out.alloc _) hgr10 fun k hk => by have := (HO9.out.lt k hk).1; omega
        have hg10 := only_own (B := 0) (only_alloc HG9.out _) hgr10 fun k hk => (HO9.out.lt k hk).1
        have HO10 := Lib.hid ho10
        have HR10 := Lib.hid hr10
        have HG10 := Lib.hid hg10
        clear ho10 hr10 hg10 hgr10 HG9 HO9 HR9
        go_wp2
        go_roundw
        case rel => exact ⟨k + 1, _, q + 1 + 1 + 1, by omega, by go_num, by simp; omega, by omega, HR10.out, HG10.out, HO10.out⟩
        case measure => simp [intOf]; omega
      · have e0' : (f == 0) = false := by simpa using e0
        go_wp2
        go_roundw
        case rel => exact ⟨k + 1, _, q + 1 + 1 + 1, by omega, by go_num, by simp; omega, by omega, HR9.out, HG9.out, HO9.out⟩
        case measure => simp [intOf]; omega
    · have hkz : ¬ (k : Int) < (mm : Int) := by omega
      have hlen14 : xs.length ≤ 14 := by omega
      have P2 := Lib.hid (pick_any R q 24 wr hr (by omega) (by omega))
      have HG := Lib.hid hg
      have HO := Lib.hid ho
      clear hr hg ho
      go_wp2_with fail
      refine P2.out.mono ?_; rintro e w2 ⟨s, rfl, s0, s1, hr2, hg2⟩
      have HG2 := Lib.hid (only_trans' HG.out hg2)
      have HO2 := Lib.hid (rows_keptP HO.out hg2 hlt)
      have HR2 := Lib.hid hr2
      clear P2 hr2 hg2 HG HO
      by_cases e0 : s = 0
      · subst e0
        go_wp2_with (first | (at_builtin; refine appendL tyN encM_ok rfl rfl rfl rfl (xs := xs) (ys := [(10000001, 0)]) (World.ownsRow.alloc HO2.out _) (litM _ (10000001, 0) _) (by simp; omega) (Below.refl _ _) (by simp; have := HG2.out.size; omega) ?_; intro v10 w10 ho10 hb10 hB10 hgr10))
        have hr10 := Rd.keep (HR2.out.alloc _) hgr10 fun k hk => by have := (HO2.out.lt k hk).1; omega
        have hg10 := only_own (B := 0) (only_alloc HG2.out _) hgr10 fun k hk => (HO2.out.lt k hk).1
        have HO10 := Lib.hid ho10
        have HR10 := Lib.hid hr10
        have HG10 := Lib.hid hg10
        clear ho10 hr10 hg10 hgr10 HG2 HO2 HR2
        go_wp2
        go_ret
        exact ⟨_, _, q + 1, rfl, by omega, by simp; omega, HR10.out, HG10.out, HO10.out⟩
      · have e0' : (s == 0) = false := by simpa using e0
        go_wp2
        go_ret
        exact ⟨_, xs, q + 1, rfl, by omega, by omega, HR2.out, HG2.out, HO2.out⟩

/-! ### Out of a code -/
def DrewPth (w : World) (e : Ending) (w' : World) : Prop := ∃ (v : Value) (xs : List Pn), e = .returned v ∧ OwnL encC 1 w' w.heap.size 35 v xs ∧ Below w.heap.size w w'
def DrewPtI (w : World) (e : Ending) (w' : World) : Prop := ∃ (v : Value) (xs : List Pn) (g : Int), e = .returned (.tuple #[v, .int .i64 g]) ∧ OwnL encC 1 w' w.heap.size 35 v xs ∧ Below w.heap.size w w'
def DrewMs (w : World) (e : Ending) (w' : World) : Prop := ∃ (v : Value) (xs : List Mv), e = .returned v ∧ OwnL encM 2 w' w.heap.size 45 v xs ∧ Below w.heap.size w w'
def DrewMsI (w : World) (e : Ending) (w' : World) : Prop := ∃ (v : Value) (xs : List Mv) (g : Int), e = .returned (.tuple #[v, .int .i64 g]) ∧ OwnL encM 2 w' w.heap.size 45 v xs ∧ Below w.heap.size w w'
theorem drawPathValid (v : Value) (w : World) (h : CodeAt w v) : Calls Try.prog 16 #[v] w (DrewPth w) := by
  have O := Lib.hid (open_any v w h)
  clear h
  go_enter Try.func16, Try.ntmps16
  go_wp2_with fail
  refine O.out.mono ?_; rintro e w1 ⟨rfl, hr, hb⟩
  have D := Lib.hid (path_drawn _ _ w1 hr (by omega))
  have HB := Lib.hid hb
  have HS := Lib.hid (hb.size : w.heap.size ≤ w1.heap.size)
  clear hr O hb
  go_wp2_with fail
  refine D.out.mono ?_; rintro e w2 ⟨v2, xs, q, rfl, hq, hl, hr2, hg2, ho2⟩
  have HB2 := Lib.hid (below_only HB.out hg2 HB.out.size (Nat.le_refl _))
  have HO := Lib.hid (own_lowerP ho2 HS.out)
  clear D HB hr2 hg2 ho2
  go_wp2
  go_ret
  exact ⟨v2, xs, rfl, HO.out, HB2.out⟩
theorem drawPathBox (v : Value) (w : World) (h : CodeAt w v) : Calls Try.prog 44 #[v] w (DrewPth w) := by
  have O := Lib.hid (open_any v w h)
  clear h
  go_enter Try.func44, Try.ntmps44
  go_wp2_with fail
  refine O.out.mono ?_; rintro e w1 ⟨rfl, hr, hb⟩
  have D := Lib.hid (path_drawn _ _ w1 hr (by omega))
  have HB := Lib.hid hb
  have HS := Lib.hid (hb.size : w.heap.size ≤ w1.heap.size)
  clear hr O hb
  go_wp2_with fail
  refine D.out.mono ?_; rintro e w2 ⟨v2, xs, q, rfl, hq, hl, hr2, hg2, ho2⟩
  have HB2 := Lib.hid (below_only HB.out hg2 HB.out.size (Nat.le_refl _))
  have HO := Lib.hid (own_lowerP ho2 HS.out)
  clear D HB hr2 hg2 ho2
  go_wp2
  go_ret
  exact ⟨v2, xs, rfl, HO.out, HB2.out⟩
theorem drawMovesTidy (v : Value) (w : World) (h : CodeAt w v) : Calls Try.prog 38 #[v] w (DrewMs w) := by
  have O := Lib.hid (open_any v w h)
  clear h
  go_enter Try.func38, Try.ntmps38
  go_wp2_with fail
  refine O.out.mono ?_; rintro e w1 ⟨rfl, hr, hb⟩
  have D := Lib.hid (moves_drawn _ _ w1 hr (by omega))
  have HB := Lib.hid hb
  have HS := Lib.hid (hb.size : w.heap.size ≤ w1.heap.size)
  clear hr O hb
  go_wp2_with fail
  refine D.out.mono ?_; rintro e w2 ⟨v2, xs, q, rfl, hq, hl, hr2, hg2, ho2⟩
  have HB2 := Lib.hid (below_only HB.out hg2 HB.out.size (Nat.le_refl _))
  have HO := Lib.hid (own_lowerP ho2 HS.out)
  clear D HB hr2 hg2 ho2
  go_wp2
  go_ret
  exact ⟨v2, xs, rfl, HO.out, HB2.out⟩
theorem drawMovesLength (v : Value) (w : World) (h : CodeAt w v) : Calls Try.prog 42 #[v] w (DrewMs w) := by
  have O := Lib.hid (open_any v w h)
  clear h
  go_enter Try.func42, Try.ntmps42
  go_wp2_with fail
  refine O.out.mono ?_; rintro e w1 ⟨rfl, hr, hb⟩
  have D := Lib.hid (moves_drawn _ _ w1 hr (by omega))
  have HB := Lib.hid hb
  have HS := Lib.hid (hb.size : w.heap.size ≤ w1.heap.size)
  clear hr O hb
  go_wp2_with fail
  refine D.out.mono ?_; rintro e w2 ⟨v2, xs, q, rfl, hq, hl, hr2, hg2, ho2⟩
  have HB2 := Lib.hid (below_only HB.out hg2 HB.out.size (Nat.le_refl _))
  have HO := Lib.hid (own_lowerP ho2 HS.out)
  clear D HB hr2 hg2 ho2
  go_wp2
  go_ret
  exact ⟨v2, xs, rfl, HO.out, HB2.out⟩
theorem drawPathMoves (v : Value) (w : World) (h : CodeAt w v) : Calls Try.prog 30 #[v] w (DrewPtI w) := by
  have O := Lib.hid (open_any v w h)
  clear h
  go_enter Try.func30, Try.ntmps30
  go_wp2_with fail
  refine O.out.mono ?_; rintro e w1 ⟨rfl, hr, hb⟩
  have D := Lib.hid (path_drawn _ _ w1 hr (by omega))
  have hlt := hr.lt
  have HB := Lib.hid hb
  have HS := Lib.hid (hb.size : w.heap.size ≤ w1.heap.size)
  clear hr O hb
  go_wp2_with fail
  refine D.out.mono ?_; rintro e w2 ⟨v2, xs, q, rfl, hq, hl, hr2, hg2, ho2⟩
  have P1 := Lib.hid (pick_any _ _ 9 w2 hr2 (by omega) (by omega))
  have HB2 := Lib.hid (below_only HB.out hg2 HB.out.size (Nat.le_refl _))
  have HO := Lib.hid ho2
  clear D HB hr2 hg2 ho2
  go_wp2_with fail
  refine P1.out.mono ?_; rintro e w4 ⟨a, rfl, a0, a1, hr4, hg4⟩
  have P2 := Lib.hid (pick_any _ _ 20 w4 hr4 (by omega) (by omega))
  have HB4 := Lib.hid (below_only HB2.out hg4 HB2.out.size (Nat.le_refl _))
  have HO4 := Lib.hid (rows_keptP HO.out hg4 hlt)
  clear P1 hr4 hg4 HB2 HO
  go_wp2_with fail
  refine P2.out.mono ?_; rintro e w5 ⟨b, rfl, b0, b1, hr5, hg5⟩
  have HB5 := Lib.hid (below_only HB4.out hg5 HB4.out.size (Nat.le_refl _))
  have HO5 := Lib.hid (own_lowerP (rows_keptP HO4.out hg5 hlt) HS.out)
  clear P2 hr5 hg5 HB4 HO4
  obtain ⟨d, hd, d0, d1⟩ : ∃ d : Int, b.tdiv 19 = d ∧ 0 ≤ d ∧ d ≤ 1 := ⟨_, rfl, by rw [Int.tdiv_eq_ediv_of_nonneg b0]; omega, by rw [Int.tdiv_eq_ediv_of_nonneg b0]; omega⟩
  have e1 : IntKind.i64.wrap d = d := by rw [IntKind.wrap_i64]; omega
  have e3 : IntKind.i64.wrap (d * 10) = d * 10 := by rw [IntKind.wrap_i64]; omega
  have e2 : IntKind.i64.wrap (a - d * 10) = a - d * 10 := by rw [IntKind.wrap_i64]; omega
  go_wp2
  go_ret2
  exact ⟨v2, xs, a - d * 10, rfl, HO5.out, HB5.out⟩
theorem drawMovesPath (v : Value) (w : World) (h : CodeAt w v) : Calls Try.prog 35 #[v] w (DrewMsI w) := by
  have O := Lib.hid (open_any v w h)
  clear h
  go_enter Try.func35, Try.ntmps35
  go_wp2_with fail
  refine O.out.mono ?_; rintro e w1 ⟨rfl, hr, hb⟩
  have D := Lib.hid (moves_drawn _ _ w1 hr (by omega))
  have hlt := hr.lt
  have HB := Lib.hid hb
  have HS := Lib.hid (hb.size : w.heap.size ≤ w1.heap.size)
  clear hr O hb
  go_wp2_with fail
  refine D.out.mono ?_; rintro e w2 ⟨v2, xs, q, rfl, hq, hl, hr2, hg2, ho2⟩
  have P1 := Lib.hid (pick_any _ _ 9 w2 hr2 (by omega) (by omega))
  have HB2 := Lib.hid (below_only HB.out hg2 HB.out.size (Nat.le_refl _))
  have HO := Lib.hid ho2
  clear D HB hr2 hg2 ho2
  go_wp2_with fail
  refine P1.out.mono ?_; rintro e w4 ⟨a, rfl, a0, a1, hr4, hg4⟩
  have P2 := Lib.hid (pick_any _ _ 20 w4 hr4 (by omega) (by omega))
  have HB4 := Lib.hid (below_only HB2.out hg4 HB2.out.size (Nat.le_refl _))
  have HO4 := Lib.hid (rows_keptP HO.out hg4 hlt)
  clear P1 hr4 hg4 HB2 HO
  go_wp2_with fail
  refine P2.out.mono ?_; rintro e w5 ⟨b, rfl, b0, b1, hr5, hg5⟩
  have HB5 := Lib.hid (below_only HB4.out hg5 HB4.out.size (Nat.le_refl _))
  have HO5 := Lib.hid (own_lowerP (rows_keptP HO4.out hg5 hlt) HS.out)
  clear P2 hr5 hg5 HB4 HO4
  obtain ⟨d, hd, d0, d1⟩ : ∃ d : Int, b.tdiv 19 = d ∧ 0 ≤ d ∧ d ≤ 1 := ⟨_, rfl, by rw [Int.tdiv_eq_ediv_of_nonneg b0]; omega, by rw [Int.tdiv_eq_ediv_of_nonneg b0]; omega⟩
  have e1 : IntKind.i64.wrap d = d := by rw [IntKind.wrap_i64]; omega
  have e3 : IntKind.i64.wrap (d * 10) = d * 10 := by rw [IntKind.wrap_i64]; omega
  have e2 : IntKind.i64.wrap (a - d * 10) = a - d * 10 := by rw [IntKind.wrap_i64]; omega
  go_wp2
  go_ret2
  exact ⟨v2, xs, a - d * 10, rfl, HO5.out, HB5.out⟩
end Go.Proofs.Ytnidiikcnplebaa
/- Two paths drawn out of a code. -/
namespace Go.Proofs.Ytnidiikcnplebaa
set_option maxRecDepth 20000
open Go.ChangeShapes Go.WideShapes Go.ChangeAt Go.RowKit
set_option linter.unusedVariables false
set_option linter.unusedSimpArgs false

theorem set_fltP (xs : List Pn) (k : Nat) (hk : k < xs.length) (a : Pn) : (flt encC xs).set k (.complex .f32 a.1 a.2) = flt encC (xs.set k a) := by
  induction xs generalizing k with
  | nil => simp at hk
  | cons c cs ih =>
    cases k with
    | zero => rfl
    | succ k =>
      simp only [List.length_cons] at hk
      have := ih k (by omega)
      simp only [List.set_cons_succ]
      rw [flt_cons, flt_cons, ← this]
      rfl
theorem own_shapeC {w : World} {B T : Nat} {v : Value} {xs : List Pn} (h : OwnL encC 1 w B T v ([] ++ xs)) : ∃ g cap, v = .slice g xs.length cap := by
  obtain ⟨p, cap, e, -⟩ := ownL_reads h
  exact ⟨p, cap, e⟩
def DrewPth2 (w : World) (e : Ending) (w' : World) : Prop := ∃ (v v2 : Value) (xs ys : List Pn), e = .returned (.tuple #[v, v2]) ∧ ReadsL encC w' v xs ∧ ReadsL encC w' v2 ys ∧ Below w.heap.size w w'
set_option maxHeartbeats 2000000 in
theorem drawPathFar (v : Value) (w : World) (h : CodeAt w v) : Calls Try.prog 47 #[v] w (DrewPth2 w) := by
  have O := Lib.hid (open_any v w h)
  clear h
  go_enter Try.func47, Try.ntmps47
  go_wp2_with fail
  refine O.out.mono ?_; rintro e w1 ⟨rfl, hr, hb⟩
  have D := Lib.hid (path_drawn _ _ w1 hr (by omega))
  have hlt := hr.lt
  have HB := Lib.hid hb
  have HS := Lib.hid (hb.size : w.heap.size ≤ w1.heap.size)
  clear hr O hb
  go_wp2_with fail
  refine D.out.mono ?_; rintro e w2 ⟨v2, xs, q, rfl, hq, hl, hr2, hg2, ho2⟩
  have P1 := Lib.hid (pick_any _ _ 6 w2 hr2 (by omega) (by omega))
  have HG2 := Lib.hid hg2
  have HO := Lib.hid ho2
  clear D hr2 hg2 ho2
  go_wp2_with fail
  refine P1.out.mono ?_; rintro e w4 ⟨a, rfl, a0, a1, hr4, hg4⟩
  have HG4 := Lib.hid (only_trans' HG2.out hg4)
  have HO4 := Lib.hid (rows_keptP HO.out hg4 hlt)
  have HR4 := Lib.hid hr4
  clear P1 hr4 hg4 HG2 HO
  by_cases e0 : a = 0
  · subst e0
    have D := Lib.hid (path_drawn _ _ w4 HR4.out (by omega))
    go_wp2_with fail
    refine D.out.mono ?_; rintro e w5 ⟨v3, ys, q3, rfl, hq3, hl3, hr5, hg5, ho5⟩
    have HB5 := Lib.hid (below_only HB.out (only_trans' HG4.out hg5) HB.out.size (Nat.le_refl _))
    have HO5 := Lib.hid (ownL_reads (show OwnL encC 1 w5 _ _ v2 xs from rows_keptP HO4.out hg5 hlt))
    have HP5 := Lib.hid (ownL_reads ho5)
    clear D HB hr5 hg5 ho5 HO4 HG4 HR4
    go_wp2
    go_ret2
    exact ⟨v2, v3, xs, ys, rfl, HO5.out, HP5.out, HB5.out⟩
  · have e0' : (a == 0) = false := by simpa using e0
    clear e0
    have HG5 := Lib.hid (only_alloc HG4.out (.cells #[] 35))
    have HR5 := Lib.hid (HR4.out.alloc (.cells #[] 35))
    have HO5 := Lib.hid (World.ownsRow.alloc HO4.out (.cells #[] 35))
    have HO4 := Lib.hid HO4.out
    have HN5 := Lib.hid (ownC_nilB w4 w4.heap.size 35 (Nat.le_refl _))
    have hz4 := HG4.out.size
    clear HG4 HR4
    by_cases h0 : xs.length = 0
    · have hz : ¬ (0 : Int) < (xs.length : Int) := by omega
      clear h0
      go_wp2_with (first | (at_builtin; refine appendL (B := w4.heap.size) tyZ encC_ok rfl rfl rfl rfl (xs := []) (ys := xs) HN5.out (ownL_reads (show OwnL encC 1 _ _ _ v2 xs from HO5.out)) (by simp; omega) ((Below.refl _ _).alloc (Nat.le_refl _) _) (by simp) ?_; intro v8 w8 ho8 hb8 hB8 hgr8; obtain ⟨g, cap, rfl⟩ := own_shapeC ho8))
      have hr8 := HR5.out.keep hgr8 fun k hk => by have := (HN5.out.lt k hk).1; omega
      have hg8 := only_own (B := 0) HG5.out hgr8 fun k hk => by have := (HN5.out.lt k hk).1; omega
      have HX8 := Lib.hid (show OwnL encC 1 w8 _ _ v2 xs from rows_below HO4.out hb8)
      have HR8 := Lib.hid hr8
      have HG8 := Lib.hid hg8
      have HO8 := Lib.hid (show OwnL encC 1 w8 w4.heap.size 35 (.slice g xs.length cap) xs from ho8)
      clear hr8 hg8 ho8 hb8 hB8 hgr8 HO4 HO5 HN5 HG5 HR5
      have HB8 := Lib.hid (below_only HB.out HG8.out HB.out.size (Nat.le_refl _))
      have HP8 := Lib.hid (ownL_reads HO8.out)
      clear HO8 HG8 HR8 HB
      go_ret2
      exact ⟨v2, _, xs, xs, rfl, ownL_reads HX8.out, HP8.out, HB8.out⟩
    · have hz : (0 : Int) < (xs.length : Int) := by omega
      have hzn : 0 < xs.length := by omega
      clear h0
      go_wp2_with (first | (at_builtin; refine appendL (B := w4.heap.size) tyZ encC_ok rfl rfl rfl rfl (xs := []) (ys := xs) HN5.out (ownL_reads (show OwnL encC 1 _ _ _ v2 xs from HO5.out)) (by simp; omega) ((Below.refl _ _).alloc (Nat.le_refl _) _) (by simp) ?_; intro v8 w8 ho8 hb8 hB8 hgr8; obtain ⟨g, cap, rfl⟩ := own_shapeC ho8))
      have hr8 := HR5.out.keep hgr8 fun k hk => by have := (HN5.out.lt k hk).1; omega
      have hg8 := only_own (B := 0) HG5.out hgr8 fun k hk => by have := (HN5.out.lt k hk).1; omega
      have HX8 := Lib.hid (show OwnL encC 1 w8 _ _ v2 xs from rows_below HO4.out hb8)
      have HR8 := Lib.hid hr8
      have HG8 := Lib.hid hg8
      have HO8 := Lib.hid (show OwnL encC 1 w8 w4.heap.size 35 (.slice g xs.length cap) xs from ho8)
      clear hr8 hg8 ho8 hb8 hB8 hgr8 HO4 HO5 HN5 HG5 HR5
      have P2 := Lib.hid (pick_any _ _ xs.length w8 HR8.out (by omega) (by omega))
      refine P2.out.mono ?_; rintro e w9 ⟨k, rfl, k0, k1, hr9, hg9⟩
      obtain ⟨j, rfl⟩ : ∃ j : Nat, k = j := ⟨k.toNat, by omega⟩
      have hj : j < xs.length := by omega
      have hR4 : w1.heap.size ≤ w4.heap.size := hz4
      have ho := rows_keptP HO8.out hg9 (by omega)
      have HX9 := Lib.hid (show OwnL encC 1 w9 _ _ v2 xs from rows_keptP HX8.out hg9 hlt)
      have HL4 := Lib.hid (show ∀ k, v2.ownBlock = some k → k < w4.heap.size from fun k h => (HO4.out.lt k h).2)
      have HG9 := Lib.hid (only_trans' HG8.out hg9)
      rcases ho.2 with ⟨h9, h8⟩ | ⟨g', cap', cur, h9, _⟩
      · omega
      obtain ⟨rfl, rfl⟩ : g = some ⟨g', 0, none⟩ ∧ cap = cap' := by simp only [Value.slice.injEq] at h9; exact ⟨h9.1, h9.2.2⟩
      obtain ⟨c, hc⟩ : ∃ c, xs[j]? = some c := ⟨_, List.getElem?_eq_getElem hj⟩
      have hold : (flt encC xs)[j]? = some (.complex .f32 c.1 c.2) := by
        have := flt_at encC_ok hc 0 (by omega)
        rwa [Nat.mul_one, Nat.add_zero] at this
      have hcell : w9.cell? ⟨g', j, none⟩ = some (.complex .f32 c.1 c.2) := by rw [ho.cellAt j (by omega), hold]
      have hfr := ho.frozenAt j
      obtain ⟨h1, h2⟩ := ho.stored j (.complex .f32 1069547520 3221225472)
      rw [set_fltP xs j hj (1069547520, 3221225472)] at h1
      have ST := fun m => store_cpx (P := Try.prog) (p := 1069547520) (q := 3221225472) hcell hfr m
      have hel : (xs.set j (1069547520, 3221225472)).length = xs.length := List.length_set ..
      have HQ := Lib.hid (ownL_reads (en := encC) (xs := xs.set j (1069547520, 3221225472)) (show OwnL encC 1 _ _ _ (.slice (some ⟨g', 0, none⟩) xs.length cap) (xs.set j (1069547520, 3221225472)) from by unfold OwnL; rw [hel]; exact h1))
      have HX := Lib.hid (ownL_reads (en := encC) (xs := xs) (World.ownsRow.kept HX9.out h2 (by
        cases e : v2.ownBlock with
        | none => exact .inl rfl
        | some k =>
          have h3 := HL4.out k e
          have h4 := (ho.lt g' rfl).1
          exact .inr (by intro e9; simp at e9; omega))))
      have HB9 := Lib.hid (below_only HB.out (only_own (B := 0) (v := .slice (some ⟨g', 0, none⟩) xs.length cap) HG9.out h2 fun k hk => by have := (ho.lt k hk).1; omega) HB.out.size (Nat.le_refl _))
      clear P2 hr9 hg9 ho h1 h2 hold hcell hfr hel HX9 HX8 HO8 HG8 HG9 HR8 HB hc
      go_wp2_with (rw [ST])
      go_ret2
      exact ⟨v2, _, xs, xs.set j (1069547520, 3221225472), rfl, HX.out, HQ.out, HB9.out⟩
end Go.Proofs.Ytnidiikcnplebaa
/- What the walks of the laws of paths and moves share. -/
namespace Go.Proofs.Ytnidiikcnplebaa
set_option maxRecDepth 20000
open Go.ChangeShapes Go.WideShapes Go.ChangeAt Go.RowKit
set_option linter.unusedVariables false
set_option linter.unusedSimpArgs false

section
variable {α : Type} {en : α → List Value} {K : Nat}
theorem readsL_take (E : Enc en K) {w : World} {g o cap k : Nat} {xs : List α} (hk : k ≤ xs.length) (hc1 : xs.length ≤ cap) (hc2 : cap ≤ maxLen) (hg : g < w.heap.size) (h : w.rangeAt g o (flt en xs)) : ReadsL en w (.slice (some ⟨g, o, none⟩) k cap) (xs.take k) :=
  ⟨_, cap, by rw [List.length_take, Nat.min_eq_left hk], by rw [List.length_take]; omega, hc2, (fun h => by cases h), fun _ => ⟨g, o, rfl, hg, fun j v hv => by
    refine h j v ?_
    have e : flt en xs = flt en (xs.take k) ++ flt en (xs.drop k) := by rw [← flt_append, List.take_append_drop]
    rw [e, List.getElem?_append_left (List.getElem?_eq_some_iff.1 hv).1, hv]⟩⟩
/-- The form of a list that is not empty. -/
theorem readsL_shape {w : World} {v : Value} {xs : List α} (h : ReadsL en w v xs) (h1 : 1 ≤ xs.length) : ∃ g o cap, v = .slice (some ⟨g, o, none⟩) xs.length cap ∧ xs.length ≤ cap ∧ cap ≤ maxLen ∧ g < w.heap.size ∧ w.rangeAt g o (flt en xs) := by
  obtain ⟨p, cap, rfl, h1', h2, h3, h4⟩ := h
  have hne : p ≠ none := fun e => by have := h3 e; omega
  obtain ⟨g, o, rfl, hg, hr⟩ := h4 hne
  exact ⟨g, o, cap, rfl, h1', h2, hg, hr⟩
theorem readsL_formE {w : World} {v : Value} {xs : List α} (h : ReadsL en w v xs) : ∃ p c, v = .slice p xs.length c := by
  obtain ⟨p, c, e, -⟩ := h
  exact ⟨p, c, e⟩
end
section
variable {P : Program} {k : FloatKind} {x y : Nat} {c : Ordering}
theorem run_feq (h : k.format.order x y = some c) (t : TypeId) (w : World) : (binOp .eql t (.float k x) (.float k y)).run P w = .ok (.bool (c == .eq)) w := by
  cases c <;> simp [binOp, Op.floatCmp, h, go_sem] <;> rfl
theorem run_flt (h : k.format.order x y = some c) (t : TypeId) (w : World) : (binOp .lss t (.float k x) (.float k y)).run P w = .ok (.bool (c == .lt)) w := by
  cases c <;> simp [binOp, Op.floatCmp, h, go_sem] <;> rfl
theorem run_fgt (h : k.format.order x y = some c) (t : TypeId) (w : World) : (binOp .gtr t (.float k x) (.float k y)).run P w = .ok (.bool (c == .gt)) w := by
  cases c <;> simp [binOp, Op.floatCmp, h, go_sem] <;> rfl
theorem run_fge (h : k.format.order x y = some c) (t : TypeId) (w : World) : (binOp .geq t (.float k x) (.float k y)).run P w = .ok (.bool (c != .lt)) w := by
  cases c <;> simp [binOp, Op.floatCmp, h, go_sem] <;> rfl
end
theorem far_self (xs : List Pn) : farL xs xs = 0 := by
  have key : ∀ (l : List (Pn × Pn)), (∀ z ∈ l, z.1 = z.2) → l.foldl farM 0 = 0 := by
    intro l
    induction l with
    | nil => intro _; rfl
    | cons z l ih =>
      intro h
      obtain ⟨a, b⟩ := z
      have e : a = b := h (a, b) (List.mem_cons_self ..)
      subst e
      rw [List.foldl_cons]
      have e0 : farM 0 (a, a) = 0 := by
        unfold farM farN
        simp only [Int.sub_self]
        have h0 : rnd 23 0 = 0 := by decide +kernel
        simp [h0]
      rw [e0]
      exact ih fun z hz => h z (List.mem_cons_of_mem _ hz)
  refine key _ fun z hz => ?_
  obtain ⟨i, hi⟩ := List.mem_iff_getElem?.1 hz
  rw [List.getElem?_zip_eq_some] at hi
  have := hi.1.symm.trans hi.2
  simpa using this
theorem pvB_take {xs : List Pn} {k : Nat} (h : pvB xs = true) (h1 : 1 ≤ k) : pvB (xs.take k) = true := by
  obtain ⟨h2, h3, h4⟩ := pvB_parts h
  exact pvB_yes (by rw [List.length_take]; omega) (by rw [List.length_take]; omega) fun a ha => h4 a (List.mem_of_mem_take ha)
end Go.Proofs.Ytnidiikcnplebaa
