/-
  What paths are drawn out of a code.
  What rows, paths and moves are drawn out of a code.
  What DrawGridPoint draws: some point, some number from 0 to 9.
  Two paths drawn out of a code.
-/
import Derived.Test.YtibhlaojinedoaaM27
import Derived.Test.YtibhlaojinedoaaM30
import Derived.Test.YtibhlaojinedoaaM11
import Derived.Deep.CutBlock
import Derived.Test.YtibhlaojinedoaaM29
import Derived.Test.YtibhlaojinedoaaM03
import Derived.Test.YtibhlaojinedoaaM12
/- What paths are drawn out of a code. -/
namespace Go.Proofs.Ytibhlaojinedoaa
set_option maxRecDepth 20000
open Go.ChangeShapes Go.WideShapes Go.ChangeAt Go.RowKit
set_option linter.unusedVariables false
set_option linter.unusedSimpArgs false

theorem rows_keptP {w w' : World} {B T R n K : Nat} {v : Value} {cs : List Value} (h : w.ownsRow B T K v n cs) (hg : w.grownBy w' (some R)) (hR : R < B) : w'.ownsRow B T K v n cs := by
  refine h.kept hg ?_
  cases e : v.ownBlock with
  | none => exact .inl rfl
  | some k =>
    have := (h.lt k e).1
    exact .inr (by simp; omega)
theorem own_lowerP {w : World} {B C T n K : Nat} {v : Value} {cs : List Value} (h : w.ownsRow C T K v n cs) (hB : B ≤ C) : w.ownsRow B T K v n cs := by
  refine ⟨h.1, ?_⟩
  rcases h.2 with h0 | ⟨g, cap, cur, e, hC, rest⟩
  · exact .inl h0
  · exact .inr ⟨g, cap, cur, e, Nat.le_trans hB hC, rest⟩
section
variable {P : Program} {t e : TypeId} {ops : Array Oper} {rest : List Oper} {o : Oper} {a : Act} {Q : Exit → Act → World → Prop} {w0 w : World} {R q K : Nat} {α : Type} {en : α → List Value}
/-- Appending while a reader is open. -/
theorem append_drawnE (ty : TyL P t e K) (E : Enc en K) (hgd : o.guard = none) {s x : Operand} (hop : o.op = .call { callee := .builtin .append, args := #[s, x], argTypes := #[t, t] })
    {v x' : Value} {xs ys : List α} (hs : a.eval s = v) (hx : a.eval x = x') (hown : OwnL en K w w0.heap.size e v xs) (hr : ReadsL en w x' ys) (hlen : xs.length + ys.length ≤ 1000000000) (hg : w0.grownBy w (some R)) (hR : Rd w R q) (hlt : R < w0.heap.size)
    (h : ∀ v' w', OwnL en K w' w0.heap.size e v' (xs ++ ys) → Rd w' R q → w0.grownBy w' (some R) → wpList P ops Q rest (a.put o.dst v') w') : wpList P ops Q (o :: rest) a w := by
  refine wpList_plain hgd fun _ hK => wp_appendL (w0 := w) ty E hop hs hx hown hr hlen (Below.refl _ _) hg.size fun v' w' h1 _ _ h4 => hK _ _ (h v' w' h1 ?_ ?_)
  · exact hR.keep h4 fun k hk => by have := (hown.lt k hk).1; omega
  · exact only_own (B := 0) hg h4 fun k hk => (hown.lt k hk).1
end
/-- A list stays where the code is read on. -/
theorem reads_apartP {w w' : World} {R q : Nat} {v : Value} {ws : List Wh} (h : Reads w v ws) (hr : Rd w R q) (hg : w.grownBy w' (some R)) : Reads w' v ws := by
  obtain ⟨p, cap, h1, h2, h3, h4, h5⟩ := h
  refine ⟨p, cap, h1, h2, h3, h4, fun hn => ?_⟩
  obtain ⟨g, o, e, hlt, hra⟩ := h5 hn
  refine ⟨g, o, e, Nat.lt_of_lt_of_le hlt hg.size, ?_⟩
  cases hws : ws with
  | nil => exact fun j v hv => by simp [flat] at hv
  | cons c cs =>
    rw [← hws]
    have hne : g ≠ R := by
      rintro rfl
      obtain ⟨a, ha, -⟩ := hr
      have hl : 8 < (flat ws).length := by rw [flat_length, hws]; simp; omega
      have := hra 8 _ (List.getElem?_eq_getElem hl)
      simp [World.cell?, ha] at this
    exact fun j v hv => hg.cell (hra j v hv) (by simpa using hne)
abbrev sixCellsP : Array Value := #[.int .i64 2, .int .i64 3, .int .i64 4, .int .i64 6, .int .i64 8, .int .i64 12]
theorem six_atP (k : Nat) (hk : k < 6) : ∃ d : Nat, sixCellsP[k]? = some (.int .i64 d) := by
  have key : ∀ j : Fin 6, ∃ d : Nat, sixCellsP[j.val]? = some (.int .i64 (d : Int)) := by
    intro j
    match j with
    | 0 => exact ⟨2, rfl⟩
    | 1 => exact ⟨3, rfl⟩
    | 2 => exact ⟨4, rfl⟩
    | 3 => exact ⟨6, rfl⟩
    | 4 => exact ⟨8, rfl⟩
    | 5 => exact ⟨12, rfl⟩
  exact key ⟨k, hk⟩
/-! ### Words of 32 bits -/
theorem run_quo32 {P : Program} (x y : Nat) (t : TypeId) (w : World) : ∃ r n, (binOp .quo t (.float .f32 x) (.float .f32 y)).run P w = .ok (.float .f32 r) (w.drewN n) := by
  cases h : floatBits .quo .f32 x y with
  | some z => exact ⟨z, 0, run_float_arith w .quo t .f32 x y z h⟩
  | none =>
    refine ⟨Question.cut (.nanBits .f32 x y) (w.tape w.drawn (.nanBits .f32 x y)), 1, ?_⟩
    unfold floatBits at h
    simp only at h
    simp [binOp, Op.floatArith, h, choose, Sem.run, Question.forced]
    rfl
theorem eighth_at (j : Int) (h1 : -32 ≤ j) (h2 : j ≤ 32) : ∃ z, floatBits .quo .f32 (floatOfInt .f32 j) 1090519040 = some z := by
  have key : ∀ k : Fin 65, (floatBits .quo .f32 (floatOfInt .f32 (((k.val : Nat) : Int) - 32)) 1090519040).isSome = true := by decide +kernel
  have h := key ⟨(j + 32).toNat, by omega⟩
  simp only at h
  rw [show (((j + 32).toNat : Nat) : Int) - 32 = j by omega] at h
  exact Option.isSome_iff_exists.1 h
theorem sixth_at (j : Int) (h1 : -32 ≤ j) (h2 : j ≤ 32) : ∃ z, floatBits .quo .f32 (floatOfInt .f32 j) 1098907648 = some z := by
  have key : ∀ k : Fin 65, (floatBits .quo .f32 (floatOfInt .f32 (((k.val : Nat) : Int) - 32)) 1098907648).isSome = true := by decide +kernel
  have h := key ⟨(j + 32).toNat, by omega⟩
  simp only at h
  rw [show (((j + 32).toNat : Nat) : Int) - 32 = j by omega] at h
  exact Option.isSome_iff_exists.1 h
theorem set_fltC (a c : Pn) (cs : List Pn) : (flt encC (c :: cs)).set 0 (.complex .f32 a.1 a.2) = flt encC (a :: cs) := rfl
theorem ownC_nilB (w : World) (B : Nat) (T : Nat) (hB : B ≤ w.heap.size) : OwnL encC 1 (w.alloc (.cells #[] T)) B T (.slice (some ⟨w.heap.size, 0, none⟩) 0 0) ([] : List Pn) := World.ownsRow_made w #[] 0 hB (by simp [maxLen]) (by simp)
theorem Rd.drewN {w : World} {R p : Nat} (h : Rd w R p) (n : Nat) : Rd (w.drewN n) R p := h.keep (row := none) ⟨rfl, rfl, rfl, Nat.le_refl _, fun _ _ _ => rfl⟩ (fun g e => by cases e)
theorem only_drewP {a w : World} {row : Option Nat} (h : a.grownBy w row) (n : Nat) : a.grownBy (w.drewN n) row := ⟨h.os, h.tape, h.output, h.size, h.block⟩
theorem own_drewN {w : World} {B T n K : Nat} {v : Value} {cs : List Value} (h : w.ownsRow B T K v n cs) (m : Nat) : (w.drewN m).ownsRow B T K v n cs := rows_below h (below_drewN (Below.refl _ _) m)
/-- A path drawn off a reader. -/
def DrewPa (w : World) (R p c : Nat) (e : Ending) (w' : World) : Prop :=
  ∃ (v : Value) (xs : List Pn) (q : Nat), e = .returned v ∧ q ≤ p + c ∧ xs.length ≤ 100 ∧ Rd w' R q ∧ w.grownBy w' (some R) ∧ OwnL encC 1 w' w.heap.size 23 v xs
theorem pathO_ends {xs : List V} {L : List Pn} (h : pathO xs = some L) : 1 ≤ L.length ∧ L.length ≤ 100 := by
  unfold pathO at h
  split at h
  · next hh => rw [Bool.and_eq_true] at hh; cases h; have := pvB_parts hh.2; exact ⟨this.1, this.2.1⟩
  · cases h

set_option maxHeartbeats 8000000 in
theorem path_drawn (R p : Nat) (w : World) (h : Rd w R p) (hp : p ≤ 500000) :
    Calls Try.prog 23 #[.pointer (some ⟨R, 0, none⟩)] w (DrewPa w R p 300) := by
  have hlt := h.lt
  have D := Lib.hid (design2_drawn R p w h (by omega))
  clear h
  go_enter Try.func23, Try.ntmps23
  go_wp2_with fail
  refine D.out.mono ?_; rintro e w1 ⟨v2, ws, q, rfl, hq, hr1, hg1, ho1⟩
  have P1 := Lib.hid (pick_any R q 6 _ (hr1.alloc (.cells sixCellsP 3)) (by omega) (by omega))
  have HG1 := Lib.hid (only_alloc hg1 (.cells sixCellsP 3))
  have HA := Lib.hid (fun (w' : World) (hg : (w1.alloc (.cells sixCellsP 3)).grownBy w' (some R)) => reads_apartP (ho1.below ((Below.refl _ _).alloc (Nat.le_refl _) _)) (hr1.alloc (.cells sixCellsP 3)) hg)
  have hz1 : w.heap.size ≤ w1.heap.size := hg1.size
  have hC := Lib.hid (show ∀ (j d : Nat) (w' : World), (w1.alloc (.cells sixCellsP 3)).grownBy w' (some R) → sixCellsP[j]? = some (.int .i64 d) → w'.cell? ⟨w1.heap.size, j, none⟩ = some (.int .i64 d) from fun j d w' hg hd => hg.cell (a := ⟨w1.heap.size, j, none⟩) ((World.cell?_alloc_at _ _ _ _ rfl).trans hd) (by simp; omega))
  clear D hr1 hg1 ho1
  go_wp2_with fail
  refine P1.out.mono ?_; rintro e w2 ⟨k, rfl, k0, k1, hr2, hg2⟩
  obtain ⟨j, rfl⟩ : ∃ j : Nat, k = j := ⟨k.toNat, by omega⟩
  obtain ⟨d, hd⟩ := six_atP j (by omega)
  have hcell := hC.out j d w2 hg2 hd
  have RO := Lib.hid (specRowOf_any v2 d ws w2 (HA.out w2 hg2))
  have HG2 := Lib.hid (only_trans' HG1.out hg2)
  have HR2 := Lib.hid hr2
  clear P1 hr2 hg2 hd hC HA HG1
  generalize rdO ws d = o at *
  go_wp2_with fail
  refine RO.out.mono ?_; rintro e w3 ⟨hb3, v3, rfl, ho3⟩
  have HG3 := Lib.hid (only_trans' HG2.out (only_below hb3 (some R)))
  have HR3 := Lib.hid (HR2.out.below hb3)
  have PO := Lib.hid (specPathOf_any v3 (gotL o) w3 (ownL_reads ho3))
  clear RO hb3 ho3 HG2 HR2 hcell
  obtain ⟨b1, hb1⟩ : ∃ b, o.isSome = b := ⟨_, rfl⟩
  rw [hb1]
  clear hb1
  generalize gotL o = L0 at *
  obtain ⟨L, hL⟩ : ∃ L, pathO L0 = L := ⟨_, rfl⟩
  have hL2 : ∀ x, L = some x → 1 ≤ x.length ∧ x.length ≤ 100 := fun x e => pathO_ends (hL.trans e)
  rw [hL] at PO
  have HL2 := Lib.hid hL2
  clear hL hL2
  go_wp2_with fail
  refine PO.out.mono ?_; rintro e w4 ⟨hb4, v4, rfl, ho4⟩
  have HG4 := Lib.hid (only_trans' HG3.out (only_below hb4 (some R)))
  have HR4 := Lib.hid (HR3.out.below hb4)
  have HO4 := Lib.hid (own_lowerP ho4 HG3.out.size)
  clear PO hb4 ho4 HG3 HR3
  go_upto_region 3 with fail
  go_cut [36] from 10 (fun s36 wx => ∃ (q' : Nat) (b : Bool), s36 = .bool b ∧ q' ≤ q + 3 ∧ Aside (Rd wx R q') ∧ Aside (w.grownBy wx (some R)) ∧ Aside (b = false → ∃ x, L = some x ∧ OwnL encC 1 wx w.heap.size 23 v4 x))
  case first =>
    cases b1 with
    | false =>
      go_wp2
      go_meet
      case rel => exact ⟨q + 1, true, rfl, by omega, HR4, HG4, fun e => by cases e⟩
    | true =>
      cases L with
      | none =>
        go_wp2
        go_meet
        case rel => exact ⟨q + 1, true, rfl, by omega, HR4, HG4, fun e => by cases e⟩
      | some x =>
        have P2 := Lib.hid (pick_any R (q + 1) 3 w4 HR4.out (by omega) (by omega))
        go_wp2_with fail
        refine P2.out.mono ?_; rintro e w5 ⟨k2, rfl, k20, k21, hr5, hg5⟩
        have HG5 := Lib.hid (only_trans' HG4.out hg5)
        have HR5 := Lib.hid hr5
        have HO5 := Lib.hid (rows_keptP HO4.out hg5 hlt)
        clear P2 hr5 hg5 HG4 HR4 HO4
        go_wp2
        go_meet
        case rel => exact ⟨q + 1 + 1, _, rfl, by omega, HR5, HG5, fun _ => ⟨x, rfl, HO5.out⟩⟩
  case rest =>
  obtain ⟨q1, b, rfl, hq1, HRc, HGc, HOc⟩ := hcut
  clear HO4 HG4 HR4
  go_upto_if 36 with fail
  go_cut [5, 7, 8] from 10 (fun s5 s7 s8 wx => ∃ (q' : Nat) (xs : List Pn), q' ≤ q + 20 ∧ Aside (1 ≤ xs.length) ∧ Aside (xs.length ≤ 100) ∧ Aside (Rd wx R q') ∧ Aside (w.grownBy wx (some R)) ∧ Aside (OwnL encC 1 wx w.heap.size 23 s5 xs))
  case first =>
    cases b with
    | false =>
      obtain ⟨x, hx, ho⟩ := HOc.out rfl
      have hx12 := HL2.out x hx
      have HX1 : Aside (1 ≤ x.length) := hx12.1
      have HX2 : Aside (x.length ≤ 100) := hx12.2
      have HO : Aside (OwnL encC 1 wc w.heap.size 23 v4 x) := ho
      clear HOc hx ho hx12 HL2
      go_wp2
      go_meet
      case rel => exact ⟨q1, x, by omega, HX1, HX2, HRc, HGc, HO⟩
    | true =>
      clear HOc HL2
      have hge := HGc.out.size
      have HRa := HRc.out.alloc (.cells #[] 23)
      have HGa := Lib.hid (only_alloc HGc.out (.cells #[] 23))
      have HOa := Lib.hid (ownC_nilB wc w.heap.size 23 hge)
      have P6 := Lib.hid (pick_any R q1 5 _ HRa (by omega) (by omega))
      clear HRa HRc HGc
      go_wp2_with fail
      refine P6.out.mono ?_; rintro e w5 ⟨k1', rfl, k10, k11, hr5, hg5⟩
      obtain ⟨mm, hmm⟩ : ∃ mm : Nat, 1 + k1' = (mm : Int) := ⟨(1 + k1').toNat, by omega⟩
      have wmm : IntKind.i64.wrap (mm : Int) = (mm : Int) := by rw [IntKind.wrap_i64]; omega
      have HR5 := Lib.hid hr5
      have HG5 := Lib.hid (only_trans' HGa.out hg5)
      have HO5 := Lib.hid (rows_keptP HOa.out hg5 hlt)
      clear P6 hr5 hg5 HGa HOa
      go_wp2
      go_loopw [5, 8] (fun s5 i wr => ∃ (k : Nat) (xs : List Pn) (q' : Nat), k ≤ mm ∧ i = .int .i64 k ∧ xs.length = k ∧ q' ≤ q1 + 1 + 2 * k ∧ Rd wr R q' ∧ w.grownBy wr (some R) ∧ OwnL encC 1 wr w.heap.size 23 s5 xs) (fun _ i _ => mm - (intOf i).toNat)
      case atStart => exact ⟨0, [], q1 + 1, Nat.zero_le _, rfl, rfl, by omega, HR5.out, HG5.out, HO5.out⟩
      case round =>
        clear HR5 HG5 HO5
        obtain ⟨k, xs, q', hk, rfl, hlen, hq', hr, hg, ho⟩ := hrel
        by_cases hkm : k < mm
        · have hkz : (k : Int) < (mm : Int) := by omega
          have P7 := Lib.hid (pick_any R q' 65 wr hr (by omega) (by omega))
          have HG := Lib.hid hg
          have HO := Lib.hid ho
          clear hr hg ho
          go_wp2_with fail
          refine P7.out.mono ?_; rintro e w6 ⟨s, rfl, s0, s1, hr6, hg6⟩
          obtain ⟨u, hu⟩ : ∃ u : Int, s - 32 = u := ⟨_, rfl⟩
          have wu : IntKind.i64.wrap u = u := by rw [IntKind.wrap_i64]; omega
          obtain ⟨zx, hzx⟩ := eighth_at u (by omega) (by omega)
          have R1 := Lib.hid (fun t w => run_float_arith (P := Try.prog) w .quo t .f32 _ _ _ hzx)
          have P8 := Lib.hid (pick_any R (q' + 1) 65 w6 hr6 (by omega) (by omega))
          have HG6 := Lib.hid (only_trans' HG.out hg6)
          have HO6 := Lib.hid (rows_keptP HO.out hg6 hlt)
          clear P7 hr6 hg6 HG HO hzx
          go_wp2_with (first | rw [R1.out])
          refine P8.out.mono ?_; rintro e w7 ⟨t, rfl, t0, t1, hr7, hg7⟩
          obtain ⟨x, hx⟩ : ∃ x : Int, t - 32 = x := ⟨_, rfl⟩
          have wx : IntKind.i64.wrap x = x := by rw [IntKind.wrap_i64]; omega
          obtain ⟨zy, hzy⟩ := sixth_at x (by omega) (by omega)
          have R2 := Lib.hid (fun t w => run_float_arith (P := Try.prog) w .quo t .f32 _ _ _ hzy)
          have HG7 := Lib.hid (only_trans' HG6.out hg7)
          have HO7 := Lib.hid (rows_keptP HO6.out hg7 hlt)
          have HR7 := Lib.hid hr7
          clear P8 hr7 hg7 HG6 HO6 hzy
          go_wp2_with (first | rw [R2.out] |
            (refine append_drawnE tyZ encC_ok rfl rfl (xs := xs) (ys := [(zx, zy)]) rfl rfl (World.ownsRow.alloc HO7.out _) (litC _ (zx, zy) _) (by simp; omega) (only_alloc HG7.out _) (HR7.out.alloc _) hlt ?_; intro v8 w8 ho8 hr8 hg8))
          have HO8 := Lib.hid ho8
          have HR8 := Lib.hid hr8
          have HG8 := Lib.hid hg8
          clear ho8 hr8 hg8 HG7 HO7 HR7
          go_wp2
          go_roundw
          case rel => exact ⟨k + 1, xs ++ [(zx, zy)], q' + 1 + 1, by omega, by go_num, by simp; omega, by omega, HR8.out, HG8.out, HO8.out⟩
          case measure => simp [intOf]; omega
        · have hkz : ¬ (k : Int) < (mm : Int) := by omega
          have HX1 : Aside (1 ≤ xs.length) := (show 1 ≤ xs.length by omega)
          have HX2 : Aside (xs.length ≤ 100) := (show xs.length ≤ 100 by omega)
          have HR : Aside (Rd wr R q') := hr
          have HG : Aside (w.grownBy wr (some R)) := hg
          have HO := Lib.hid ho
          clear hr hg ho hlen
          go_wp2
          go_meet
          case rel => exact ⟨q', xs, by omega, HX1, HX2, HR, HG, HO.out⟩
  case rest =>
  obtain ⟨q2, xs, hq2, HX1, HX2, HR, HG, HO⟩ := hcut
  clear HRc HGc HOc HL2
  have P9 := Lib.hid (pick_any R q2 24 wc HR.out (by omega) (by omega))
  go_wp2_with fail
  refine P9.out.mono ?_; rintro e w5 ⟨s, rfl, s0, s1, hr5, hg5⟩
  have HG5 := Lib.hid (only_trans' HG.out hg5)
  have HO5 := Lib.hid (rows_keptP HO.out hg5 hlt)
  have HR5 := Lib.hid hr5
  have hx1 := HX1.out
  clear P9 hr5 hg5 HG HO HR HX1
  by_cases e0 : s = 0
  · subst e0
    have HE := Lib.hid (ownC_nilB w5 w.heap.size 23 HG5.out.size)
    have HG6 := Lib.hid (only_alloc HG5.out (.cells #[] 23))
    have HR6 := Lib.hid (HR5.out.alloc (.cells #[] 23))
    clear HO5 HG5 HR5
    go_wp2
    go_ret
    exact ⟨_, [], q2 + 1, rfl, by omega, by simp, HR6.out, HG6.out, HE.out⟩
  · have e0' : (s == 0) = false := by simpa using e0
    have hx2 := HX2.out
    have ho := HO5.out
    cases xs with
    | nil => simp at hx1
    | cons c cs' =>
    have h2 := ho.2
    rcases h2 with ⟨rfl, h0⟩ | ⟨g, cap, cur, rfl, _⟩
    · simp at h0
    obtain ⟨old, hold⟩ : ∃ old, (flt encC (c :: cs'))[0]? = some old := ⟨.complex .f32 c.1 c.2, rfl⟩
    have hcell : w5.cell? ⟨g, 0, none⟩ = some old := by rw [ho.cellAt 0 (by simp), hold]
    have hfr := ho.frozenAt 0
    have hl0 : (0 : Int) < ((c :: cs').length : Int) := by simp
    have hlen2 : ∀ a : Pn, (a :: cs').length = (c :: cs').length := fun a => rfl
    have KEY := Lib.hid (show ∀ (a : Pn) (n : Nat), Rd ((w5.drewN n).setCell ⟨g, 0, none⟩ (.complex .f32 a.1 a.2)) R (q2 + 1) ∧ w.grownBy ((w5.drewN n).setCell ⟨g, 0, none⟩ (.complex .f32 a.1 a.2)) (some R) ∧ OwnL encC 1 ((w5.drewN n).setCell ⟨g, 0, none⟩ (.complex .f32 a.1 a.2)) w.heap.size 23 (.slice (some ⟨g, 0, none⟩) (c :: cs').length cap) (a :: cs') from fun a n => by
      have hod := own_drewN ho n
      obtain ⟨h1, h2⟩ := hod.stored 0 (.complex .f32 a.1 a.2)
      rw [set_fltC] at h1
      exact ⟨(HR5.out.drewN n).keep h2 fun k hk => by have := (hod.lt k hk).1; omega, only_own (B := 0) (v := .slice (some ⟨g, 0, none⟩) (c :: cs').length cap) (only_drewP HG5.out n) h2 fun k hk => (hod.lt k hk).1, h1⟩)
    have ST := Lib.hid (fun (x y n : Nat) (m : Mode) => store_cpx (P := Try.prog) (w := w5.drewN n) (p := x) (q := y) (old := old) hcell hfr m)
    clear ho hold hcell hfr HX2
    by_cases e1 : s = 1
    · subst e1
      clear e0 e0'
      obtain ⟨r, n, hr⟩ := run_quo32 (P := Try.prog) 0 0 31 w5
      obtain ⟨k1, k2, k3⟩ := KEY.out (r, 1065353216) n
      have S := ST.out r 1065353216 n
      have K1 := Lib.hid k1
      have K2 := Lib.hid k2
      have K3 := Lib.hid k3
      clear k1 k2 k3 KEY ST
      generalize w5.drewN n = wn at *
      go_wp2_with (first | rw [hr] | rw [S])
      go_ret
      exact ⟨_, (r, 1065353216) :: cs', q2 + 1, rfl, by omega, by simp at hx2 ⊢; omega, K1.out, K2.out, K3.out⟩
    · have e1' : (s == 1) = false := by simpa using e1
      by_cases e2 : s = 2
      · subst e2
        clear e0 e0' e1 e1'
        have R0 : ∀ w, (Op.unary .neg (.float .f32 0)).run Try.prog w = .ok (.float .f32 2147483648) w := fun w => by simp only [Op.unary, show Op.negFloat .f32 0 = 2147483648 by decide +kernel]; rfl
        have R1 : ∀ t w, (binOp .mul t (.float .f32 2147483648) (.float .f32 1065353216)).run Try.prog w = .ok (.float .f32 2147483648) w := fun t w => run_float_arith w .mul t .f32 _ _ _ (by decide +kernel)
        obtain ⟨k1, k2, k3⟩ := KEY.out (2147483648, 0) 0
        have S := ST.out 2147483648 0 0
        have K1 := Lib.hid k1
        have K2 := Lib.hid k2
        have K3 := Lib.hid k3
        clear k1 k2 k3 KEY ST
        rw [show w5.drewN 0 = w5 from rfl] at *
        go_wp2_with (first | rw [R1] | rw [R0] | rw [S])
        go_ret
        exact ⟨_, (2147483648, 0) :: cs', q2 + 1, rfl, by omega, by simp at hx2 ⊢; omega, K1.out, K2.out, K3.out⟩
      · have e2' : (s == 2) = false := by simpa using e2
        by_cases e3 : s = 3
        · subst e3
          clear e0 e0' e1 e1' e2 e2'
          obtain ⟨k1, k2, k3⟩ := KEY.out (1167867904, 0) 0
          have S := ST.out 1167867904 0 0
          have K1 := Lib.hid k1
          have K2 := Lib.hid k2
          have K3 := Lib.hid k3
          clear k1 k2 k3 KEY ST
          rw [show w5.drewN 0 = w5 from rfl] at *
          go_wp2_with (first | rw [S])
          go_ret
          exact ⟨_, (1167867904, 0) :: cs', q2 + 1, rfl, by omega, by simp at hx2 ⊢; omega, K1.out, K2.out, K3.out⟩
        · have e3' : (s == 3) = false := by simpa using e3
          clear KEY ST
          go_wp2
          go_ret
          exact ⟨_, c :: cs', q2 + 1, rfl, by omega, hx2, HR5.out, HG5.out, HO5.out⟩
end Go.Proofs.Ytibhlaojinedoaa
/- What rows, paths and moves are drawn out of a code. -/
namespace Go.Proofs.Ytibhlaojinedoaa
set_option maxRecDepth 20000
open Go.ChangeShapes Go.WideShapes Go.ChangeAt Go.RowKit
set_option linter.unusedVariables false
set_option linter.unusedSimpArgs false

section
variable {P : Program} {t e : TypeId} {ops : Array Oper} {rest : List Oper} {o : Oper} {a : Act} {Q : Exit → Act → World → Prop} {w0 w : World} {R q : Nat}
theorem build_zero8 {T : TypeId} (hgd : o.guard = none) (ho : o.op = .build T #[]) (hbu : P.built T [] = some (vec 8 nul))
    (h : wpList P ops Q rest (a.put o.dst (.agg (vec 8 V.zero.up))) w) : wpList P ops Q (o :: rest) a w := by
  have e : (#[].map fun (p : Nat × Operand) => (p.1, a.eval p.2)).toList = [] := by simp
  rw [zero_up] at h
  refine wpList_build hgd T _ ho ?_ ?_
  · show (P.built T (#[].map fun (p : Nat × Operand) => (p.1, a.eval p.2)).toList).isSome = true
    rw [e, hbu]; rfl
  · show wpList P ops Q rest (a.put o.dst (.agg ((P.built T (#[].map fun (p : Nat × Operand) => (p.1, a.eval p.2)).toList).getD #[]))) w
    rw [e, hbu]; exact h
/-- Appending while a reader is open, and what else stays. -/
theorem append_drawnG {K : Nat} {α : Type} {en : α → List Value} (ty : TyL P t e K) (E : Enc en K) (hgd : o.guard = none) {s x : Operand} (hop : o.op = .call { callee := .builtin .append, args := #[s, x], argTypes := #[t, t] })
    {v x' : Value} {xs ys : List α} (hs : a.eval s = v) (hx : a.eval x = x') (hown : OwnL en K w w0.heap.size e v xs) (hr : ReadsL en w x' ys) (hlen : xs.length + ys.length ≤ 1000000000) (hg : w0.grownBy w (some R)) (hR : Rd w R q) (hlt : R < w0.heap.size)
    (h : ∀ v' w', OwnL en K w' w0.heap.size e v' (xs ++ ys) → Rd w' R q → w0.grownBy w' (some R) → w.grownBy w' v.ownBlock → wpList P ops Q rest (a.put o.dst v') w') : wpList P ops Q (o :: rest) a w := by
  refine wpList_plain hgd fun _ hK => wp_appendL (w0 := w) ty E hop hs hx hown hr hlen (Below.refl _ _) hg.size fun v' w' h1 _ _ h4 => hK _ _ (h v' w' h1 ?_ ?_ h4)
  · exact hR.keep h4 fun k hk => by have := (hown.lt k hk).1; omega
  · exact only_own (B := 0) hg h4 fun k hk => (hown.lt k hk).1
end
theorem built_point : Try.prog.built 80 [] = some (vec 8 nul) := by kernel_rfl

/-- A point drawn off a reader. -/
def DrewV (w : World) (R p c : Nat) (e : Ending) (w' : World) : Prop :=
  ∃ (a : V) (q : Nat), e = .returned (pt a.up) ∧ q ≤ p + c ∧ Rd w' R q ∧ w.grownBy w' (some R)
theorem cycV_drawn (R p : Nat) (w : World) (h : Rd w R p) (hp : p ≤ 900000) : Calls Try.prog 44 #[.pointer (some ⟨R, 0, none⟩)] w (DrewV w R p 20) :=
  (cyc_drawn R p w h hp).mono fun e x h => by
    obtain ⟨f, q, rfl, hq⟩ := h
    exact ⟨dn f, q, by unfold pt; rw [vec_same (up_dn f)], hq⟩

/-! Lengths. -/
abbrev lenCells : Array Value := #[.int .i64 1, .int .i64 2, .int .i64 3, .int .i64 4, .int .i64 6, .int .i64 8, .int .i64 2, .int .i64 3, .int .i64 4, .int .i64 12]
theorem len_at (k : Nat) (hk : k < 10) : ∃ d : Nat, lenCells[k]? = some (.int .i64 d) ∧ d ≤ 12 := by
  have key : ∀ j : Fin 10, ∃ d : Fin 13, lenCells[j.val]? = some (.int .i64 ((d.val : Nat) : Int)) := by
    intro j
    match j with
    | 0 => exact ⟨1, rfl⟩
    | 1 => exact ⟨2, rfl⟩
    | 2 => exact ⟨3, rfl⟩
    | 3 => exact ⟨4, rfl⟩
    | 4 => exact ⟨6, rfl⟩
    | 5 => exact ⟨8, rfl⟩
    | 6 => exact ⟨2, rfl⟩
    | 7 => exact ⟨3, rfl⟩
    | 8 => exact ⟨4, rfl⟩
    | 9 => exact ⟨12, rfl⟩
  obtain ⟨d, hd⟩ := key ⟨k, hk⟩
  exact ⟨d.val, hd, by omega⟩
/-- A length drawn off a reader. -/
def DrewLen (w : World) (R p : Nat) (e : Ending) (w' : World) : Prop :=
  ∃ (m : Nat), e = .returned (.int .i64 m) ∧ m ≤ 12 ∧ Rd w' R (p + 1) ∧ w.grownBy w' (some R)
/-! Rows. -/
/-- A row drawn off a reader. -/
def DrewR (w : World) (R p c : Nat) (e : Ending) (w' : World) : Prop :=
  ∃ (v : Value) (xs : List V) (q : Nat), e = .returned v ∧ q ≤ p + c ∧ xs.length ≤ 13 ∧ Rd w' R q ∧ w.grownBy w' (some R) ∧ OwnL encV 8 w' w.heap.size 80 v xs

/-- A row, a row and a number, two rows out of a code. -/
def DrewRow (w : World) (e : Ending) (w' : World) : Prop := ∃ (v : Value) (xs : List V), e = .returned v ∧ ReadsL encV w' v xs ∧ Below w.heap.size w w'

/-! ### Moves -/
theorem ownM_nilB (w : World) (B : Nat) (T : Nat) (hB : B ≤ w.heap.size) : OwnL encM 2 (w.alloc (.cells #[] T)) B T (.slice (some ⟨w.heap.size, 0, none⟩) 0 0) ([] : List Mv) := World.ownsRow_made w #[] 0 hB (by simp [maxLen]) (by simp)
theorem litM2 (w : World) (o : Obj) (m : Mv) (T : Nat) : ReadsL encM ((w.alloc o).alloc (.cells #[.int .i64 m.1, .int .i64 m.2] T)) (.slice (some ⟨w.heap.size + 1, 0, none⟩) 1 1) [m] := by
  have h := litM (w.alloc o) m T
  have e : (w.alloc o).heap.size = w.heap.size + 1 := by simp
  rw [e] at h
  exact h
def DrewMo (w : World) (R p c : Nat) (e : Ending) (w' : World) : Prop :=
  ∃ (v : Value) (xs : List Mv) (q : Nat), e = .returned v ∧ q ≤ p + c ∧ xs.length ≤ 100 ∧ Rd w' R q ∧ w.grownBy w' (some R) ∧ OwnL encM 2 w' w.heap.size 27 v xs
/-! ### Out of a code -/
def DrewPth (w : World) (e : Ending) (w' : World) : Prop := ∃ (v : Value) (xs : List Pn), e = .returned v ∧ OwnL encC 1 w' w.heap.size 23 v xs ∧ Below w.heap.size w w'
def DrewPtI (w : World) (e : Ending) (w' : World) : Prop := ∃ (v : Value) (xs : List Pn) (g : Int), e = .returned (.tuple #[v, .int .i64 g]) ∧ OwnL encC 1 w' w.heap.size 23 v xs ∧ Below w.heap.size w w'
def DrewMs (w : World) (e : Ending) (w' : World) : Prop := ∃ (v : Value) (xs : List Mv), e = .returned v ∧ OwnL encM 2 w' w.heap.size 27 v xs ∧ Below w.heap.size w w'
def DrewMsI (w : World) (e : Ending) (w' : World) : Prop := ∃ (v : Value) (xs : List Mv) (g : Int), e = .returned (.tuple #[v, .int .i64 g]) ∧ OwnL encM 2 w' w.heap.size 27 v xs ∧ Below w.heap.size w w'
theorem drawPathMoves (v : Value) (w : World) (h : CodeAt w v) : Calls Try.prog 9 #[v] w (DrewPtI w) := by
  have O := Lib.hid (open_any v w h)
  clear h
  go_enter Try.func9, Try.ntmps9
  go_wp2_with fail
  refine O.out.mono ?_; rintro e w1 ⟨rfl, hr, hb⟩
  have D := Lib.hid (path_drawn _ _ w1 hr (by omega))
  have hlt := hr.lt
  have HB := Lib.hid hb
  have HS := Lib.hid (hb.size : w.heap.size ≤ w1.heap.size)
  clear hr O hb
  go_wp2_with fail
  refine D.out.mono ?_; rintro e w2 ⟨v2, xs, q, rfl, hq, hl, hr2, hg2, ho2⟩
  have P1 := Lib.hid (pick_any _ _ 9 w2 hr2 (by omega) (by omega))
  have HB2 := Lib.hid (below_only HB.out hg2 HB.out.size (Nat.le_refl _))
  have HO := Lib.hid ho2
  clear D HB hr2 hg2 ho2
  go_wp2_with fail
  refine P1.out.mono ?_; rintro e w4 ⟨a, rfl, a0, a1, hr4, hg4⟩
  have P2 := Lib.hid (pick_any _ _ 20 w4 hr4 (by omega) (by omega))
  have HB4 := Lib.hid (below_only HB2.out hg4 HB2.out.size (Nat.le_refl _))
  have HO4 := Lib.hid (rows_keptP HO.out hg4 hlt)
  clear P1 hr4 hg4 HB2 HO
  go_wp2_with fail
  refine P2.out.mono ?_; rintro e w5 ⟨b, rfl, b0, b1, hr5, hg5⟩
  have HB5 := Lib.hid (below_only HB4.out hg5 HB4.out.size (Nat.le_refl _))
  have HO5 := Lib.hid (own_lowerP (rows_keptP HO4.out hg5 hlt) HS.out)
  clear P2 hr5 hg5 HB4 HO4
  obtain ⟨d, hd, d0, d1⟩ : ∃ d : Int, b.tdiv 19 = d ∧ 0 ≤ d ∧ d ≤ 1 := ⟨_, rfl, by rw [Int.tdiv_eq_ediv_of_nonneg b0]; omega, by rw [Int.tdiv_eq_ediv_of_nonneg b0]; omega⟩
  have e1 : IntKind.i64.wrap d = d := by rw [IntKind.wrap_i64]; omega
  have e3 : IntKind.i64.wrap (d * 10) = d * 10 := by rw [IntKind.wrap_i64]; omega
  have e2 : IntKind.i64.wrap (a - d * 10) = a - d * 10 := by rw [IntKind.wrap_i64]; omega
  go_wp2
  go_ret2
  exact ⟨v2, xs, a - d * 10, rfl, HO5.out, HB5.out⟩
end Go.Proofs.Ytibhlaojinedoaa
/- What DrawGridPoint draws: some point, some number from 0 to 9. -/
namespace Go.Proofs.Ytibhlaojinedoaa
set_option maxRecDepth 20000
open Go.ChangeShapes Go.WideShapes Go.ChangeAt Go.RowKit
set_option linter.unusedVariables false
set_option linter.unusedSimpArgs false

/-- A float of 64 bits made narrow: some word, perhaps out of a draw. -/
theorem narrowG_some (x : Nat) (w : World) : ∃ r n, (Conv.floatToFloat .f64 x .f32).run Try.prog w = .ok (.float .f32 r) (w.drewN n) := by
  unfold Conv.floatToFloat
  rw [if_neg (by decide)]
  cases FloatKind.f64.decode x with
  | nan s t =>
    refine ⟨Question.cut (.nanConv .f32 x) (w.tape w.drawn (.nanConv .f32 x)), 1, ?_⟩
    simp [choose, Sem.run, Question.forced]
    rfl
  | infinity s => exact ⟨_, 0, rfl⟩
  | number s m e =>
    simp only
    split
    · refine ⟨Question.cut (.floatToFloat x) (w.tape w.drawn (.floatToFloat x)), 1, ?_⟩
      simp [choose, Sem.run, Question.forced]
      rfl
    · exact ⟨_, 0, rfl⟩
theorem narrowG_cx (x y : Nat) (w : World) : ∃ r s n, (convert 44 23 (.complex .f64 x y)).run Try.prog w = .ok (.complex .f32 r s) (w.drewN n) := by
  obtain ⟨r, n, h1⟩ := narrowG_some x w
  obtain ⟨s, m, h2⟩ := narrowG_some y (w.drewN n)
  refine ⟨r, s, n + m, ?_⟩
  have hu : (Try.prog.underlying 44) = some (.complex .f64) := by kernel_rfl
  have hd : (Try.prog.underlying 23) = some (.complex .f32) := by kernel_rfl
  simp [convert, run_underlying hu, run_underlying hd, Conv.complexToComplex, h1, h2, Sem.run_bind]
theorem sixteenth_at (j : Int) (h1 : -100 ≤ j) (h2 : j ≤ 100) : ∃ z, floatBits .quo .f32 (floatOfInt .f32 j) 1098907648 = some z := by
  have key : ∀ k : Fin 201, (floatBits .quo .f32 (floatOfInt .f32 (((k.val : Nat) : Int) - 100)) 1098907648).isSome = true := by decide +kernel
  have h := key ⟨(j + 100).toNat, by omega⟩
  simp only at h
  rw [show (((j + 100).toNat : Nat) : Int) - 100 = j by omega] at h
  exact Option.isSome_iff_exists.1 h
def DrewGr (w : World) (e : Ending) (w' : World) : Prop := ∃ (a : Pn) (g : Int), e = .returned (.tuple #[.complex .f32 a.1 a.2, .int .i64 g]) ∧ Below w.heap.size w w'
set_option maxHeartbeats 2000000 in
theorem drawGridPoint (v : Value) (w : World) (h : CodeAt w v) : Calls Try.prog 5 #[v] w (DrewGr w) := by
  have O := Lib.hid (open_any v w h)
  clear h
  go_enter Try.func5, Try.ntmps5
  go_wp2_with fail
  refine O.out.mono ?_; rintro e w1 ⟨rfl, hr, hb⟩
  have T1 := Lib.hid (wide_drawn _ _ w1 hr (by omega))
  have HB1 := Lib.hid hb
  clear hr O hb
  go_wp2_with fail
  refine T1.out.mono ?_; rintro e w2 ⟨x, y, q, rfl, hk, hq, hr2, hg2⟩
  obtain ⟨r, s, n, RN⟩ := narrowG_cx x y w2
  have HG2 := Lib.hid (only_drewN hg2 n)
  have P2 := Lib.hid (pick_any _ q 2 (w2.drewN n) (hr2.keep (only_drewN (only_refl w2 none) n) (fun g e => by cases e)) (by omega) (by omega))
  clear T1 hr2 hg2 hk
  unfold cw
  go_wp2_with (first | rw [RN])
  clear RN
  refine P2.out.mono ?_; rintro e w3 ⟨k, rfl, k0, k1, hr3, hg3⟩
  have HG3 := Lib.hid (only_trans' HG2.out hg3)
  clear P2 HG2 hg3
  by_cases hk0 : k = 0
  · subst hk0
    have P3 := Lib.hid (pick_any _ (q + 1) 200 w3 hr3 (by omega) (by omega))
    clear hr3
    go_wp2_with fail
    refine P3.out.mono ?_; rintro e w4 ⟨k2, rfl, k20, k21, hr4, hg4⟩
    obtain ⟨u, hu⟩ : ∃ u : Int, k2 - 100 = u := ⟨_, rfl⟩
    have wu : IntKind.i64.wrap u = u := by rw [IntKind.wrap_i64]; omega
    obtain ⟨z, hz⟩ := sixteenth_at u (by omega) (by omega)
    have R1 := Lib.hid (fun t w => run_float_arith (P := Try.prog) w .quo t .f32 _ _ _ hz)
    have P4 := Lib.hid (pick_any _ (q + 1 + 1) 9 w4 hr4 (by omega) (by omega))
    have HG4 := Lib.hid (only_trans' HG3.out hg4)
    clear P3 hr4 hg4 HG3 hz
    go_wp2_with (first | rw [R1.out])
    refine P4.out.mono ?_; rintro e w5 ⟨k3, rfl, k30, k31, hr5, hg5⟩
    have P5 := Lib.hid (pick_any _ (q + 1 + 1 + 1) 20 w5 hr5 (by omega) (by omega))
    have HG5 := Lib.hid (only_trans' HG4.out hg5)
    clear P4 hr5 hg5 HG4 R1
    go_wp2_with fail
    refine P5.out.mono ?_; rintro e w6 ⟨k4, rfl, k40, k41, hr6, hg6⟩
    have HG6 := Lib.hid (only_trans' HG5.out hg6)
    clear P5 hr6 hg6 HG5
    go_wp2_with fail
    go_ret2
    exact ⟨(z, 1036831949), _, rfl, below_only HB1.out HG6.out HB1.out.size (Nat.le_refl _)⟩
  · have hk1 : k = 1 := by omega
    subst hk1
    have P4 := Lib.hid (pick_any _ (q + 1) 9 w3 hr3 (by omega) (by omega))
    clear hr3
    go_wp2_with fail
    refine P4.out.mono ?_; rintro e w5 ⟨k3, rfl, k30, k31, hr5, hg5⟩
    have P5 := Lib.hid (pick_any _ (q + 1 + 1) 20 w5 hr5 (by omega) (by omega))
    have HG5 := Lib.hid (only_trans' HG3.out hg5)
    clear P4 hr5 hg5 HG3
    go_wp2_with fail
    refine P5.out.mono ?_; rintro e w6 ⟨k4, rfl, k40, k41, hr6, hg6⟩
    have HG6 := Lib.hid (only_trans' HG5.out hg6)
    clear P5 hr6 hg6 HG5
    go_wp2_with fail
    go_ret2
    exact ⟨(r, s), _, rfl, below_only HB1.out HG6.out HB1.out.size (Nat.le_refl _)⟩
end Go.Proofs.Ytibhlaojinedoaa
/- Two paths drawn out of a code. -/
namespace Go.Proofs.Ytibhlaojinedoaa
set_option maxRecDepth 20000
open Go.ChangeShapes Go.WideShapes Go.ChangeAt Go.RowKit
set_option linter.unusedVariables false
set_option linter.unusedSimpArgs false

theorem set_fltP (xs : List Pn) (k : Nat) (hk : k < xs.length) (a : Pn) : (flt encC xs).set k (.complex .f32 a.1 a.2) = flt encC (xs.set k a) := by
  induction xs generalizing k with
  | nil => simp at hk
  | cons c cs ih =>
    cases k with
    | zero => rfl
    | succ k =>
      simp only [List.length_cons] at hk
      have := ih k (by omega)
      simp only [List.set_cons_succ]
      rw [flt_cons, flt_cons, ← this]
      rfl
theorem own_shapeC {w : World} {B T : Nat} {v : Value} {xs : List Pn} (h : OwnL encC 1 w B T v ([] ++ xs)) : ∃ g cap, v = .slice g xs.length cap := by
  obtain ⟨p, cap, e, -⟩ := ownL_reads h
  exact ⟨p, cap, e⟩
def DrewPth2 (w : World) (e : Ending) (w' : World) : Prop := ∃ (v v2 : Value) (xs ys : List Pn), e = .returned (.tuple #[v, v2]) ∧ ReadsL encC w' v xs ∧ ReadsL encC w' v2 ys ∧ Below w.heap.size w w'
end Go.Proofs.Ytibhlaojinedoaa
