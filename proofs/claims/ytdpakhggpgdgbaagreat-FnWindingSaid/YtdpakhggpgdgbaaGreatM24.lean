/-
  Out of the text PolyDraw: what the draws of polygons need.
  Out of the text PolyDrawB: what the draws of polygons need.
  Out of the text PolyAround: what the draws of polygons need.
-/
import Derived.Test.YtdpakhggpgdgbaaGreatM23
import Derived.Test.YtdpakhggpgdgbaaGreatM16
import Derived.Test.YtdpakhggpgdgbaaGreatM03
import Derived.Deep.CutBlock
import Derived.Test.YtdpakhggpgdgbaaGreatM17
/- Out of the text PolyDraw: what the draws of polygons need. -/
namespace Go.Proofs.YtdpakhggpgdgbaaGreat
set_option maxRecDepth 20000
open Go.ChangeShapes Go.WideShapes Go.ChangeAt Go.RowKit
set_option linter.unusedVariables false
set_option linter.unusedSimpArgs false
theorem rows_keptR {w w' : World} {B T R n K : Nat} {v : Value} {cs : List Value} (h : w.ownsRow B T K v n cs) (hg : w.grownBy w' (some R)) (hR : R < B) : w'.ownsRow B T K v n cs := by
  refine h.kept hg ?_
  cases e : v.ownBlock with
  | none => exact .inl rfl
  | some k =>
    have := (h.lt k e).1
    exact .inr (by simp; omega)
section
variable {P : Program} {t e : TypeId} {ops : Array Oper} {rest : List Oper} {o : Oper} {a : Act} {Q : Exit → Act → World → Prop} {w0 w : World} {R q : Nat}
/-- Appending a point while a reader is open. -/
theorem append_drawnL (ty : TyL P t e 8) (hgd : o.guard = none) {s x : Operand} (hop : o.op = .call { callee := .builtin .append, args := #[s, x], argTypes := #[t, t] })
    {v x' : Value} {xs ys : List V} (hs : a.eval s = v) (hx : a.eval x = x') (hown : OwnL encV 8 w w0.heap.size e v xs) (hr : ReadsL encV w x' ys) (hlen : xs.length + ys.length ≤ 1000000000) (hg : w0.grownBy w (some R)) (hR : Rd w R q) (hlt : R < w0.heap.size)
    (h : ∀ v' w', OwnL encV 8 w' w0.heap.size e v' (xs ++ ys) → Rd w' R q → w0.grownBy w' (some R) → wpList P ops Q rest (a.put o.dst v') w') : wpList P ops Q (o :: rest) a w := by
  refine wpList_plain hgd fun _ hK => wp_appendL (w0 := w) ty encV_ok hop hs hx hown hr hlen (Below.refl _ _) hg.size fun v' w' h1 _ _ h4 => hK _ _ (h v' w' h1 ?_ ?_)
  · exact hR.keep h4 fun k hk => by have := (hown.lt k hk).1; omega
  · exact only_own (B := 0) hg h4 fun k hk => (hown.lt k hk).1
end
/-- A point drawn off a reader. -/
def DrewV (w : World) (R p c : Nat) (e : Ending) (w' : World) : Prop :=
  ∃ (a : V) (q : Nat), e = .returned (pt a.up) ∧ q ≤ p + c ∧ Rd w' R q ∧ w.grownBy w' (some R)
theorem cycV_drawn (R p : Nat) (w : World) (h : Rd w R p) (hp : p ≤ 900000) : Calls Tryz.prog 47 #[.pointer (some ⟨R, 0, none⟩)] w (DrewV w R p 20) :=
  (cyc_drawn R p w h hp).mono fun e x h => by
    obtain ⟨f, q, rfl, hq⟩ := h
    exact ⟨dn f, q, by unfold pt; rw [vec_same (up_dn f)], hq⟩
theorem gaussV (re im : Int) (w : World) : Calls Tryz.prog 46 #[.int .i64 re, .int .i64 im] w fun e w' => e = .returned (pt (dn (gau re im)).up) ∧ Below w.heap.size w w' :=
  (specGaussIn_any re im w).mono fun e x h => ⟨by rw [h.1]; unfold pt; rw [vec_same (up_dn _)], h.2⟩
theorem rdO_short (ws : List Wh) (n : Int) : (gotL (rdO ws n)).length ≤ 24 := by
  cases h : rdO ws n with
  | none => simp [gotL]
  | some R =>
    unfold rdO at h
    split at h
    · rename_i hc
      rw [Bool.and_eq_true] at hc
      show R.length ≤ 24
      rw [coll_len h]; exact (rowLen_in hc.2).2.2
    · cases h

abbrev sixCells : Array Value := #[.int .i64 3, .int .i64 4, .int .i64 6, .int .i64 8, .int .i64 12, .int .i64 24]
theorem six_at (k : Nat) (hk : k < 6) : ∃ d : Nat, sixCells[k]? = some (.int .i64 d) := by
  have key : ∀ j : Fin 6, ∃ d : Nat, sixCells[j.val]? = some (.int .i64 (d : Int)) := by
    intro j
    match j with
    | 0 => exact ⟨3, rfl⟩
    | 1 => exact ⟨4, rfl⟩
    | 2 => exact ⟨6, rfl⟩
    | 3 => exact ⟨8, rfl⟩
    | 4 => exact ⟨12, rfl⟩
    | 5 => exact ⟨24, rfl⟩
  exact key ⟨k, hk⟩
/-- A point whose fourth number is another. -/
def setV (c : V) (z : Int) : V := fun j => if j.1 = 3 then z else c j
theorem set_enc (c : V) (z : Int) : (encV c).set 3 (.int .i64 z) = encV (setV c z) := rfl
theorem set_flt (c : V) (cs : List V) (z : Int) : (flt encV (c :: cs)).set 3 (.int .i64 z) = flt encV (setV c z :: cs) := by
  rw [flt_cons, flt_cons, List.set_append_left _ _ (by rw [encV_ok.len]; omega), set_enc]

/-- A polygon drawn off a reader. -/
def DrewP (w : World) (R p c : Nat) (e : Ending) (w' : World) : Prop :=
  ∃ (v : Value) (xs : List V) (q : Nat), e = .returned v ∧ q ≤ p + c ∧ xs.length ≤ 48 ∧ Rd w' R q ∧ w.grownBy w' (some R) ∧ ReadsL encV w' v xs

set_option maxHeartbeats 4000000 in
theorem poly_drawn (R p : Nat) (w : World) (h : Rd w R p) (hp : p ≤ 500000) :
    Calls Tryz.prog 16 #[.pointer (some ⟨R, 0, none⟩)] w (DrewP w R p 600) := by
  have hlt := h.lt
  have P1 := Lib.hid (pick_any R p 6 _ (h.alloc (.cells sixCells 3)) (by omega) (by omega))
  clear h
  go_enter Tryz.func16, Tryz.ntmps16
  go_wp2_with fail
  refine P1.out.mono ?_; rintro e w1 ⟨k, rfl, k0, k1, hr1, hg1⟩
  obtain ⟨j, rfl⟩ : ∃ j : Nat, k = j := ⟨k.toNat, by omega⟩
  obtain ⟨d, hd⟩ := six_at j (by omega)
  have hcell : w1.cell? ⟨w.heap.size, j, none⟩ = some (.int .i64 d) := hg1.cell (a := ⟨w.heap.size, j, none⟩) ((World.cell?_alloc_at _ _ _ _ rfl).trans hd) (by simp; omega)
  have D := Lib.hid (design2_drawn R (p + 1) w1 hr1 (by omega))
  have HG := Lib.hid (only_trans' (World.grownBy_alloc w (.cells sixCells 3) (some R)) hg1)
  clear P1 hr1 hg1 hd
  go_wp2_with fail
  refine D.out.mono ?_; rintro e w2 ⟨v2, ws, q, rfl, hq, hr2, hg2, ho2⟩
  have HG2 := Lib.hid (only_trans' HG.out hg2)
  have RO := Lib.hid (specRowOf_any v2 d ws w2 ho2)
  have HR2 := Lib.hid hr2
  have h24 := rdO_short ws d
  clear D hcell hr2 hg2 ho2 HG
  generalize rdO ws d = o at *
  go_wp2_with fail
  refine RO.out.mono ?_; rintro e w3 ⟨hb3, v3, rfl, ho3⟩
  have HG3 := Lib.hid (only_trans' HG2.out (only_below hb3 (some R)))
  have HR3 := Lib.hid (HR2.out.below hb3)
  have HO3 := Lib.hid ho3
  have hlt2 : R < w2.heap.size := Nat.lt_of_lt_of_le hlt HG2.out.size
  clear RO hb3 ho3 HG2 HR2
  go_upto_region 3 with fail
  go_cut [26] from 9 (fun s26 wx => ∃ (q : Nat) (b : Bool), s26 = .bool b ∧ q ≤ p + 205 ∧ Aside (Rd wx R q) ∧ Aside (w.grownBy wx (some R)) ∧ Aside (b = true → ReadsL encV wx v3 (gotL o)))
  case first =>
    cases o with
    | none =>
      go_wp2
      go_meet
      case rel => exact ⟨q, false, rfl, by omega, HR3, HG3, fun e => by cases e⟩
    | some L =>
      have P2 := Lib.hid (pick_any R q 2 w3 HR3.out (by omega) (by omega))
      go_wp2_with fail
      refine P2.out.mono ?_; rintro e w4 ⟨k2, rfl, k20, k21, hr4, hg4⟩
      have HG4 := Lib.hid (only_trans' HG3.out hg4)
      have HR4 := Lib.hid hr4
      have HO4 := Lib.hid (ownL_reads (rows_keptR HO3.out hg4 hlt2))
      clear P2 hr4 hg4 HG3 HR3 HO3
      go_wp2
      go_meet
      case rel => exact ⟨q + 1, _, rfl, by omega, HR4, HG4, fun _ => HO4.out⟩
  case rest =>
  obtain ⟨q0, b, rfl, hq0, HRc, HGc, HOc⟩ := hcut
  clear HO3 HG3 HR3 hq
  cases b with
  | true =>
    have HO := Lib.hid (HOc.out rfl)
    clear HOc
    go_wp2
    go_ret
    exact ⟨v3, gotL o, q0, rfl, by omega, Nat.le_trans h24 (by omega), HRc.out, HGc.out, HO.out⟩
  | false =>
  clear HOc h24
  have hge := HGc.out.size
  have HRa := HRc.out.alloc (.cells #[] 40)
  have HGa := Lib.hid (only_alloc HGc.out (.cells #[] 40))
  have HOa := Lib.hid (ownL_nilB wc w.heap.size 40 hge)
  have P6 := Lib.hid (pick_any R q0 6 _ HRa (by omega) (by omega))
  clear HRa HRc HGc
  go_wp2_with fail
  refine P6.out.mono ?_; rintro e w4 ⟨k1, rfl, k10, k11, hr4, hg4⟩
  obtain ⟨mm, hmm⟩ : ∃ mm : Nat, 1 + k1 = (mm : Int) := ⟨(1 + k1).toNat, by omega⟩
  have wmm : IntKind.i64.wrap (mm : Int) = (mm : Int) := by rw [IntKind.wrap_i64]; omega
  have HR4 := Lib.hid hr4
  have HG4 := Lib.hid (only_trans' HGa.out hg4)
  have HO4 := Lib.hid (rows_keptR HOa.out hg4 hlt)
  clear P6 hr4 hg4 HGa HOa
  go_wp2
  go_loopw [6, 8] (fun s6 i wr => ∃ (k : Nat) (xs : List V) (q : Nat), k ≤ mm ∧ i = .int .i64 k ∧ xs.length = k ∧ q ≤ p + 206 + 2 * k ∧ Rd wr R q ∧ w.grownBy wr (some R) ∧ OwnL encV 8 wr w.heap.size 40 s6 xs) (fun _ i _ => mm - (intOf i).toNat)
  case atStart => exact ⟨0, [], q0 + 1, Nat.zero_le _, rfl, rfl, by omega, HR4.out, HG4.out, HO4.out⟩
  case round =>
    clear HR4 HG4 HO4
    obtain ⟨k, xs, q, hk, rfl, hlen, hq, hr, hg, ho⟩ := hrel
    by_cases hkm : k < mm
    · have hkz : (k : Int) < (mm : Int) := by omega
      have P7 := Lib.hid (pick_any R q 7 wr hr (by omega) (by omega))
      have HG := Lib.hid hg
      have HO := Lib.hid ho
      clear hr hg ho
      go_wp2_with fail
      refine P7.out.mono ?_; rintro e w5 ⟨s, rfl, s0, s1, hr5, hg5⟩
      obtain ⟨u, hu⟩ : ∃ u : Int, s - 3 = u := ⟨_, rfl⟩
      have wu : IntKind.i64.wrap u = u := by rw [IntKind.wrap_i64]; omega
      have P8 := Lib.hid (pick_any R (q + 1) 7 w5 hr5 (by omega) (by omega))
      have HG5 := Lib.hid (only_trans' HG.out hg5)
      have HO5 := Lib.hid (rows_keptR HO.out hg5 hlt)
      clear P7 hr5 hg5 HG HO
      go_wp2_with fail
      refine P8.out.mono ?_; rintro e w6 ⟨t, rfl, t0, t1, hr6, hg6⟩
      obtain ⟨x, hx⟩ : ∃ x : Int, t - 3 = x := ⟨_, rfl⟩
      have wx : IntKind.i64.wrap x = x := by rw [IntKind.wrap_i64]; omega
      have G := Lib.hid (gaussV u x w6)
      have HG6 := Lib.hid (only_trans' HG5.out hg6)
      have HO6 := Lib.hid (rows_keptR HO5.out hg6 hlt)
      have HR6 := Lib.hid hr6
      clear P8 hr6 hg6 HG5 HO5
      go_wp2_with fail
      refine G.out.mono ?_; rintro e w7 ⟨rfl, hb7⟩
      have HG7 := Lib.hid (only_trans' HG6.out (only_below hb7 (some R)))
      have HO7 := Lib.hid (rows_keptR HO6.out (only_below hb7 (some R)) hlt)
      have HR7 := Lib.hid (HR6.out.below hb7)
      generalize dn (gau u x) = a at *
      clear G HG6 HO6 HR6 hb7
      go_wp2_with (first | (refine one8 tyY rfl rfl rfl ?_) |
        (refine append_drawnL tyY rfl rfl (xs := xs) (ys := [a]) rfl rfl (World.ownsRow.alloc HO7.out _) (lit8 _ _ _) (by simp; omega) (only_alloc HG7.out _) (HR7.out.alloc _) hlt ?_; intro v8 w8 ho8 hr8 hg8))
      have HO8 := Lib.hid ho8
      have HR8 := Lib.hid hr8
      have HG8 := Lib.hid hg8
      clear ho8 hr8 hg8 HG7 HO7 HR7
      go_wp2
      go_roundw
      case rel => exact ⟨k + 1, xs ++ [a], q + 1 + 1, by omega, by go_num, by simp; omega, by omega, HR8.out, HG8.out, HO8.out⟩
      case measure => simp [intOf]; omega
    · have hkz : ¬ (k : Int) < (mm : Int) := by omega
      have P9 := Lib.hid (pick_any R q 24 wr hr (by omega) (by omega))
      have hxl : xs.length ≤ 7 := by omega
      have hx1 : 1 ≤ xs.length := by omega
      have HG := Lib.hid hg
      have HO := Lib.hid ho
      clear hr hg ho hlen
      go_wp2_with fail
      refine P9.out.mono ?_; rintro e w5 ⟨s, rfl, s0, s1, hr5, hg5⟩
      have HG5 := Lib.hid (only_trans' HG.out hg5)
      have HO5 := Lib.hid (rows_keptR HO.out hg5 hlt)
      have HR5 := Lib.hid hr5
      clear P9 hr5 hg5 HG HO
      by_cases e0 : s = 0
      · subst e0
        have HE := Lib.hid (ownL_reads (show OwnL encV 8 _ _ _ _ ([] : List V) from ownL_nilB w5 w.heap.size 40 HG5.out.size))
        have HG6 := Lib.hid (only_alloc HG5.out (.cells #[] 40))
        have HR6 := Lib.hid (HR5.out.alloc (.cells #[] 40))
        clear HO5 HG5 HR5
        go_wp2
        go_ret
        exact ⟨_, [], q + 1, rfl, by omega, by simp, HR6.out, HG6.out, HE.out⟩
      · have e0' : (s == 0) = false := by simpa using e0
        by_cases e1 : s = 1
        · subst e1
          clear e0 e0'
          cases xs with
          | nil => simp at hx1
          | cons c cs =>
          have ho := HO5.out
          have h2 := ho.2
          rcases h2 with ⟨rfl, h0⟩ | ⟨g, cap, cur, rfl, _⟩
          · simp at h0
          obtain ⟨old, hold⟩ : ∃ old, (flt encV (c :: cs))[3]? = some old := ⟨.int .i64 (c.up 3), rfl⟩
          have hcell : w5.cell? ⟨g, 3, none⟩ = some old := by rw [ho.cellAt 3 (by simp; omega), hold]
          have hfr := ho.frozenAt 3
          obtain ⟨h1, h2⟩ := ho.stored 3 (.int .i64 101)
          rw [set_flt] at h1
          have hl0 : (0 : Int) < ((c :: cs).length : Int) := by simp
          have H1 := Lib.hid (ownL_reads (en := encV) (xs := setV c 101 :: cs) h1)
          have H2 := Lib.hid (only_own (B := 0) HG5.out h2 fun k hk => (ho.lt k hk).1)
          have H3 := Lib.hid (HR5.out.keep h2 fun k hk => by have := (ho.lt k hk).1; omega)
          clear h1 h2 ho hold HO5 HG5 HR5
          go_wp2
          go_ret
          exact ⟨_, setV c 101 :: cs, q + 1, rfl, by omega, by simp at hxl ⊢; omega, H3.out, H2.out, H1.out⟩
        · have e1' : (s == 1) = false := by simpa using e1
          by_cases e2 : s = 2
          · subst e2
            have C := Lib.hid (cycV_drawn R (q + 1) w5 HR5.out (by omega))
            clear e0 e0' e1 e1' HR5
            go_wp2_with fail
            refine C.out.mono ?_; rintro e w6 ⟨a, q3, rfl, hq3, hr6, hg6⟩
            have HG6 := Lib.hid (only_trans' HG5.out hg6)
            have HO6 := Lib.hid (rows_keptR HO5.out hg6 hlt)
            have HR6 := Lib.hid hr6
            clear C hr6 hg6 HG5 HO5
            go_wp2_with (first | (refine one8 tyY rfl rfl rfl ?_) |
              (refine append_drawnL tyY rfl rfl (xs := xs) (ys := [a]) rfl rfl (World.ownsRow.alloc HO6.out _) (lit8 _ _ _) (by simp; omega) (only_alloc HG6.out _) (HR6.out.alloc _) hlt ?_; intro v8 w8 ho8 hr8 hg8))
            go_ret
            exact ⟨v8, xs ++ [a], q3, rfl, by omega, by simp; omega, hr8, hg8, ownL_reads ho8⟩
          · have e2' : (s == 2) = false := by simpa using e2
            have HE := Lib.hid (ownL_reads HO5.out)
            clear HO5
            go_wp2
            go_ret
            exact ⟨_, xs, q + 1, rfl, by omega, by omega, HR5.out, HG5.out, HE.out⟩

end Go.Proofs.YtdpakhggpgdgbaaGreat
/- Out of the text PolyDrawB: what the draws of polygons need. -/
namespace Go.Proofs.YtdpakhggpgdgbaaGreat
set_option maxRecDepth 20000
open Go.ChangeShapes Go.WideShapes Go.ChangeAt Go.RowKit
set_option linter.unusedVariables false
set_option linter.unusedSimpArgs false
theorem own_lower {w : World} {B C T n K : Nat} {v : Value} {cs : List Value} (h : w.ownsRow C T K v n cs) (hB : B ≤ C) : w.ownsRow B T K v n cs := by
  refine ⟨h.1, ?_⟩
  rcases h.2 with h0 | ⟨g, cap, cur, e, hC, rest⟩
  · exact .inl h0
  · exact .inr ⟨g, cap, cur, e, Nat.le_trans hB hC, rest⟩
/-- A polygon drawn off a reader. -/
def DrewO (w : World) (R p c : Nat) (e : Ending) (w' : World) : Prop :=
  ∃ (v : Value) (xs : List V) (q : Nat), e = .returned v ∧ q ≤ p + c ∧ xs.length ≤ 48 ∧ Rd w' R q ∧ w.grownBy w' (some R) ∧ OwnL encV 8 w' w.heap.size 40 v xs

set_option maxHeartbeats 4000000 in
theorem poly_owned (R p : Nat) (w : World) (h : Rd w R p) (hp : p ≤ 500000) :
    Calls Tryz.prog 16 #[.pointer (some ⟨R, 0, none⟩)] w (DrewO w R p 600) := by
  have hlt := h.lt
  have P1 := Lib.hid (pick_any R p 6 _ (h.alloc (.cells sixCells 3)) (by omega) (by omega))
  clear h
  go_enter Tryz.func16, Tryz.ntmps16
  go_wp2_with fail
  refine P1.out.mono ?_; rintro e w1 ⟨k, rfl, k0, k1, hr1, hg1⟩
  obtain ⟨j, rfl⟩ : ∃ j : Nat, k = j := ⟨k.toNat, by omega⟩
  obtain ⟨d, hd⟩ := six_at j (by omega)
  have hcell : w1.cell? ⟨w.heap.size, j, none⟩ = some (.int .i64 d) := hg1.cell (a := ⟨w.heap.size, j, none⟩) ((World.cell?_alloc_at _ _ _ _ rfl).trans hd) (by simp; omega)
  have D := Lib.hid (design2_drawn R (p + 1) w1 hr1 (by omega))
  have HG := Lib.hid (only_trans' (World.grownBy_alloc w (.cells sixCells 3) (some R)) hg1)
  clear P1 hr1 hg1 hd
  go_wp2_with fail
  refine D.out.mono ?_; rintro e w2 ⟨v2, ws, q, rfl, hq, hr2, hg2, ho2⟩
  have HG2 := Lib.hid (only_trans' HG.out hg2)
  have RO := Lib.hid (specRowOf_any v2 d ws w2 ho2)
  have HR2 := Lib.hid hr2
  have h24 := rdO_short ws d
  clear D hcell hr2 hg2 ho2 HG
  generalize rdO ws d = o at *
  go_wp2_with fail
  refine RO.out.mono ?_; rintro e w3 ⟨hb3, v3, rfl, ho3⟩
  have HG3 := Lib.hid (only_trans' HG2.out (only_below hb3 (some R)))
  have HR3 := Lib.hid (HR2.out.below hb3)
  have HO3 := Lib.hid ho3
  have hle2 : w.heap.size ≤ w2.heap.size := HG2.out.size
  have hlt2 : R < w2.heap.size := Nat.lt_of_lt_of_le hlt HG2.out.size
  clear RO hb3 ho3 HG2 HR2
  go_upto_region 3 with fail
  go_cut [26] from 9 (fun s26 wx => ∃ (q : Nat) (b : Bool), s26 = .bool b ∧ q ≤ p + 205 ∧ Aside (Rd wx R q) ∧ Aside (w.grownBy wx (some R)) ∧ Aside (b = true → OwnL encV 8 wx w.heap.size 40 v3 (gotL o)))
  case first =>
    cases o with
    | none =>
      go_wp2
      go_meet
      case rel => exact ⟨q, false, rfl, by omega, HR3, HG3, fun e => by cases e⟩
    | some L =>
      have P2 := Lib.hid (pick_any R q 2 w3 HR3.out (by omega) (by omega))
      go_wp2_with fail
      refine P2.out.mono ?_; rintro e w4 ⟨k2, rfl, k20, k21, hr4, hg4⟩
      have HG4 := Lib.hid (only_trans' HG3.out hg4)
      have HR4 := Lib.hid hr4
      have HO4 := Lib.hid (own_lower (rows_keptR HO3.out hg4 hlt2) hle2)
      clear P2 hr4 hg4 HG3 HR3 HO3
      go_wp2
      go_meet
      case rel => exact ⟨q + 1, _, rfl, by omega, HR4, HG4, fun _ => HO4.out⟩
  case rest =>
  obtain ⟨q0, b, rfl, hq0, HRc, HGc, HOc⟩ := hcut
  clear HO3 HG3 HR3 hq
  cases b with
  | true =>
    have HO := Lib.hid (HOc.out rfl)
    clear HOc
    go_wp2
    go_ret
    exact ⟨v3, gotL o, q0, rfl, by omega, Nat.le_trans h24 (by omega), HRc.out, HGc.out, HO.out⟩
  | false =>
  clear HOc h24
  have hge := HGc.out.size
  have HRa := HRc.out.alloc (.cells #[] 40)
  have HGa := Lib.hid (only_alloc HGc.out (.cells #[] 40))
  have HOa := Lib.hid (ownL_nilB wc w.heap.size 40 hge)
  have P6 := Lib.hid (pick_any R q0 6 _ HRa (by omega) (by omega))
  clear HRa HRc HGc
  go_wp2_with fail
  refine P6.out.mono ?_; rintro e w4 ⟨k1, rfl, k10, k11, hr4, hg4⟩
  obtain ⟨mm, hmm⟩ : ∃ mm : Nat, 1 + k1 = (mm : Int) := ⟨(1 + k1).toNat, by omega⟩
  have wmm : IntKind.i64.wrap (mm : Int) = (mm : Int) := by rw [IntKind.wrap_i64]; omega
  have HR4 := Lib.hid hr4
  have HG4 := Lib.hid (only_trans' HGa.out hg4)
  have HO4 := Lib.hid (rows_keptR HOa.out hg4 hlt)
  clear P6 hr4 hg4 HGa HOa
  go_wp2
  go_loopw [6, 8] (fun s6 i wr => ∃ (k : Nat) (xs : List V) (q : Nat), k ≤ mm ∧ i = .int .i64 k ∧ xs.length = k ∧ q ≤ p + 206 + 2 * k ∧ Rd wr R q ∧ w.grownBy wr (some R) ∧ OwnL encV 8 wr w.heap.size 40 s6 xs) (fun _ i _ => mm - (intOf i).toNat)
  case atStart => exact ⟨0, [], q0 + 1, Nat.zero_le _, rfl, rfl, by omega, HR4.out, HG4.out, HO4.out⟩
  case round =>
    clear HR4 HG4 HO4
    obtain ⟨k, xs, q, hk, rfl, hlen, hq, hr, hg, ho⟩ := hrel
    by_cases hkm : k < mm
    · have hkz : (k : Int) < (mm : Int) := by omega
      have P7 := Lib.hid (pick_any R q 7 wr hr (by omega) (by omega))
      have HG := Lib.hid hg
      have HO := Lib.hid ho
      clear hr hg ho
      go_wp2_with fail
      refine P7.out.mono ?_; rintro e w5 ⟨s, rfl, s0, s1, hr5, hg5⟩
      obtain ⟨u, hu⟩ : ∃ u : Int, s - 3 = u := ⟨_, rfl⟩
      have wu : IntKind.i64.wrap u = u := by rw [IntKind.wrap_i64]; omega
      have P8 := Lib.hid (pick_any R (q + 1) 7 w5 hr5 (by omega) (by omega))
      have HG5 := Lib.hid (only_trans' HG.out hg5)
      have HO5 := Lib.hid (rows_keptR HO.out hg5 hlt)
      clear P7 hr5 hg5 HG HO
      go_wp2_with fail
      refine P8.out.mono ?_; rintro e w6 ⟨t, rfl, t0, t1, hr6, hg6⟩
      obtain ⟨x, hx⟩ : ∃ x : Int, t - 3 = x := ⟨_, rfl⟩
      have wx : IntKind.i64.wrap x = x := by rw [IntKind.wrap_i64]; omega
      have G := Lib.hid (gaussV u x w6)
      have HG6 := Lib.hid (only_trans' HG5.out hg6)
      have HO6 := Lib.hid (rows_keptR HO5.out hg6 hlt)
      have HR6 := Lib.hid hr6
      clear P8 hr6 hg6 HG5 HO5
      go_wp2_with fail
      refine G.out.mono ?_; rintro e w7 ⟨rfl, hb7⟩
      have HG7 := Lib.hid (only_trans' HG6.out (only_below hb7 (some R)))
      have HO7 := Lib.hid (rows_keptR HO6.out (only_below hb7 (some R)) hlt)
      have HR7 := Lib.hid (HR6.out.below hb7)
      generalize dn (gau u x) = a at *
      clear G HG6 HO6 HR6 hb7
      go_wp2_with (first | (refine one8 tyY rfl rfl rfl ?_) |
        (refine append_drawnL tyY rfl rfl (xs := xs) (ys := [a]) rfl rfl (World.ownsRow.alloc HO7.out _) (lit8 _ _ _) (by simp; omega) (only_alloc HG7.out _) (HR7.out.alloc _) hlt ?_; intro v8 w8 ho8 hr8 hg8))
      have HO8 := Lib.hid ho8
      have HR8 := Lib.hid hr8
      have HG8 := Lib.hid hg8
      clear ho8 hr8 hg8 HG7 HO7 HR7
      go_wp2
      go_roundw
      case rel => exact ⟨k + 1, xs ++ [a], q + 1 + 1, by omega, by go_num, by simp; omega, by omega, HR8.out, HG8.out, HO8.out⟩
      case measure => simp [intOf]; omega
    · have hkz : ¬ (k : Int) < (mm : Int) := by omega
      have P9 := Lib.hid (pick_any R q 24 wr hr (by omega) (by omega))
      have hxl : xs.length ≤ 7 := by omega
      have hx1 : 1 ≤ xs.length := by omega
      have HG := Lib.hid hg
      have HO := Lib.hid ho
      clear hr hg ho hlen
      go_wp2_with fail
      refine P9.out.mono ?_; rintro e w5 ⟨s, rfl, s0, s1, hr5, hg5⟩
      have HG5 := Lib.hid (only_trans' HG.out hg5)
      have HO5 := Lib.hid (rows_keptR HO.out hg5 hlt)
      have HR5 := Lib.hid hr5
      clear P9 hr5 hg5 HG HO
      by_cases e0 : s = 0
      · subst e0
        have HE := Lib.hid (show OwnL encV 8 _ _ _ _ ([] : List V) from ownL_nilB w5 w.heap.size 40 HG5.out.size)
        have HG6 := Lib.hid (only_alloc HG5.out (.cells #[] 40))
        have HR6 := Lib.hid (HR5.out.alloc (.cells #[] 40))
        clear HO5 HG5 HR5
        go_wp2
        go_ret
        exact ⟨_, [], q + 1, rfl, by omega, by simp, HR6.out, HG6.out, HE.out⟩
      · have e0' : (s == 0) = false := by simpa using e0
        by_cases e1 : s = 1
        · subst e1
          clear e0 e0'
          cases xs with
          | nil => simp at hx1
          | cons c cs =>
          have ho := HO5.out
          have h2 := ho.2
          rcases h2 with ⟨rfl, h0⟩ | ⟨g, cap, cur, rfl, _⟩
          · simp at h0
          obtain ⟨old, hold⟩ : ∃ old, (flt encV (c :: cs))[3]? = some old := ⟨.int .i64 (c.up 3), rfl⟩
          have hcell : w5.cell? ⟨g, 3, none⟩ = some old := by rw [ho.cellAt 3 (by simp; omega), hold]
          have hfr := ho.frozenAt 3
          obtain ⟨h1, h2⟩ := ho.stored 3 (.int .i64 101)
          rw [set_flt] at h1
          have hl0 : (0 : Int) < ((c :: cs).length : Int) := by simp
          have H1 := Lib.hid (show OwnL encV 8 _ _ _ _ (setV c 101 :: cs) from h1)
          have H2 := Lib.hid (only_own (B := 0) HG5.out h2 fun k hk => (ho.lt k hk).1)
          have H3 := Lib.hid (HR5.out.keep h2 fun k hk => by have := (ho.lt k hk).1; omega)
          clear h1 h2 ho hold HO5 HG5 HR5
          go_wp2
          go_ret
          exact ⟨_, setV c 101 :: cs, q + 1, rfl, by omega, by simp at hxl ⊢; omega, H3.out, H2.out, H1.out⟩
        · have e1' : (s == 1) = false := by simpa using e1
          by_cases e2 : s = 2
          · subst e2
            have C := Lib.hid (cycV_drawn R (q + 1) w5 HR5.out (by omega))
            clear e0 e0' e1 e1' HR5
            go_wp2_with fail
            refine C.out.mono ?_; rintro e w6 ⟨a, q3, rfl, hq3, hr6, hg6⟩
            have HG6 := Lib.hid (only_trans' HG5.out hg6)
            have HO6 := Lib.hid (rows_keptR HO5.out hg6 hlt)
            have HR6 := Lib.hid hr6
            clear C hr6 hg6 HG5 HO5
            go_wp2_with (first | (refine one8 tyY rfl rfl rfl ?_) |
              (refine append_drawnL tyY rfl rfl (xs := xs) (ys := [a]) rfl rfl (World.ownsRow.alloc HO6.out _) (lit8 _ _ _) (by simp; omega) (only_alloc HG6.out _) (HR6.out.alloc _) hlt ?_; intro v8 w8 ho8 hr8 hg8))
            go_ret
            exact ⟨v8, xs ++ [a], q3, rfl, by omega, by simp; omega, hr8, hg8, ho8⟩
          · have e2' : (s == 2) = false := by simpa using e2
            have HE := Lib.hid HO5.out
            clear HO5
            go_wp2
            go_ret
            exact ⟨_, xs, q + 1, rfl, by omega, by omega, HR5.out, HG5.out, HE.out⟩

end Go.Proofs.YtdpakhggpgdgbaaGreat
/- Out of the text PolyAround: what the draws of polygons need. -/
namespace Go.Proofs.YtdpakhggpgdgbaaGreat
set_option maxRecDepth 20000
open Go.ChangeShapes Go.WideShapes Go.ChangeAt Go.RowKit
set_option linter.unusedVariables false
set_option linter.unusedSimpArgs false
/-- What a function hands back: a register and a row. -/
theorem results_tmp_row {P : Program} {fn : Func} {p q : Tmp} {ty : TypeId} {tmps : Array Value} {w : World} {g n : Nat} {T : TypeId} {f : Nat → Int} {d : TypeDesc} (h : fn.results = #[.tmp q, .cell p ty]) (hp : tmps.getD p undef = .pointer (some ⟨g, 0, none⟩)) (hg : RowAt w g n T f) (hu : P.underlying ty = some d)
    (hd : (match d with | .struct _ | .array _ _ => true | _ => false) = true) (hi : (P.info? ty).map (·.size) = some n) : (results fn tmps).run P w = .ok (.tuple #[tmps.getD q undef, .agg (vec n f)]) w := by
  have hp' : tmps[p]?.getD undef = .pointer (some ⟨g, 0, none⟩) := by simpa using hp
  simp [results, h, hp', asAddr, run_row hg hu hd hi, Sem.run_bind]
/-- A list stays where another block is written. -/
theorem own_setRow {w : World} {B T n K g : Nat} {v : Value} {cs : List Value} (h : w.ownsRow B T K v n cs) (hg : g < B) (xs : Array Value) : (w.setRow g xs).ownsRow B T K v n cs := by
  refine ⟨h.1, ?_⟩
  rcases h.2 with h0 | ⟨g', cap, cur, e, hB, hh, rest⟩
  · exact .inl h0
  · exact .inr ⟨g', cap, cur, e, hB, (setRow_other _ _ _ _ (by omega)).trans hh, rest⟩
theorem own_shapeB {w : World} {B T : Nat} {v : Value} {xs : List V} (h : OwnL encV 8 w B T v xs) (h1 : 1 ≤ xs.length) : ∃ g cap, v = .slice (some ⟨g, 0, none⟩) xs.length cap ∧ B ≤ g ∧ g < w.heap.size ∧ w.rangeAt g 0 (flt encV xs) := by
  obtain ⟨p, cap, e, h2, h3, h4, h5⟩ := ownL_reads h
  rcases h.2 with ⟨rfl, h0⟩ | ⟨g, cap2, cur, rfl, hB, hg, rest⟩
  · simp only [Value.slice.injEq] at e
    omega
  · simp only [Value.slice.injEq] at e
    obtain ⟨rfl, -, rfl⟩ := e
    obtain ⟨g', o', e2, hlt, hr⟩ := h5 (by simp)
    simp only [Option.some.injEq, Addr.mk.injEq, and_true] at e2
    obtain ⟨rfl, rfl⟩ := e2
    exact ⟨_, _, rfl, hB, hlt, hr⟩
/-- A polygon and a point out of a code. -/
def DrewPP (w : World) (e : Ending) (w' : World) : Prop := ∃ (v : Value) (xs : List V) (c : V), e = .returned (.tuple #[v, pt c.up]) ∧ xs.length ≤ 48 ∧ OwnL encV 8 w' w.heap.size 40 v xs ∧ Below w.heap.size w w'

set_option maxHeartbeats 4000000 in
theorem around_drawn (v : Value) (w : World) (hc : CodeAt w v) : Calls Tryz.prog 32 #[v] w (DrewPP w) := by
  have hQ : RowAt (w.alloc (.cells (vec 8 nul) 40)) w.heap.size 8 40 nul := RowAt.newAt rfl rfl
  have hL : Below w.heap.size w (w.alloc (.cells (vec 8 nul) 40)) := (Below.refl _ _).alloc (Nat.le_refl _) _
  have hz : w.heap.size < (w.alloc (.cells (vec 8 nul) 40)).heap.size := by simp
  have hv := hc.alloc (.cells (vec 8 nul) 40)
  go_enter Tryz.func32, Tryz.ntmps32
  go_upto_region 1 with fail
  show Code.wp _ _ _ _ (w.alloc (.cells (vec 8 nul) 40))
  generalize w.alloc (.cells (vec 8 nul) 40) = W at *
  have O := Lib.hid (open_any v W hv)
  clear hc hv
  go_wp2_with fail
  refine O.out.mono ?_; rintro e w1 ⟨rfl, hr, hb⟩
  have hQ := hQ.below hb
  have hL := below_next hL hb
  have D := Lib.hid (poly_owned _ _ w1 hr (by omega))
  have z1 := hr.lt
  have z0 := hb.size
  clear O hr hb
  generalize W.heap.size = R at *
  go_wp2_with fail
  refine D.out.mono ?_; rintro e w2 ⟨v2, xs, q, rfl, hq, hl, hr2, hg2, ho2⟩
  have hQ := hQ.only hg2 (by omega)
  have hL := below_only hL hg2 hL.size (by omega)
  clear D
  obtain ⟨p, cc, rfl⟩ : ∃ p cc, v2 = .slice p xs.length cc := by obtain ⟨p, cc, e, -⟩ := ownL_reads ho2; exact ⟨p, cc, e⟩
  have P6 := Lib.hid (pick_any R q 6 w2 hr2 (by omega) (by omega))
  have HQ2 := Lib.hid hQ; have HL2 := Lib.hid hL; have HO2 := Lib.hid ho2; have HR2 := Lib.hid hr2
  have hle2 : w1.heap.size ≤ w2.heap.size := hg2.size
  clear hQ hL ho2 hr2 hg2
  go_upto_region 3 with fail
  go_cut [17] from 6 (fun s17 wx => ∃ (q : Nat) (b : Bool), s17 = .bool b ∧ q ≤ 700 ∧ (b = true → 1 ≤ xs.length) ∧ Aside (Rd wx R q) ∧ Aside (OwnL encV 8 wx w1.heap.size 40 (.slice p xs.length cc) xs) ∧ Aside (RowAt wx w.heap.size 8 40 nul) ∧ Aside (Below w.heap.size w wx))
  case first =>
    by_cases hn : 0 < xs.length
    · have hnz : (0 : Int) < (xs.length : Int) := by omega
      have hne : ¬ xs = [] := by intro e; rw [e] at hn; simp at hn
      go_wp2_with fail
      refine P6.out.mono ?_; rintro e w3 ⟨k, rfl, k0, k1, hr3, hg3⟩
      have HR3 := Lib.hid hr3
      have HO3 := Lib.hid (rows_keptR HO2.out hg3 z1)
      have HQ3 := Lib.hid (HQ2.out.only hg3 (by omega))
      have HL3 := Lib.hid (below_only HL2.out hg3 HL2.out.size (by omega))
      clear P6 hr3 hg3 HR2 HO2 HQ2 HL2
      go_wp2
      go_meet
      case rel => exact ⟨q + 1, _, rfl, by omega, fun _ => hn, HR3, HO3, HQ3, HL3⟩
    · have he : xs = [] := List.length_eq_zero_iff.1 (by omega)
      subst he
      go_wp2
      go_meet
      case rel => exact ⟨q, false, rfl, by omega, fun e => (by cases e), HR2, HO2, HQ2, HL2⟩
  case rest =>
  clear P6 HQ2 HL2 HO2 HR2
  obtain ⟨q0, b, rfl, hq0, hb1, HR, HO, HQ, HL⟩ := hcut
  cases b with
  | true =>
    have hn := hb1 rfl
    have hnz : (0 : Int) < (xs.length : Int) := by omega
    obtain ⟨g, cap, e, hgB, hglt, hra⟩ := own_shapeB HO.out hn
    simp only [Value.slice.injEq, true_and] at e
    obtain ⟨rfl, rfl⟩ := e
    have hzz := HL.out.size
    have P4 := Lib.hid (pick_any R q0 xs.length wc.drew HR.out (by omega) (by omega))
    have HOd := Lib.hid (rows_below HO.out (Below.refl _ _).drew)
    have HQd := Lib.hid HQ.out.drew1
    have HLd := Lib.hid HL.out.drew
    have hrd : wc.drew.rangeAt g 0 (flt encV xs) := range_kept8 hra hglt (Below.refl _ _).drew
    have hsz : wc.drew.heap.size = wc.heap.size := rfl
    clear hra HO HQ HL HR hb1
    go_upto_region 4 with fail
    refine wp_region_held_drew (S := fun w' => w'.rangeAt g 0 (flt encV xs)) (by kernel_rfl) hrd (fun hHeld => ?_)
    clear hrd
    refine wpAnyH_take (i := 0) (oi := _) (v := .slice (some ⟨g, 0, none⟩) xs.length cc) rfl (by kernel_rfl) (by kernel_rfl) (by kernel_rfl) (fun _ _ _ h => h) (Or.inl ⟨by rfl, fun w h => by go_simp⟩) hHeld ?_
    try simp only [Act.put, List.setIfInBounds_toArray, List.set_cons_zero, List.set_cons_succ, List.getElem_toArray, List.getElem_cons_succ, List.getElem_cons_zero]
    refine wpAnyH_take (i := 1) (oi := _) (v := .slice (some ⟨g, 0, none⟩) xs.length cc) rfl (by kernel_rfl) (by kernel_rfl) (by kernel_rfl) (fun _ _ _ h => h) (Or.inl ⟨by rfl, fun w h => by go_simp⟩) hHeld ?_
    try simp only [Act.put, List.setIfInBounds_toArray, List.set_cons_zero, List.set_cons_succ, List.getElem_toArray, List.getElem_cons_succ, List.getElem_cons_zero]
    refine wpAnyH_take (i := 2) (oi := _) (v := .pointer (some ⟨R, 0, none⟩)) rfl (by kernel_rfl) (by kernel_rfl) (by kernel_rfl) (fun _ _ _ h => h) (Or.inl ⟨by rfl, fun w h => by go_simp⟩) hHeld ?_
    try simp only [Act.put, List.setIfInBounds_toArray, List.set_cons_zero, List.set_cons_succ, List.getElem_toArray, List.getElem_cons_succ, List.getElem_cons_zero]
    refine wpAnyH_take (i := 3) (oi := _) (v := .slice (some ⟨g, 0, none⟩) xs.length cc) rfl (by kernel_rfl) (by kernel_rfl) (by kernel_rfl) (fun _ _ _ h => h) (Or.inl ⟨by rfl, fun w h => by go_simp⟩) hHeld ?_
    try simp only [Act.put, List.setIfInBounds_toArray, List.set_cons_zero, List.set_cons_succ, List.getElem_toArray, List.getElem_cons_succ, List.getElem_cons_zero]
    refine wpAnyH_take (i := 4) (oi := _) (v := .int .i64 xs.length) rfl (by kernel_rfl) (by kernel_rfl) (by kernel_rfl) (fun _ _ _ h => h) (Or.inl ⟨by rfl, fun w h => by go_simp⟩) hHeld ?_
    try simp only [Act.put, List.setIfInBounds_toArray, List.set_cons_zero, List.set_cons_succ, List.getElem_toArray, List.getElem_cons_succ, List.getElem_cons_zero]
    refine wpAnyH_ready (rs := [5]) (by kernel_rfl) (by simp) ?_
    refine AllReadyH.cons (o := _) rfl (fun K hK => ?_) AllReadyH.nil
    go_simp
    refine P4.out.mono ?_; rintro e w4 ⟨k, rfl, k0, k1, hr4, hg4⟩
    obtain ⟨j, rfl⟩ : ∃ j : Nat, k = j := ⟨k.toNat, by omega⟩
    have hj : j < xs.length := by omega
    obtain ⟨a, hat⟩ : ∃ a, xs[j]? = some a := ⟨_, List.getElem?_eq_getElem hj⟩
    have hjz : (j : Int) < (xs.length : Int) := by omega
    have hO4 := rows_keptR HOd.out hg4 z1
    have hQ4 := HQd.out.only hg4 (by omega)
    have hL4 := below_only HLd.out hg4 (by rw [hsz]; exact hzz) (by omega)
    have hra4 : w4.rangeAt g 0 (flt encV xs) := fun i u hu => hg4.cell (hHeld i u hu) (by simp; omega)
    clear P4 HOd HQd HLd hg4 hr4 hHeld
    go_wp2_with fail
    refine hK.out _ _ hra4 (fun hHeld => ?_)
    clear hK K
    try simp only [Act.put, List.setIfInBounds_toArray, List.set_cons_zero, List.set_cons_succ, List.getElem_toArray, List.getElem_cons_succ, List.getElem_cons_zero]
    clear hra4
    refine wpAnyH_take (i := 8) (oi := _) (v := .slice (some ⟨g, 0, none⟩) xs.length cc) rfl (by kernel_rfl) (by kernel_rfl) (by kernel_rfl) (fun _ _ _ h => h) (Or.inl ⟨by rfl, fun w h => by go_simp⟩) hHeld ?_
    try simp only [Act.put, List.setIfInBounds_toArray, List.set_cons_zero, List.set_cons_succ, List.getElem_toArray, List.getElem_cons_succ, List.getElem_cons_zero]
    refine wpAnyH_take (i := 6) (oi := _) (v := .pointer (some ⟨g, j * 8, none⟩)) rfl (by kernel_rfl) (by kernel_rfl) (by kernel_rfl) (fun _ _ _ h => h) (Or.inl ⟨by rfl, fun w h => by go_simp⟩) hHeld ?_
    try simp only [Act.put, List.setIfInBounds_toArray, List.set_cons_zero, List.set_cons_succ, List.getElem_toArray, List.getElem_cons_succ, List.getElem_cons_zero]
    refine wpAnyH_take (i := 7) (oi := _) (v := .agg (vec 8 a.up)) rfl (by kernel_rfl) (by kernel_rfl) (by kernel_rfl) (fun _ _ _ h => h) (yieldsIf_load_mid (by rfl) _ _ rfl _ _ rfl _ _ ((fun w h => by have := cells_part encV_ok h hat; rwa [Nat.zero_add] at this)) Tryz.underlying40 rfl (size_cyc a.up)) hHeld ?_
    try simp only [Act.put, List.setIfInBounds_toArray, List.set_cons_zero, List.set_cons_succ, List.getElem_toArray, List.getElem_cons_succ, List.getElem_cons_zero]
    refine wpAnyH_ready (rs := [9]) (by kernel_rfl) (by simp) ?_
    refine AllReadyH.cons (o := _) rfl (fun K hK => ?_) AllReadyH.nil
    rw [if_pos (by rfl)]
    refine store_step (f' := a.up) rfl rfl rfl hQ4 info_cyc ?_
    have hO5 := own_setRow hO4 (g := w.heap.size) (by omega) (vec 8 a.up)
    have hQ5 := hQ4.setRow (f' := a.up)
    have hL5 := below_setRow hL4 (g := w.heap.size) (Nat.le_refl _) (vec 8 a.up)
    have hgne : g ≠ w.heap.size := by omega
    have hra5 : (w4.setRow w.heap.size (vec 8 a.up)).rangeAt g 0 (flt encV xs) := fun i u hu => (World.cell?_of_block (setRow_other _ _ _ _ hgne)).trans (hHeld i u hu)
    refine hK.out _ _ hra5 (fun hHeld => ?_)
    clear hK K
    try simp only [Act.put, List.setIfInBounds_toArray, List.set_cons_zero, List.set_cons_succ, List.getElem_toArray, List.getElem_cons_succ, List.getElem_cons_zero]
    clear hra5
    refine wpAnyH_done (by kernel_rfl) ?_ _
    go_wp2_with fail
    refine bodyPost_ret (results_tmp_row rfl rfl hQ5 Tryz.underlying40 rfl info_cyc) rfl ?_
    exact ⟨_, xs, a, rfl, hl, own_lower hO5 (by omega), hL5⟩
  | false =>
    clear hb1
    have P2 := Lib.hid (pick_any R q0 2 wc HR.out (by omega) (by omega))
    have hzz := HL.out.size
    clear HR
    go_wp2_with fail
    refine P2.out.mono ?_; rintro e w3 ⟨k, rfl, k0, k1, hr3, hg3⟩
    have HO3 := Lib.hid (rows_keptR HO.out hg3 z1)
    have HQ3 := Lib.hid (HQ.out.only hg3 (by omega))
    have HL3 := Lib.hid (below_only HL.out hg3 hzz (by omega))
    have hz3 := HL3.out.size
    clear P2 hg3 HO HQ HL
    by_cases e0 : k = 0
    · subst e0
      have P5 := Lib.hid (pick_any R (q0 + 1) 5 w3 hr3 (by omega) (by omega))
      clear hr3
      go_wp2_with fail
      refine P5.out.mono ?_; rintro e w4 ⟨k2, rfl, k20, k21, hr4, hg4⟩
      obtain ⟨u, hu⟩ : ∃ u : Int, k2 - 2 = u := ⟨_, rfl⟩
      have wu : IntKind.i64.wrap u = u := by rw [IntKind.wrap_i64]; omega
      have P7 := Lib.hid (pick_any R (q0 + 1 + 1) 5 w4 hr4 (by omega) (by omega))
      have HO4 := Lib.hid (rows_keptR HO3.out hg4 z1)
      have HQ4 := Lib.hid (HQ3.out.only hg4 (by omega))
      have HL4 := Lib.hid (below_only HL3.out hg4 hz3 (by omega))
      have hz4 := HL4.out.size
      clear P5 hr4 hg4 HO3 HQ3 HL3
      go_wp2_with fail
      refine P7.out.mono ?_; rintro e w5 ⟨k3, rfl, k30, k31, hr5, hg5⟩
      obtain ⟨x, hx⟩ : ∃ x : Int, k3 - 2 = x := ⟨_, rfl⟩
      have wx : IntKind.i64.wrap x = x := by rw [IntKind.wrap_i64]; omega
      have G := Lib.hid (gaussV u x w5)
      have HO5 := Lib.hid (rows_keptR HO4.out hg5 z1)
      have HQ5 := Lib.hid (HQ4.out.only hg5 (by omega))
      have HL5 := Lib.hid (below_only HL4.out hg5 hz4 (by omega))
      clear P7 hr5 hg5 HO4 HQ4 HL4
      go_wp2_with fail
      refine G.out.mono ?_; rintro e w6 ⟨rfl, hb6⟩
      have hO6 := rows_below HO5.out hb6
      have hQ6 := HQ5.out.below hb6
      have hL6 := below_next HL5.out hb6
      generalize dn (gau u x) = a at *
      clear G HO5 HQ5 HL5 hb6
      go_wp2_with (refine store_row (g := w.heap.size) rfl rfl rfl rfl hQ6 info_cyc ?_)
      refine bodyPost_ret (results_tmp_row rfl rfl (hQ6.setRow (f' := a.up)) Tryz.underlying40 rfl info_cyc) rfl ?_
      exact ⟨_, xs, a, rfl, hl, own_lower (own_setRow hO6 (g := w.heap.size) (by omega) _) (by omega), below_setRow hL6 (g := w.heap.size) (Nat.le_refl _) _⟩
    · have e0' : (k == 0) = false := by simpa using e0
      have C := Lib.hid (cycV_drawn R (q0 + 1) w3 hr3 (by omega))
      clear hr3
      go_wp2_with fail
      refine C.out.mono ?_; rintro e w4 ⟨a, q3, rfl, hq3, hr4, hg4⟩
      have hO6 := rows_keptR HO3.out hg4 z1
      have hQ6 := HQ3.out.only hg4 (by omega)
      have hL6 := below_only HL3.out hg4 hz3 (by omega)
      clear C hr4 hg4 HO3 HQ3 HL3
      go_wp2_with (refine store_row (g := w.heap.size) rfl rfl rfl rfl hQ6 info_cyc ?_)
      refine bodyPost_ret (results_tmp_row rfl rfl (hQ6.setRow (f' := a.up)) Tryz.underlying40 rfl info_cyc) rfl ?_
      exact ⟨_, xs, a, rfl, hl, own_lower (own_setRow hO6 (g := w.heap.size) (by omega) _) (by omega), below_setRow hL6 (g := w.heap.size) (Nat.le_refl _) _⟩

end Go.Proofs.YtdpakhggpgdgbaaGreat
