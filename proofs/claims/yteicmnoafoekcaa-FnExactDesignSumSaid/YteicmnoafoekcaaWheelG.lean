/-
  impl: circles told, changed, joined; what is 0 left out.
-/
import Derived.Test.YteicmnoafoekcaaWheelF
namespace Go.Proofs.Yteicmnoafoekcaa
set_option maxRecDepth 20000
open Go.ChangeShapes Go.WideShapes Go.ChangeAt Go.RowKit
set_option linter.unusedVariables false
set_option linter.unusedSimpArgs false

/-! Storing into a list that the call owns. -/
def setL (xs : List Value) : Nat → List Value → List Value
  | _, [] => xs
  | o, v :: vs => setL (xs.set o v) (o + 1) vs
theorem setL_at : ∀ (vs xs : List Value) (o j : Nat), o + vs.length ≤ xs.length → (setL xs o vs)[j]? = if o ≤ j ∧ j < o + vs.length then vs[j - o]? else xs[j]?
  | [], xs, o, j, h => by
    simp only [setL, List.length_nil, Nat.add_zero]
    rw [if_neg (by omega)]
  | v :: vs, xs, o, j, h => by
    simp only [List.length_cons] at h
    unfold setL
    rw [setL_at vs (xs.set o v) (o + 1) j (by simp; omega), List.length_cons]
    by_cases h1 : o + 1 ≤ j ∧ j < o + 1 + vs.length
    · rw [if_pos h1, if_pos (by omega), show j - o = (j - (o + 1)) + 1 from by omega, List.getElem?_cons_succ]
    · rw [if_neg h1]
      by_cases h2 : j = o
      · subst h2
        rw [if_pos (by omega), Nat.sub_self, List.getElem?_cons_zero, List.getElem?_set_self (by omega)]
      · rw [if_neg (by omega), List.getElem?_set_ne (by omega)]
theorem setL_length : ∀ (vs xs : List Value) (o : Nat), (setL xs o vs).length = xs.length
  | [], _, _ => rfl
  | v :: vs, xs, o => by unfold setL; rw [setL_length vs, List.length_set]
theorem own_cells {B T g n cap : Nat} : ∀ (vs xs : List Value) (o : Nat) (w : World), w.ownsRow B T 9 (.slice (some ⟨g, 0, none⟩) n cap) n xs → (w.setCells g o vs).ownsRow B T 9 (.slice (some ⟨g, 0, none⟩) n cap) n (setL xs o vs)
  | [], _, _, _, h => h
  | v :: vs, xs, o, w, h => own_cells vs _ (o + 1) _ (h.stored o v).1
theorem flat_set {ws : List Wh} {k : Nat} {c c' : Wh} (hc : ws[k]? = some c) : setL (flat ws) (k * 9) (enc c') = flat (ws.set k c') := by
  have hk : k < ws.length := by
    rcases Nat.lt_or_ge k ws.length with h | h
    · exact h
    · rw [List.getElem?_eq_none h] at hc; cases hc
  apply List.ext_getElem?
  intro j
  rw [setL_at _ _ _ _ (by rw [enc_length, flat_length]; omega), enc_length]
  by_cases hj : j < ws.length * 9
  · have hi : j / 9 < ws.length := by omega
    have e1 := flat_at (List.getElem?_eq_getElem hi) (j % 9) (by omega)
    have hi2 : j / 9 < (ws.set k c').length := by simpa using hi
    have e2 := flat_at (List.getElem?_eq_getElem hi2) (j % 9) (by omega)
    rw [show j / 9 * 9 + j % 9 = j from by omega] at e1 e2
    rw [e2]
    by_cases h : k * 9 ≤ j ∧ j < k * 9 + 9
    · rw [if_pos h]
      have hq : j / 9 = k := by omega
      have hr : j - k * 9 = j % 9 := by omega
      simp only [hq, hr, List.getElem_set_self]
    · rw [if_neg h, e1]
      have hq : k ≠ j / 9 := by omega
      simp only [List.getElem_set_ne hq]
  · rw [if_neg (by omega), List.getElem?_eq_none (by rw [flat_length]; omega), List.getElem?_eq_none (by rw [flat_length, List.length_set]; omega)]
theorem flat_setR {ws : List Wh} {k : Nat} {c : Wh} (r : V) (hc : ws[k]? = some c) : setL (flat ws) (k * 9 + 1) (lst 8 r.up) = flat (ws.set k ⟨c.s, r⟩) := by
  rw [← flat_set hc]
  have hk : k < ws.length := by
    rcases Nat.lt_or_ge k ws.length with h | h
    · exact h
    · rw [List.getElem?_eq_none h] at hc; cases hc
  apply List.ext_getElem?
  intro j
  rw [setL_at _ _ _ _ (by rw [lst_length, flat_length]; omega), setL_at _ _ _ _ (by rw [enc_length, flat_length]; omega), enc_length, lst_length]
  by_cases h : k * 9 ≤ j ∧ j < k * 9 + 9
  · rw [if_pos h]
    by_cases h0 : j = k * 9
    · subst h0
      rw [if_neg (by omega), Nat.sub_self]
      have := flat_at hc 0 (by omega)
      rw [Nat.add_zero] at this
      rw [this, enc_at c 0 (by omega), enc_at _ 0 (by omega)]; rfl
    · rw [if_pos (by omega)]
      obtain ⟨q, rfl⟩ : ∃ q, j = k * 9 + 1 + q := ⟨j - (k * 9 + 1), by omega⟩
      rw [show k * 9 + 1 + q - k * 9 = 1 + q from by omega, Nat.add_sub_cancel_left, enc_at _ (1 + q) (by omega)]
      simp [lst, wf, show q < 8 from by omega]
  · rw [if_neg h, if_neg (by omega)]
/-- A radius put in place of another, in a list that the call owns. -/
theorem own_radius {w : World} {B T g cap : Nat} {ws : List Wh} {k : Nat} {c : Wh} (r : V) (h : Own w B T (.slice (some ⟨g, 0, none⟩) ws.length cap) ws) (hc : ws[k]? = some c) :
    (w.setCells g (k * 9 + 1) (lst 8 r.up)).ownsRow B T 9 (.slice (some ⟨g, 0, none⟩) ws.length cap) ws.length (flat (ws.set k ⟨c.s, r⟩)) := by
  rw [← flat_setR r hc]; exact own_cells _ _ _ _ h
/-- A wheel put in place of another. -/
theorem own_wheel {w : World} {B T g cap : Nat} {ws : List Wh} {k : Nat} {c : Wh} (c' : Wh) (h : Own w B T (.slice (some ⟨g, 0, none⟩) ws.length cap) ws) (hc : ws[k]? = some c) :
    (w.setCells g (k * 9) (enc c')).ownsRow B T 9 (.slice (some ⟨g, 0, none⟩) ws.length cap) ws.length (flat (ws.set k c')) := by
  rw [← flat_set hc]; exact own_cells _ _ _ _ h
theorem own_there {w : World} {B T g cap : Nat} {ws : List Wh} {k o n : Nat} (h : Own w B T (.slice (some ⟨g, 0, none⟩) ws.length cap) ws) (hk : k < ws.length) (ho : o + n ≤ 9) : w.there g (k * 9 + o) n := fun j hj => by
  have h1 := h.cellAt (k * 9 + o + j) (by omega)
  refine ⟨?_, h.frozenAt _⟩
  rw [h1, List.getElem?_eq_getElem (by rw [flat_length]; omega)]; rfl

theorem built_nil : Try.prog.built 34 [] = some (vec 9 nul) := by kernel_rfl
/-! One circle told. -/
def noW : Wh := ⟨0, V.zero⟩
theorem wf_noW : vec 9 (wf noW) = vec 9 nul := vec_same fun j hj => by
  unfold wf noW
  simp only [zero_up]
  split <;> rfl
set_option maxHeartbeats 1000000 in
theorem ctold_yes (c : Wh) (h : wOk c = true) (w : World) :
    Calls Try.prog 120 #[wh c] w fun e w' => e = .returned (.tuple #[wh c, .bool true]) ∧ Below w.heap.size w w' := by
  unfold wOk at h
  rw [Bool.and_eq_true] at h
  have C := fun w => toldV c.r w
  rw [h.2] at C
  simp only [if_true] at C
  have I := fun w => inRange_any c.s w
  rw [h.1] at I
  clear h
  have HW : Aside (RowAt ((w.alloc (.cells (vec 9 (wf c)) 68)).alloc (.cells (vec 9 nul) 34)) w.heap.size 9 68 (wf c)) := (RowAt.newAt rfl rfl).alloc _
  have HO : Aside (RowAt ((w.alloc (.cells (vec 9 (wf c)) 68)).alloc (.cells (vec 9 nul) 34)) (w.heap.size + 1) 9 34 nul) := RowAt.newAt rfl (by simp)
  have HL : Aside (Below w.heap.size w ((w.alloc (.cells (vec 9 (wf c)) 68)).alloc (.cells (vec 9 nul) 34))) := ((Below.refl _ _).alloc (Nat.le_refl _) _).alloc (by simp) _
  go_enter Try.func120, Try.ntmps120
  go_upto_region 1 with fail
  show Code.wp _ _ _ _ ((w.alloc (.cells (vec 9 (wf c)) 68)).alloc (.cells (vec 9 nul) 34))
  generalize (w.alloc (.cells (vec 9 (wf c)) 68)).alloc (.cells (vec 9 nul) 34) = W at *
  go_wp2_with (first | (refine load_part (T := 66) rfl rfl rfl (row_radius HW.out) Try.underlying66 rfl info_exact ?_))
  refine (C _).mono ?_; rintro e w2 ⟨rfl, hb2⟩
  have c0 := row_speed ((HW.out.below hb2).alloc (.cells (vec 8 c.r.up) 32))
  have HB2 : Aside (Below W.heap.size W w2) := hb2
  clear hb2 C
  go_wp2_with (first | (refine store_new (ty := 32) rfl rfl rfl rfl zero8 info_cyc ?_))
  refine (I _).mono ?_; rintro e w3 ⟨rfl, hw3⟩
  have HR3 : Aside (RowAt w3 w2.heap.size 8 32 c.r.up) := (show RowAt _ _ _ _ _ by rw [← hw3]; exact RowAt.new _ _ _ _)
  have HB3 : Aside (Below W.heap.size W w3) := (show Below _ _ _ by rw [← hw3]; exact HB2.out.alloc HB2.out.size _)
  rw [hw3] at c0
  have HO3 : Aside (RowAt w3 (w.heap.size + 1) 9 34 nul) := HO.out.below HB3.out
  clear hw3 HB2 I
  go_wp2_with (first | (refine load_row (ty := 32) (g := w2.heap.size) rfl rfl rfl HR3.out Try.underlying32 rfl info_cyc ?_) | (refine build_wheel (T := 34) rfl rfl rfl rfl built_wheel ?_; rw [dn_up]) | (refine store_row (ty := 34) (g := w.heap.size + 1) rfl rfl rfl rfl HO3.out info_wheel ?_))
  refine bodyPost_ret (results_row_tmp rfl rfl HO3.out.setRow Try.underlying34 rfl info_wheel) rfl ?_
  exact ⟨rfl, below_setRow (below_next HL.out HB3.out) (by omega) _⟩

set_option maxHeartbeats 1000000 in
theorem ctold_no (c : Wh) (h : wOk c = false) (w : World) :
    Calls Try.prog 120 #[wh c] w fun e w' => e = .returned (.tuple #[wh noW, .bool false]) ∧ Below w.heap.size w w' := by
  have HW : Aside (RowAt ((w.alloc (.cells (vec 9 (wf c)) 68)).alloc (.cells (vec 9 nul) 34)) w.heap.size 9 68 (wf c)) := (RowAt.newAt rfl rfl).alloc _
  have HO : Aside (RowAt ((w.alloc (.cells (vec 9 (wf c)) 68)).alloc (.cells (vec 9 nul) 34)) (w.heap.size + 1) 9 34 nul) := RowAt.newAt rfl (by simp)
  have HL : Aside (Below w.heap.size w ((w.alloc (.cells (vec 9 (wf c)) 68)).alloc (.cells (vec 9 nul) 34))) := ((Below.refl _ _).alloc (Nat.le_refl _) _).alloc (by simp) _
  have C := fun w => toldV c.r w
  by_cases h1 : okv c.r = true
  · rw [h1] at C
    simp only [if_true] at C
    have h2 : inS c.s = false := by
      unfold wOk at h
      rw [h1, Bool.and_true] at h
      exact h
    have I := fun w => inRange_any c.s w
    rw [h2] at I
    clear h h1 h2
    rw [show wh noW = .agg (vec 9 nul) from by rw [← wf_noW]]
    go_enter Try.func120, Try.ntmps120
    go_upto_region 1 with fail
    show Code.wp _ _ _ _ ((w.alloc (.cells (vec 9 (wf c)) 68)).alloc (.cells (vec 9 nul) 34))
    generalize (w.alloc (.cells (vec 9 (wf c)) 68)).alloc (.cells (vec 9 nul) 34) = W at *
    go_wp2_with (first | (refine load_part (T := 66) rfl rfl rfl (row_radius HW.out) Try.underlying66 rfl info_exact ?_))
    refine (C _).mono ?_; rintro e w2 ⟨rfl, hb2⟩
    have c0 := row_speed ((HW.out.below hb2).alloc (.cells (vec 8 c.r.up) 32))
    have HB2 : Aside (Below W.heap.size W w2) := hb2
    clear hb2 C
    go_wp2_with (first | (refine store_new (ty := 32) rfl rfl rfl rfl zero8 info_cyc ?_))
    refine (I _).mono ?_; rintro e w3 ⟨rfl, hw3⟩
    have HR3 : Aside (RowAt w3 w2.heap.size 8 32 c.r.up) := (show RowAt _ _ _ _ _ by rw [← hw3]; exact RowAt.new _ _ _ _)
    have HB3 : Aside (Below W.heap.size W w3) := (show Below _ _ _ by rw [← hw3]; exact HB2.out.alloc HB2.out.size _)
    rw [hw3] at c0
    have HO3 : Aside (RowAt w3 (w.heap.size + 1) 9 34 nul) := HO.out.below HB3.out
    clear hw3 HB2 I
    go_wp2_with (first | (refine build_zero9 (T := 34) rfl rfl built_nil ?_) | (refine store_row (ty := 34) (g := w.heap.size + 1) rfl rfl rfl rfl HO3.out info_wheel ?_))
    refine bodyPost_ret (results_row_tmp rfl rfl HO3.out.setRow Try.underlying34 rfl info_wheel) rfl ?_
    exact ⟨rfl, below_setRow (below_next HL.out HB3.out) (by omega) _⟩
  · have h1 : okv c.r = false := by simpa using h1
    rw [h1] at C
    simp only [Bool.false_eq_true, if_false, zero_up] at C
    clear h h1
    rw [show wh noW = .agg (vec 9 nul) from by rw [← wf_noW]]
    go_enter Try.func120, Try.ntmps120
    go_upto_region 1 with fail
    show Code.wp _ _ _ _ ((w.alloc (.cells (vec 9 (wf c)) 68)).alloc (.cells (vec 9 nul) 34))
    generalize (w.alloc (.cells (vec 9 (wf c)) 68)).alloc (.cells (vec 9 nul) 34) = W at *
    go_wp2_with (first | (refine load_part (T := 66) rfl rfl rfl (row_radius HW.out) Try.underlying66 rfl info_exact ?_))
    refine (C _).mono ?_; rintro e w2 ⟨rfl, hb2⟩
    have HB2 : Aside (Below W.heap.size W (w2.alloc (.cells (vec 8 nul) 32))) := hb2.alloc hb2.size _
    have HO2 : Aside (RowAt (w2.alloc (.cells (vec 8 nul) 32)) (w.heap.size + 1) 9 34 nul) := HO.out.below HB2.out
    clear hb2 C
    go_upto_region 2 with (first | (refine store_new (ty := 32) rfl rfl rfl rfl zero8 info_cyc ?_))
    show Code.wp _ _ _ _ (w2.alloc (.cells (vec 8 nul) 32))
    generalize w2.alloc (.cells (vec 8 nul) 32) = w3 at *
    go_wp2_with (first | (refine build_zero9 (T := 34) rfl rfl built_nil ?_) | (refine store_row (ty := 34) (g := w.heap.size + 1) rfl rfl rfl rfl HO2.out info_wheel ?_))
    refine bodyPost_ret (results_row_tmp rfl rfl HO2.out.setRow Try.underlying34 rfl info_wheel) rfl ?_
    exact ⟨rfl, below_setRow (below_next HL.out HB2.out) (by omega) _⟩

end Go.Proofs.Yteicmnoafoekcaa
