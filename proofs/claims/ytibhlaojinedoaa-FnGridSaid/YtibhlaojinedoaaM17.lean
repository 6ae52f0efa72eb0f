/-
  Out of the text WheelStab: what the draws of polygons need.
  Out of the text WheelF: what the draws of polygons need.
  Out of the text WheelG: what the draws of polygons need.
  Out of the text WheelI: what the draws of polygons need.
-/
import Derived.Test.YtibhlaojinedoaaM14
import Derived.Shelf.SlSortCmp.KitK
import Derived.Shelf.SlLaysF0
import Derived.Sort.WalkB2
import Derived.Sort.WalkB12
import Derived.Deep.LoopGhost
/- Out of the text WheelStab: what the draws of polygons need. -/
namespace Go.Proofs.Ytibhlaojinedoaa
set_option maxRecDepth 100000
open Go.Shelf Go.RowKit Go.Lib Go.Sort
set_option linter.unusedVariables false
set_option linter.unusedSimpArgs false
theorem div_at {s a i : Nat} (hs : 0 < s) (ha : a % s = 0) (h1 : a ≤ i) (h2 : i < a + s) : i / s = a / s := by
  have h3 : a / s * s = a := Nat.div_mul_cancel (Nat.dvd_of_mod_eq_zero ha)
  refine Nat.div_eq_of_lt_le (by omega) ?_
  rw [Nat.add_mul, Nat.one_mul]; omega
/-- Below a, each block of s ascends. -/
def Part (d : Array Wh) (s a : Nat) : Prop := ∀ i j, i ≤ j → j < a → i / s = j / s → d[i]!.s ≤ d[j]!.s
/-- From a on, each block of s ascends. -/
def Tail (d : Array Wh) (s a : Nat) : Prop := ∀ i j, a ≤ i → i ≤ j → j < d.size → i / s = j / s → d[i]!.s ≤ d[j]!.s
theorem Part.none (d : Array Wh) (s : Nat) : Part d s 0 := fun i j h1 h2 => by omega
theorem Tail.first {d : Array Wh} {s a : Nat} (hs : 0 < s) (ha : a % s = 0) (h : Tail d s a) (hb : a + s ≤ d.size) : Up d a (a + s) := fun i j h1 h2 h3 =>
  h i j h1 h2 (by omega) ((div_at hs ha h1 (by omega)).trans (div_at hs ha (by omega) h3).symm)
theorem Part.up {d : Array Wh} {s : Nat} (hd : d.size ≤ s) (h : Part d s d.size) : Up d 0 d.size := fun i j _ h2 h3 => h i j h2 h3 (by rw [Nat.div_eq_of_lt (by omega), Nat.div_eq_of_lt (by omega)])
/-- What the sort has done so far. -/
def Kept (d d' : Array Wh) : Prop := Keeps d d' ∧ ∀ i, i < d.size → ∃ j, j < d.size ∧ d'[i]! = d[j]!
theorem Kept.refl (d : Array Wh) : Kept d d := ⟨Keeps.refl d, fun i h => ⟨i, h, rfl⟩⟩
end Go.Proofs.Ytibhlaojinedoaa
/- Out of the text WheelF: what the draws of polygons need. -/
namespace Go.Proofs.Ytibhlaojinedoaa
set_option maxRecDepth 20000
open Go.Shelf Go.RowKit Go.Lib Go.Sort Go.ChangeShapes Go.WideShapes Go.ChangeAt
set_option linter.unusedVariables false
set_option linter.unusedSimpArgs false
theorem own_lit (w : World) (B T : Nat) (hB : B ≤ w.heap.size) : Own (w.alloc (.cells #[] T)) B T (.slice (some ⟨w.heap.size, 0, none⟩) 0 0) [] :=
  World.ownsRow_lit w #[] 0 hB (by simp [maxLen]) rfl

end Go.Proofs.Ytibhlaojinedoaa
/- Out of the text WheelG: what the draws of polygons need. -/
namespace Go.Proofs.Ytibhlaojinedoaa
set_option maxRecDepth 20000
open Go.ChangeShapes Go.WideShapes Go.ChangeAt Go.RowKit
set_option linter.unusedVariables false
set_option linter.unusedSimpArgs false
def setL (xs : List Value) : Nat → List Value → List Value
  | _, [] => xs
  | o, v :: vs => setL (xs.set o v) (o + 1) vs
theorem setL_at : ∀ (vs xs : List Value) (o j : Nat), o + vs.length ≤ xs.length → (setL xs o vs)[j]? = if o ≤ j ∧ j < o + vs.length then vs[j - o]? else xs[j]?
  | [], xs, o, j, h => by
    simp only [setL, List.length_nil, Nat.add_zero]
    rw [if_neg (by omega)]
  | v :: vs, xs, o, j, h => by
    simp only [List.length_cons] at h
    unfold setL
    rw [setL_at vs (xs.set o v) (o + 1) j (by simp; omega), List.length_cons]
    by_cases h1 : o + 1 ≤ j ∧ j < o + 1 + vs.length
    · rw [if_pos h1, if_pos (by omega), show j - o = (j - (o + 1)) + 1 from by omega, List.getElem?_cons_succ]
    · rw [if_neg h1]
      by_cases h2 : j = o
      · subst h2
        rw [if_pos (by omega), Nat.sub_self, List.getElem?_cons_zero, List.getElem?_set_self (by omega)]
      · rw [if_neg (by omega), List.getElem?_set_ne (by omega)]
theorem own_cells {B T g n cap : Nat} : ∀ (vs xs : List Value) (o : Nat) (w : World), w.ownsRow B T 9 (.slice (some ⟨g, 0, none⟩) n cap) n xs → (w.setCells g o vs).ownsRow B T 9 (.slice (some ⟨g, 0, none⟩) n cap) n (setL xs o vs)
  | [], _, _, _, h => h
  | v :: vs, xs, o, w, h => own_cells vs _ (o + 1) _ (h.stored o v).1
theorem flat_set {ws : List Wh} {k : Nat} {c c' : Wh} (hc : ws[k]? = some c) : setL (flat ws) (k * 9) (enc c') = flat (ws.set k c') := by
  have hk : k < ws.length := by
    rcases Nat.lt_or_ge k ws.length with h | h
    · exact h
    · rw [List.getElem?_eq_none h] at hc; cases hc
  apply List.ext_getElem?
  intro j
  rw [setL_at _ _ _ _ (by rw [enc_length, flat_length]; omega), enc_length]
  by_cases hj : j < ws.length * 9
  · have hi : j / 9 < ws.length := by omega
    have e1 := flat_at (List.getElem?_eq_getElem hi) (j % 9) (by omega)
    have hi2 : j / 9 < (ws.set k c').length := by simpa using hi
    have e2 := flat_at (List.getElem?_eq_getElem hi2) (j % 9) (by omega)
    rw [show j / 9 * 9 + j % 9 = j from by omega] at e1 e2
    rw [e2]
    by_cases h : k * 9 ≤ j ∧ j < k * 9 + 9
    · rw [if_pos h]
      have hq : j / 9 = k := by omega
      have hr : j - k * 9 = j % 9 := by omega
      simp only [hq, hr, List.getElem_set_self]
    · rw [if_neg h, e1]
      have hq : k ≠ j / 9 := by omega
      simp only [List.getElem_set_ne hq]
  · rw [if_neg (by omega), List.getElem?_eq_none (by rw [flat_length]; omega), List.getElem?_eq_none (by rw [flat_length, List.length_set]; omega)]
theorem flat_setR {ws : List Wh} {k : Nat} {c : Wh} (r : V) (hc : ws[k]? = some c) : setL (flat ws) (k * 9 + 1) (lst 8 r.up) = flat (ws.set k ⟨c.s, r⟩) := by
  rw [← flat_set hc]
  have hk : k < ws.length := by
    rcases Nat.lt_or_ge k ws.length with h | h
    · exact h
    · rw [List.getElem?_eq_none h] at hc; cases hc
  apply List.ext_getElem?
  intro j
  rw [setL_at _ _ _ _ (by rw [lst_length, flat_length]; omega), setL_at _ _ _ _ (by rw [enc_length, flat_length]; omega), enc_length, lst_length]
  by_cases h : k * 9 ≤ j ∧ j < k * 9 + 9
  · rw [if_pos h]
    by_cases h0 : j = k * 9
    · subst h0
      rw [if_neg (by omega), Nat.sub_self]
      have := flat_at hc 0 (by omega)
      rw [Nat.add_zero] at this
      rw [this, enc_at c 0 (by omega), enc_at _ 0 (by omega)]; rfl
    · rw [if_pos (by omega)]
      obtain ⟨q, rfl⟩ : ∃ q, j = k * 9 + 1 + q := ⟨j - (k * 9 + 1), by omega⟩
      rw [show k * 9 + 1 + q - k * 9 = 1 + q from by omega, Nat.add_sub_cancel_left, enc_at _ (1 + q) (by omega)]
      simp [lst, wf, show q < 8 from by omega]
  · rw [if_neg h, if_neg (by omega)]
/-- A radius put in place of another, in a list that the call owns. -/
theorem own_radius {w : World} {B T g cap : Nat} {ws : List Wh} {k : Nat} {c : Wh} (r : V) (h : Own w B T (.slice (some ⟨g, 0, none⟩) ws.length cap) ws) (hc : ws[k]? = some c) :
    (w.setCells g (k * 9 + 1) (lst 8 r.up)).ownsRow B T 9 (.slice (some ⟨g, 0, none⟩) ws.length cap) ws.length (flat (ws.set k ⟨c.s, r⟩)) := by
  rw [← flat_setR r hc]; exact own_cells _ _ _ _ h
theorem own_there {w : World} {B T g cap : Nat} {ws : List Wh} {k o n : Nat} (h : Own w B T (.slice (some ⟨g, 0, none⟩) ws.length cap) ws) (hk : k < ws.length) (ho : o + n ≤ 9) : w.there g (k * 9 + o) n := fun j hj => by
  have h1 := h.cellAt (k * 9 + o + j) (by omega)
  refine ⟨?_, h.frozenAt _⟩
  rw [h1, List.getElem?_eq_getElem (by rw [flat_length]; omega)]; rfl

end Go.Proofs.Ytibhlaojinedoaa
/- Out of the text WheelI: what the draws of polygons need. -/
namespace Go.Proofs.Ytibhlaojinedoaa
set_option maxRecDepth 20000
open Go.ChangeShapes Go.WideShapes Go.ChangeAt Go.RowKit
set_option linter.unusedVariables false
set_option linter.unusedSimpArgs false
theorem range_own {w : World} {B T g cap : Nat} {ws : List Wh} {k : Nat} {c : Wh} (h : Own w B T (.slice (some ⟨g, 0, none⟩) ws.length cap) ws) (hc : ws[k]? = some c) : w.rangeAt g (k * 9) (enc c) := by
  obtain ⟨p, cap', e, _, _, _, h5⟩ := own_reads h
  simp only [Value.slice.injEq, true_and] at e
  obtain ⟨rfl, _⟩ := e
  obtain ⟨g', o, e, _, hr⟩ := h5 (by simp)
  simp only [Option.some.injEq, Addr.mk.injEq, and_true] at e
  obtain ⟨rfl, rfl⟩ := e
  have := range_part hr hc
  rwa [Nat.zero_add] at this

section
variable {P : Program} {ops : Array Oper} {rest : List Oper} {o : Oper} {a : Act} {Q : Exit → Act → World → Prop} {w : World}
end
end Go.Proofs.Ytibhlaojinedoaa
