/-
  What the laws of polygons say, of lists of points: turned round, read from the next point on.
  Out of the text WheelStab: what the draws of polygons need.
  Out of the text WheelF: what the draws of polygons need.
  Out of the text WheelG: what the draws of polygons need.
-/
import Derived.Test.YtdpakhggpgdgbaaM19
import Derived.Test.YtdpakhggpgdgbaaM16
import Derived.Test.YtdpakhggpgdgbaaM08
import Derived.Shelf.SlSortCmp.KitK
import Derived.Shelf.SlLaysF0
import Derived.Sort.WalkB2
import Derived.Sort.WalkB12
import Derived.Deep.LoopGhost
/- What the laws of polygons say, of lists of points: turned round, read from the next point on. -/
namespace Go.Proofs.Ytdpakhggpgdgbaa
set_option maxRecDepth 20000
open Go.ChangeShapes Go.WideShapes Go.ChangeAt Go.RowKit
set_option linter.unusedVariables false
set_option linter.unusedSimpArgs false

section
variable {P Q : Nat → Q2} {n : Nat}
theorem stpQ_same (h : ∀ i, i < n → P i = Q i) {i : Nat} (hi : i < n) : stp' P n i = stp' Q n i := by
  unfold stp'
  rw [h i hi, h _ (Nat.mod_lt _ (by omega))]
theorem bnd_same (h : ∀ i, i < n → P i = Q i) {i : Nat} (hi : i < n) : bnd P n i = bnd Q n i := by
  unfold bnd
  rw [stpQ_same h hi, stpQ_same h (Nat.mod_lt _ (by omega))]
theorem turnZ_same (h : ∀ i, i < n → P i = Q i) : turnZ P n = turnZ Q n := by
  unfold turnZ
  exact sm_same fun i hi => by rw [stpQ_same h hi, stpQ_same h (Nat.mod_lt _ (by omega))]
theorem okP_same (h : ∀ i, i < n → P i = Q i) (k : okP P n) : okP Q n := fun i hi => by
  rw [← stpQ_same h hi, ← stpQ_same h (Nat.mod_lt _ (by omega))]
  exact k i hi
theorem windZ_same (h : ∀ i, i < n → P i = Q i) (c : Q2) : windZ P c n = windZ Q c n := by
  unfold windZ
  exact sm_same fun i hi => by rw [h i hi, h _ (Nat.mod_lt _ (by omega))]
theorem onP_same (h : ∀ i, i < n → P i = Q i) (c : Q2) : onP P c n = onP Q c n := by
  unfold onP
  exact any_same fun i hi => by rw [h i hi, h _ (Nat.mod_lt _ (by omega))]
theorem areaF_same {F G : Nat → Nat → Int} (h : ∀ i, i < n → F i = G i) : areaF F n = areaF G n := by
  unfold areaF sumF
  funext j
  exact sm_same fun i hi => by
    show crs (F i) (F ((i + 1) % n)) j = crs (G i) (G ((i + 1) % n)) j
    rw [h i hi, h _ (Nat.mod_lt _ (by omega))]
end
theorem polyOk_rev {xs : List V} (h : polyOk xs = true) : polyOk xs.reverse = true := by
  unfold polyOk at h ⊢
  rw [List.all_reverse, List.length_reverse]
  exact h
theorem at_rev (xs : List V) {i : Nat} (h : i < xs.length) : at' xs.reverse i = at' xs (xs.length - 1 - i) := by
  unfold at'
  rw [List.getElem?_reverse h]
theorem PQ_rev (xs : List V) : ∀ i, i < xs.length → rv (PQ xs) xs.length i = PQ xs.reverse i := fun i hi => by
  unfold rv PQ
  rw [at_rev xs hi]
theorem back_yes {xs : List V} (h : polyOk xs = true) : backO xs = some xs.reverse := by unfold backO; rw [if_pos h]
theorem back_twice {xs : List V} (h : polyOk xs = true) : backO xs.reverse = some xs := by rw [back_yes (polyOk_rev h), List.reverse_reverse]
theorem polyOk_at {xs : List V} (h : polyOk xs = true) {k : Nat} (hk : k < xs.length) : smallF 100 (at' xs k).up = true := by
  unfold polyOk at h
  rw [Bool.and_eq_true, List.all_eq_true] at h
  refine h.1 _ ?_
  rw [← Option.some_inj.1 ((List.getElem?_eq_getElem hk).symm.trans (at_get hk))]
  exact List.getElem_mem _
/-- A corner lies on its polygon. -/
theorem on_corner {xs : List V} (h : polyOk xs = true) {k : Nat} (hk : k < xs.length) : onB xs (at' xs k) = true := by
  unfold onB
  rw [h, polyOk_at h hk, Bool.and_self, Bool.true_and]
  exact onP_corner (PQ xs) hk
theorem on_rev {xs : List V} {c : V} (h : onB xs c = true) : onB xs.reverse c = true := by
  unfold onB at h ⊢
  rw [Bool.and_eq_true, Bool.and_eq_true] at h
  rw [polyOk_rev h.1.1, h.1.2, List.length_reverse, Bool.and_self, Bool.true_and, ← onP_same (PQ_rev xs), onP_rv]
  exact h.2
theorem on_not_wound {xs : List V} {c : V} (h : onB xs c = true) : windO xs c = none := by
  unfold onB at h
  unfold windO
  rw [Bool.and_eq_true] at h
  rw [h.2, Bool.not_true, Bool.and_false]
  rfl
theorem bends_some {xs : List V} {L : List Int} (h : bendsO xs = some L) : polyOk xs = true ∧ L.length = xs.length ∧ (∀ k, k < xs.length → L[k]? = some (bnd (PQ xs) xs.length k)) := by
  unfold bendsO at h
  split at h
  · rename_i hk
    simp only [Option.some.injEq] at h
    subst h
    exact ⟨hk, by simp, fun k hkl => by simp [hkl]⟩
  · cases h
theorem bends_yes {xs : List V} (h : polyOk xs = true) : ∃ L, bendsO xs = some L := by
  unfold bendsO; rw [if_pos h]; exact ⟨_, rfl⟩
theorem bends_rev {xs : List V} {L M : List Int} (h : bendsO xs = some L) (h2 : bendsO xs.reverse = some M) : M.length = L.length ∧ L.length = xs.length ∧ ∀ k, k < xs.length → ∃ z, L[xs.length - 1 - k]? = some z ∧ M[k]? = some (-z) := by
  obtain ⟨a1, a2, a3⟩ := bends_some h
  obtain ⟨b1, b2, b3⟩ := bends_some h2
  rw [List.length_reverse] at b2 b3
  refine ⟨by omega, a2, fun k hk => ⟨_, a3 _ (by omega), ?_⟩⟩
  rw [b3 k hk, ← bnd_same (PQ_rev xs) hk, bnd_rv _ hk]
theorem bends_are {xs : List V} {L : List Int} (h : bendsO xs = some L) {k : Nat} {z : Int} (hz : L[k]? = some z) : k < xs.length ∧ z = bnd (PQ xs) xs.length k ∧ -1 ≤ z ∧ z ≤ 1 := by
  obtain ⟨a1, a2, a3⟩ := bends_some h
  have hk : k < xs.length := by
    have := (List.getElem?_eq_some_iff.1 hz).1
    omega
  have e := a3 k hk
  rw [hz, Option.some.injEq] at e
  refine ⟨hk, e, ?_⟩
  rw [e]
  unfold bnd
  rcases sgR_three (cr (stp' (PQ xs) xs.length ((k + xs.length - 1) % xs.length)) (stp' (PQ xs) xs.length k)) with h | h | h <;> rw [h] <;> omega
theorem turns_some {xs : List V} {m : Int} (h : turnsO xs = some m) : polyOk xs = true ∧ okP (PQ xs) xs.length ∧ m = turnZ (PQ xs) xs.length := by
  unfold turnsO at h
  split at h
  · rename_i hk
    rw [Bool.and_eq_true] at hk
    simp only [Option.some.injEq] at h
    exact ⟨hk.1, okB_iff.1 hk.2, h.symm⟩
  · cases h
theorem turns_rev {xs : List V} {m : Int} (h : turnsO xs = some m) : turnsO xs.reverse = some (-m) := by
  obtain ⟨h1, h2, rfl⟩ := turns_some h
  unfold turnsO
  rw [polyOk_rev h1, List.length_reverse, okB_iff.2 (okP_same (PQ_rev xs) (okP_rv h2)), ← turnZ_same (PQ_rev xs), turnZ_rv h2]
  rfl
theorem turns_left {xs : List V} {m : Int} {L : List Int} (h : turnsO xs = some m) (hL : bendsO xs = some L) (hl : ∀ z ∈ L, 0 ≤ z) : 1 ≤ m := by
  obtain ⟨h1, h2, rfl⟩ := turns_some h
  refine left_turns (polyOk_len h1).1 h2 fun i hi => ?_
  exact hl _ (List.mem_of_getElem? ((bends_some hL).2.2 i hi))
theorem turnZ_small {P : Nat → Q2} {n : Nat} : -(n : Int) ≤ turnZ P n ∧ turnZ P n ≤ n := by
  unfold turnZ
  have key : ∀ (f : Nat → Int), (∀ i, -1 ≤ f i ∧ f i ≤ 1) → ∀ m : Nat, -(m : Int) ≤ sumI f m ∧ sumI f m ≤ m := by
    intro f hf m
    induction m with
    | zero => exact ⟨by simp [sm], by simp [sm]⟩
    | succ m ih =>
      have := hf m
      show -((m + 1 : Nat) : Int) ≤ sumI f m + f m ∧ sumI f m + f m ≤ ((m + 1 : Nat) : Int)
      omega
  refine key _ (fun i => ?_) n
  unfold tn
  split
  · omega
  · split <;> omega
theorem windZ_small {P : Nat → Q2} {c : Q2} {n : Nat} : -(n : Int) ≤ windZ P c n ∧ windZ P c n ≤ n := by
  unfold windZ
  have key : ∀ (f : Nat → Int), (∀ i, -1 ≤ f i ∧ f i ≤ 1) → ∀ m : Nat, -(m : Int) ≤ sumI f m ∧ sumI f m ≤ m := by
    intro f hf m
    induction m with
    | zero => exact ⟨by simp [sm], by simp [sm]⟩
    | succ m ih =>
      have := hf m
      show -((m + 1 : Nat) : Int) ≤ sumI f m + f m ∧ sumI f m + f m ≤ ((m + 1 : Nat) : Int)
      omega
  refine key _ (fun i => ?_) n
  unfold wn
  split
  · omega
  · split <;> omega
theorem wind_some {xs : List V} {c : V} {m : Int} (h : windO xs c = some m) : polyOk xs = true ∧ smallF 100 c.up = true ∧ onB xs c = false ∧ m = windZ (PQ xs) (qv c.up) xs.length := by
  unfold windO at h
  split at h
  · rename_i hk
    rw [Bool.and_eq_true, Bool.and_eq_true, Bool.not_eq_true'] at hk
    simp only [Option.some.injEq] at h
    refine ⟨hk.1.1, hk.1.2, ?_, h.symm⟩
    unfold onB
    rw [hk.2, Bool.and_false]
  · cases h
theorem wind_rev {xs : List V} {c : V} {m : Int} (h : windO xs c = some m) : windO xs.reverse c = some (-m) := by
  obtain ⟨h1, h2, h3, rfl⟩ := wind_some h
  have h4 : onP (PQ xs) (qv c.up) xs.length = false := by
    unfold onB at h3
    rw [h1, h2, Bool.and_self, Bool.true_and] at h3
    exact h3
  unfold windO
  rw [polyOk_rev h1, h2, List.length_reverse, ← onP_same (PQ_rev xs), onP_rv, h4, ← windZ_same (PQ_rev xs), windZ_rv]
  rfl
theorem conv_asked {xs : List V} (h : convB xs = true) : polyOk xs = true ∧ convP (PQ xs) xs.length := by
  rw [convB_asked] at h
  simp only [Bool.and_eq_true, List.all_eq_true, List.mem_range, decide_eq_true_iff] at h
  obtain ⟨⟨⟨⟨⟨h1, h2⟩, h3⟩, h4⟩, h5⟩, h6⟩ := h
  refine ⟨h1, h3, okB_iff.1 h2, ?_⟩
  rcases Int.le_total 0 (turnZ (PQ xs) xs.length) with h0 | h0
  · left
    have e : turnZ (PQ xs) xs.length = 1 := by
      rcases Int.lt_or_le 1 (turnZ (PQ xs) xs.length) with h7 | h7
      · have := Int.mul_le_mul (Int.add_one_le_of_lt h7) (Int.add_one_le_of_lt h7) (by omega) (by omega)
        omega
      · rcases Int.lt_or_le (turnZ (PQ xs) xs.length) 1 with h8 | h8
        · have e : turnZ (PQ xs) xs.length = 0 := by omega
          rw [e] at h6
          omega
        · omega
    exact ⟨fun i hi => by rw [h4 i hi, h5, e], e⟩
  · right
    have e : turnZ (PQ xs) xs.length = -1 := by
      generalize turnZ (PQ xs) xs.length = t at *
      have h9 : (-t) * (-t) = 1 := by rw [Int.neg_mul_neg]; exact h6
      rcases Int.lt_or_le 1 (-t) with h7 | h7
      · have := Int.mul_le_mul (Int.add_one_le_of_lt h7) (Int.add_one_le_of_lt h7) (by omega) (by omega)
        omega
      · rcases Int.lt_or_le (-t) 1 with h8 | h8
        · have e : t = 0 := by omega
          rw [e] at h6
          omega
        · omega
    exact ⟨fun i hi => by rw [h4 i hi, h5, e], e⟩
theorem conv_of {xs : List V} (h : polyOk xs = true) (k : convP (PQ xs) xs.length) : convB xs = true := by
  unfold convB
  rw [h, okB_iff.2 k.2.1, Bool.and_self, Bool.true_and]
  simp only [List.all_eq_true, List.mem_range, decide_eq_true_iff]
  rcases k.2.2 with ⟨a, b⟩ | ⟨a, b⟩
  · exact fun i hi => by rw [a i hi, b]
  · exact fun i hi => by rw [a i hi, b]
theorem conv_rev {xs : List V} (h : convB xs = true) : convB xs.reverse = true := by
  obtain ⟨h1, h2⟩ := conv_asked h
  refine conv_of (polyOk_rev h1) ?_
  rw [List.length_reverse]
  have k := convP_rv h2
  have s := PQ_rev xs
  refine ⟨k.1, okP_same s k.2.1, ?_⟩
  rw [← turnZ_same s]
  rcases k.2.2 with ⟨a, b⟩ | ⟨a, b⟩
  · exact .inl ⟨fun i hi => by rw [← bnd_same s hi]; exact a i hi, b⟩
  · exact .inr ⟨fun i hi => by rw [← bnd_same s hi]; exact a i hi, b⟩
theorem conv_area {xs : List V} {L : List Int} (h : convB xs = true) (hL : bendsO xs = some L) : L[0]? = some (sgf (areaV xs)) := by
  obtain ⟨h1, h2⟩ := conv_asked h
  have e := convP_area h2
  rw [(bends_some hL).2.2 0 (by have := (polyOk_len h1).1; omega), ← e]
  have q : areaR (PQ xs) xs.length = four (q4 (areaV xs)) := area_qv (fun i => (at' xs i).up) xs.length
  rw [q, sgR_four, sgR_q4]
theorem conv_wind {xs : List V} {c : V} {m : Int} (h : convB xs = true) (hm : windO xs c = some m) : -1 ≤ m ∧ m ≤ 1 := by
  obtain ⟨-, -, -, rfl⟩ := wind_some hm
  exact convP_wind (conv_asked h).2 _
/-- The area of what is turned round. -/
theorem area_rev (xs : List V) : ∀ j, j < 4 → areaV xs.reverse j = -areaV xs j := fun j hj => by
  unfold areaV
  rw [List.length_reverse, areaF_same (G := fun i => (at' xs (xs.length - 1 - i)).up) fun i hi => by rw [at_rev xs hi]]
  exact area_back (fun i => (at' xs i).up) xs.length j hj
/-- A list read from its next point on. -/
def nextL (xs : List V) : List V := xs.drop 1 ++ [at' xs 0]
theorem next_len {xs : List V} (h : 1 ≤ xs.length) : (nextL xs).length = xs.length := by simp [nextL]; omega
theorem at_next {xs : List V} {i : Nat} (h : i < xs.length) : at' (nextL xs) i = at' xs ((i + 1) % xs.length) := by
  unfold nextL
  by_cases hi : i + 1 < xs.length
  · rw [Nat.mod_eq_of_lt hi]
    unfold at'
    rw [List.getElem?_append_left (by simp; omega), List.getElem?_drop, Nat.add_comm 1 i]
  · have e : i + 1 = xs.length := by omega
    rw [e, Nat.mod_self]
    refine at_some ?_
    rw [List.getElem?_append_right (by simp; omega)]
    simp only [List.length_drop]
    rw [show i - (xs.length - 1) = 0 by omega]
    rfl
theorem polyOk_next {xs : List V} (h : polyOk xs = true) : polyOk (nextL xs) = true := by
  have hl := polyOk_len h
  have hs : smallF 100 (at' xs 0).up = true := polyOk_at h (by omega)
  unfold polyOk at h ⊢
  rw [Bool.and_eq_true, List.all_eq_true, decide_eq_true_iff] at h
  rw [Bool.and_eq_true, List.all_eq_true, decide_eq_true_iff, next_len hl.1]
  refine ⟨fun c hc => ?_, h.2⟩
  rcases List.mem_append.1 hc with hc | hc
  · exact h.1 c (List.mem_of_mem_drop hc)
  · rw [List.mem_singleton.1 hc]; exact hs
theorem area_nextL {xs : List V} (h : 1 ≤ xs.length) : ∀ j, j < 4 → areaV (nextL xs) j = areaV xs j := fun j hj => by
  unfold areaV
  rw [next_len h, areaF_same (G := fun i => (at' xs ((i + 1) % xs.length)).up) fun i hi => by rw [at_next hi]]
  exact area_next (fun i => (at' xs i).up) xs.length 1 j hj

end Go.Proofs.Ytdpakhggpgdgbaa
/- Out of the text WheelStab: what the draws of polygons need. -/
namespace Go.Proofs.Ytdpakhggpgdgbaa
set_option maxRecDepth 100000
open Go.Shelf Go.RowKit Go.Lib Go.Sort
set_option linter.unusedVariables false
set_option linter.unusedSimpArgs false
theorem div_at {s a i : Nat} (hs : 0 < s) (ha : a % s = 0) (h1 : a ≤ i) (h2 : i < a + s) : i / s = a / s := by
  have h3 : a / s * s = a := Nat.div_mul_cancel (Nat.dvd_of_mod_eq_zero ha)
  refine Nat.div_eq_of_lt_le (by omega) ?_
  rw [Nat.add_mul, Nat.one_mul]; omega
/-- Below a, each block of s ascends. -/
def Part (d : Array Wh) (s a : Nat) : Prop := ∀ i j, i ≤ j → j < a → i / s = j / s → d[i]!.s ≤ d[j]!.s
/-- From a on, each block of s ascends. -/
def Tail (d : Array Wh) (s a : Nat) : Prop := ∀ i j, a ≤ i → i ≤ j → j < d.size → i / s = j / s → d[i]!.s ≤ d[j]!.s
theorem Part.none (d : Array Wh) (s : Nat) : Part d s 0 := fun i j h1 h2 => by omega
theorem Tail.first {d : Array Wh} {s a : Nat} (hs : 0 < s) (ha : a % s = 0) (h : Tail d s a) (hb : a + s ≤ d.size) : Up d a (a + s) := fun i j h1 h2 h3 =>
  h i j h1 h2 (by omega) ((div_at hs ha h1 (by omega)).trans (div_at hs ha (by omega) h3).symm)
theorem Part.up {d : Array Wh} {s : Nat} (hd : d.size ≤ s) (h : Part d s d.size) : Up d 0 d.size := fun i j _ h2 h3 => h i j h2 h3 (by rw [Nat.div_eq_of_lt (by omega), Nat.div_eq_of_lt (by omega)])
/-- What the sort has done so far. -/
def Kept (d d' : Array Wh) : Prop := Keeps d d' ∧ ∀ i, i < d.size → ∃ j, j < d.size ∧ d'[i]! = d[j]!
theorem Kept.refl (d : Array Wh) : Kept d d := ⟨Keeps.refl d, fun i h => ⟨i, h, rfl⟩⟩
end Go.Proofs.Ytdpakhggpgdgbaa
/- Out of the text WheelF: what the draws of polygons need. -/
namespace Go.Proofs.Ytdpakhggpgdgbaa
set_option maxRecDepth 20000
open Go.Shelf Go.RowKit Go.Lib Go.Sort Go.ChangeShapes Go.WideShapes Go.ChangeAt
set_option linter.unusedVariables false
set_option linter.unusedSimpArgs false
theorem own_lit (w : World) (B T : Nat) (hB : B ≤ w.heap.size) : Own (w.alloc (.cells #[] T)) B T (.slice (some ⟨w.heap.size, 0, none⟩) 0 0) [] :=
  World.ownsRow_lit w #[] 0 hB (by simp [maxLen]) rfl

end Go.Proofs.Ytdpakhggpgdgbaa
/- Out of the text WheelG: what the draws of polygons need. -/
namespace Go.Proofs.Ytdpakhggpgdgbaa
set_option maxRecDepth 20000
open Go.ChangeShapes Go.WideShapes Go.ChangeAt Go.RowKit
set_option linter.unusedVariables false
set_option linter.unusedSimpArgs false
def setL (xs : List Value) : Nat → List Value → List Value
  | _, [] => xs
  | o, v :: vs => setL (xs.set o v) (o + 1) vs
theorem setL_at : ∀ (vs xs : List Value) (o j : Nat), o + vs.length ≤ xs.length → (setL xs o vs)[j]? = if o ≤ j ∧ j < o + vs.length then vs[j - o]? else xs[j]?
  | [], xs, o, j, h => by
    simp only [setL, List.length_nil, Nat.add_zero]
    rw [if_neg (by omega)]
  | v :: vs, xs, o, j, h => by
    simp only [List.length_cons] at h
    unfold setL
    rw [setL_at vs (xs.set o v) (o + 1) j (by simp; omega), List.length_cons]
    by_cases h1 : o + 1 ≤ j ∧ j < o + 1 + vs.length
    · rw [if_pos h1, if_pos (by omega), show j - o = (j - (o + 1)) + 1 from by omega, List.getElem?_cons_succ]
    · rw [if_neg h1]
      by_cases h2 : j = o
      · subst h2
        rw [if_pos (by omega), Nat.sub_self, List.getElem?_cons_zero, List.getElem?_set_self (by omega)]
      · rw [if_neg (by omega), List.getElem?_set_ne (by omega)]
theorem own_cells {B T g n cap : Nat} : ∀ (vs xs : List Value) (o : Nat) (w : World), w.ownsRow B T 9 (.slice (some ⟨g, 0, none⟩) n cap) n xs → (w.setCells g o vs).ownsRow B T 9 (.slice (some ⟨g, 0, none⟩) n cap) n (setL xs o vs)
  | [], _, _, _, h => h
  | v :: vs, xs, o, w, h => own_cells vs _ (o + 1) _ (h.stored o v).1
theorem flat_set {ws : List Wh} {k : Nat} {c c' : Wh} (hc : ws[k]? = some c) : setL (flat ws) (k * 9) (enc c') = flat (ws.set k c') := by
  have hk : k < ws.length := by
    rcases Nat.lt_or_ge k ws.length with h | h
    · exact h
    · rw [List.getElem?_eq_none h] at hc; cases hc
  apply List.ext_getElem?
  intro j
  rw [setL_at _ _ _ _ (by rw [enc_length, flat_length]; omega), enc_length]
  by_cases hj : j < ws.length * 9
  · have hi : j / 9 < ws.length := by omega
    have e1 := flat_at (List.getElem?_eq_getElem hi) (j % 9) (by omega)
    have hi2 : j / 9 < (ws.set k c').length := by simpa using hi
    have e2 := flat_at (List.getElem?_eq_getElem hi2) (j % 9) (by omega)
    rw [show j / 9 * 9 + j % 9 = j from by omega] at e1 e2
    rw [e2]
    by_cases h : k * 9 ≤ j ∧ j < k * 9 + 9
    · rw [if_pos h]
      have hq : j / 9 = k := by omega
      have hr : j - k * 9 = j % 9 := by omega
      simp only [hq, hr, List.getElem_set_self]
    · rw [if_neg h, e1]
      have hq : k ≠ j / 9 := by omega
      simp only [List.getElem_set_ne hq]
  · rw [if_neg (by omega), List.getElem?_eq_none (by rw [flat_length]; omega), List.getElem?_eq_none (by rw [flat_length, List.length_set]; omega)]
theorem flat_setR {ws : List Wh} {k : Nat} {c : Wh} (r : V) (hc : ws[k]? = some c) : setL (flat ws) (k * 9 + 1) (lst 8 r.up) = flat (ws.set k ⟨c.s, r⟩) := by
  rw [← flat_set hc]
  have hk : k < ws.length := by
    rcases Nat.lt_or_ge k ws.length with h | h
    · exact h
    · rw [List.getElem?_eq_none h] at hc; cases hc
  apply List.ext_getElem?
  intro j
  rw [setL_at _ _ _ _ (by rw [lst_length, flat_length]; omega), setL_at _ _ _ _ (by rw [enc_length, flat_length]; omega), enc_length, lst_length]
  by_cases h : k * 9 ≤ j ∧ j < k * 9 + 9
  · rw [if_pos h]
    by_cases h0 : j = k * 9
    · subst h0
      rw [if_neg (by omega), Nat.sub_self]
      have := flat_at hc 0 (by omega)
      rw [Nat.add_zero] at this
      rw [this, enc_at c 0 (by omega), enc_at _ 0 (by omega)]; rfl
    · rw [if_pos (by omega)]
      obtain ⟨q, rfl⟩ : ∃ q, j = k * 9 + 1 + q := ⟨j - (k * 9 + 1), by omega⟩
      rw [show k * 9 + 1 + q - k * 9 = 1 + q from by omega, Nat.add_sub_cancel_left, enc_at _ (1 + q) (by omega)]
      simp [lst, wf, show q < 8 from by omega]
  · rw [if_neg h, if_neg (by omega)]
/-- A radius put in place of another, in a list that the call owns. -/
theorem own_radius {w : World} {B T g cap : Nat} {ws : List Wh} {k : Nat} {c : Wh} (r : V) (h : Own w B T (.slice (some ⟨g, 0, none⟩) ws.length cap) ws) (hc : ws[k]? = some c) :
    (w.setCells g (k * 9 + 1) (lst 8 r.up)).ownsRow B T 9 (.slice (some ⟨g, 0, none⟩) ws.length cap) ws.length (flat (ws.set k ⟨c.s, r⟩)) := by
  rw [← flat_setR r hc]; exact own_cells _ _ _ _ h
theorem own_there {w : World} {B T g cap : Nat} {ws : List Wh} {k o n : Nat} (h : Own w B T (.slice (some ⟨g, 0, none⟩) ws.length cap) ws) (hk : k < ws.length) (ho : o + n ≤ 9) : w.there g (k * 9 + o) n := fun j hj => by
  have h1 := h.cellAt (k * 9 + o + j) (by omega)
  refine ⟨?_, h.frozenAt _⟩
  rw [h1, List.getElem?_eq_getElem (by rw [flat_length]; omega)]; rfl

end Go.Proofs.Ytdpakhggpgdgbaa
