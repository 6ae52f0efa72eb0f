/-
  The laws' own small functions on slices of int: equal, marked, held.
-/
import Derived.Test.YtbdhbkedeglagaaDoorTurn
import Derived.OwnWalk
import Derived.Laws.AppendOwn
import Derived.Laws.OwnMore
import Derived.Deep.Onto
import Derived.Deep.WholeRow
namespace Go.Proofs.YtbdhbkedeglagaaDoor
set_option maxRecDepth 20000
open Go.ChangeShapes Go.WideShapes Go.ChangeAt Go.RowKit
set_option linter.unusedVariables false
set_option linter.unusedSimpArgs false

/-- A slice value reads as a list of ints. -/
def IntsAt (w : World) (v : Value) (xs : List Int) : Prop :=
  ∃ (p : Option Addr) (cap : Nat), v = .slice p xs.length cap ∧ (xs ≠ [] → ∃ g off, p = some ⟨g, off, none⟩ ∧ ∀ i, i < xs.length → w.cell? ⟨g, off + i, none⟩ = some (.int .i64 (xs.getD i 0)))

theorem getD_of_getElem? {xs : List Int} {i : Nat} (h : i < xs.length) : (xs.map (Value.int .i64))[i]? = some (.int .i64 (xs.getD i 0)) := by
  simp [List.getD_eq_getElem?_getD, h]
theorem intsAt_of_own {w : World} {B n : Nat} {t : TypeId} {v : Value} {xs : List Int} (h : w.ownsRow B t 1 v n (xs.map (Value.int .i64))) : IntsAt w v xs := by
  have hl : xs.length = n := by simpa using h.1
  rcases h.2 with ⟨rfl, rfl⟩ | ⟨g, cap, cur, rfl, _⟩
  · have : xs = [] := List.length_eq_zero_iff.1 hl
    subst this
    exact ⟨none, 0, rfl, fun hne => absurd rfl hne⟩
  · refine ⟨some ⟨g, 0, none⟩, cap, by rw [hl], fun _ => ⟨g, 0, rfl, fun i hi => ?_⟩⟩
    rw [Nat.zero_add, h.cellAt i (by omega)]
    exact getD_of_getElem? hi

set_option maxHeartbeats 400000 in
theorem eqInts_yes (v v' : Value) (xs : List Int) (w : World) (h : IntsAt w v xs) (h' : IntsAt w v' xs) (hl : xs.length ≤ 1000000) :
    Calls Tryd.prog 20 #[v, v'] w fun e w' => e = .returned (.bool true) ∧ ∃ m, w' = w.drewN m := by
  obtain ⟨p, cap, rfl, hp⟩ := h
  obtain ⟨p', cap', rfl, hp'⟩ := h'
  go_enter Tryd.func20, Tryd.ntmps20
  go_wp2_with fail
  go_loopw [5] (fun i wr => ∃ k m : Nat, k ≤ xs.length ∧ i = .int .i64 k ∧ wr = w.drewN m) (fun i _ => xs.length - (intOf i).toNat)
  case atStart => exact ⟨0, 0, Nat.zero_le _, rfl, rfl⟩
  case round =>
    obtain ⟨k, m, hk, rfl, rfl⟩ := hrel
    by_cases hlt : k < xs.length
    · obtain ⟨g, off, rfl, hc⟩ := hp (by rintro rfl; simp at hlt)
      obtain ⟨g', off', rfl, hc'⟩ := hp' (by rintro rfl; simp at hlt)
      have c1 : w.cell? ⟨g, off + k, none⟩ = some (.int .i64 (xs.getD k 0)) := hc k hlt
      have c2 : w.cell? ⟨g', off' + k, none⟩ = some (.int .i64 (xs.getD k 0)) := hc' k hlt
      clear hc hc' hp hp'
      generalize xs.getD k 0 = x at c1 c2
      have hlt' : (k : Int) < (xs.length : Int) := by omega
      have hk0 : (0 : Int) ≤ (k : Int) := by omega
      go_wp2_with fail
      go_quiet (fail)
      go_wp2_with fail
      go_roundw
      case rel => exact ⟨k + 1, _, by omega, by go_num, rfl⟩
      case measure => simp [intOf]; omega
    · obtain rfl : k = xs.length := by omega
      clear hp hp'
      go_wp2_with fail
      go_ret
      exact ⟨rfl, m, rfl⟩

set_option maxHeartbeats 400000 in
theorem sameInts_yes (v v' : Value) (xs : List Int) (w : World) (h : IntsAt w v xs) (h' : IntsAt w v' xs) (hl : xs.length ≤ 1000000) :
    Calls Tryd.prog 18 #[v, v'] w fun e w' => e = .returned (.bool true) ∧ ∃ m, w' = w.drewN m := by
  obtain ⟨p, cap, rfl, hp⟩ := h
  obtain ⟨p', cap', rfl, hp'⟩ := h'
  go_enter Tryd.func18, Tryd.ntmps18
  go_wp2_with fail
  go_loopw [5] (fun i wr => ∃ k m : Nat, k ≤ xs.length ∧ i = .int .i64 k ∧ wr = w.drewN m) (fun i _ => xs.length - (intOf i).toNat)
  case atStart => exact ⟨0, 0, Nat.zero_le _, rfl, rfl⟩
  case round =>
    obtain ⟨k, m, hk, rfl, rfl⟩ := hrel
    by_cases hlt : k < xs.length
    · obtain ⟨g, off, rfl, hc⟩ := hp (by rintro rfl; simp at hlt)
      obtain ⟨g', off', rfl, hc'⟩ := hp' (by rintro rfl; simp at hlt)
      have c1 : w.cell? ⟨g, off + k, none⟩ = some (.int .i64 (xs.getD k 0)) := hc k hlt
      have c2 : w.cell? ⟨g', off' + k, none⟩ = some (.int .i64 (xs.getD k 0)) := hc' k hlt
      clear hc hc' hp hp'
      generalize xs.getD k 0 = x at c1 c2
      have hlt' : (k : Int) < (xs.length : Int) := by omega
      have hk0 : (0 : Int) ≤ (k : Int) := by omega
      go_wp2_with fail
      go_quiet (fail)
      go_wp2_with fail
      go_roundw
      case rel => exact ⟨k + 1, _, by omega, by go_num, rfl⟩
      case measure => simp [intOf]; omega
    · obtain rfl : k = xs.length := by omega
      clear hp hp'
      go_wp2_with fail
      go_ret
      exact ⟨rfl, m, rfl⟩

/-- The marks k, k + 1, .. -/
def marks (k : Int) (n : Nat) : List Int := (List.range n).map (fun i => k + (i : Nat))
theorem marks_len (k : Int) (n : Nat) : (marks k n).length = n := by simp [marks]
theorem marks_get (k : Int) (n i : Nat) (h : i < n) : (marks k n).getD i 0 = k + i := by
  simp [marks, List.getD_eq_getElem?_getD, h]
theorem mark_step (k : Int) (xs : List Int) (j : Nat) (h : j < xs.length) :
    (((marks k j ++ xs.drop j).map (Value.int .i64)).set j (.int .i64 (k + j))) = (marks k (j + 1) ++ xs.drop (j + 1)).map (Value.int .i64) := by
  have e : xs.drop j = xs[j] :: xs.drop (j + 1) := List.drop_eq_getElem_cons h
  rw [e]
  have hm : marks k (j + 1) = marks k j ++ [k + j] := by simp [marks, List.range_succ]
  rw [hm, List.map_append, List.set_append_right _ _ (by simp [marks_len])]
  simp only [List.map_append, List.map_cons, List.length_map, marks_len, Nat.sub_self, List.set_cons_zero, List.append_assoc, List.cons_append, List.nil_append, List.map_nil]
theorem only_trans {a b c : World} {row : Option Nat} (h : a.grownBy b row) (k : b.grownBy c row) : a.grownBy c row :=
  ⟨k.os.trans h.os, k.tape.trans h.tape, k.output.trans h.output, Nat.le_trans h.size k.size, fun i hi hne => (k.block i (Nat.lt_of_lt_of_le hi h.size) hne).trans (h.block i hi hne)⟩

set_option maxHeartbeats 400000 in
theorem markInts_own (B G n cap : Nat) (xs : List Int) (w : World) (h : w.ownsRow B 3 1 (.slice (some ⟨G, 0, none⟩) n cap) n (xs.map (Value.int .i64))) (hn : n ≤ 1000000) (k : Int) (hk0 : 0 ≤ k) (hk1 : k ≤ 1000000) :
    Calls Tryd.prog 21 #[.slice (some ⟨G, 0, none⟩) n cap, .int .i64 k] w fun e w' => e = .returned (.int .i64 (k + n)) ∧
      w'.ownsRow B 3 1 (.slice (some ⟨G, 0, none⟩) n cap) n ((marks k n).map (Value.int .i64)) ∧ w.grownBy w' (some G) := by
  have hl : xs.length = n := by simpa using h.1
  go_enter Tryd.func21, Tryd.ntmps21
  go_wp2_with fail
  go_loopw [1, 5] (fun ks i wr => ∃ j : Nat, j ≤ n ∧ i = .int .i64 j ∧ ks = .int .i64 (k + j) ∧ wr.ownsRow B 3 1 (.slice (some ⟨G, 0, none⟩) n cap) n ((marks k j ++ xs.drop j).map (Value.int .i64)) ∧ w.grownBy wr (some G)) (fun _ i _ => n - (intOf i).toNat)
  case atStart => exact ⟨0, Nat.zero_le _, rfl, by simp, by simpa [marks] using h, World.grownBy.refl _ _⟩
  case round =>
    obtain ⟨j, hj, rfl, rfl, hown, hg⟩ := hrel
    by_cases hlt : j < n
    · have hlt' : (j : Int) < (n : Int) := by omega
      have hcell : wr.cell? ⟨G, j, none⟩ = some (.int .i64 ((marks k j ++ xs.drop j).getD j 0)) := by
        rw [hown.cellAt j (by omega)]; exact getD_of_getElem? (by simp [marks_len]; omega)
      have hfr := hown.frozenAt j
      obtain ⟨hown1, hg1⟩ := hown.stored j (.int .i64 (k + j))
      rw [mark_step k xs j (by omega)] at hown1
      have hg2 := only_trans hg hg1
      clear hg1 hg hown
      generalize (marks k j ++ xs.drop j).getD j 0 = old at hcell
      go_wp2_with fail
      go_roundw
      case rel => exact ⟨j + 1, by omega, by go_num, by go_num, hown1, hg2⟩
      case measure => simp [intOf]; omega
    · obtain rfl : j = n := by omega
      have e : (marks k j ++ xs.drop j) = marks k j := by rw [List.drop_of_length_le (by omega), List.append_nil]
      rw [e] at hown
      clear e
      go_wp2_with fail
      go_ret
      exact ⟨rfl, hown, hg⟩
theorem markInts_nil (k : Int) (w : World) : Calls Tryd.prog 21 #[.slice none 0 0, .int .i64 k] w fun e w' => e = .returned (.int .i64 k) ∧ w = w' := by
  go_enter Tryd.func21, Tryd.ntmps21
  go_wp2_with fail
  refine wp_loop_rounds 1 ?_
  rw [rounds_succ]
  go_wp2_with fail
  go_ret
  exact ⟨rfl, rfl⟩

set_option maxHeartbeats 400000 in
theorem heldInts_yes (v : Value) (n : Nat) (k : Int) (w : World) (h : IntsAt w v (marks k n)) (hn : n ≤ 1000000) (hk0 : 0 ≤ k) (hk1 : k ≤ 1000000) :
    Calls Tryd.prog 22 #[v, .int .i64 k] w fun e w' => e = .returned (.int .i64 (k + n)) ∧ w = w' := by
  obtain ⟨p, cap, rfl, hp⟩ := h
  rw [marks_len] at hp ⊢
  go_enter Tryd.func22, Tryd.ntmps22
  go_wp2_with fail
  go_loop [1, 5] (fun ks i => ∃ j : Nat, j ≤ n ∧ i = .int .i64 j ∧ ks = .int .i64 (k + j)) (fun _ i => n - (intOf i).toNat)
  case atStart => exact ⟨0, Nat.zero_le _, rfl, by simp⟩
  case round =>
    obtain ⟨j, hj, rfl, rfl⟩ := hrel
    by_cases hlt : j < n
    · obtain ⟨g, off, rfl, hc⟩ := hp (by intro e; have := congrArg List.length e; rw [marks_len] at this; simp at this; omega)
      have c1 : w.cell? ⟨g, off + j, none⟩ = some (.int .i64 (k + j)) := by rw [hc j hlt, marks_get k n j hlt]
      have hlt' : (j : Int) < (n : Int) := by omega
      have hne : ((k + (j : Int)) != (k + (j : Int))) = false := by simp
      clear hc hp
      go_wp2_with fail
      go_round
      case rel => exact ⟨j + 1, by omega, by go_num, by go_num⟩
      case measure => simp [intOf]; omega
    · obtain rfl : j = n := by omega
      clear hp
      go_wp2_with fail
      go_ret
      exact ⟨rfl, rfl⟩
end Go.Proofs.YtbdhbkedeglagaaDoor
