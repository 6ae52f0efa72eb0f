/-
  The laws' helpers on exact points: copying and comparing; and what both sides answer.
  The exact laws of exact points of one point or of numbers: both sides answer alike, for every argument.
  The laws' own small functions on slices of int: equal, marked, held.
  In a round of a range over a function (the wide fence): a region without a defer statement is walked as everywhere.
-/
import Derived.Test.YtdpakhggpgdgbaaM02
import Derived.Test.YtdpakhggpgdgbaaM03
import Derived.Deep.QuietTactic
import Derived.BigQuiet
import Derived.Test.YtdpakhggpgdgbaaM01
import Derived.OwnWalk
import Derived.Laws.AppendOwn
import Derived.Laws.OwnMore
import Derived.Deep.Onto
import Derived.Deep.WholeRow
import Derived.RangeFuncNested
import Derived.RangeFuncBound
import Derived.RangeFuncCalls
import Derived.RangeFuncLeaves
import Derived.Shelf.Abstract
import Derived.OwnWalkIn
import Derived.TacticsInMore
import Derived.LoopNIn
import Derived.LoopIn
import Derived.OrdersIn
import Derived.Deep.RegionHeld
import Derived.Test.YtdpakhggpgdgbaaM00
/- The laws' helpers on exact points: copying and comparing; and what both sides answer. -/
namespace Go.Proofs.Ytdpakhggpgdgbaa
set_option maxRecDepth 20000
open Go.ChangeShapes Go.WideShapes Go.ChangeAt Go.RowKit
set_option linter.unusedVariables false
set_option linter.unusedSimpArgs false

theorem toInts_any (a : Nat → Int) (w : World) :
    Calls Try.prog 85 #[pt a] w fun e w' => e = .returned (pt a) ∧ Below w.heap.size w w' := by
  have sa := vec_size 8 a
  unfold pt at *
  go_enter Try.func85, Try.ntmps85
  go_upto_region 2 with fail
  show Code.wp _ _ _ _ ((box1 w a 30 30).alloc (.cells (vec 8 nul) 30))
  obtain ⟨hA, hO, hL⟩ := box1_facts w a 30 30
  have zE := hO.lt
  have hsz : (box1 w a 30 30).heap.size = w.heap.size + 1 + 1 := by simp [box1]
  have hA := hA.alloc (.cells (vec 8 nul) 30)
  have hO := hO.alloc (.cells (vec 8 nul) 30)
  have hL := hL.alloc (by omega) (.cells (vec 8 nul) 30)
  have hE : RowAt ((box1 w a 30 30).alloc (.cells (vec 8 nul) 30)) (w.heap.size + 1 + 1) 8 30 nul := RowAt.newAt rfl hsz
  clear zE hsz
  generalize (box1 w a 30 30).alloc (.cells (vec 8 nul) 30) = W at *
  go_wp2_with fail
  go_loopw [4] (fun i wr => ∃ k : Nat, k ≤ 8 ∧ i = .int .i64 k ∧ RowAt wr w.heap.size 8 30 a ∧ RowAt wr (w.heap.size + 1) 8 30 nul ∧ RowAt wr (w.heap.size + 1 + 1) 8 30 (mix k a nul) ∧ Below w.heap.size w wr) (fun i _ => 8 - (intOf i).toNat)
  case atStart => exact ⟨0, Nat.zero_le _, rfl, hA, hO, by rw [mix_zero]; exact hE, hL⟩
  case round =>
    clear hA hO hE hL
    obtain ⟨k, hk, rfl, hA, hO, hE, hL⟩ := hrel
    by_cases hlt : k < 8
    · have hlt' : (k : Int) < 8 := by omega
      have hk0 : (0 : Int) ≤ (k : Int) := by omega
      have cA := hA.cell hlt
      have cE := hE.cell hlt
      have fE := hE.free k
      rw [mix_at] at cE
      have hE2 := hE.set hlt (a k)
      rw [mix_step] at hE2
      have HE := Lib.hid hE2
      have HA := Lib.hid (hA.other ⟨w.heap.size + 1 + 1, k, none⟩ (.int .i64 (a k)) (by simp; try omega))
      have HO := Lib.hid (hO.other ⟨w.heap.size + 1 + 1, k, none⟩ (.int .i64 (a k)) (by simp; try omega))
      have HL := Lib.hid (hL.setCell (p := ⟨w.heap.size + 1 + 1, k, none⟩) (by simp; omega) (.int .i64 (a k)))
      clear hA hO hE hL hE2
      go_wp2_with fail
      go_roundw
      case rel => exact ⟨k + 1, by omega, by go_num, HA.out, HO.out, HE.out, HL.out⟩
      case measure => simp [intOf]; omega
    · obtain rfl : k = 8 := by omega
      have HE := Lib.hid hE; have HO := Lib.hid hO; have HL := Lib.hid hL
      clear hA hE hO hL
      go_wp2_with (first | (refine load_row rfl rfl rfl HE.out Try.underlying30 rfl info_arr8 ?_) | (refine store_row rfl rfl rfl rfl HO.out info_arr8 ?_))
      refine bodyPost_ret (results_row rfl rfl HO.out.setRow Try.underlying30 rfl info_arr8) rfl ?_
      exact ⟨by rw [vec_mix], below_setRow HL.out (by omega) _⟩

theorem toCyc_any (a : Nat → Int) (w : World) :
    Calls Try.prog 46 #[pt a] w fun e w' => e = .returned (pt a) ∧ Below w.heap.size w w' := by
  have sa := vec_size 8 a
  have P := fun w => toInts_any a w
  unfold pt at *
  go_enter Try.func46, Try.ntmps46
  go_upto_region 2 with fail
  show Code.wp _ _ _ _ ((box1 w a 54 32).alloc (.cells (vec 8 nul) 32))
  obtain ⟨hA, hO, hL⟩ := box1_facts w a 54 32
  have zE := hO.lt
  have hsz : (box1 w a 54 32).heap.size = w.heap.size + 1 + 1 := by simp [box1]
  have hA := hA.alloc (.cells (vec 8 nul) 32)
  have hO := hO.alloc (.cells (vec 8 nul) 32)
  have hL := hL.alloc (by omega) (.cells (vec 8 nul) 32)
  have hE : RowAt ((box1 w a 54 32).alloc (.cells (vec 8 nul) 32)) (w.heap.size + 1 + 1) 8 32 nul := RowAt.newAt rfl hsz
  clear zE hsz
  generalize (box1 w a 54 32).alloc (.cells (vec 8 nul) 32) = W at *
  go_wp2_with (refine load_row rfl rfl rfl hA Try.underlying30 rfl info_arr8 ?_)
  refine (P _).mono ?_; rintro e w2 ⟨rfl, hb2⟩
  have hO2 := hO.below hb2; have hE2 := hE.below hb2; have hL2 := below_next hL hb2
  clear hA hO hE hL hb2 P
  have HE := Lib.hid (hE2.setRow (f' := a))
  have HO := Lib.hid (hO2.rowOther (w.heap.size + 1 + 1) (vec 8 a) (by omega))
  have HL := Lib.hid (below_setRow hL2 (g := w.heap.size + 1 + 1) (by omega) (vec 8 a))
  clear hO2 hL2
  go_upto_region 3 with (refine store_row rfl rfl rfl rfl hE2 info_arr8 ?_)
  go_wp2_with (first | (refine load_row rfl rfl rfl HE.out Try.underlying32 rfl info_cyc ?_) | (refine store_row rfl rfl rfl rfl HO.out info_cyc ?_))
  refine bodyPost_ret (results_row rfl rfl HO.out.setRow Try.underlying32 rfl info_cyc) rfl ?_
  exact ⟨rfl, below_setRow HL.out (by omega) _⟩

theorem eqInts8_yes (a : Nat → Int) (w : World) :
    Calls Try.prog 115 #[pt a, pt a] w fun e w' => e = .returned (.bool true) ∧ Below w.heap.size w w' := by
  have sa := vec_size 8 a
  unfold pt at *
  go_enter Try.func115, Try.ntmps115
  go_upto_region 1 with fail
  show Code.wp _ _ _ _ (boxAB w a a 30)
  obtain ⟨hA, hB, hL, _⟩ := boxAB_facts w a a 30
  generalize boxAB w a a 30 = W at *
  go_wp2_with fail
  go_loopw [5] (fun i wr => ∃ k : Nat, k ≤ 8 ∧ i = .int .i64 k ∧ RowAt wr w.heap.size 8 30 a ∧ RowAt wr (w.heap.size + 1) 8 30 a ∧ Below w.heap.size w wr) (fun i _ => 8 - (intOf i).toNat)
  case atStart => exact ⟨0, Nat.zero_le _, rfl, hA, hB, hL⟩
  case round =>
    clear hA hB hL
    obtain ⟨k, hk, rfl, hA, hB, hL⟩ := hrel
    by_cases hlt : k < 8
    · have hlt' : (k : Int) < 8 := by omega
      have hk0 : (0 : Int) ≤ (k : Int) := by omega
      have cA := hA.cell hlt
      have cB := hB.cell hlt
      have HA := Lib.hid hA; have HB := Lib.hid hB; have HL := Lib.hid hL
      clear hA hB hL
      generalize a k = x at cA cB
      go_wp2_with fail
      go_quiet (fail)
      go_wp2_with fail
      go_roundw
      case rel => exact ⟨k + 1, by omega, by go_num, HA.out.drew _, HB.out.drew _, below_drewN HL.out _⟩
      case measure => simp [intOf]; omega
    · obtain rfl : k = 8 := by omega
      have HL := Lib.hid hL
      clear hA hB hL
      go_wp2_with fail
      go_ret
      exact ⟨rfl, HL.out⟩
theorem eqCyc_yes (a : Nat → Int) (w : World) :
    Calls Try.prog 84 #[pt a, pt a] w fun e w' => e = .returned (.bool true) ∧ Below w.heap.size w w' := by
  have sa := vec_size 8 a
  have P := fun w => eqInts8_yes a w
  unfold pt at *
  go_enter Try.func84, Try.ntmps84
  go_upto_region 1 with fail
  show Code.wp _ _ _ _ (boxAB w a a 32)
  obtain ⟨hA, hB, hL, _⟩ := boxAB_facts w a a 32
  generalize boxAB w a a 32 = W at *
  go_wp2_with (first | (refine load_row rfl rfl rfl hA Try.underlying30 rfl info_arr8 ?_) | (refine load_row rfl rfl rfl hB Try.underlying30 rfl info_arr8 ?_))
  refine (P _).mono ?_; rintro e w2 ⟨rfl, hb2⟩
  have hL2 := below_next hL hb2
  clear hA hB hL hb2 P
  go_wp2_with fail
  go_ret
  exact ⟨rfl, hL2⟩

end Go.Proofs.Ytdpakhggpgdgbaa
/- The exact laws of exact points of one point or of numbers: both sides answer alike, for every argument. -/
namespace Go.Proofs.Ytdpakhggpgdgbaa
set_option maxRecDepth 20000
open Go.ChangeShapes Go.WideShapes Go.ChangeAt Go.RowKit
set_option linter.unusedVariables false
set_option linter.unusedSimpArgs false

theorem info_law : (Try.prog.info? 54).map (·.size) = some 8 := by kernel_rfl
theorem size_law (a : Nat → Int) : (Try.prog.info? 54).map (·.size) = some (lst 8 a).length := by rw [lst_length]; exact info_law

end Go.Proofs.Ytdpakhggpgdgbaa
/- The laws' own small functions on slices of int: equal, marked, held. -/
namespace Go.Proofs.Ytdpakhggpgdgbaa
set_option maxRecDepth 20000
open Go.ChangeShapes Go.WideShapes Go.ChangeAt Go.RowKit
set_option linter.unusedVariables false
set_option linter.unusedSimpArgs false

/-- A slice value reads as a list of ints. -/
def IntsAt (w : World) (v : Value) (xs : List Int) : Prop :=
  ∃ (p : Option Addr) (cap : Nat), v = .slice p xs.length cap ∧ (xs ≠ [] → ∃ g off, p = some ⟨g, off, none⟩ ∧ ∀ i, i < xs.length → w.cell? ⟨g, off + i, none⟩ = some (.int .i64 (xs.getD i 0)))

theorem getD_of_getElem? {xs : List Int} {i : Nat} (h : i < xs.length) : (xs.map (Value.int .i64))[i]? = some (.int .i64 (xs.getD i 0)) := by
  simp [List.getD_eq_getElem?_getD, h]
theorem intsAt_of_own {w : World} {B n : Nat} {t : TypeId} {v : Value} {xs : List Int} (h : w.ownsRow B t 1 v n (xs.map (Value.int .i64))) : IntsAt w v xs := by
  have hl : xs.length = n := by simpa using h.1
  rcases h.2 with ⟨rfl, rfl⟩ | ⟨g, cap, cur, rfl, _⟩
  · have : xs = [] := List.length_eq_zero_iff.1 hl
    subst this
    exact ⟨none, 0, rfl, fun hne => absurd rfl hne⟩
  · refine ⟨some ⟨g, 0, none⟩, cap, by rw [hl], fun _ => ⟨g, 0, rfl, fun i hi => ?_⟩⟩
    rw [Nat.zero_add, h.cellAt i (by omega)]
    exact getD_of_getElem? hi

set_option maxHeartbeats 400000 in
theorem eqInts_yes (v v' : Value) (xs : List Int) (w : World) (h : IntsAt w v xs) (h' : IntsAt w v' xs) (hl : xs.length ≤ 1000000) :
    Calls Try.prog 48 #[v, v'] w fun e w' => e = .returned (.bool true) ∧ ∃ m, w' = w.drewN m := by
  obtain ⟨p, cap, rfl, hp⟩ := h
  obtain ⟨p', cap', rfl, hp'⟩ := h'
  go_enter Try.func48, Try.ntmps48
  go_wp2_with fail
  go_loopw [5] (fun i wr => ∃ k m : Nat, k ≤ xs.length ∧ i = .int .i64 k ∧ wr = w.drewN m) (fun i _ => xs.length - (intOf i).toNat)
  case atStart => exact ⟨0, 0, Nat.zero_le _, rfl, rfl⟩
  case round =>
    obtain ⟨k, m, hk, rfl, rfl⟩ := hrel
    by_cases hlt : k < xs.length
    · obtain ⟨g, off, rfl, hc⟩ := hp (by rintro rfl; simp at hlt)
      obtain ⟨g', off', rfl, hc'⟩ := hp' (by rintro rfl; simp at hlt)
      have c1 : w.cell? ⟨g, off + k, none⟩ = some (.int .i64 (xs.getD k 0)) := hc k hlt
      have c2 : w.cell? ⟨g', off' + k, none⟩ = some (.int .i64 (xs.getD k 0)) := hc' k hlt
      clear hc hc' hp hp'
      generalize xs.getD k 0 = x at c1 c2
      have hlt' : (k : Int) < (xs.length : Int) := by omega
      have hk0 : (0 : Int) ≤ (k : Int) := by omega
      go_wp2_with fail
      go_quiet (fail)
      go_wp2_with fail
      go_roundw
      case rel => exact ⟨k + 1, _, by omega, by go_num, rfl⟩
      case measure => simp [intOf]; omega
    · obtain rfl : k = xs.length := by omega
      clear hp hp'
      go_wp2_with fail
      go_ret
      exact ⟨rfl, m, rfl⟩

set_option maxHeartbeats 400000 in
theorem sameInts_yes (v v' : Value) (xs : List Int) (w : World) (h : IntsAt w v xs) (h' : IntsAt w v' xs) (hl : xs.length ≤ 1000000) :
    Calls Try.prog 34 #[v, v'] w fun e w' => e = .returned (.bool true) ∧ ∃ m, w' = w.drewN m := by
  obtain ⟨p, cap, rfl, hp⟩ := h
  obtain ⟨p', cap', rfl, hp'⟩ := h'
  go_enter Try.func34, Try.ntmps34
  go_wp2_with fail
  go_loopw [5] (fun i wr => ∃ k m : Nat, k ≤ xs.length ∧ i = .int .i64 k ∧ wr = w.drewN m) (fun i _ => xs.length - (intOf i).toNat)
  case atStart => exact ⟨0, 0, Nat.zero_le _, rfl, rfl⟩
  case round =>
    obtain ⟨k, m, hk, rfl, rfl⟩ := hrel
    by_cases hlt : k < xs.length
    · obtain ⟨g, off, rfl, hc⟩ := hp (by rintro rfl; simp at hlt)
      obtain ⟨g', off', rfl, hc'⟩ := hp' (by rintro rfl; simp at hlt)
      have c1 : w.cell? ⟨g, off + k, none⟩ = some (.int .i64 (xs.getD k 0)) := hc k hlt
      have c2 : w.cell? ⟨g', off' + k, none⟩ = some (.int .i64 (xs.getD k 0)) := hc' k hlt
      clear hc hc' hp hp'
      generalize xs.getD k 0 = x at c1 c2
      have hlt' : (k : Int) < (xs.length : Int) := by omega
      have hk0 : (0 : Int) ≤ (k : Int) := by omega
      go_wp2_with fail
      go_quiet (fail)
      go_wp2_with fail
      go_roundw
      case rel => exact ⟨k + 1, _, by omega, by go_num, rfl⟩
      case measure => simp [intOf]; omega
    · obtain rfl : k = xs.length := by omega
      clear hp hp'
      go_wp2_with fail
      go_ret
      exact ⟨rfl, m, rfl⟩

/-- The marks k, k + 1, .. -/
def marks (k : Int) (n : Nat) : List Int := (List.range n).map (fun i => k + (i : Nat))
theorem marks_len (k : Int) (n : Nat) : (marks k n).length = n := by simp [marks]
theorem marks_get (k : Int) (n i : Nat) (h : i < n) : (marks k n).getD i 0 = k + i := by
  simp [marks, List.getD_eq_getElem?_getD, h]
theorem mark_step (k : Int) (xs : List Int) (j : Nat) (h : j < xs.length) :
    (((marks k j ++ xs.drop j).map (Value.int .i64)).set j (.int .i64 (k + j))) = (marks k (j + 1) ++ xs.drop (j + 1)).map (Value.int .i64) := by
  have e : xs.drop j = xs[j] :: xs.drop (j + 1) := List.drop_eq_getElem_cons h
  rw [e]
  have hm : marks k (j + 1) = marks k j ++ [k + j] := by simp [marks, List.range_succ]
  rw [hm, List.map_append, List.set_append_right _ _ (by simp [marks_len])]
  simp only [List.map_append, List.map_cons, List.length_map, marks_len, Nat.sub_self, List.set_cons_zero, List.append_assoc, List.cons_append, List.nil_append, List.map_nil]
theorem only_trans {a b c : World} {row : Option Nat} (h : a.grownBy b row) (k : b.grownBy c row) : a.grownBy c row :=
  ⟨k.os.trans h.os, k.tape.trans h.tape, k.output.trans h.output, Nat.le_trans h.size k.size, fun i hi hne => (k.block i (Nat.lt_of_lt_of_le hi h.size) hne).trans (h.block i hi hne)⟩

set_option maxHeartbeats 400000 in
theorem markInts_own (B G n cap : Nat) (xs : List Int) (w : World) (h : w.ownsRow B 3 1 (.slice (some ⟨G, 0, none⟩) n cap) n (xs.map (Value.int .i64))) (hn : n ≤ 1000000) (k : Int) (hk0 : 0 ≤ k) (hk1 : k ≤ 1000000) :
    Calls Try.prog 50 #[.slice (some ⟨G, 0, none⟩) n cap, .int .i64 k] w fun e w' => e = .returned (.int .i64 (k + n)) ∧
      w'.ownsRow B 3 1 (.slice (some ⟨G, 0, none⟩) n cap) n ((marks k n).map (Value.int .i64)) ∧ w.grownBy w' (some G) := by
  have hl : xs.length = n := by simpa using h.1
  go_enter Try.func50, Try.ntmps50
  go_wp2_with fail
  go_loopw [1, 5] (fun ks i wr => ∃ j : Nat, j ≤ n ∧ i = .int .i64 j ∧ ks = .int .i64 (k + j) ∧ wr.ownsRow B 3 1 (.slice (some ⟨G, 0, none⟩) n cap) n ((marks k j ++ xs.drop j).map (Value.int .i64)) ∧ w.grownBy wr (some G)) (fun _ i _ => n - (intOf i).toNat)
  case atStart => exact ⟨0, Nat.zero_le _, rfl, by simp, by simpa [marks] using h, World.grownBy.refl _ _⟩
  case round =>
    obtain ⟨j, hj, rfl, rfl, hown, hg⟩ := hrel
    by_cases hlt : j < n
    · have hlt' : (j : Int) < (n : Int) := by omega
      have hcell : wr.cell? ⟨G, j, none⟩ = some (.int .i64 ((marks k j ++ xs.drop j).getD j 0)) := by
        rw [hown.cellAt j (by omega)]; exact getD_of_getElem? (by simp [marks_len]; omega)
      have hfr := hown.frozenAt j
      obtain ⟨hown1, hg1⟩ := hown.stored j (.int .i64 (k + j))
      rw [mark_step k xs j (by omega)] at hown1
      have hg2 := only_trans hg hg1
      clear hg1 hg hown
      generalize (marks k j ++ xs.drop j).getD j 0 = old at hcell
      go_wp2_with fail
      go_roundw
      case rel => exact ⟨j + 1, by omega, by go_num, by go_num, hown1, hg2⟩
      case measure => simp [intOf]; omega
    · obtain rfl : j = n := by omega
      have e : (marks k j ++ xs.drop j) = marks k j := by rw [List.drop_of_length_le (by omega), List.append_nil]
      rw [e] at hown
      clear e
      go_wp2_with fail
      go_ret
      exact ⟨rfl, hown, hg⟩
theorem markInts_nil (k : Int) (w : World) : Calls Try.prog 50 #[.slice none 0 0, .int .i64 k] w fun e w' => e = .returned (.int .i64 k) ∧ w = w' := by
  go_enter Try.func50, Try.ntmps50
  go_wp2_with fail
  refine wp_loop_rounds 1 ?_
  rw [rounds_succ]
  go_wp2_with fail
  go_ret
  exact ⟨rfl, rfl⟩

set_option maxHeartbeats 400000 in
theorem heldInts_yes (v : Value) (n : Nat) (k : Int) (w : World) (h : IntsAt w v (marks k n)) (hn : n ≤ 1000000) (hk0 : 0 ≤ k) (hk1 : k ≤ 1000000) :
    Calls Try.prog 51 #[v, .int .i64 k] w fun e w' => e = .returned (.int .i64 (k + n)) ∧ w = w' := by
  obtain ⟨p, cap, rfl, hp⟩ := h
  rw [marks_len] at hp ⊢
  go_enter Try.func51, Try.ntmps51
  go_wp2_with fail
  go_loop [1, 5] (fun ks i => ∃ j : Nat, j ≤ n ∧ i = .int .i64 j ∧ ks = .int .i64 (k + j)) (fun _ i => n - (intOf i).toNat)
  case atStart => exact ⟨0, Nat.zero_le _, rfl, by simp⟩
  case round =>
    obtain ⟨j, hj, rfl, rfl⟩ := hrel
    by_cases hlt : j < n
    · obtain ⟨g, off, rfl, hc⟩ := hp (by intro e; have := congrArg List.length e; rw [marks_len] at this; simp at this; omega)
      have c1 : w.cell? ⟨g, off + j, none⟩ = some (.int .i64 (k + j)) := by rw [hc j hlt, marks_get k n j hlt]
      have hlt' : (j : Int) < (n : Int) := by omega
      have hne : ((k + (j : Int)) != (k + (j : Int))) = false := by simp
      clear hc hp
      go_wp2_with fail
      go_round
      case rel => exact ⟨j + 1, by omega, by go_num, by go_num⟩
      case measure => simp [intOf]; omega
    · obtain rfl : j = n := by omega
      clear hp
      go_wp2_with fail
      go_ret
      exact ⟨rfl, rfl⟩
end Go.Proofs.Ytdpakhggpgdgbaa
/- In a round of a range over a function (the wide fence): a region without a defer statement is walked as everywhere. -/
namespace Go.Proofs.Ytdpakhggpgdgbaa
set_option maxRecDepth 20000
open Go.ChangeShapes Go.WideShapes Go.ChangeAt Go.RowKit
set_option linter.unusedVariables false
set_option linter.unusedSimpArgs false

def noDefer (o : Oper) : Bool := match o.op with
  | .defer _ => false
  | _ => true
theorem noDefer_is {o : Oper} (h : noDefer o = true) : ∀ c, o.op ≠ .defer c := fun c e => by
  unfold noDefer at h
  rw [e] at h
  cases h
section
variable {P : Program} {ops : Array Oper} {Q : Exit → Act → World → Prop} {md : Region.Mode} {S : World → Prop}
theorem calls_in {f : FuncId} {args : Array Value} {w : World} {R : Ending → World → Prop} (l n : Nat) (h : Calls P f args w R) : CallsIn (Fence.wide.inRound l) n P f args w R := CallsIn.inRound l (callsIn_wide.2 h)
theorem rows_in {row : String} {args : Array Value} {w : World} {R : Value → World → Prop} (l n : Nat) (h : Rows P row args w R) : RowsIn (Fence.wide.inRound l) n P row args w R := fun c cs _ =>
  let ⟨v, w', r, s⟩ := h c cs
  ⟨v, w', r, stepsIn_wide.2 s⟩
theorem upon_in {o : Oper} {a : Act} {next : Act → World → Prop} {r : Result Next} (l n : Nat) (h : o.upon P a next Q r) : o.uponIn (Fence.wide.inRound l) n P a next Q r := by
  cases r with
  | ok x w' =>
    cases x <;> simp only [Oper.upon, Oper.uponIn] at h ⊢ <;>
      first
        | exact h
        | exact ⟨fun hd => (by cases hd), CallsIn.mono (calls_in l (n - 1) h) (fun e w'' he => by cases e <;> exact he)⟩
        | exact ⟨fun hd => (by cases hd), rows_in l (n - 1) h⟩
  | halt x w' => cases x <;> simp only [Oper.upon, Oper.uponIn] at h ⊢ <;> exact h
theorem wp_in {o : Oper} {a : Act} {w : World} {next : Act → World → Prop} (l n : Nat) (hd : noDefer o = true) (h : o.wp P a w next Q) : o.wpIn (Fence.wide.inRound l) n P a w next Q := by
  refine ⟨fun f _ => trivial, ?_⟩
  have e : o.semAt (Fence.wide.inRound l).round a.eval = execOp a.eval o := Oper.semAt_some l a.eval o (noDefer_is hd)
  rw [e]
  exact upon_in l n h
theorem wpList_in (l n : Nat) (hno : ¬ LetsOut Q) : ∀ L : List Oper, L.all noDefer = true → ∀ a w, wpList P ops Q L a w → wpListIn (Fence.wide.inRound l) n P ops Q L a w
  | [], _, a, w, h => h
  | o :: L, hd, a, w, h => by
    rw [List.all_cons, Bool.and_eq_true] at hd
    have ih := wpList_in l n hno L hd.2
    unfold wpList at h
    unfold wpListIn
    by_cases hw : Region.wanted o (yielded ops a.tmps) = true
    · rw [if_pos hw] at h ⊢
      rcases h with h | h
      · exact wp_in l n hd.1 (Oper.wp_mono ih h)
      · exact absurd h.2 hno
    · rw [if_neg hw] at h ⊢
      exact ⟨fun f _ => trivial, ih _ _ h⟩
/-- A plain region. -/
theorem region_in {id n l : Nat} {L : List Oper} {a : Act} {w : World} (hno : ¬ LetsOut Q) (hd : L.all noDefer = true) (h : wpList P L.toArray Q L a w) : (Code.region id L.toArray false).wpIn (Fence.wide.inRound l) n P Q a w :=
  wpIn_region_lit (wpList_in l n hno L hd a w h)
theorem wpOp_in {i : Nat} {a : Act} {w : World} {K : Act → World → Prop} (l n : Nat) (hno : ¬ LetsOut Q) (hd : ∀ (j : Nat) (o : Oper), ops[j]? = some o → noDefer o = true) (h : wpOp P ops Q i K a w) : wpOpIn (Fence.wide.inRound l) n P ops Q i K a w := by
  unfold wpOp at h
  unfold wpOpIn
  split
  · rename_i ho
    rw [ho] at h; exact h
  · rename_i o ho
    rw [ho] at h
    simp only at h
    split
    · rename_i hw
      rw [if_pos hw] at h
      rcases h with h | h
      · exact wp_in l n (hd i o ho) h
      · exact absurd h.2 hno
    · rename_i hw
      rw [if_neg hw] at h
      exact ⟨fun f _ => trivial, h⟩
theorem wpAny_in (l n : Nat) (hno : ¬ LetsOut Q) (hd : ∀ (j : Nat) (o : Oper), ops[j]? = some o → noDefer o = true) : ∀ (fuel : Nat) (listed : Array Bool) (a : Act) (w : World), wpAny P md ops Q fuel listed a w → wpAnyIn (Fence.wide.inRound l) n P md ops Q fuel listed a w
  | 0, _, _, _, h => h
  | fuel + 1, _, _, _, h => ⟨h.1, fun i hi => wpOp_in l n hno hd (wpOp_mono (fun a' w' h' => wpAny_in l n hno hd fuel _ a' w' h') (h.2 i hi))⟩
/-- A region that draws its order. -/
theorem drawn_in {id n l : Nat} {L : List Oper} {a : Act} {w : World} (hno : ¬ LetsOut Q) (hd : L.all noDefer = true) (hm : P.follows .mixedOrders = true) (hS : S w.drew)
    (h : S w.drew → wpAnyH P .any L.toArray Q S L.toArray.size (Array.replicate L.toArray.size false) a w.drew) : (Code.region id L.toArray true).wpIn (Fence.wide.inRound l) n P Q a w :=
  wpIn_region_any hm (wpAny_in l n hno (fun j o ho => List.all_eq_true.1 hd o (by
    have : L[j]? = some o := by simpa using ho
    exact List.mem_of_getElem? this)) _ _ _ _ (wpAny_of_held _ _ _ _ (h hS)))
end
theorem keeps_below {W W' : World} (h : Below W.heap.size W W') : KeepsOthers W W' := KeepsOthers.of_grownBy (row := none) ⟨h.os, h.tape, h.output, h.size, fun k hk _ => h.block k hk⟩ (fun j o e => by cases e)

end Go.Proofs.Ytdpakhggpgdgbaa
