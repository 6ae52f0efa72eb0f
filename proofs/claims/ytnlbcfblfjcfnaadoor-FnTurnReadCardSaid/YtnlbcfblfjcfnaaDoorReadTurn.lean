/-
  Reading turns: impl's and spec's find the same turn.
-/
import Derived.Test.YtnlbcfblfjcfnaaDoorNames
import Derived.Laws.Rows
import Derived.Lib.Strings
namespace Go.Proofs.YtnlbcfblfjcfnaaDoor
open Go.ChangeShapes Go.WideShapes Go.ChangeAt Go.RowKit
set_option linter.unusedVariables false
set_option linter.unusedSimpArgs false

/-- A text is that of turn t, and of no turn ahead of t. -/
def Is (s : ByteArray) (t : Nat) : Prop := t ≤ 23 ∧ strOf (names.getD t []) = s ∧ ∀ j, j < t → strOf (names.getD j []) ≠ s
/-- A text is that of no turn. -/
def IsNone (s : ByteArray) : Prop := ∀ j, j < 24 → strOf (names.getD j []) ≠ s
theorem is_cases (s : ByteArray) : (∃ t, Is s t) ∨ IsNone s := by
  by_cases h : ∃ t, t ≤ 23 ∧ strOf (names.getD t []) = s
  · obtain ⟨t, h1, h2⟩ := h
    have key : ∀ n t, t ≤ n → t ≤ 23 → strOf (names.getD t []) = s → ∃ t, Is s t := by
      intro n
      induction n with
      | zero => intro t h0 h1 h2; exact ⟨t, h1, h2, fun j hj => by omega⟩
      | succ n ih =>
        intro t h0 h1 h2
        by_cases hj : ∃ j, j < t ∧ strOf (names.getD j []) = s
        · obtain ⟨j, hj1, hj2⟩ := hj
          exact ih j (by omega) (by omega) hj2
        · exact ⟨t, h1, h2, fun j hlt he => hj ⟨j, hlt, he⟩⟩
    exact .inl (key t t (Nat.le_refl _) h1 h2)
  · exact .inr fun j hj he => h ⟨j, by omega, he⟩

theorem list_ne {x s : ByteArray} (h : x ≠ s) : (x.toList == s.toList) = false := by
  rw [Lib.toList_data, Lib.toList_data]
  simp only [beq_eq_false_iff_ne, ne_eq]
  intro he
  exact h (ByteArray.ext (Array.toList_inj.1 he))
theorem info_names : (Tryd.prog.info? 38).map (·.size) = some nameCells.size := by kernel_rfl
theorem index_name (k : Nat) (hk : k < 24) (w : World) : (Instr.index 38 (.agg nameCells) (.int .i64 (k : Int))).run Tryd.prog w = .ok (.string (strOf (names.getD k []))) w := by
  have hn : 0 ≤ (k : Int) ∧ (k : Int) < 24 := by omega
  have hi := name_at k hk
  have hk' : ¬ 24 ≤ k := by omega
  simp [Instr.index, run_underlying Tryd.underlying38, asIntOf, hn, go_sem, hi, hk']

theorem implRead_yes (s : ByteArray) (t : Nat) (h : Is s t) (w : World) (hn : NamesAt w) :
    Calls Tryd.prog 10 #[.string s] w fun e w' => e = .returned (.tuple #[.int .i64 t, .bool true]) ∧ w = w' := by
  obtain ⟨tt, fr, hb⟩ := hn
  have HB := Lib.hid hb; clear hb
  have H := Lib.hid h; clear h
  go_enter Tryd.func10, Tryd.ntmps10
  go_wp2_with (refine wpList_load_row rfl 38 (.global 0) rfl 0 rfl tt nameCells fr _ HB.out Tryd.underlying38 rfl info_names ?_)
  go_loop [7, 4, 5] (fun i _ _ => ∃ k : Nat, k ≤ t ∧ i = .int .i64 k) (fun i _ _ => t - (intOf i).toNat)
  case atStart => exact ⟨0, by omega, rfl⟩
  case round =>
    obtain ⟨k, hk, rfl⟩ := hrel
    have ht := H.out.1
    have hk24 : (k : Int) < 24 := by omega
    have hix := fun W => index_name k (by omega) W
    by_cases he : k = t
    · subst he
      have hs := H.out.2.1
      rw [hs] at hix
      have hss : (s.toList == s.toList) = true := by simp
      clear H hs
      go_wp2_with fail
      go_ret2
      exact ⟨rfl, rfl⟩
    · have hs := H.out.2.2 k (by omega)
      generalize strOf (names.getD k []) = x at hix hs
      have hss := list_ne hs
      clear hs
      go_wp2_with fail
      go_round
      case rel => exact ⟨k + 1, by omega, by go_num⟩
      case measure => simp [intOf]; omega
theorem implRead_no (s : ByteArray) (h : IsNone s) (w : World) (hn : NamesAt w) :
    Calls Tryd.prog 10 #[.string s] w fun e w' => e = .returned (.tuple #[.int .i64 0, .bool false]) ∧ w = w' := by
  obtain ⟨tt, fr, hb⟩ := hn
  have HB := Lib.hid hb; clear hb
  have H := Lib.hid h; clear h
  go_enter Tryd.func10, Tryd.ntmps10
  go_wp2_with (refine wpList_load_row rfl 38 (.global 0) rfl 0 rfl tt nameCells fr _ HB.out Tryd.underlying38 rfl info_names ?_)
  go_loop [7, 4, 5] (fun i _ _ => ∃ k : Nat, k ≤ 24 ∧ i = .int .i64 k) (fun i _ _ => 24 - (intOf i).toNat)
  case atStart => exact ⟨0, by omega, rfl⟩
  case round =>
    obtain ⟨k, hk, rfl⟩ := hrel
    by_cases hlt : k < 24
    · have hk24 : (k : Int) < 24 := by omega
      have hix := fun W => index_name k hlt W
      have hs := H.out k hlt
      generalize strOf (names.getD k []) = x at hix hs
      have hss := list_ne hs
      clear hs
      go_wp2_with fail
      go_round
      case rel => exact ⟨k + 1, by omega, by go_num⟩
      case measure => simp [intOf]; omega
    · have hk24 : ¬ (k : Int) < 24 := by omega
      go_wp2_with fail
      go_ret2
      exact ⟨rfl, rfl⟩

theorem specRead_yes (s : ByteArray) (t : Nat) (h : Is s t) (w : World) :
    Calls Tryd.prog 12 #[.string s] w fun e w' => e = .returned (.tuple #[.int .i64 t, .bool true]) ∧ Below w.heap.size w w' := by
  have H := Lib.hid h; clear h
  go_enter Tryd.func12, Tryd.ntmps12
  go_wp2_with fail
  go_loopw [4] (fun i wr => ∃ k : Nat, k ≤ t ∧ i = .int .i64 k ∧ Below w.heap.size w wr) (fun i _ => t - (intOf i).toNat)
  case atStart => exact ⟨0, by omega, rfl, Below.refl _ _⟩
  case round =>
    obtain ⟨k, hk, rfl, hb⟩ := hrel
    have ht := H.out.1
    have hk24 : (k : Int) < 24 := by omega
    have T := Lib.hid (specText_yes k (by omega) wr)
    have z := hb.size
    by_cases he : k = t
    · subst he
      have hs := H.out.2.1
      rw [hs] at T
      have hss : (s.toList == s.toList) = true := by simp
      clear H hs
      go_wp2_with fail
      refine T.out.mono ?_; rintro e w1 ⟨rfl, hb1⟩
      go_wp2_with fail
      go_ret2
      exact ⟨rfl, hb.trans (hb1.mono z)⟩
    · have hs := H.out.2.2 k (by omega)
      generalize strOf (names.getD k []) = x at T hs
      have hss := list_ne hs
      clear hs
      go_wp2_with fail
      refine T.out.mono ?_; rintro e w1 ⟨rfl, hb1⟩
      go_wp2_with fail
      go_roundw
      case rel => exact ⟨k + 1, by omega, by go_num, hb.trans (hb1.mono z)⟩
      case measure => simp [intOf]; omega
theorem specRead_no (s : ByteArray) (h : IsNone s) (w : World) :
    Calls Tryd.prog 12 #[.string s] w fun e w' => e = .returned (.tuple #[.int .i64 0, .bool false]) ∧ Below w.heap.size w w' := by
  have H := Lib.hid h; clear h
  go_enter Tryd.func12, Tryd.ntmps12
  go_wp2_with fail
  go_loopw [4] (fun i wr => ∃ k : Nat, k ≤ 24 ∧ i = .int .i64 k ∧ Below w.heap.size w wr) (fun i _ => 24 - (intOf i).toNat)
  case atStart => exact ⟨0, by omega, rfl, Below.refl _ _⟩
  case round =>
    obtain ⟨k, hk, rfl, hb⟩ := hrel
    by_cases hlt : k < 24
    · have hk24 : (k : Int) < 24 := by omega
      have T := Lib.hid (specText_yes k (by omega) wr)
      have z := hb.size
      have hs := H.out k hlt
      generalize strOf (names.getD k []) = x at T hs
      have hss := list_ne hs
      clear hs
      go_wp2_with fail
      refine T.out.mono ?_; rintro e w1 ⟨rfl, hb1⟩
      go_wp2_with fail
      go_roundw
      case rel => exact ⟨k + 1, by omega, by go_num, hb.trans (hb1.mono z)⟩
      case measure => simp [intOf]; omega
    · have hk24 : ¬ (k : Int) < 24 := by omega
      go_wp2_with fail
      go_ret2
      exact ⟨rfl, hb⟩
end Go.Proofs.YtnlbcfblfjcfnaaDoor
