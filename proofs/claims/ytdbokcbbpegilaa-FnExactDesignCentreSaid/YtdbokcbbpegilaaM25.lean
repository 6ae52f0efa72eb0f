/-
  The model's lengths of rows.
-/
import Derived.Test.YtdbokcbbpegilaaM24
/- The model's lengths of rows. -/
namespace Go.Proofs.Ytdbokcbbpegilaa
set_option maxRecDepth 20000
open Go.ChangeShapes Go.WideShapes Go.ChangeAt Go.RowKit
set_option linter.unusedVariables false
set_option linter.unusedSimpArgs false

theorem specLength_any (n : Int) (w : World) : Calls Try.prog 85 #[.int .i64 n] w fun e w' => e = .returned (.bool (rowZ n)) ∧ w = w' := by
  by_cases h1 : 1 ≤ n
  · obtain ⟨m, rfl⟩ : ∃ m : Nat, n = m := ⟨n.toNat, by omega⟩
    rw [rowZ_nat]
    have h0 : ¬ (m : Int) = 0 := by omega
    by_cases h24 : (m : Int) ≤ 24
    · have h00 : ((m : Int) == 0) = false := by simpa using h0
      obtain ⟨q, hq⟩ : ∃ q, 24 % m = q := ⟨_, rfl⟩
      have hle : q ≤ 24 := by rw [← hq]; exact Nat.mod_le 24 m
      have e : Int.tmod 24 (m : Int) = (q : Int) := by
        rw [Int.tmod_eq_emod_of_nonneg (by decide), ← hq]; simp
      have er : rowLen m = ((q : Int) == 0) := by
        unfold rowLen
        rw [decide_eq_true (by omega : 1 ≤ m), Bool.true_and, hq]
        by_cases h : q = 0
        · subst h; rfl
        · rw [decide_eq_false h]; symm; simpa using h
      rw [er]
      clear er hq
      have e2 : (24 : Int).tmod (m : Int) = (q : Int) := e
      have q1 : IntKind.i64.wrap (q : Int) = (q : Int) := by rw [IntKind.wrap_i64]; omega
      go_enter Try.func85, Try.ntmps85
      go_wp2
      go_ret
      exact ⟨rfl, rfl⟩
    · have er : rowLen m = false := by
        cases h : rowLen m
        · rfl
        · have := (rowLen_in h).2.2; omega
      rw [er]
      go_enter Try.func85, Try.ntmps85
      go_wp2
      go_ret
      exact ⟨rfl, rfl⟩
  · have e : rowZ n = false := by unfold rowZ; rw [decide_eq_false h1]; rfl
    rw [e]
    go_enter Try.func85, Try.ntmps85
    go_wp2
    go_ret
    exact ⟨rfl, rfl⟩
theorem specV (a : V) (w : World) : Calls Try.prog 128 #[pt a.up] w fun e w' => e = .returned (.bool (okv a)) ∧ Below w.heap.size w w' := specValid_any a.up w
theorem specTurnV (a : V) {t : Nat} (ht : t ≤ 23) (ha : okv a = true) (w : World) : Calls Try.prog 88 #[pt a.up, .int .i64 t] w fun e w' => e = .returned (pt (tV t a).up) ∧ Below w.heap.size w w' := by
  rw [← pt_tV a ht]; exact specTurned_any a.up t ht (inR_bound ha) w
theorem specSumV (a b : V) (ha : Big a 8000000000000000) (hb : Big b 1000000000) (w : World) : Calls Try.prog 138 #[pt a.up, .int .i64 1, pt b.up] w fun e w' => e = .returned (pt (V.add a b).up) ∧ Below w.heap.size w w' := by
  have e : pt (mul1 a.up 1 b.up) = pt (V.add a b).up := pt_same fun j hj => by rw [add_up]; show a.up j + 1 * b.up j = a.up j + b.up j; omega
  rw [← e]; exact specSum_any a.up b.up 1 (by omega) ha hb w

end Go.Proofs.Ytdbokcbbpegilaa
