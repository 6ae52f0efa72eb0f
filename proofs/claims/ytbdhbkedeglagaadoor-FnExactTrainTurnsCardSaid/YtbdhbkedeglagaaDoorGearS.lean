/-
  spec: trains.
-/
import Derived.Test.YtbdhbkedeglagaaDoorGearD
namespace Go.Proofs.YtbdhbkedeglagaaDoor
set_option maxRecDepth 20000
open Go.ChangeShapes Go.WideShapes Go.ChangeAt Go.RowKit
set_option linter.unusedVariables false
set_option linter.unusedSimpArgs false

theorem sgear_any (n : Int) (w : World) : Calls Tryd.prog 27 #[.int .i64 n] w fun e w' => e = .returned (.bool (gearB n)) ∧ w = w' := by
  cases h : gearB n with
  | true =>
    obtain ⟨h1, h2⟩ := gearB_true.1 h
    have I := fun w => in_yes n 6 240 h1 h2 w
    clear h
    go_enter Tryd.func27, Tryd.ntmps27
    go_wp2_with fail
    refine (I _).mono ?_; rintro e w1 ⟨rfl, rfl⟩
    go_wp2
    go_ret
    exact ⟨rfl, rfl⟩
  | false =>
    have I := fun w => in_no n 6 240 (gearB_false.1 h) w
    clear h
    go_enter Tryd.func27, Tryd.ntmps27
    go_wp2_with fail
    refine (I _).mono ?_; rintro e w1 ⟨rfl, rfl⟩
    go_wp2
    go_ret
    exact ⟨rfl, rfl⟩
theorem gcdz_step (p q : Int) : Int.gcd q (p.tmod q) = Int.gcd p q := by
  unfold Int.gcd
  rw [Int.natAbs_tmod, Nat.gcd_comm p.natAbs q.natAbs, Nat.gcd_rec q.natAbs p.natAbs, Nat.gcd_comm]
theorem sgcd_great (a b : Int) (ha : -1000000000000 ≤ a ∧ a ≤ 1000000000000) (hb : -1000000000000 ≤ b ∧ b ≤ 1000000000000) (w : World) :
    Calls Tryd.prog 28 #[.int .i64 a, .int .i64 b] w fun e w' => e = .returned (.int .i64 ((Int.gcd a b : Nat) : Int)) ∧ w = w' := by
  go_enter Tryd.func28, Tryd.ntmps28
  go_wp2
  go_loop [0, 1, 5] (fun x y _ => ∃ p q : Int, x = .int .i64 p ∧ y = .int .i64 q ∧ (-1000000000000 ≤ p ∧ p ≤ 1000000000000) ∧ (-1000000000000 ≤ q ∧ q ≤ 1000000000000) ∧ Int.gcd p q = Int.gcd a b) (fun _ y _ => (intOf y).natAbs)
  case atStart => exact ⟨a, b, rfl, rfl, ha, hb, rfl⟩
  case round =>
    obtain ⟨p, q, rfl, rfl, hp, hq, hg⟩ := hrel
    have G := Lib.hid hg; clear hg
    by_cases h : q = 0
    · subst h
      by_cases hn : p < 0
      · go_wp2
        go_ret
        exact ⟨ret_int (by have := G.out; rw [Int.gcd_zero_right] at this; omega), rfl⟩
      · go_wp2
        go_ret
        exact ⟨ret_int (by have := G.out; rw [Int.gcd_zero_right] at this; omega), rfl⟩
    · have hq0 : (q != 0) = true := by simpa using h
      have hq2 : (q == 0) = false := by simpa using h
      have ht : (p.tmod q).natAbs = p.natAbs % q.natAbs := Int.natAbs_tmod p q
      have hlt : p.natAbs % q.natAbs < q.natAbs := Nat.mod_lt _ (by omega)
      have w1 : IntKind.i64.wrap (p.tmod q) = p.tmod q := by rw [IntKind.wrap_i64]; omega
      have HR : Aside (-1000000000000 ≤ p.tmod q ∧ p.tmod q ≤ 1000000000000) := (show _ ∧ _ from by omega)
      have HM : Aside ((p.tmod q).natAbs < q.natAbs) := (show _ < _ from by omega)
      clear ht hlt
      go_wp2
      go_round
      case rel => exact ⟨q, p.tmod q, rfl, rfl, hq, HR.out, by rw [gcdz_step, G.out]⟩
      case measure => have := HM.out; simp only [intOf]; omega

end Go.Proofs.YtbdhbkedeglagaaDoor
