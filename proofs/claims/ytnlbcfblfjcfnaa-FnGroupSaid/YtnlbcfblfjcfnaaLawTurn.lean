/-
  The walks of the laws FnTurnOf, FnTurnAdd, FnTurnTimes of every code.
-/
import Derived.Test.YtnlbcfblfjcfnaaExactTurnA
import Derived.Test.YtnlbcfblfjcfnaaDrawTurn
namespace Go.Proofs.Ytnlbcfblfjcfnaa
open Go.ChangeShapes Go.WideShapes Go.ChangeAt Go.RowKit
set_option linter.unusedVariables false
set_option linter.unusedSimpArgs false

/-- A code is short enough, or the law answers true at once. -/
theorem code_len {w : World} {v : Value} (h : CodeAt w v) : ∃ a n c, v = .slice a n c ∧ n ≤ 9223372036854775807 := by
  rcases h with ⟨a, rfl⟩ | ⟨b, off, len, cap, zs, rfl, _, h1, h2, _⟩
  · exact ⟨a, 0, 0, rfl, by omega⟩
  · exact ⟨_, _, _, rfl, by unfold maxLen at h2; omega⟩

theorem lawAdd_walk (v : Value) (w : World) (h : CodeAt w v) : Calls Try.prog 4 #[v] w (Fine w) := by
  have D := Lib.hid (drawAdd v w h)
  obtain ⟨pa, pn, pc, rfl, hpn⟩ := code_len h
  clear h
  by_cases hbig : 1048576 < pn
  · have hb : (1048576 : Int) < (pn : Int) := by omega
    go_enter Try.func4, Try.ntmps4
    go_wp2_with fail
    go_ret
    exact fine_same ⟨rfl, rfl⟩
  have hb : ¬ (1048576 : Int) < (pn : Int) := by omega
  go_enter Try.func4, Try.ntmps4
  go_wp2_with fail
  refine D.out.mono ?_; rintro e w1 ⟨a, b, rfl, a0, a1, b0, b1, hbel⟩
  clear D
  rcases two_cases a b with h | ⟨a0', a1', b0', b1'⟩
  · go_wp2_with (first | (go_at_call 19; refine (specAdd_no _ _ h _).mono ?_; rintro e w' ⟨rfl, rfl⟩) | (go_at_call 18; refine (implAdd_no _ _ h _).mono ?_; rintro e w' ⟨rfl, rfl⟩))
    go_ret
    exact ⟨rfl, hbel⟩
  · go_wp2_with fail
    refine (implAdd_yes _ _ a0' a1' b0' b1' _).mono ?_; rintro e w' ⟨rfl, rfl⟩
    go_wp2_with fail
    refine (specAdd_yes _ _ a0' a1' b0' b1' _).mono ?_; rintro e w' ⟨rfl, rfl⟩
    go_wp2_with fail
    refine (implAdd_yes _ _ b0' b1' a0' a1' _).mono ?_; rintro e w' ⟨rfl, rfl⟩
    go_wp2_with fail
    refine (implTimes_yes _ _ a0' a1' (by omega) (by omega) _).mono ?_; rintro e w' ⟨rfl, rfl⟩
    go_wp2_with fail
    refine (implAdd_yes _ _ (by omega) (by omega) (by omega) (by omega) _).mono ?_; rintro e w' ⟨rfl, rfl⟩
    have e1 : ((b + a) % 24 == (a + b) % 24) = true := by simp; omega
    go_wp2_with fail
    go_ret
    exact ⟨ret_bool (by simp; omega), hbel⟩

theorem lawTimes_walk (v : Value) (w : World) (h : CodeAt w v) : Calls Try.prog 5 #[v] w (Fine w) := by
  have D := Lib.hid (drawTimes v w h)
  obtain ⟨pa, pn, pc, rfl, hpn⟩ := code_len h
  clear h
  by_cases hbig : 1048576 < pn
  · have hb : (1048576 : Int) < (pn : Int) := by omega
    go_enter Try.func5, Try.ntmps5
    go_wp2_with fail
    go_ret
    exact fine_same ⟨rfl, rfl⟩
  have hb : ¬ (1048576 : Int) < (pn : Int) := by omega
  go_enter Try.func5, Try.ntmps5
  go_wp2_with fail
  refine D.out.mono ?_; rintro e w1 ⟨a, n, rfl, a0, a1, n0, n1, hbel⟩
  clear D
  rcases times_cases a n with h | ⟨a0', a1', n0', n1'⟩
  · go_wp2_with (first | (go_at_call 21; refine (specTimes_no _ _ h _).mono ?_; rintro e w' ⟨rfl, rfl⟩) | (go_at_call 16; refine (implTimes_no _ _ h _).mono ?_; rintro e w' ⟨rfl, rfl⟩))
    go_ret
    exact ⟨rfl, hbel⟩
  · have em : a * (n + 1) = a * n + a := by rw [Int.mul_add, Int.mul_one]
    have EM := Lib.hid em; clear em
    go_wp2_with fail
    refine (implTimes_yes _ _ a0' a1' n0' n1' _).mono ?_; rintro e w' ⟨rfl, rfl⟩
    go_wp2_with fail
    refine (specTimes_yes _ _ a0' a1' n0' n1' _).mono ?_; rintro e w' ⟨rfl, rfl⟩
    go_wp2_with fail
    refine (implTimes_yes _ _ a0' a1' (by omega) (by omega) _).mono ?_; rintro e w' ⟨rfl, rfl⟩
    go_wp2_with fail
    refine (implAdd_yes _ _ (by omega) (by omega) a0' a1' _).mono ?_; rintro e w' ⟨rfl, rfl⟩
    go_wp2_with fail
    go_ret
    exact ⟨ret_bool (by have := EM.out; simp; omega), hbel⟩

theorem lawOf_walk (v : Value) (w : World) (h : CodeAt w v) : Calls Try.prog 3 #[v] w (Fine w) := by
  have D := Lib.hid (drawOf v w h)
  obtain ⟨pa, pn, pc, rfl, hpn⟩ := code_len h
  clear h
  by_cases hbig : 1048576 < pn
  · have hb : (1048576 : Int) < (pn : Int) := by omega
    go_enter Try.func3, Try.ntmps3
    go_wp2_with fail
    go_ret
    exact fine_same ⟨rfl, rfl⟩
  have hb : ¬ (1048576 : Int) < (pn : Int) := by omega
  go_enter Try.func3, Try.ntmps3
  go_wp2_with fail
  refine D.out.mono ?_; rintro e w1 ⟨n, d, rfl, n0, n1, d0, d1, hbel⟩
  clear D
  rcases of_cases n d with h | ⟨hd, n0', n1'⟩
  · go_wp2_with (first | (go_at_call 15; refine (specOf_no _ _ h _).mono ?_; rintro e w' ⟨rfl, rfl⟩) | (go_at_call 14; refine (implOf_no _ _ h _).mono ?_; rintro e w' ⟨rfl, rfl⟩))
    go_ret
    exact ⟨rfl, hbel⟩
  · have HD := Lib.hid hd
    rcases hd with rfl | rfl | rfl | rfl | rfl | rfl | rfl | rfl
    all_goals
      go_wp2_with fail
      refine (implOf_yes _ _ HD.out n0' n1' _).mono ?_; rintro e w' ⟨rfl, rfl⟩
      go_wp2_with fail
      refine (specOf_yes _ _ HD.out n0' n1' _).mono ?_; rintro e w' ⟨rfl, rfl⟩
      go_wp2_with fail
      refine (implOf_yes _ _ HD.out (by omega) (by omega) _).mono ?_; rintro e w' ⟨rfl, rfl⟩
      go_wp2_with fail
      refine (implTimes_yes _ _ (by omega) (by omega) (by omega) (by omega) _).mono ?_; rintro e w' ⟨rfl, rfl⟩
      go_wp2_with fail
      go_ret
      exact ⟨ret_bool (by first | (simp; done) | (simp; omega)), hbel⟩
end Go.Proofs.Ytnlbcfblfjcfnaa
