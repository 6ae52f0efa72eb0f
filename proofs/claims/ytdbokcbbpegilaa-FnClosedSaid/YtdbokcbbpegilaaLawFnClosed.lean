/-
  The walk of the law FnClosed.
-/
import Derived.Test.YtdbokcbbpegilaaM31
import Derived.Test.YtdbokcbbpegilaaM32
namespace Go.Proofs.Ytdbokcbbpegilaa
set_option maxRecDepth 20000
open Go.ChangeShapes Go.WideShapes Go.ChangeAt Go.RowKit
set_option linter.unusedVariables false
set_option linter.unusedSimpArgs false

theorem closedD_tid {ws : List Wh} {n : Int} (h : closedD ws n = true) : ∃ R, tid ws = some R := by
  unfold closedD at h
  cases hx : tid ws with
  | none => rw [hx] at h; cases h
  | some R => exact ⟨R, rfl⟩

set_option maxHeartbeats 8000000 in
theorem lawFnClosed_walk (v : Value) (w : World) (h : CodeAt w v) : Calls Try.prog 8 #[v] w (Fine w) := by
  have D := Lib.hid (drawDesignClosed v w h)
  obtain ⟨pa, pn, pc, rfl, hpn⟩ := code_length h
  clear h
  by_cases hbig : 1048576 < pn
  · have hb : (1048576 : Int) < (pn : Int) := by omega
    go_enter Try.func8, Try.ntmps8
    go_wp2_with fail
    go_ret
    exact fine_same ⟨rfl, rfl⟩
  have hb : ¬ (1048576 : Int) < (pn : Int) := by omega
  go_enter Try.func8, Try.ntmps8
  go_wp2_with fail
  refine D.out.mono ?_; rintro e w1 ⟨v2, ws, z, rfl, z0, z1, hR, hL⟩
  clear D

  obtain ⟨n, rfl⟩ : ∃ n : Nat, z = n := ⟨z.toNat, by omega⟩
  have T1 := DesignClosed_any v2 n ws w1 hR
  have T2 := fun w h => specDesignClosed_any v2 n ws w h
  cases hc : closedD ws (n : Int) with
  | false =>
    rw [hc] at T1 T2
    go_wp2_with fail
    refine (T1).mono ?_; rintro e w2 ⟨rfl, hbw2⟩
    replace hR := hR.below hbw2
    replace hL := below_next hL hbw2
    clear hbw2
    go_wp2_with fail
    refine (T2 _ hR).mono ?_; rintro e w3 ⟨rfl, hbw3⟩
    replace hR := hR.below hbw3
    replace hL := below_next hL hbw3
    clear hbw3
    clear T1 T2
    go_wp2
    go_ret
    exact ⟨rfl, hL⟩
  | true =>
    rw [hc] at T1 T2
    obtain ⟨R, hx⟩ := closedD_tid hc
    have HC := Lib.hid (fun (m : Nat) (h1 : 1 ≤ m) (h2 : n % m = 0) => say_closed hc h1 h2)
    have hn24 : n ≤ 24 := by omega
    clear hc
    go_wp2_with fail
    refine (T1).mono ?_; rintro e w2 ⟨rfl, hbw2⟩
    replace hR := hR.below hbw2
    replace hL := below_next hL hbw2
    clear hbw2
    go_wp2_with fail
    refine (T2 _ hR).mono ?_; rintro e w3 ⟨rfl, hbw3⟩
    replace hR := hR.below hbw3
    replace hL := below_next hL hbw3
    clear hbw3
    clear T1 T2
    have HR := Lib.hid hR
    have HL3 := Lib.hid hL
    clear hR hL
    go_wp2_with fail
    go_loopw [7] (fun i wr => ∃ k : Nat, 1 ≤ k ∧ k ≤ n + 1 ∧ i = .int .i64 k ∧ Aside (Below w3.heap.size w3 wr)) (fun i _ => n + 1 - (intOf i).toNat)
    case atStart => exact ⟨1, Nat.le_refl _, by omega, rfl, Lib.hid (Below.refl _ _)⟩
    case round =>
      obtain ⟨k, hk1, hk25, rfl, hbel⟩ := hrel
      by_cases hkn : k ≤ n
      · have hkz : (k : Int) ≤ (n : Int) := by omega
        have hknz : ¬ (k : Int) = 0 := by omega
        have hknb : ((k : Int) == 0) = false := by simp; omega
        by_cases hd : n % k = 0
        · have r1 : (n : Int).tmod (k : Int) = 0 := rem_yes hd
          have A := DesignClosed_any v2 k ws wr (HR.out.below hbel.out)
          rw [HC.out k hk1 hd] at A
          go_wp2_with fail
          refine A.mono ?_; rintro e w4 ⟨rfl, hb4⟩
          have hbel2 := Lib.hid (below_next hbel.out hb4)
          clear A hb4 hbel
          go_wp2_with fail
          go_roundw
          case rel => exact ⟨k + 1, by omega, by omega, by go_num, hbel2⟩
          case measure => simp [intOf]; omega
        · obtain ⟨r, r2, r3, r4, r5, r6⟩ := rem_no (a := n) (by omega) hd
          go_wp2_with fail
          go_roundw
          case rel => exact ⟨k + 1, by omega, by omega, by go_num, hbel⟩
          case measure => simp [intOf]; omega
      · have hkz : ¬ (k : Int) ≤ (n : Int) := by omega
        have A := DesignFold_any v2 ws wr (HR.out.below hbel.out)
        rw [foldO_some hx] at A
        have HLX := Lib.hid (below_next HL3.out hbel.out)
        clear hbel
        have hF0 : (0 : Int) ≤ ((foldW R : Nat) : Int) := by omega
        generalize ((foldW R : Nat) : Int) = F at *
        go_wp2_with fail
        refine A.mono ?_; rintro e w4 ⟨rfl, hb4⟩
        have HLY := Lib.hid (below_next HLX.out hb4)
        clear A hb4 HLX
        go_wp2
        go_ret
        exact ⟨rfl, HLY.out⟩

end Go.Proofs.Ytdbokcbbpegilaa
