/-
  The walk of the law FnExactDesignPeriod.
-/
import Derived.Test.YtdbokcbbpegilaaM16
import Derived.Test.YtdbokcbbpegilaaM23
import Derived.Test.YtdbokcbbpegilaaM32
namespace Go.Proofs.Ytdbokcbbpegilaa
set_option maxRecDepth 20000
open Go.ChangeShapes Go.WideShapes Go.ChangeAt Go.RowKit
set_option linter.unusedVariables false
set_option linter.unusedSimpArgs false

set_option maxHeartbeats 8000000 in
theorem exactDesignPeriod_walk (v : Value) (ws : List Wh) (w : World) (hD : Lies w v ws) : Calls Try.prog 11 #[v] w (Fine w) := by
  have HD := Lib.hid hD
  clear hD
  have SP := fun (u : Value) (x : World) (h : Reads x u ws) => specDesignPeriod_any u ws x h
  have IM := fun (u : Value) (x : World) (h : Reads x u ws) => DesignPeriod_any u ws x h
  generalize perO ws = bit at *
  have hbb : (bit != bit) = false := by simp
  by_cases hn : (ws.length : Int) ≤ 1048576
  · have hq : ¬ (1048576 : Int) - (ws.length : Int) < 0 := by omega
    have hn1 : ws.length ≤ 1048576 := by omega
    clear hn
    go_enter Try.func11, Try.ntmps11
    go_wp2_with fail
    refine (szWheels_yes v ws 1048576 _ HD.out (by omega) (by omega)).mono ?_; rintro e x ⟨rfl, rfl⟩
    go_wp2_with fail
    refine (toWheels_any v ws _ HD.out hn1).mono ?_; rintro e w1 ⟨hb, t1, rfl, hT1⟩
    have hL := hb
    clear hb
    go_wp2_with fail
    refine ((SP t1 _ (own_reads hT1))).mono ?_; rintro e w2 ⟨rfl, hb⟩
    replace hT1 := own_below hT1 hb
    replace hL := below_next hL hb
    clear hb
    clear hT1
    go_wp2_with fail
    refine (toWheels_any v ws _ (HD.out.kept hL) hn1).mono ?_; rintro e w3 ⟨hb, vX, rfl, hX⟩
    replace hL := below_next hL hb
    clear hb
    go_wp2_with fail
    refine ((IM vX _ (own_reads hX))).mono ?_; rintro e w4 ⟨rfl, hb⟩
    replace hX := own_below hX hb
    replace hL := below_next hL hb
    clear hb
    go_wp2_with fail
    refine (toWheels_any v ws _ (HD.out.kept hL) hn1).mono ?_; rintro e w5 ⟨hb, t1, rfl, hT1⟩
    replace hX := own_below hX hb
    replace hL := below_next hL hb
    clear hb
    go_wp2_with fail
    refine (eqWheels_yes vX t1 _ _ (own_reads hX) (own_reads hT1)).mono ?_; rintro e w6 ⟨rfl, hb⟩
    replace hX := own_below hX hb
    replace hT1 := own_below hT1 hb
    replace hL := below_next hL hb
    clear hb
    clear hT1
    go_wp2
    go_ret
    exact ⟨rfl, hL⟩
  · go_enter Try.func11, Try.ntmps11
    go_wp2_with fail
    refine (szWheels_no v ws 1048576 _ HD.out (by omega) (by omega) (by omega)).mono ?_; rintro e x ⟨rfl, rfl⟩
    go_wp2
    go_ret
    exact ⟨rfl, Below.refl _ _⟩

end Go.Proofs.Ytdbokcbbpegilaa
