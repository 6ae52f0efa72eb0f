/-
  The walk of the law FnExactDesignAkin.
-/
import Derived.Test.YtdbokcbbpegilaaM16
import Derived.Test.YtdbokcbbpegilaaM23
import Derived.Test.YtdbokcbbpegilaaM27
namespace Go.Proofs.Ytdbokcbbpegilaa
set_option maxRecDepth 20000
open Go.ChangeShapes Go.WideShapes Go.ChangeAt Go.RowKit
set_option linter.unusedVariables false
set_option linter.unusedSimpArgs false

set_option maxHeartbeats 8000000 in
theorem exactDesignAkin_walk (v : Value) (v2 : Value) (ws : List Wh) (ws2 : List Wh) (w : World) (hD : Lies w v ws) (hD2 : Lies w v2 ws2) : Calls Try.prog 13 #[v, v2] w (Fine w) := by
  have HD := Lib.hid hD
  have HD2 := Lib.hid hD2
  clear hD hD2
  have SP := fun (u u2 : Value) (x : World) (h : Reads x u ws) (h2 : Reads x u2 ws2) => specDesignAkin_any u u2 ws ws2 x h h2
  have IM := fun (u u2 : Value) (x : World) (h : Reads x u ws) (h2 : Reads x u2 ws2) => DesignAkin_any u u2 ws ws2 x h h2
  obtain ⟨m, q, hmq⟩ : ∃ (m : Int) (q : Bool), akinV (akinD ws ws2) = .tuple #[.int .i64 m, .bool q] := ⟨_, _, rfl⟩
  rw [hmq] at SP IM
  clear hmq
  have hbb : (q != q) = false := by simp
  have hmm : (m != m) = false := by simp
  by_cases hn : (ws.length : Int) ≤ 1048576
  · have hq : ¬ (1048576 : Int) - (ws.length : Int) < 0 := by omega
    have hn1 : ws.length ≤ 1048576 := by omega
    by_cases hm : (ws2.length : Int) ≤ 1048576 - (ws.length : Int)
    · have hq2 : ¬ (1048576 : Int) - (ws.length : Int) - (ws2.length : Int) < 0 := by omega
      have hn2 : ws2.length ≤ 1048576 := by omega
      clear hn hm
      go_enter Try.func13, Try.ntmps13
      go_wp2_with fail
      refine (szWheels_yes v ws 1048576 _ HD.out (by omega) (by omega)).mono ?_; rintro e x ⟨rfl, rfl⟩
      go_wp2_with fail
      refine (szWheels_yes v2 ws2 (1048576 - (ws.length : Int)) _ HD2.out (by omega) (by omega)).mono ?_; rintro e x ⟨rfl, rfl⟩
      go_wp2_with fail
      refine (toWheels_any v ws _ HD.out hn1).mono ?_; rintro e w1 ⟨hb, t1, rfl, hT1⟩
      have hL := hb
      clear hb
      go_wp2_with fail
      refine (toWheels_any v2 ws2 _ (HD2.out.kept hL) hn2).mono ?_; rintro e w2 ⟨hb, t2, rfl, hT2⟩
      replace hT1 := own_below hT1 hb
      replace hL := below_next hL hb
      clear hb
      go_wp2_with fail
      refine ((SP t1 t2 _ (own_reads hT1) (own_reads hT2))).mono ?_; rintro e w3 ⟨rfl, hb⟩
      replace hT1 := own_below hT1 hb
      replace hT2 := own_below hT2 hb
      replace hL := below_next hL hb
      clear hb
      clear hT1 hT2
      go_wp2_with fail
      refine (toWheels_any v ws _ (HD.out.kept hL) hn1).mono ?_; rintro e w4 ⟨hb, vX, rfl, hX⟩
      replace hL := below_next hL hb
      clear hb
      go_wp2_with fail
      refine (toWheels_any v2 ws2 _ (HD2.out.kept hL) hn2).mono ?_; rintro e w5 ⟨hb, vY, rfl, hY⟩
      replace hX := own_below hX hb
      replace hL := below_next hL hb
      clear hb
      go_wp2_with fail
      refine ((IM vX vY _ (own_reads hX) (own_reads hY))).mono ?_; rintro e w6 ⟨rfl, hb⟩
      replace hX := own_below hX hb
      replace hY := own_below hY hb
      replace hL := below_next hL hb
      clear hb
      go_wp2_with fail
      refine (toWheels_any v ws _ (HD.out.kept hL) hn1).mono ?_; rintro e w7 ⟨hb, t1, rfl, hT1⟩
      replace hX := own_below hX hb
      replace hY := own_below hY hb
      replace hL := below_next hL hb
      clear hb
      go_wp2_with fail
      refine (eqWheels_yes vX t1 _ _ (own_reads hX) (own_reads hT1)).mono ?_; rintro e w8 ⟨rfl, hb⟩
      replace hX := own_below hX hb
      replace hY := own_below hY hb
      replace hT1 := own_below hT1 hb
      replace hL := below_next hL hb
      clear hb
      clear hT1
      go_wp2_with fail
      refine (toWheels_any v2 ws2 _ (HD2.out.kept hL) hn2).mono ?_; rintro e w9 ⟨hb, t2, rfl, hT2⟩
      replace hX := own_below hX hb
      replace hY := own_below hY hb
      replace hL := below_next hL hb
      clear hb
      go_wp2_with fail
      refine (eqWheels_yes vY t2 _ _ (own_reads hY) (own_reads hT2)).mono ?_; rintro e w10 ⟨rfl, hb⟩
      replace hX := own_below hX hb
      replace hY := own_below hY hb
      replace hT2 := own_below hT2 hb
      replace hL := below_next hL hb
      clear hb
      clear hT2
      go_wp2
      go_ret
      exact ⟨rfl, hL⟩
    · go_enter Try.func13, Try.ntmps13
      go_wp2_with fail
      refine (szWheels_yes v ws 1048576 _ HD.out (by omega) (by omega)).mono ?_; rintro e x ⟨rfl, rfl⟩
      go_wp2_with fail
      refine (szWheels_no v2 ws2 (1048576 - (ws.length : Int)) _ HD2.out (by omega) (by omega) (by omega)).mono ?_; rintro e x ⟨rfl, rfl⟩
      go_wp2
      go_ret
      exact ⟨rfl, Below.refl _ _⟩
  · go_enter Try.func13, Try.ntmps13
    go_wp2_with fail
    refine (szWheels_no v ws 1048576 _ HD.out (by omega) (by omega) (by omega)).mono ?_; rintro e x ⟨rfl, rfl⟩
    go_wp2
    go_ret
    exact ⟨rfl, Below.refl _ _⟩

end Go.Proofs.Ytdbokcbbpegilaa
