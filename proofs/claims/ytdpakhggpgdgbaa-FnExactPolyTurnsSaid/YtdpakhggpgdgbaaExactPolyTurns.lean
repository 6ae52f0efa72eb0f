/-
  The walk of the law FnExactPolyTurns.
-/
import Derived.Test.YtdpakhggpgdgbaaM17
import Derived.Test.YtdpakhggpgdgbaaM21
import Derived.Test.YtdpakhggpgdgbaaM20
namespace Go.Proofs.Ytdpakhggpgdgbaa
set_option maxRecDepth 20000
open Go.ChangeShapes Go.WideShapes Go.ChangeAt Go.RowKit
set_option linter.unusedVariables false
set_option linter.unusedSimpArgs false

set_option maxHeartbeats 8000000 in
theorem exactPolyTurns_walk (v : Value) (ws : List V) (w : World) (hD : LiesL encV w v ws) : Calls Try.prog 14 #[v] w (Fine w) := by
  have HD := Lib.hid hD
  clear hD
  have SP := fun (u : Value) (x : World) (h : ReadsL encV x u ws) => specPolyTurns_any u ws x h
  have IM := fun (u : Value) (x : World) (h : ReadsL encV x u ws) => PolyTurns_any u ws x h
  obtain ⟨m, q, hmq⟩ : ∃ (m : Int) (q : Bool), toldZ (turnsO ws) = .tuple #[.int .i64 m, .bool q] := ⟨_, _, rfl⟩
  rw [hmq] at SP IM
  clear hmq
  have hbb : (q != q) = false := by simp
  have hmm : (m != m) = false := by simp
  by_cases hn : (ws.length : Int) ≤ 1048576
  · have hq : ¬ (1048576 : Int) - (ws.length : Int) < 0 := by omega
    have hn1 : ws.length ≤ 1048576 := by omega
    clear hn
    go_enter Try.func14, Try.ntmps14
    go_wp2_with fail
    refine (szCycs_yes v ws 1048576 _ HD.out (by omega) (by omega)).mono ?_; rintro e x ⟨rfl, rfl⟩
    go_wp2_with fail
    refine (toCycs_any v ws _ HD.out hn1).mono ?_; rintro e w1 ⟨hb, t1, rfl, hT1⟩
    have hL := hb
    clear hb
    go_wp2_with fail
    refine ((SP t1 _ (ownL_reads hT1))).mono ?_; rintro e w2 ⟨rfl, hb⟩
    replace hT1 := rows_below hT1 hb
    replace hL := below_next hL hb
    clear hb
    clear hT1
    go_wp2_with fail
    refine (toCycs_any v ws _ (HD.out.below hL) hn1).mono ?_; rintro e w3 ⟨hb, vX, rfl, hX⟩
    replace hL := below_next hL hb
    clear hb
    go_wp2_with fail
    refine ((IM vX _ (ownL_reads hX))).mono ?_; rintro e w4 ⟨rfl, hb⟩
    replace hX := rows_below hX hb
    replace hL := below_next hL hb
    clear hb
    go_wp2_with fail
    refine (toCycs_any v ws _ (HD.out.below hL) hn1).mono ?_; rintro e w5 ⟨hb, t1, rfl, hT1⟩
    replace hX := rows_below hX hb
    replace hL := below_next hL hb
    clear hb
    go_wp2_with fail
    refine (eqCycs_yes vX t1 _ _ (ownL_reads hX) (ownL_reads hT1)).mono ?_; rintro e w6 ⟨rfl, hb⟩
    replace hX := rows_below hX hb
    replace hT1 := rows_below hT1 hb
    replace hL := below_next hL hb
    clear hb
    clear hT1
    go_wp2
    go_ret
    exact ⟨rfl, hL⟩
  · go_enter Try.func14, Try.ntmps14
    go_wp2_with fail
    refine (szCycs_no v ws 1048576 _ HD.out (by omega) (by omega) (by omega)).mono ?_; rintro e x ⟨rfl, rfl⟩
    go_wp2
    go_ret
    exact ⟨rfl, Below.refl _ _⟩

end Go.Proofs.Ytdpakhggpgdgbaa
