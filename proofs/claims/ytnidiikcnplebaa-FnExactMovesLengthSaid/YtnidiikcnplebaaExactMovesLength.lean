/-
  The walk of the law FnExactMovesLength.
-/
import Derived.Test.YtnidiikcnplebaaM11
import Derived.Test.YtnidiikcnplebaaM24
namespace Go.Proofs.Ytnidiikcnplebaa
set_option maxRecDepth 20000
open Go.ChangeShapes Go.WideShapes Go.ChangeAt Go.RowKit
set_option linter.unusedVariables false
set_option linter.unusedSimpArgs false

set_option maxHeartbeats 8000000 in
theorem exactMovesLength_walk (v : Value) (ws : List Mv) (w : World) (hD : LiesL encM w v ws) : Calls Try.prog 15 #[v] w (Fine w) := by
  have HD := Lib.hid hD
  clear hD
  have SP := fun (u : Value) (x : World) (h : ReadsL encM x u ws) => Lib.hid (specMovesLength_any u ws x h)
  have IM := fun (u : Value) (x : World) (h : ReadsL encM x u ws) => Lib.hid (MovesLength_any u ws x h)
  generalize lenO ws = o at *
  have hbb : (o != o) = false := by simp
  by_cases hn : (ws.length : Int) ≤ 1048576
  · have hq : ¬ (1048576 : Int) - (ws.length : Int) < 0 := by omega
    have hn1 : ws.length ≤ 1048576 := by omega
    clear hn
    go_enter Try.func15, Try.ntmps15
    go_wp2_with fail
    refine (szMoves_yes v ws 1048576 _ HD.out (by omega) (by omega)).mono ?_; rintro e x ⟨rfl, rfl⟩
    go_wp2_with fail
    refine (toMoves_any v ws _ HD.out hn1).mono ?_; rintro e w1 ⟨hb, t1, rfl, hT1⟩
    have hL := hb
    clear hb
    go_wp2_with fail
    refine (SP t1 _ (ownL_reads hT1)).out.mono ?_; rintro e w2 ⟨rfl, hb⟩
    replace hT1 := rows_below hT1 hb
    replace hL := below_next hL hb
    clear hb
    clear hT1
    go_wp2_with fail
    refine (toMoves_any v ws _ (HD.out.below hL) hn1).mono ?_; rintro e w3 ⟨hb, vX, rfl, hX⟩
    replace hL := below_next hL hb
    clear hb
    go_wp2_with fail
    refine (IM vX _ (ownL_reads hX)).out.mono ?_; rintro e w4 ⟨rfl, hb⟩
    replace hX := rows_below hX hb
    replace hL := below_next hL hb
    clear hb
    go_wp2_with fail
    refine (toMoves_any v ws _ (HD.out.below hL) hn1).mono ?_; rintro e w5 ⟨hb, t1, rfl, hT1⟩
    replace hX := rows_below hX hb
    replace hL := below_next hL hb
    clear hb
    go_wp2_with fail
    refine (eqMoves_yes _ _ _ _ (ownL_reads hX) (ownL_reads hT1)).mono ?_; rintro e w6 ⟨rfl, hb⟩
    replace hX := rows_below hX hb
    replace hT1 := rows_below hT1 hb
    replace hL := below_next hL hb
    clear hb
    clear hT1
    go_wp2
    go_ret
    exact ⟨rfl, hL⟩
  · go_enter Try.func15, Try.ntmps15
    go_wp2_with fail
    refine (szMoves_no v ws 1048576 _ HD.out (by omega) (by omega) (by omega)).mono ?_; rintro e x ⟨rfl, rfl⟩
    go_wp2
    go_ret
    exact ⟨rfl, Below.refl _ _⟩

end Go.Proofs.Ytnidiikcnplebaa
