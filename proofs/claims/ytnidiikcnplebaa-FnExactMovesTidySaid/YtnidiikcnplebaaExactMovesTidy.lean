/-
  The walk of the law FnExactMovesTidy.
-/
import Derived.Test.YtnidiikcnplebaaM26
import Derived.Test.YtnidiikcnplebaaM11
import Derived.Test.YtnidiikcnplebaaM24
namespace Go.Proofs.Ytnidiikcnplebaa
set_option maxRecDepth 20000
open Go.ChangeShapes Go.WideShapes Go.ChangeAt Go.RowKit
set_option linter.unusedVariables false
set_option linter.unusedSimpArgs false

set_option maxHeartbeats 8000000 in
theorem exactMovesTidy_walk (v : Value) (ws : List Mv) (w : World) (hD : LiesL encM w v ws) : Calls Try.prog 14 #[v] w (Fine w) := by
  have HD := Lib.hid hD
  clear hD
  have hS : ((tdO ws).getD []).length ≤ 100 := tdO_short ws
  have SP := fun (u : Value) (x : World) (h : ReadsL encM x u ws) => specMovesTidy_any u ws x h
  have IM := fun (u : Value) (x : World) (h : ReadsL encM x u ws) => MovesTidy_any u ws x h
  generalize tdO ws = o at *
  obtain ⟨bit, hbit⟩ : ∃ b, o.isSome = b := ⟨_, rfl⟩
  replace SP := fun a b c => Lib.hid ((SP a b c).mono fun e x h => told_bitM hbit h)
  replace IM := fun a b c => Lib.hid ((IM a b c).mono fun e x h => told_bitM hbit h)
  clear hbit
  have hbb : (bit != bit) = false := by simp
  by_cases hn : (ws.length : Int) ≤ 1048576
  · have hq : ¬ (1048576 : Int) - (ws.length : Int) < 0 := by omega
    have hn1 : ws.length ≤ 1048576 := by omega
    clear hn
    go_enter Try.func14, Try.ntmps14
    go_wp2_with fail
    refine (szMoves_yes v ws 1048576 _ HD.out (by omega) (by omega)).mono ?_; rintro e x ⟨rfl, rfl⟩
    go_wp2_with fail
    refine (toMoves_any v ws _ HD.out hn1).mono ?_; rintro e w1 ⟨hb, t1, rfl, hT1⟩
    have hL := hb
    clear hb
    go_wp2_with fail
    refine (SP t1 _ (ownL_reads hT1)).out.mono ?_; rintro e w2 ⟨hb, vW, rfl, hW⟩
    replace hT1 := rows_below hT1 hb
    replace hL := below_next hL hb
    clear hb
    clear hT1
    have nX_hW := Lib.hid (show ∀ k, vW.ownBlock = some k → k < w2.heap.size from fun k h => (hW.lt k h).2)
    have nX_z : w.heap.size ≤ w2.heap.size := hL.size
    go_wp2_with fail
    refine (toMoves_any v ws _ (HD.out.below hL) hn1).mono ?_; rintro e w3 ⟨hb, vX, rfl, hX⟩
    replace hW := rows_below hW hb
    replace hL := below_next hL hb
    clear hb
    have nG_hW := Lib.hid (show ∀ k, vW.ownBlock = some k → k < w3.heap.size from fun k h => (hW.lt k h).2)
    have nG_hX := Lib.hid (show ∀ k, vX.ownBlock = some k → k < w3.heap.size from fun k h => (hX.lt k h).2)
    have nG_z : w.heap.size ≤ w3.heap.size := hL.size
    go_wp2_with fail
    refine (IM vX _ (ownL_reads hX)).out.mono ?_; rintro e w4 ⟨hb, vG, rfl, hG⟩
    replace hW := rows_below hW hb
    replace hX := rows_below hX hb
    replace hL := below_next hL hb
    clear hb
    go_wp2_with fail
    refine (eqMoves_yes _ _ _ _ (ownL_reads hG) (ownL_reads hW)).mono ?_; rintro e w5 ⟨rfl, hb⟩
    replace hW := rows_below hW hb
    replace hX := rows_below hX hb
    replace hG := rows_below hG hb
    replace hL := below_next hL hb
    clear hb
    go_wp2_with fail
    refine (toMoves_any v ws _ (HD.out.below hL) hn1).mono ?_; rintro e w6 ⟨hb, t1, rfl, hT1⟩
    replace hW := rows_below hW hb
    replace hX := rows_below hX hb
    replace hG := rows_below hG hb
    replace hL := below_next hL hb
    clear hb
    go_wp2_with fail
    refine (eqMoves_yes _ _ _ _ (ownL_reads hX) (ownL_reads hT1)).mono ?_; rintro e w7 ⟨rfl, hb⟩
    replace hW := rows_below hW hb
    replace hX := rows_below hX hb
    replace hG := rows_below hG hb
    replace hT1 := rows_below hT1 hb
    replace hL := below_next hL hb
    clear hb
    clear hT1
    obtain ⟨M1, HM1, M10, M1e⟩ := markM_number 1 ws.length
    have C := markM_any 1 (by omega) vX _ ws _ hX (by omega)
    rw [HM1.out] at C
    rw [show ((1 : Nat) : Int) = 1 from rfl] at C
    replace C := Lib.hid C
    go_wp2_with fail
    refine C.out.mono ?_; rintro e w8 ⟨rfl, hm, hgr⟩
    clear C
    replace hG := rows_above hG hgr nG_hX.out
    replace hW := rows_beneath hW hgr nX_hW.out (fun k h => (hX.lt k h).1)
    replace hL := marked_below hL hL.size hgr (fun k h => (hX.lt k h).1) nX_z
    clear hX
    clear hm hgr
    go_wp2_with fail
    refine (eqMoves_yes _ _ _ _ (ownL_reads hG) (ownL_reads hW)).mono ?_; rintro e w9 ⟨rfl, hb⟩
    replace hW := rows_below hW hb
    replace hG := rows_below hG hb
    replace hL := below_next hL hb
    clear hb
    obtain ⟨MG, HMG, MG0, MGe⟩ := markM_number 1 (o.getD []).length
    have C := markM_any 1 (by omega) vG _ _ _ hG (by omega)
    rw [HMG.out] at C
    rw [show ((1 : Nat) : Int) = 1 from rfl] at C
    replace C := Lib.hid C
    go_wp2_with fail
    refine C.out.mono ?_; rintro e w10 ⟨rfl, hm, hgr⟩
    clear C
    replace hW := rows_beneath hW hgr nG_hW.out (fun k h => (hG.lt k h).1)
    replace hL := marked_below hL hL.size hgr (fun k h => (hG.lt k h).1) nG_z
    clear hG
    have hG := hm
    clear hm hgr
    have C := heldM_any 1 (by omega) vG _ _ _ hG (by omega)
    rw [HMG.out] at C
    rw [show ((1 : Nat) : Int) = 1 from rfl] at C
    replace C := Lib.hid C
    go_wp2_with fail
    refine C.out.mono ?_; rintro e x ⟨rfl, rfl⟩
    clear C
    go_wp2_with fail
    refine (toMoves_any v ws _ (HD.out.below hL) hn1).mono ?_; rintro e w11 ⟨hb, t1, rfl, hT1⟩
    replace hW := rows_below hW hb
    replace hG := rows_below hG hb
    replace hL := below_next hL hb
    clear hb
    go_wp2_with fail
    refine (IM t1 _ (ownL_reads hT1)).out.mono ?_; rintro e w12 ⟨hb, vH, rfl, hH⟩
    replace hW := rows_below hW hb
    replace hG := rows_below hG hb
    replace hT1 := rows_below hT1 hb
    replace hL := below_next hL hb
    clear hb
    clear hT1
    go_wp2_with fail
    refine (eqMoves_yes _ _ _ _ (ownL_reads hH) (ownL_reads hW)).mono ?_; rintro e w13 ⟨rfl, hb⟩
    replace hW := rows_below hW hb
    replace hG := rows_below hG hb
    replace hH := rows_below hH hb
    replace hL := below_next hL hb
    clear hb
    have C := heldM_any 1 (by omega) vG _ _ _ hG (by omega)
    rw [HMG.out] at C
    rw [show ((1 : Nat) : Int) = 1 from rfl] at C
    replace C := Lib.hid C
    go_wp2_with fail
    refine C.out.mono ?_; rintro e x ⟨rfl, rfl⟩
    clear C
    go_wp2
    go_ret
    exact ⟨rfl, hL⟩
  · go_enter Try.func14, Try.ntmps14
    go_wp2_with fail
    refine (szMoves_no v ws 1048576 _ HD.out (by omega) (by omega) (by omega)).mono ?_; rintro e x ⟨rfl, rfl⟩
    go_wp2
    go_ret
    exact ⟨rfl, Below.refl _ _⟩

end Go.Proofs.Ytnidiikcnplebaa
