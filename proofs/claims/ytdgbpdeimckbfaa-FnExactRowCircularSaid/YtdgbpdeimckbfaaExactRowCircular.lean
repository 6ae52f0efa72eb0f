/-
  The walk of the law FnExactRowCircular.
-/
import Derived.Test.YtdgbpdeimckbfaaM34
namespace Go.Proofs.Ytdgbpdeimckbfaa
set_option maxRecDepth 20000
open Go.ChangeShapes Go.WideShapes Go.ChangeAt Go.RowKit
set_option linter.unusedVariables false
set_option linter.unusedSimpArgs false

set_option maxHeartbeats 8000000 in
theorem exactRowCircular_walk (v : Value) (v2 : Value) (ws : List V) (ws2 : List V) (w : World) (hD : LiesL encV w v ws) (hD2 : LiesL encV w v2 ws2) : Calls Try.prog 19 #[v, v2] w (Fine w) := by
  have HD := Lib.hid hD
  have HD2 := Lib.hid hD2
  clear hD hD2
  have hS : (gotL (crO ws ws2)).length ≤ 24 := crO_short ws ws2
  have SP := fun (u u2 : Value) (x : World) (h : ReadsL encV x u ws) (h2 : ReadsL encV x u2 ws2) => specRowCircular_any u u2 ws ws2 x h h2
  have IM := fun (u u2 : Value) (x : World) (h : ReadsL encV x u ws) (h2 : ReadsL encV x u2 ws2) => RowCircular_any u u2 ws ws2 x h h2
  generalize crO ws ws2 = o at *
  obtain ⟨bit, hbit⟩ : ∃ b, o.isSome = b := ⟨_, rfl⟩
  replace SP := fun a b c d d2 => Lib.hid ((SP a b c d d2).mono fun e x h => toldL_bit hbit h)
  replace IM := fun a b c d d2 => Lib.hid ((IM a b c d d2).mono fun e x h => toldL_bit hbit h)
  clear hbit
  have hbb : (bit != bit) = false := by simp
  by_cases hn : (ws.length : Int) ≤ 1048576
  · have hq : ¬ (1048576 : Int) - (ws.length : Int) < 0 := by omega
    have hn1 : ws.length ≤ 1048576 := by omega
    by_cases hm : (ws2.length : Int) ≤ 1048576 - (ws.length : Int)
    · have hq2 : ¬ (1048576 : Int) - (ws.length : Int) - (ws2.length : Int) < 0 := by omega
      have hn2 : ws2.length ≤ 1048576 := by omega
      clear hn hm
      go_enter Try.func19, Try.ntmps19
      go_wp2_with fail
      refine (szCycs_yes v ws 1048576 _ HD.out (by omega) (by omega)).mono ?_; rintro e x ⟨rfl, rfl⟩
      go_wp2_with fail
      refine (szCycs_yes v2 ws2 (1048576 - (ws.length : Int)) _ HD2.out (by omega) (by omega)).mono ?_; rintro e x ⟨rfl, rfl⟩
      go_wp2_with fail
      refine (toCycs_any v ws _ HD.out hn1).mono ?_; rintro e w1 ⟨hb, t1, rfl, hT1⟩
      have hL := hb
      clear hb
      go_wp2_with fail
      refine (toCycs_any v2 ws2 _ (HD2.out.below hL) hn2).mono ?_; rintro e w2 ⟨hb, t2, rfl, hT2⟩
      replace hT1 := rows_below hT1 hb
      replace hL := below_next hL hb
      clear hb
      go_wp2_with fail
      refine ((SP t1 t2 _ (ownL_reads hT1) (ownL_reads hT2)).out).mono ?_; rintro e w3 ⟨hb, vW, rfl, hW⟩
      replace hT1 := rows_below hT1 hb
      replace hT2 := rows_below hT2 hb
      replace hL := below_next hL hb
      clear hb
      clear hT1 hT2
      have nX_hW := Lib.hid (show ∀ k, vW.ownBlock = some k → k < w3.heap.size from fun k h => (hW.lt k h).2)
      have nX_z : w.heap.size ≤ w3.heap.size := hL.size
      go_wp2_with fail
      refine (toCycs_any v ws _ (HD.out.below hL) hn1).mono ?_; rintro e w4 ⟨hb, vX, rfl, hX⟩
      replace hW := rows_below hW hb
      replace hL := below_next hL hb
      clear hb
      have nY_hW := Lib.hid (show ∀ k, vW.ownBlock = some k → k < w4.heap.size from fun k h => (hW.lt k h).2)
      have nY_hX := Lib.hid (show ∀ k, vX.ownBlock = some k → k < w4.heap.size from fun k h => (hX.lt k h).2)
      have nY_z : w.heap.size ≤ w4.heap.size := hL.size
      go_wp2_with fail
      refine (toCycs_any v2 ws2 _ (HD2.out.below hL) hn2).mono ?_; rintro e w5 ⟨hb, vY, rfl, hY⟩
      replace hW := rows_below hW hb
      replace hX := rows_below hX hb
      replace hL := below_next hL hb
      clear hb
      have nG_hW := Lib.hid (show ∀ k, vW.ownBlock = some k → k < w5.heap.size from fun k h => (hW.lt k h).2)
      have nG_hX := Lib.hid (show ∀ k, vX.ownBlock = some k → k < w5.heap.size from fun k h => (hX.lt k h).2)
      have nG_hY := Lib.hid (show ∀ k, vY.ownBlock = some k → k < w5.heap.size from fun k h => (hY.lt k h).2)
      have nG_z : w.heap.size ≤ w5.heap.size := hL.size
      go_wp2_with fail
      refine ((IM vX vY _ (ownL_reads hX) (ownL_reads hY)).out).mono ?_; rintro e w6 ⟨hb, vG, rfl, hG⟩
      replace hW := rows_below hW hb
      replace hX := rows_below hX hb
      replace hY := rows_below hY hb
      replace hL := below_next hL hb
      clear hb
      go_wp2_with fail
      refine (eqCycs_yes vG vW _ _ (ownL_reads hG) (ownL_reads hW)).mono ?_; rintro e w7 ⟨rfl, hb⟩
      replace hW := rows_below hW hb
      replace hX := rows_below hX hb
      replace hY := rows_below hY hb
      replace hG := rows_below hG hb
      replace hL := below_next hL hb
      clear hb
      go_wp2_with fail
      refine (toCycs_any v ws _ (HD.out.below hL) hn1).mono ?_; rintro e w8 ⟨hb, t1, rfl, hT1⟩
      replace hW := rows_below hW hb
      replace hX := rows_below hX hb
      replace hY := rows_below hY hb
      replace hG := rows_below hG hb
      replace hL := below_next hL hb
      clear hb
      go_wp2_with fail
      refine (eqCycs_yes vX t1 _ _ (ownL_reads hX) (ownL_reads hT1)).mono ?_; rintro e w9 ⟨rfl, hb⟩
      replace hW := rows_below hW hb
      replace hX := rows_below hX hb
      replace hY := rows_below hY hb
      replace hG := rows_below hG hb
      replace hT1 := rows_below hT1 hb
      replace hL := below_next hL hb
      clear hb
      clear hT1
      go_wp2_with fail
      refine (toCycs_any v2 ws2 _ (HD2.out.below hL) hn2).mono ?_; rintro e w10 ⟨hb, t2, rfl, hT2⟩
      replace hW := rows_below hW hb
      replace hX := rows_below hX hb
      replace hY := rows_below hY hb
      replace hG := rows_below hG hb
      replace hL := below_next hL hb
      clear hb
      go_wp2_with fail
      refine (eqCycs_yes vY t2 _ _ (ownL_reads hY) (ownL_reads hT2)).mono ?_; rintro e w11 ⟨rfl, hb⟩
      replace hW := rows_below hW hb
      replace hX := rows_below hX hb
      replace hY := rows_below hY hb
      replace hG := rows_below hG hb
      replace hT2 := rows_below hT2 hb
      replace hL := below_next hL hb
      clear hb
      clear hT2
      obtain ⟨M1, HM1, M10, M1e⟩ := markC_number 1 ws.length
      have C := markC_any 1 (by omega) vX _ ws _ hX (by omega)
      rw [HM1.out] at C
      rw [show ((1 : Nat) : Int) = 1 from rfl] at C
      replace C := Lib.hid C
      go_wp2_with fail
      refine C.out.mono ?_; rintro e w12 ⟨rfl, hm, hgr⟩
      clear C
      replace hG := rows_above hG hgr nG_hX.out
      replace hW := rows_beneath hW hgr nX_hW.out (fun k h => (hX.lt k h).1)
      replace hY := rows_above hY hgr nY_hX.out
      replace hL := marked_below hL hL.size hgr (fun k h => (hX.lt k h).1) nX_z
      clear hX
      have hX := hm
      clear hm hgr
      clear hX
      obtain ⟨M2, HM2, M20, M2e⟩ := markC_number (1 + ws.length * 8) ws2.length
      have C := markC_any (1 + ws.length * 8) (by omega) vY _ ws2 _ hY (by omega)
      rw [HM2.out] at C
      rw [HM1.out] at C
      replace C := Lib.hid C
      go_wp2_with fail
      refine C.out.mono ?_; rintro e w13 ⟨rfl, hm, hgr⟩
      clear C
      replace hG := rows_above hG hgr nG_hY.out
      replace hW := rows_beneath hW hgr nY_hW.out (fun k h => (hY.lt k h).1)
      replace hL := marked_below hL hL.size hgr (fun k h => (hY.lt k h).1) nY_z
      clear hY
      have hY := hm
      clear hm hgr
      clear hY
      go_wp2_with fail
      refine (eqCycs_yes vG vW _ _ (ownL_reads hG) (ownL_reads hW)).mono ?_; rintro e w14 ⟨rfl, hb⟩
      replace hW := rows_below hW hb
      replace hG := rows_below hG hb
      replace hL := below_next hL hb
      clear hb
      obtain ⟨MG, HMG, MG0, MGe⟩ := markC_number 1 (gotL o).length
      have C := markC_any 1 (by omega) vG _ (gotL o) _ hG (by omega)
      rw [HMG.out] at C
      rw [show ((1 : Nat) : Int) = 1 from rfl] at C
      replace C := Lib.hid C
      go_wp2_with fail
      refine C.out.mono ?_; rintro e w15 ⟨rfl, hm, hgr⟩
      clear C
      replace hW := rows_beneath hW hgr nG_hW.out (fun k h => (hG.lt k h).1)
      replace hL := marked_below hL hL.size hgr (fun k h => (hG.lt k h).1) nG_z
      clear hG
      have hG := hm
      clear hm hgr
      have C := heldC_any 1 (by omega) vG _ _ _ hG (by omega)
      rw [HMG.out, show ((1 : Nat) : Int) = 1 from rfl] at C
      replace C := Lib.hid C
      go_wp2_with fail
      refine C.out.mono ?_; rintro e x ⟨rfl, rfl⟩
      clear C
      go_wp2_with fail
      refine (toCycs_any v ws _ (HD.out.below hL) hn1).mono ?_; rintro e w16 ⟨hb, t1, rfl, hT1⟩
      replace hW := rows_below hW hb
      replace hG := rows_below hG hb
      replace hL := below_next hL hb
      clear hb
      go_wp2_with fail
      refine (toCycs_any v2 ws2 _ (HD2.out.below hL) hn2).mono ?_; rintro e w17 ⟨hb, t2, rfl, hT2⟩
      replace hW := rows_below hW hb
      replace hG := rows_below hG hb
      replace hT1 := rows_below hT1 hb
      replace hL := below_next hL hb
      clear hb
      go_wp2_with fail
      refine ((IM t1 t2 _ (ownL_reads hT1) (ownL_reads hT2)).out).mono ?_; rintro e w18 ⟨hb, vH, rfl, hH⟩
      replace hW := rows_below hW hb
      replace hG := rows_below hG hb
      replace hT1 := rows_below hT1 hb
      replace hT2 := rows_below hT2 hb
      replace hL := below_next hL hb
      clear hb
      clear hT1 hT2
      go_wp2_with fail
      refine (eqCycs_yes vH vW _ _ (ownL_reads hH) (ownL_reads hW)).mono ?_; rintro e w19 ⟨rfl, hb⟩
      replace hW := rows_below hW hb
      replace hG := rows_below hG hb
      replace hH := rows_below hH hb
      replace hL := below_next hL hb
      clear hb
      have C := heldC_any 1 (by omega) vG _ _ _ hG (by omega)
      rw [HMG.out, show ((1 : Nat) : Int) = 1 from rfl] at C
      replace C := Lib.hid C
      go_wp2_with fail
      refine C.out.mono ?_; rintro e x ⟨rfl, rfl⟩
      clear C
      go_wp2
      go_ret
      exact ⟨rfl, hL⟩
    · go_enter Try.func19, Try.ntmps19
      go_wp2_with fail
      refine (szCycs_yes v ws 1048576 _ HD.out (by omega) (by omega)).mono ?_; rintro e x ⟨rfl, rfl⟩
      go_wp2_with fail
      refine (szCycs_no v2 ws2 (1048576 - (ws.length : Int)) _ HD2.out (by omega) (by omega) (by omega)).mono ?_; rintro e x ⟨rfl, rfl⟩
      go_wp2
      go_ret
      exact ⟨rfl, Below.refl _ _⟩
  · go_enter Try.func19, Try.ntmps19
    go_wp2_with fail
    refine (szCycs_no v ws 1048576 _ HD.out (by omega) (by omega) (by omega)).mono ?_; rintro e x ⟨rfl, rfl⟩
    go_wp2
    go_ret
    exact ⟨rfl, Below.refl _ _⟩

end Go.Proofs.Ytdgbpdeimckbfaa
