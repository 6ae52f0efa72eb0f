/-
  The walks of the trains' exact laws.
-/
import Derived.Test.YtbdhbkedeglagaaDoorGearL
import Derived.Test.YtbdhbkedeglagaaDoorGearD
import Derived.Test.YtbdhbkedeglagaaDoorGearE
import Derived.Test.YtbdhbkedeglagaaDoorGearT
import Derived.Test.YtbdhbkedeglagaaDoorGearU
namespace Go.Proofs.YtbdhbkedeglagaaDoor
set_option maxRecDepth 20000
open Go.ChangeShapes Go.WideShapes Go.ChangeAt Go.RowKit
set_option linter.unusedVariables false
set_option linter.unusedSimpArgs false

theorem trainT_parts (o : Option (Int × Nat)) : ∃ (m n : Int) (q : Bool), trainT o = .tuple #[.int .i64 m, .int .i64 n, .bool q] := by
  cases o with
  | none => exact ⟨_, _, _, rfl⟩
  | some p => exact ⟨_, _, _, rfl⟩
theorem turnT_parts (o : Option (Int × Nat)) : ∃ (m : Int) (q : Bool), turnT o = .tuple #[.int .i64 m, .bool q] := by
  cases o with
  | none => exact ⟨_, _, rfl⟩
  | some p => exact ⟨_, _, rfl⟩
theorem findO_short (a b : Int) : ((findO a b).getD []).length ≤ 1000000 := by
  unfold findO pairO
  split
  · cases frst (fitP (lowT a.toNat b.toNat).1 (lowT a.toNat b.toNat).2) 241 <;> simp
  · simp
set_option maxHeartbeats 2000000 in
theorem exactTrainRatio_walk (v : Value) (xs : List Int) (w : World) (hD : LiesL encI w v xs) (hE : LenAt w) (hF : FarAt w) : Calls Tryd.prog 6 #[v] w (Fine w) := by
  have HD := Lib.hid hD
  obtain ⟨p, cap, rfl, hc1, hc2, -⟩ := hD
  simp only [maxLen] at hc2
  by_cases hbig : 1048576 < xs.length
  · have hb : (1048576 : Int) < (xs.length : Int) := by omega
    go_enter Tryd.func6, Tryd.ntmps6
    go_wp2_with fail
    go_ret
    exact fine_same ⟨rfl, rfl⟩
  have hb : ¬ (1048576 : Int) < (xs.length : Int) := by omega
  have hn : xs.length ≤ 1048576 := by omega
  have T := fun w h => toI_great (.slice p xs.length cap) xs w h hn
  obtain ⟨m, n, q, e⟩ := trainT_parts (trainO xs)
  have SP := fun v w h => specTrainRatio_any v xs w h
  have IM := fun v w h hE hF => TrainRatio_any v xs w h hE hF
  rw [e] at SP IM
  have HN := Lib.hid hn
  have hq : (q != q) = false := by simp
  have hmm : (m != m) = false := by simp
  have hnn : (n != n) = false := by simp
  clear e hbig hn
  go_enter Tryd.func6, Tryd.ntmps6
  go_wp2_with fail
  refine (T _ HD.out).mono ?_; rintro e w1 ⟨hL, v1, rfl, h1⟩
  go_wp2_with fail
  refine (SP _ _ (ownL_reads h1)).mono ?_; rintro e x ⟨rfl, rfl⟩
  clear h1
  go_wp2_with fail
  refine (T _ (HD.out.below hL)).mono ?_; rintro e w2 ⟨hb2, v2, rfl, h2⟩
  replace hL := below_next hL hb2
  clear hb2
  go_wp2_with fail
  refine (IM _ _ (ownL_reads h2) (hE.below hL) (hF.below hL)).mono ?_; rintro e w3 ⟨rfl, hb3⟩
  replace hL := below_next hL hb3
  replace h2 := rows_below h2 hb3
  clear hb3
  go_wp2_with fail
  refine (T _ (HD.out.below hL)).mono ?_; rintro e w4 ⟨hb4, v4, rfl, h4⟩
  replace hL := below_next hL hb4
  replace h2 := rows_below h2 hb4
  clear hb4
  go_wp2_with fail
  refine (eqI_great _ _ xs _ (ownL_reads h2) (ownL_reads h4) HN.out).mono ?_; rintro e w5 ⟨rfl, hb5⟩
  replace hL := below_next hL hb5
  go_wp2
  go_ret
  exact ⟨rfl, hL⟩
set_option maxHeartbeats 2000000 in
theorem exactTrainTurns_walk (v : Value) (xs : List Int) (w : World) (hD : LiesL encI w v xs) (hE : LenAt w) (hF : FarAt w) : Calls Tryd.prog 7 #[v] w (Fine w) := by
  have HD := Lib.hid hD
  obtain ⟨p, cap, rfl, hc1, hc2, -⟩ := hD
  simp only [maxLen] at hc2
  by_cases hbig : 1048576 < xs.length
  · have hb : (1048576 : Int) < (xs.length : Int) := by omega
    go_enter Tryd.func7, Tryd.ntmps7
    go_wp2_with fail
    go_ret
    exact fine_same ⟨rfl, rfl⟩
  have hb : ¬ (1048576 : Int) < (xs.length : Int) := by omega
  have hn : xs.length ≤ 1048576 := by omega
  have T := fun w h => toI_great (.slice p xs.length cap) xs w h hn
  obtain ⟨m, q, e⟩ := turnT_parts (trainO xs)
  have SP := fun v w h => specTrainTurns_any v xs w h
  have IM := fun v w h hE hF => TrainTurns_any v xs w h hE hF
  rw [e] at SP IM
  have HN := Lib.hid hn
  have hq : (q != q) = false := by simp
  have hmm : (m != m) = false := by simp
  clear e hbig hn
  go_enter Tryd.func7, Tryd.ntmps7
  go_wp2_with fail
  refine (T _ HD.out).mono ?_; rintro e w1 ⟨hL, v1, rfl, h1⟩
  go_wp2_with fail
  refine (SP _ _ (ownL_reads h1)).mono ?_; rintro e x ⟨rfl, rfl⟩
  clear h1
  go_wp2_with fail
  refine (T _ (HD.out.below hL)).mono ?_; rintro e w2 ⟨hb2, v2, rfl, h2⟩
  replace hL := below_next hL hb2
  clear hb2
  go_wp2_with fail
  refine (IM _ _ (ownL_reads h2) (hE.below hL) (hF.below hL)).mono ?_; rintro e w3 ⟨rfl, hb3⟩
  replace hL := below_next hL hb3
  replace h2 := rows_below h2 hb3
  clear hb3
  go_wp2_with fail
  refine (T _ (HD.out.below hL)).mono ?_; rintro e w4 ⟨hb4, v4, rfl, h4⟩
  replace hL := below_next hL hb4
  replace h2 := rows_below h2 hb4
  clear hb4
  go_wp2_with fail
  refine (eqI_great _ _ xs _ (ownL_reads h2) (ownL_reads h4) HN.out).mono ?_; rintro e w5 ⟨rfl, hb5⟩
  replace hL := below_next hL hb5
  go_wp2
  go_ret
  exact ⟨rfl, hL⟩
set_option maxHeartbeats 4000000 in
theorem exactTrainFind_walk (a b : Int) (w : World) (hG : TypeAt w) : Calls Tryd.prog 8 #[.int .i64 a, .int .i64 b] w (Fine w) := by
  have hS := findO_short a b
  have SP := fun (x : World) => specTrainFind_any a b x
  have IM := fun (x : World) (h : TypeAt x) => TrainFind_any a b x h
  generalize findO a b = o at *
  obtain ⟨bit, hbit⟩ : ∃ b, o.isSome = b := ⟨_, rfl⟩
  replace SP := fun c => Lib.hid ((SP c).mono fun e x h => told_bitN hbit h)
  replace IM := fun c h => Lib.hid ((IM c h).mono fun e x h => told_bitN hbit h)
  clear hbit
  have hbb : (bit != bit) = false := by simp
  go_enter Tryd.func8, Tryd.ntmps8
  go_wp2_with fail
  refine ((SP _).out).mono ?_; rintro e w2 ⟨hb, vW, rfl, hW⟩
  have hL := hb
  clear hb
  have nG_hW := Lib.hid (show ∀ k, vW.ownBlock = some k → k < w2.heap.size from fun k h => (hW.lt k h).2)
  have nG_z : w.heap.size ≤ w2.heap.size := hL.size
  go_wp2_with fail
  refine ((IM _ (hG.below hL)).out).mono ?_; rintro e w4 ⟨hb, vG, rfl, hG'⟩
  replace hW := rows_below hW hb
  replace hL := below_next hL hb
  clear hb
  go_wp2_with fail
  refine (eqI_own hG' hW hS).mono ?_; rintro e w5 ⟨rfl, hb⟩
  replace hW := rows_below hW hb
  replace hG' := rows_below hG' hb
  replace hL := below_next hL hb
  clear hb
  obtain ⟨MG, HMG, MG0, MGe⟩ := mark_num (o.getD []).length
  have C := markI_own hG' hS
  rw [HMG.out] at C
  replace C := Lib.hid C
  go_wp2_with fail
  refine C.out.mono ?_; rintro e w10 ⟨rfl, hm, hgr⟩
  clear C
  replace hW := rows_beneath hW hgr nG_hW.out (fun k h => (hG'.lt k h).1)
  replace hL := marked_lies hL hL.size hgr (fun k h => (hG'.lt k h).1) nG_z
  clear hG'
  have hG' := hm
  clear hm hgr
  have C := heldI_own hG' hS
  rw [HMG.out] at C
  replace C := Lib.hid C
  go_wp2_with fail
  refine C.out.mono ?_; rintro e x ⟨rfl, rfl⟩
  clear C
  go_wp2_with fail
  refine ((IM _ (hG.below hL)).out).mono ?_; rintro e w12 ⟨hb, vH, rfl, hH⟩
  replace hW := rows_below hW hb
  replace hG' := rows_below hG' hb
  replace hL := below_next hL hb
  clear hb
  go_wp2_with fail
  refine (eqI_own hH hW hS).mono ?_; rintro e w13 ⟨rfl, hb⟩
  replace hW := rows_below hW hb
  replace hG' := rows_below hG' hb
  replace hL := below_next hL hb
  clear hb
  have C := heldI_own hG' hS
  rw [HMG.out] at C
  replace C := Lib.hid C
  go_wp2_with fail
  refine C.out.mono ?_; rintro e x ⟨rfl, rfl⟩
  clear C
  go_wp2
  go_ret
  exact ⟨rfl, hL⟩
end Go.Proofs.YtbdhbkedeglagaaDoor
