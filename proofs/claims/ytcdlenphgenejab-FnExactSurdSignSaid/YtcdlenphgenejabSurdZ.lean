/-
  The exact laws of surds: both sides answer alike, for every argument.
-/
import Derived.Test.YtcdlenphgenejabSurdY2
namespace Go.Proofs.Ytcdlenphgenejab
set_option maxRecDepth 20000
open Go.ChangeShapes Go.WideShapes Go.ChangeAt Go.RowKit
set_option linter.unusedVariables false
set_option linter.unusedSimpArgs false


set_option maxHeartbeats 1000000 in
theorem exactSurdNorm_walk (a : Nat → Int)  (w : World) : Calls Try.prog 7 #[pt a] w (Fine w) := by
  have sa := vec_size 8 a
  obtain ⟨c, v, SP, IM⟩ := both_SurdNorm a
  have P := fun w => toCyc_any a w
  unfold pt at *
  go_enter Try.func7, Try.ntmps7
  go_upto_region 1 with fail
  show Code.wp _ _ _ _ (box0 w a 36)
  obtain ⟨hA, hL⟩ := box0_facts w a 36
  generalize box0 w a 36 = W at *
  go_wp2_with (refine load_row rfl rfl rfl hA Try.underlying36 rfl info_law ?_)
  refine (P _).mono ?_; rintro e w2 ⟨rfl, hb2⟩
  have hA := hA.below hb2; have hL := below_next hL hb2
  clear hb2
  go_wp2_with fail
  refine (SP _).mono ?_; rintro e w3 ⟨rfl, hb2⟩
  have hA := hA.below hb2; have hL := below_next hL hb2
  clear hb2 SP
  go_upto_region 2 with (refine store_row rfl rfl rfl rfl (RowAt.newAt zero4 rfl) info_surd ?_)
  show Code.wp _ _ _ _ (sole4 w3 c 24)
  have hA := sole_keep4 hA c 24
  have hL := sole_below4 hL c 24
  have hW := sole_first4 w3 c 24
  generalize w3.heap.size = g at *
  generalize sole4 w3 c 24 = W4 at *
  go_wp2_with (refine load_row rfl rfl rfl hA Try.underlying36 rfl info_law ?_)
  refine (P _).mono ?_; rintro e w5 ⟨rfl, hb2⟩
  have hW := hW.below hb2; have hL := below_next hL hb2
  clear hb2 hA P
  go_wp2_with fail
  refine (IM _).mono ?_; rintro e w6 ⟨rfl, hb2⟩
  have hW := hW.below hb2; have hL := below_next hL hb2
  clear hb2 IM
  go_upto_region 3 with (refine store_row rfl rfl rfl rfl (RowAt.newAt zero4 rfl) info_surd ?_)
  show Code.wp _ _ _ _ (sole4 w6 c 24)
  have hW0 := sole_keep4 hW c 24
  have hL0 := sole_below4 hL c 24
  have hI0 := sole_first4 w6 c 24
  generalize w6.heap.size = g' at *
  generalize sole4 w6 c 24 = W7 at *
  have Q := fun w => eqSurd_yes c w
  have hne : (v != v) = false := by cases v <;> rfl
  have heq : (v == v) = true := by cases v <;> rfl
  unfold pt at *
  go_wp2_with (first | (refine load_row rfl rfl rfl hI0 Try.underlying24 rfl info_surd ?_) | (refine load_row rfl rfl rfl hW0 Try.underlying24 rfl info_surd ?_))
  refine (Q _).mono ?_; rintro e w9 ⟨rfl, hb9⟩
  have hL9 := below_next hL0 hb9
  clear hI0 hW0 hL0 hb9 Q
  go_wp2_with fail
  go_ret
  exact ⟨rfl, hL9⟩

theorem exactSurdSign_walk (a : Nat → Int) (w : World) : Calls Try.prog 5 #[p4 a] w (Fine w) := by
  have sa := vec_size 4 a
  obtain ⟨z, v, SP, IM⟩ := both_SurdSign a
  have P := fun w => toSurd_any a w
  have hne : (v != v) = false := by cases v <;> rfl
  have heq : (v == v) = true := by cases v <;> rfl
  unfold p4 at *
  go_enter Try.func5, Try.ntmps5
  go_upto_region 1 with fail
  show Code.wp _ _ _ _ (box04 w a 23)
  obtain ⟨hA, hL⟩ := box0_facts4 w a 23
  generalize box04 w a 23 = W at *
  go_wp2_with (refine load_row rfl rfl rfl hA Try.underlying23 rfl info_lsurd ?_)
  refine (P _).mono ?_; rintro e w2 ⟨rfl, hb2⟩
  have hA := hA.below hb2; have hL := below_next hL hb2
  clear hb2
  go_wp2_with fail
  refine (SP _).mono ?_; rintro e w3 ⟨rfl, hb2⟩
  have hA := hA.below hb2; have hL := below_next hL hb2
  clear hb2 SP
  go_wp2_with (refine load_row rfl rfl rfl hA Try.underlying23 rfl info_lsurd ?_)
  refine (P _).mono ?_; rintro e w5 ⟨rfl, hb2⟩
  have hL := below_next hL hb2
  clear hb2 hA P
  go_wp2_with fail
  refine (IM _).mono ?_; rintro e w6 ⟨rfl, hb2⟩
  have hL := below_next hL hb2
  clear hb2 IM
  go_wp2_with fail
  go_ret
  exact ⟨rfl, hL⟩

theorem exactSurdWhole_walk (a : Nat → Int) (w : World) : Calls Try.prog 8 #[p4 a] w (Fine w) := by
  have sa := vec_size 4 a
  obtain ⟨z, v, SP, IM⟩ := both_SurdWhole a
  have P := fun w => toSurd_any a w
  have hne : (v != v) = false := by cases v <;> rfl
  have heq : (v == v) = true := by cases v <;> rfl
  unfold p4 at *
  go_enter Try.func8, Try.ntmps8
  go_upto_region 1 with fail
  show Code.wp _ _ _ _ (box04 w a 23)
  obtain ⟨hA, hL⟩ := box0_facts4 w a 23
  generalize box04 w a 23 = W at *
  go_wp2_with (refine load_row rfl rfl rfl hA Try.underlying23 rfl info_lsurd ?_)
  refine (P _).mono ?_; rintro e w2 ⟨rfl, hb2⟩
  have hA := hA.below hb2; have hL := below_next hL hb2
  clear hb2
  go_wp2_with fail
  refine (SP _).mono ?_; rintro e w3 ⟨rfl, hb2⟩
  have hA := hA.below hb2; have hL := below_next hL hb2
  clear hb2 SP
  go_wp2_with (refine load_row rfl rfl rfl hA Try.underlying23 rfl info_lsurd ?_)
  refine (P _).mono ?_; rintro e w5 ⟨rfl, hb2⟩
  have hL := below_next hL hb2
  clear hb2 hA P
  go_wp2_with fail
  refine (IM _).mono ?_; rintro e w6 ⟨rfl, hb2⟩
  have hL := below_next hL hb2
  clear hb2 IM
  go_wp2_with fail
  go_ret
  exact ⟨rfl, hL⟩

set_option maxHeartbeats 2000000 in
theorem exactSurdCompare_walk (a b : Nat → Int) (w : World) : Calls Try.prog 6 #[p4 a, p4 b] w (Fine w) := by
  have sa := vec_size 4 a
  have sb := vec_size 4 b
  obtain ⟨z, v, SP, IM⟩ := both_SurdCompare a b
  have P := fun w => toSurd_any a w
  have P2 := fun w => toSurd_any b w
  have hne : (v != v) = false := by cases v <;> rfl
  have heq : (v == v) = true := by cases v <;> rfl
  unfold p4 at *
  go_enter Try.func6, Try.ntmps6
  go_upto_region 1 with fail
  show Code.wp _ _ _ _ (boxAB4 w a b 23)
  obtain ⟨hA, hB, hL, -⟩ := boxAB_facts4 w a b 23
  generalize boxAB4 w a b 23 = W at *
  refine wp_region_held_drew (S := fun w' => RowAt w' (w.heap.size) 4 23 a ∧ RowAt w' ((w.heap.size + 1)) 4 23 b ∧ Below w.heap.size w w') (by kernel_rfl) ⟨hA.drew1, hB.drew1, hL.drew⟩ (fun hHeld => ?_)
  clear hA hB hL
  refine wpAnyH_take (i := 0) (oi := _) (v := .agg (vec 4 a)) rfl (by kernel_rfl) (by kernel_rfl) (by kernel_rfl) (fun _ _ _ h => h) (yieldsIf_load_mid (by rfl) _ _ rfl _ _ rfl _ _ (fun w h => h.1.range) Try.underlying23 rfl (size_lsurd a)) hHeld ?_
  try simp only [Act.put, List.setIfInBounds_toArray, List.set_cons_zero, List.set_cons_succ, List.getElem_toArray, List.getElem_cons_succ, List.getElem_cons_zero]
  refine wpAnyH_take (i := 2) (oi := _) (v := .agg (vec 4 b)) rfl (by kernel_rfl) (by kernel_rfl) (by kernel_rfl) (fun _ _ _ h => h) (yieldsIf_load_mid (by rfl) _ _ rfl _ _ rfl _ _ (fun w h => h.2.1.range) Try.underlying23 rfl (size_lsurd b)) hHeld ?_
  try simp only [Act.put, List.setIfInBounds_toArray, List.set_cons_zero, List.set_cons_succ, List.getElem_toArray, List.getElem_cons_succ, List.getElem_cons_zero]
  refine wpAnyH_ready (rs := [1]) (by kernel_rfl) (by simp) ?_
  refine AllReadyH.cons (o := _) rfl (fun K hK => ?_) AllReadyH.nil
  go_simp
  refine (P _).mono ?_; rintro e w1 ⟨rfl, hb1⟩
  go_wp2_with fail
  obtain ⟨h0, h1, hL⟩ := hHeld
  refine hK.out _ _ ⟨h0.below hb1, h1.below hb1, below_next hL hb1⟩ (fun hHeld => ?_)
  clear hK K hb1 hL h0 h1
  try simp only [Act.put, List.setIfInBounds_toArray, List.set_cons_zero, List.set_cons_succ, List.getElem_toArray, List.getElem_cons_succ, List.getElem_cons_zero]
  refine wpAnyH_ready (rs := [3]) (by kernel_rfl) (by simp) ?_
  refine AllReadyH.cons (o := _) rfl (fun K hK => ?_) AllReadyH.nil
  go_simp
  refine (P2 _).mono ?_; rintro e w2 ⟨rfl, hb2⟩
  go_wp2_with fail
  obtain ⟨h0, h1, hL⟩ := hHeld
  refine hK.out _ _ ⟨h0.below hb2, h1.below hb2, below_next hL hb2⟩ (fun hHeld => ?_)
  clear hK K hb2 hL h0 h1
  try simp only [Act.put, List.setIfInBounds_toArray, List.set_cons_zero, List.set_cons_succ, List.getElem_toArray, List.getElem_cons_succ, List.getElem_cons_zero]
  refine wpAnyH_ready (rs := [4]) (by kernel_rfl) (by simp) ?_
  refine AllReadyH.cons (o := _) rfl (fun K hK => ?_) AllReadyH.nil
  go_simp
  refine (SP _).mono ?_; rintro e w3 ⟨rfl, hb3⟩
  go_wp2_with fail
  obtain ⟨h0, h1, hL⟩ := hHeld
  refine hK.out _ _ ⟨h0.below hb3, h1.below hb3, below_next hL hb3⟩ (fun hHeld => ?_)
  clear hK K hb3 hL h0 h1
  try simp only [Act.put, List.setIfInBounds_toArray, List.set_cons_zero, List.set_cons_succ, List.getElem_toArray, List.getElem_cons_succ, List.getElem_cons_zero]
  refine wpAnyH_take (i := 5) (oi := _) (v := .tuple #[.int .i64 z, .bool v]) rfl (by kernel_rfl) (by kernel_rfl) (by kernel_rfl) (fun _ _ _ h => h) (Or.inl ⟨by rfl, fun w h => by go_simp⟩) hHeld ?_
  try simp only [Act.put, List.setIfInBounds_toArray, List.set_cons_zero, List.set_cons_succ, List.getElem_toArray, List.getElem_cons_succ, List.getElem_cons_zero]
  refine wpAnyH_take (i := 6) (oi := _) (v := .int .i64 z) rfl (by kernel_rfl) (by kernel_rfl) (by kernel_rfl) (fun _ _ _ h => h) (Or.inl ⟨by rfl, fun w h => by go_simp⟩) hHeld ?_
  try simp only [Act.put, List.setIfInBounds_toArray, List.set_cons_zero, List.set_cons_succ, List.getElem_toArray, List.getElem_cons_succ, List.getElem_cons_zero]
  refine wpAnyH_take (i := 7) (oi := _) (v := .bool v) rfl (by kernel_rfl) (by kernel_rfl) (by kernel_rfl) (fun _ _ _ h => h) (Or.inl ⟨by rfl, fun w h => by go_simp⟩) hHeld ?_
  try simp only [Act.put, List.setIfInBounds_toArray, List.set_cons_zero, List.set_cons_succ, List.getElem_toArray, List.getElem_cons_succ, List.getElem_cons_zero]
  refine wpAnyH_take (i := 8) (oi := _) (v := .int .i64 z) rfl (by kernel_rfl) (by kernel_rfl) (by kernel_rfl) (fun _ _ _ h => h) (Or.inl ⟨by rfl, fun w h => by go_simp⟩) hHeld ?_
  try simp only [Act.put, List.setIfInBounds_toArray, List.set_cons_zero, List.set_cons_succ, List.getElem_toArray, List.getElem_cons_succ, List.getElem_cons_zero]
  refine wpAnyH_take (i := 9) (oi := _) (v := .bool v) rfl (by kernel_rfl) (by kernel_rfl) (by kernel_rfl) (fun _ _ _ h => h) (Or.inl ⟨by rfl, fun w h => by go_simp⟩) hHeld ?_
  try simp only [Act.put, List.setIfInBounds_toArray, List.set_cons_zero, List.set_cons_succ, List.getElem_toArray, List.getElem_cons_succ, List.getElem_cons_zero]
  refine wpAnyH_done (by kernel_rfl) ?_ _
  go_wp2_with fail
  obtain ⟨h0, h1, hL⟩ := hHeld
  refine wp_region_held_drew (S := fun w' => RowAt w' (w.heap.size) 4 23 a ∧ RowAt w' ((w.heap.size + 1)) 4 23 b ∧ Below w.heap.size w w') (by kernel_rfl) ⟨h0.drew1, h1.drew1, hL.drew⟩ (fun hHeld => ?_)
  clear h0 h1 hL
  refine wpAnyH_take (i := 0) (oi := _) (v := .agg (vec 4 a)) rfl (by kernel_rfl) (by kernel_rfl) (by kernel_rfl) (fun _ _ _ h => h) (yieldsIf_load_mid (by rfl) _ _ rfl _ _ rfl _ _ (fun w h => h.1.range) Try.underlying23 rfl (size_lsurd a)) hHeld ?_
  try simp only [Act.put, List.setIfInBounds_toArray, List.set_cons_zero, List.set_cons_succ, List.getElem_toArray, List.getElem_cons_succ, List.getElem_cons_zero]
  refine wpAnyH_take (i := 2) (oi := _) (v := .agg (vec 4 b)) rfl (by kernel_rfl) (by kernel_rfl) (by kernel_rfl) (fun _ _ _ h => h) (yieldsIf_load_mid (by rfl) _ _ rfl _ _ rfl _ _ (fun w h => h.2.1.range) Try.underlying23 rfl (size_lsurd b)) hHeld ?_
  try simp only [Act.put, List.setIfInBounds_toArray, List.set_cons_zero, List.set_cons_succ, List.getElem_toArray, List.getElem_cons_succ, List.getElem_cons_zero]
  refine wpAnyH_ready (rs := [1]) (by kernel_rfl) (by simp) ?_
  refine AllReadyH.cons (o := _) rfl (fun K hK => ?_) AllReadyH.nil
  go_simp
  refine (P _).mono ?_; rintro e w1 ⟨rfl, hb1⟩
  go_wp2_with fail
  obtain ⟨h0, h1, hL⟩ := hHeld
  refine hK.out _ _ ⟨h0.below hb1, h1.below hb1, below_next hL hb1⟩ (fun hHeld => ?_)
  clear hK K hb1 hL h0 h1
  try simp only [Act.put, List.setIfInBounds_toArray, List.set_cons_zero, List.set_cons_succ, List.getElem_toArray, List.getElem_cons_succ, List.getElem_cons_zero]
  refine wpAnyH_ready (rs := [3]) (by kernel_rfl) (by simp) ?_
  refine AllReadyH.cons (o := _) rfl (fun K hK => ?_) AllReadyH.nil
  go_simp
  refine (P2 _).mono ?_; rintro e w2 ⟨rfl, hb2⟩
  go_wp2_with fail
  obtain ⟨h0, h1, hL⟩ := hHeld
  refine hK.out _ _ ⟨h0.below hb2, h1.below hb2, below_next hL hb2⟩ (fun hHeld => ?_)
  clear hK K hb2 hL h0 h1
  try simp only [Act.put, List.setIfInBounds_toArray, List.set_cons_zero, List.set_cons_succ, List.getElem_toArray, List.getElem_cons_succ, List.getElem_cons_zero]
  refine wpAnyH_ready (rs := [4]) (by kernel_rfl) (by simp) ?_
  refine AllReadyH.cons (o := _) rfl (fun K hK => ?_) AllReadyH.nil
  go_simp
  refine (IM _).mono ?_; rintro e w3 ⟨rfl, hb3⟩
  go_wp2_with fail
  obtain ⟨h0, h1, hL⟩ := hHeld
  refine hK.out _ _ ⟨h0.below hb3, h1.below hb3, below_next hL hb3⟩ (fun hHeld => ?_)
  clear hK K hb3 hL h0 h1
  try simp only [Act.put, List.setIfInBounds_toArray, List.set_cons_zero, List.set_cons_succ, List.getElem_toArray, List.getElem_cons_succ, List.getElem_cons_zero]
  refine wpAnyH_take (i := 5) (oi := _) (v := .tuple #[.int .i64 z, .bool v]) rfl (by kernel_rfl) (by kernel_rfl) (by kernel_rfl) (fun _ _ _ h => h) (Or.inl ⟨by rfl, fun w h => by go_simp⟩) hHeld ?_
  try simp only [Act.put, List.setIfInBounds_toArray, List.set_cons_zero, List.set_cons_succ, List.getElem_toArray, List.getElem_cons_succ, List.getElem_cons_zero]
  refine wpAnyH_take (i := 6) (oi := _) (v := .int .i64 z) rfl (by kernel_rfl) (by kernel_rfl) (by kernel_rfl) (fun _ _ _ h => h) (Or.inl ⟨by rfl, fun w h => by go_simp⟩) hHeld ?_
  try simp only [Act.put, List.setIfInBounds_toArray, List.set_cons_zero, List.set_cons_succ, List.getElem_toArray, List.getElem_cons_succ, List.getElem_cons_zero]
  refine wpAnyH_take (i := 7) (oi := _) (v := .bool v) rfl (by kernel_rfl) (by kernel_rfl) (by kernel_rfl) (fun _ _ _ h => h) (Or.inl ⟨by rfl, fun w h => by go_simp⟩) hHeld ?_
  try simp only [Act.put, List.setIfInBounds_toArray, List.set_cons_zero, List.set_cons_succ, List.getElem_toArray, List.getElem_cons_succ, List.getElem_cons_zero]
  refine wpAnyH_take (i := 8) (oi := _) (v := .int .i64 z) rfl (by kernel_rfl) (by kernel_rfl) (by kernel_rfl) (fun _ _ _ h => h) (Or.inl ⟨by rfl, fun w h => by go_simp⟩) hHeld ?_
  try simp only [Act.put, List.setIfInBounds_toArray, List.set_cons_zero, List.set_cons_succ, List.getElem_toArray, List.getElem_cons_succ, List.getElem_cons_zero]
  refine wpAnyH_take (i := 9) (oi := _) (v := .bool v) rfl (by kernel_rfl) (by kernel_rfl) (by kernel_rfl) (fun _ _ _ h => h) (Or.inl ⟨by rfl, fun w h => by go_simp⟩) hHeld ?_
  try simp only [Act.put, List.setIfInBounds_toArray, List.set_cons_zero, List.set_cons_succ, List.getElem_toArray, List.getElem_cons_succ, List.getElem_cons_zero]
  refine wpAnyH_done (by kernel_rfl) ?_ _
  go_wp2_with fail
  obtain ⟨h0, h1, hL⟩ := hHeld
  go_ret
  exact ⟨rfl, hL⟩
end Go.Proofs.Ytcdlenphgenejab
