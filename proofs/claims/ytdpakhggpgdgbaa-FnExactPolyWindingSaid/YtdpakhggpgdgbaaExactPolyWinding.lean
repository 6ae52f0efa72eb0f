/-
  The walk of the law FnExactPolyWinding.
-/
import Derived.Test.YtdpakhggpgdgbaaM17
import Derived.Test.YtdpakhggpgdgbaaM21
import Derived.Test.YtdpakhggpgdgbaaM20
import Derived.Test.YtdpakhggpgdgbaaM04
namespace Go.Proofs.Ytdpakhggpgdgbaa
set_option maxRecDepth 20000
open Go.ChangeShapes Go.WideShapes Go.ChangeAt Go.RowKit
set_option linter.unusedVariables false
set_option linter.unusedSimpArgs false

set_option maxHeartbeats 8000000 in
theorem exactPolyWinding_walk (v : Value) (ws : List V) (c : V) (w : World) (hD : LiesL encV w v ws) : Calls Try.prog 17 #[v, pt c.up] w (Fine w) := by
  have HD := Lib.hid hD
  clear hD
  have sc := vec_size 8 c.up
  have P := fun w => toCyc_any c.up w
  have SP := fun (u : Value) (x : World) (h : ReadsL encV x u ws) => specPolyWinding_any u ws c x h
  have IM := fun (u : Value) (x : World) (h : ReadsL encV x u ws) => PolyWinding_any u ws c x h
  obtain ⟨m, q, hmq⟩ : ∃ (m : Int) (q : Bool), toldZ (windO ws c) = .tuple #[.int .i64 m, .bool q] := ⟨_, _, rfl⟩
  rw [hmq] at SP IM
  clear hmq
  have hmm : (m != m) = false := by simp
  have hbb : (q != q) = false := by simp
  unfold pt at *
  by_cases hn : (ws.length : Int) ≤ 1048576
  · have hq : ¬ (1048576 : Int) - (ws.length : Int) < 0 := by omega
    have hn1 : ws.length ≤ 1048576 := by omega
    clear hn
    go_enter Try.func17, Try.ntmps17
    go_upto_region 1 with fail
    show Code.wp _ _ _ _ (box0 w c.up 54)
    obtain ⟨hA, hL⟩ := box0_facts w c.up 54
    generalize box0 w c.up 54 = W at *
    go_wp2_with fail
    refine (szCycs_yes v ws 1048576 _ (HD.out.below hL) (by omega) (by omega)).mono ?_; rintro e x ⟨rfl, rfl⟩
    go_upto_region 5 with fail
    go_cut [6, 7] (fun s6 s7 wx => s6 = .int .i64 m ∧ s7 = .bool q ∧ RowAt wx w.heap.size 8 54 c.up ∧ Below w.heap.size w wx)
    case first =>
      refine wp_region_held_drew (S := fun w' => RowAt w' w.heap.size 8 54 c.up ∧ Below w.heap.size w w') (by kernel_rfl) ⟨hA.drew1, hL.drew⟩ (fun hHeld => ?_)
      clear hA hL
      refine wpAnyH_take (i := 0) (oi := _) (v := v) rfl (by kernel_rfl) (by kernel_rfl) (by kernel_rfl) (fun _ _ _ h => h) (Or.inl ⟨by rfl, fun w h => by go_simp⟩) hHeld ?_
      try simp only [Act.put, List.setIfInBounds_toArray, List.set_cons_zero, List.set_cons_succ, List.getElem_toArray, List.getElem_cons_succ, List.getElem_cons_zero]
      refine wpAnyH_take (i := 2) (oi := _) (v := .agg (vec 8 c.up)) rfl (by kernel_rfl) (by kernel_rfl) (by kernel_rfl) (fun _ _ _ h => h) (yieldsIf_load_mid (by rfl) _ _ rfl _ _ rfl _ _ (fun w h => h.1.range) Try.underlying54 rfl (size_law c.up)) hHeld ?_
      try simp only [Act.put, List.setIfInBounds_toArray, List.set_cons_zero, List.set_cons_succ, List.getElem_toArray, List.getElem_cons_succ, List.getElem_cons_zero]
      refine wpAnyH_ready (rs := [1]) (by kernel_rfl) (by simp) ?_
      refine AllReadyH.cons (o := _) rfl (fun K hK => ?_) AllReadyH.nil
      go_simp
      obtain ⟨k0, kL⟩ := hHeld
      refine (toCycs_any v ws _ (HD.out.below kL) hn1).mono ?_; rintro e w1 ⟨hb1, t1, rfl, hT1⟩
      have hHeld := And.intro k0 kL
      clear k0 kL
      go_wp2_with fail
      obtain ⟨h0, hL⟩ := hHeld
      refine hK.out _ _ ⟨h0.below hb1, below_next hL hb1⟩ (fun hHeld => ?_)
      clear hK K hb1 hL h0
      try simp only [Act.put, List.setIfInBounds_toArray, List.set_cons_zero, List.set_cons_succ, List.getElem_toArray, List.getElem_cons_succ, List.getElem_cons_zero]
      refine wpAnyH_ready (rs := [3]) (by kernel_rfl) (by simp) ?_
      refine AllReadyH.cons (o := _) rfl (fun K hK => ?_) AllReadyH.nil
      go_simp
      refine (P _).mono ?_; rintro e w2 ⟨rfl, hb2⟩
      go_wp2_with fail
      replace hT1 := rows_below hT1 hb2
      obtain ⟨h0, hL⟩ := hHeld
      refine hK.out _ _ ⟨h0.below hb2, below_next hL hb2⟩ (fun hHeld => ?_)
      clear hK K hb2 hL h0
      try simp only [Act.put, List.setIfInBounds_toArray, List.set_cons_zero, List.set_cons_succ, List.getElem_toArray, List.getElem_cons_succ, List.getElem_cons_zero]
      refine wpAnyH_ready (rs := [4]) (by kernel_rfl) (by simp) ?_
      refine AllReadyH.cons (o := _) rfl (fun K hK => ?_) AllReadyH.nil
      go_simp
      refine (SP t1 _ (ownL_reads hT1)).mono ?_; rintro e w3 ⟨rfl, hb3⟩
      go_wp2_with fail
      clear hT1
      obtain ⟨h0, hL⟩ := hHeld
      refine hK.out _ _ ⟨h0.below hb3, below_next hL hb3⟩ (fun hHeld => ?_)
      clear hK K hb3 hL h0
      try simp only [Act.put, List.setIfInBounds_toArray, List.set_cons_zero, List.set_cons_succ, List.getElem_toArray, List.getElem_cons_succ, List.getElem_cons_zero]
      refine wpAnyH_take (i := 5) (oi := _) (v := .tuple #[.int .i64 m, .bool q]) rfl (by kernel_rfl) (by kernel_rfl) (by kernel_rfl) (fun _ _ _ h => h) (Or.inl ⟨by rfl, fun w h => by go_simp⟩) hHeld ?_
      try simp only [Act.put, List.setIfInBounds_toArray, List.set_cons_zero, List.set_cons_succ, List.getElem_toArray, List.getElem_cons_succ, List.getElem_cons_zero]
      refine wpAnyH_take (i := 6) (oi := _) (v := .int .i64 m) rfl (by kernel_rfl) (by kernel_rfl) (by kernel_rfl) (fun _ _ _ h => h) (Or.inl ⟨by rfl, fun w h => by go_simp⟩) hHeld ?_
      try simp only [Act.put, List.setIfInBounds_toArray, List.set_cons_zero, List.set_cons_succ, List.getElem_toArray, List.getElem_cons_succ, List.getElem_cons_zero]
      refine wpAnyH_take (i := 7) (oi := _) (v := .bool q) rfl (by kernel_rfl) (by kernel_rfl) (by kernel_rfl) (fun _ _ _ h => h) (Or.inl ⟨by rfl, fun w h => by go_simp⟩) hHeld ?_
      try simp only [Act.put, List.setIfInBounds_toArray, List.set_cons_zero, List.set_cons_succ, List.getElem_toArray, List.getElem_cons_succ, List.getElem_cons_zero]
      refine wpAnyH_take (i := 8) (oi := _) (v := .int .i64 m) rfl (by kernel_rfl) (by kernel_rfl) (by kernel_rfl) (fun _ _ _ h => h) (Or.inl ⟨by rfl, fun w h => by go_simp⟩) hHeld ?_
      try simp only [Act.put, List.setIfInBounds_toArray, List.set_cons_zero, List.set_cons_succ, List.getElem_toArray, List.getElem_cons_succ, List.getElem_cons_zero]
      refine wpAnyH_take (i := 9) (oi := _) (v := .bool q) rfl (by kernel_rfl) (by kernel_rfl) (by kernel_rfl) (fun _ _ _ h => h) (Or.inl ⟨by rfl, fun w h => by go_simp⟩) hHeld ?_
      try simp only [Act.put, List.setIfInBounds_toArray, List.set_cons_zero, List.set_cons_succ, List.getElem_toArray, List.getElem_cons_succ, List.getElem_cons_zero]
      refine wpAnyH_done (by kernel_rfl) ?_ _
      go_wp2_with fail
      go_meet
      obtain ⟨h0, hL⟩ := hHeld
      exact ⟨rfl, rfl, h0, hL⟩
    case rest =>
    clear hA hL SP
    obtain ⟨rfl, rfl, hA, hL⟩ := hcut
    go_wp2_with fail
    refine (toCycs_any v ws _ (HD.out.below hL) hn1).mono ?_; rintro e w10 ⟨hb, vX, rfl, hX⟩
    replace hA := hA.below hb
    replace hL := below_next hL hb
    clear hb
    go_wp2_with (refine load_row rfl rfl rfl hA Try.underlying54 rfl info_law ?_)
    refine (P _).mono ?_; rintro e w11 ⟨rfl, hb⟩
    replace hX := rows_below hX hb
    replace hL := below_next hL hb
    clear hb
    go_wp2_with fail
    refine (IM vX _ (ownL_reads hX)).mono ?_; rintro e w12 ⟨rfl, hb⟩
    replace hX := rows_below hX hb
    replace hL := below_next hL hb
    clear hb
    go_wp2_with fail
    refine (toCycs_any v ws _ (HD.out.below hL) hn1).mono ?_; rintro e w13 ⟨hb, t2, rfl, hT2⟩
    replace hX := rows_below hX hb
    replace hL := below_next hL hb
    clear hb
    go_wp2_with fail
    refine (eqCycs_yes vX t2 _ _ (ownL_reads hX) (ownL_reads hT2)).mono ?_; rintro e w14 ⟨rfl, hb⟩
    replace hL := below_next hL hb
    clear hb
    go_wp2
    go_ret
    exact ⟨rfl, hL⟩
  · go_enter Try.func17, Try.ntmps17
    go_upto_region 1 with fail
    show Code.wp _ _ _ _ (box0 w c.up 54)
    obtain ⟨hA, hL⟩ := box0_facts w c.up 54
    generalize box0 w c.up 54 = W at *
    go_wp2_with fail
    refine (szCycs_no v ws 1048576 _ (HD.out.below hL) (by omega) (by omega) (by omega)).mono ?_; rintro e x ⟨rfl, rfl⟩
    go_wp2
    go_ret
    exact ⟨rfl, hL⟩

end Go.Proofs.Ytdpakhggpgdgbaa
