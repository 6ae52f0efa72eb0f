/-
  Contracts of impl's calculations with exact points, fourth part: pairs, differences, real points.
-/
import Derived.Test.YtjfljelpjgkmjaaCycC
import Derived.Deep.RegionHeld3
namespace Go.Proofs.Ytjfljelpjgkmjaa
set_option maxRecDepth 20000
open Go.ChangeShapes Go.WideShapes Go.ChangeAt Go.RowKit
set_option linter.unusedVariables false
set_option linter.unusedSimpArgs false

theorem exactOf_yes (a : Nat → Int) (h : okc a = true) (w : World) :
    Calls Try.prog 58 #[pt a] w fun e w' => e = .returned (.tuple #[pt a, .bool true]) ∧ Below w.heap.size w w' := by
  rw [← ans_yes h]; exact exactOf_any a w
theorem exactOf_no (a : Nat → Int) (h : okc a = false) (w : World) :
    Calls Try.prog 58 #[pt a] w fun e w' => e = .returned (.tuple #[pt nul, .bool false]) ∧ Below w.heap.size w w' := by
  rw [← ans_bad h]; exact exactOf_any a w
theorem told_yes (a : Nat → Int) (h : okc a = true) (w : World) :
    Calls Try.prog 62 #[pt a] w fun e w' => e = .returned (.tuple #[pt a, .bool true]) ∧ Below w.heap.size w w' := by
  rw [← ans_yes h]; exact told_any a w
theorem told_no (a : Nat → Int) (h : okc a = false) (w : World) :
    Calls Try.prog 62 #[pt a] w fun e w' => e = .returned (.tuple #[pt nul, .bool false]) ∧ Below w.heap.size w w' := by
  rw [← ans_bad h]; exact told_any a w

/-- What exactOf's two answers are. -/
theorem exactOf_two (a : Nat → Int) (w : World) :
    Calls Try.prog 58 #[pt a] w fun e w' => e = .returned (.tuple #[pt (if okc a then a else nul), .bool (okc a)]) ∧ Below w.heap.size w w' := by
  cases h : okc a
  · exact exactOf_no a h w
  · exact exactOf_yes a h w
theorem told_two (a : Nat → Int) (w : World) :
    Calls Try.prog 62 #[pt a] w fun e w' => e = .returned (.tuple #[pt (if okc a then a else nul), .bool (okc a)]) ∧ Below w.heap.size w w' := by
  cases h : okc a
  · exact told_no a h w
  · exact told_yes a h w

theorem exactPair_at (a b : Nat → Int) (w : World) :
    Calls Try.prog 63 #[pt a, pt b] w fun e w' => e = .returned (.tuple #[pt (if okc a && okc b then a else nul), pt (if okc a && okc b then b else nul), .bool (okc a && okc b)]) ∧ Below w.heap.size w w' := by
  have sa := vec_size 8 a
  have sb := vec_size 8 b
  have CA := fun w => exactOf_two a w
  have CB := fun w => exactOf_two b w
  generalize hva : okc a = va at *
  generalize hvb : okc b = vb at *
  generalize ha' : (if va then a else nul) = a' at *
  generalize hb' : (if vb then b else nul) = b' at *
  unfold pt at *
  go_enter Try.func63, Try.ntmps63
  go_upto_region 1 with fail
  go_cut [2, 3, 4, 5, 6, 7, 8] (fun s2 s3 s4 s5 s6 s7 s8 wx => ∃ g : Nat, s2 = .pointer (some ⟨w.heap.size, 0, none⟩) ∧ s3 = .pointer (some ⟨w.heap.size + 1, 0, none⟩) ∧ s4 = .pointer (some ⟨w.heap.size + 1 + 1, 0, none⟩) ∧ s5 = .pointer (some ⟨w.heap.size + 1 + 1 + 1, 0, none⟩) ∧ s7 = .pointer (some ⟨g, 0, none⟩) ∧ s8 = .bool va ∧ w.heap.size + 1 + 1 + 1 < g ∧
      RowAt wx (w.heap.size + 1) 8 25 b ∧ RowAt wx (w.heap.size + 1 + 1) 8 54 nul ∧ RowAt wx (w.heap.size + 1 + 1 + 1) 8 54 nul ∧ RowAt wx g 8 54 a' ∧ Below w.heap.size w wx)
  case first =>
    have hA : RowAt (((w.alloc (.cells (vec 8 a) 25)).alloc (.cells (vec 8 b) 25)).alloc (.cells (vec 8 nul) 54) |>.alloc (.cells (vec 8 nul) 54)) w.heap.size 8 25 a := (((RowAt.newAt rfl rfl).alloc _).alloc _).alloc _
    have hB : RowAt (((w.alloc (.cells (vec 8 a) 25)).alloc (.cells (vec 8 b) 25)).alloc (.cells (vec 8 nul) 54) |>.alloc (.cells (vec 8 nul) 54)) (w.heap.size + 1) 8 25 b := ((RowAt.newAt rfl (by simp)).alloc _).alloc _
    have hO : RowAt (((w.alloc (.cells (vec 8 a) 25)).alloc (.cells (vec 8 b) 25)).alloc (.cells (vec 8 nul) 54) |>.alloc (.cells (vec 8 nul) 54)) (w.heap.size + 1 + 1) 8 54 nul := (RowAt.newAt rfl (by simp)).alloc _
    have hQ : RowAt (((w.alloc (.cells (vec 8 a) 25)).alloc (.cells (vec 8 b) 25)).alloc (.cells (vec 8 nul) 54) |>.alloc (.cells (vec 8 nul) 54)) (w.heap.size + 1 + 1 + 1) 8 54 nul := RowAt.newAt rfl (by simp)
    have hL : Below w.heap.size w (((w.alloc (.cells (vec 8 a) 25)).alloc (.cells (vec 8 b) 25)).alloc (.cells (vec 8 nul) 54) |>.alloc (.cells (vec 8 nul) 54)) := ((((Below.refl _ _).alloc (Nat.le_refl _) _).alloc (by simp) _).alloc (by simp; omega) _).alloc (by simp; omega) _
    go_wp2_with (refine load_row rfl rfl rfl hA Try.underlying25 rfl info_cyc ?_)
    refine (CA _).mono ?_; rintro e w2 ⟨rfl, hb2⟩
    have hB2 := hB.below hb2
    have hO2 := hO.below hb2
    have hQ2 := hQ.below hb2
    have hL2 := below_next hL hb2
    have z2 := hQ2.lt
    clear CA CB hA hB hO hQ hL hb2
    go_wp2_with (refine store_row rfl rfl rfl rfl (RowAt.newAt zero8 rfl) info_exact ?_)
    go_meet
    exact ⟨w2.heap.size, rfl, rfl, rfl, rfl, rfl, rfl, z2, (hB2.alloc _).rowOther _ _ (by omega), (hO2.alloc _).rowOther _ _ (by omega), (hQ2.alloc _).rowOther _ _ (by omega), (RowAt.newAt zero8 rfl).setRow, below_setRow (hL2.alloc (by omega) _) (by omega) _⟩
  case rest =>
  obtain ⟨g, rfl, rfl, rfl, rfl, rfl, rfl, hg, hB, hO, hQ, hA', hL⟩ := hcut
  go_upto_region 2 with fail
  go_cut [9, 10] (fun s9 s10 wx => ∃ g' : Nat, s9 = .pointer (some ⟨g', 0, none⟩) ∧ s10 = .bool vb ∧ w.heap.size + 1 + 1 + 1 < g' ∧ g ≠ g' ∧
      RowAt wx (w.heap.size + 1 + 1) 8 54 nul ∧ RowAt wx (w.heap.size + 1 + 1 + 1) 8 54 nul ∧ RowAt wx g 8 54 a' ∧ RowAt wx g' 8 54 b' ∧ Below w.heap.size w wx)
  case first =>
    have HO := Lib.hid hO; have HQ := Lib.hid hQ; have HA := Lib.hid hA'; have HL := Lib.hid hL
    clear hO hQ hA' hL
    go_wp2_with (refine load_row rfl rfl rfl hB Try.underlying25 rfl info_cyc ?_)
    refine (CB _).mono ?_; rintro e w2 ⟨rfl, hb2⟩
    have hO2 := HO.out.below hb2
    have hQ2 := HQ.out.below hb2
    have hA2 := HA.out.below hb2
    have hL2 := below_next HL.out hb2
    have z2 := hQ2.lt
    have z3 := hA2.lt
    clear CA CB hB HO HQ HA HL hb2
    go_wp2_with (refine store_row rfl rfl rfl rfl (RowAt.newAt zero8 rfl) info_exact ?_)
    go_meet
    exact ⟨w2.heap.size, rfl, rfl, z2, by omega, (hO2.alloc _).rowOther _ _ (by omega), (hQ2.alloc _).rowOther _ _ (by omega), (hA2.alloc _).rowOther _ _ (by omega), (RowAt.newAt zero8 rfl).setRow, below_setRow (hL2.alloc (by omega) _) (by omega) _⟩
  case rest =>
  clear hO hQ hA' hL hB CA CB
  obtain ⟨g', rfl, rfl, hg', hne, hO, hQ, hA', hB', hL⟩ := hcut
  have hO2 := hO.setRow (f' := nul)
  have hQ2 := (hQ.rowOther (w.heap.size + 1 + 1) (vec 8 nul) (by omega))
  cases va
  · cases vb <;>
    · go_wp2_with (first | (refine store_row rfl rfl rfl (show _ = Value.agg (vec 8 nul) from rfl) hO info_exact ?_) | (refine store_row rfl rfl rfl (show _ = Value.agg (vec 8 nul) from rfl) hQ2 info_exact ?_))
      refine bodyPost_ret (results_row2_tmp rfl rfl rfl (hO2.rowOther _ _ (by omega)) hQ2.setRow Try.underlying54 rfl info_exact Try.underlying54 rfl info_exact) rfl ?_
      exact ⟨rfl, below_setRow (below_setRow hL (by omega) _) (by omega) _⟩
  · cases vb
    · go_wp2_with (first | (refine store_row rfl rfl rfl (show _ = Value.agg (vec 8 nul) from rfl) hO info_exact ?_) | (refine store_row rfl rfl rfl (show _ = Value.agg (vec 8 nul) from rfl) hQ2 info_exact ?_))
      refine bodyPost_ret (results_row2_tmp rfl rfl rfl (hO2.rowOther _ _ (by omega)) hQ2.setRow Try.underlying54 rfl info_exact Try.underlying54 rfl info_exact) rfl ?_
      exact ⟨rfl, below_setRow (below_setRow hL (by omega) _) (by omega) _⟩
    · obtain rfl : a' = a := ha'.symm
      obtain rfl : b' = b := hb'.symm
      have hu := Try.underlying54
      have iA : (Try.prog.info? 54).map (·.size) = some (lst 8 a').length := by rw [lst_length]; exact info_exact
      have iB : (Try.prog.info? 54).map (·.size) = some (lst 8 b').length := by rw [lst_length]; exact info_exact
      go_wp2_with fail
      refine wp_region_held_drew (S := fun w' => RowAt w' g 8 54 a' ∧ RowAt w' g' 8 54 b' ∧ (∃ f, RowAt w' (w.heap.size + 1 + 1) 8 54 f) ∧ (∃ f, RowAt w' (w.heap.size + 1 + 1 + 1) 8 54 f) ∧ Below w.heap.size w w') (by kernel_rfl) ⟨hA'.drew1, hB'.drew1, ⟨_, hO.drew1⟩, ⟨_, hQ.drew1⟩, hL.drew⟩ (fun hHeld => ?_)
      refine wpAnyH_take (i := 0) (oi := _) (v := .agg (vec 8 a')) rfl (by kernel_rfl) (by kernel_rfl) (by kernel_rfl) (fun _ _ _ h => h) (yieldsIf_load_mid (by rfl) _ _ rfl _ _ rfl _ _ (fun w h => h.1.range) hu rfl iA) hHeld ?_
      try simp only [Act.put, List.setIfInBounds_toArray, List.set_cons_zero, List.set_cons_succ]
      refine wpAnyH_take (i := 1) (oi := _) (v := .agg (vec 8 b')) rfl (by kernel_rfl) (by kernel_rfl) (by kernel_rfl) (fun _ _ _ h => h) (yieldsIf_load_mid (by rfl) _ _ rfl _ _ rfl _ _ (fun w h => h.2.1.range) hu rfl iB) hHeld ?_
      try simp only [Act.put, List.setIfInBounds_toArray, List.set_cons_zero, List.set_cons_succ]
      refine wpAnyH_ready (rs := [2]) (by kernel_rfl) (by simp) ?_
      obtain ⟨h1, h2, ⟨_, h3⟩, ⟨_, h4⟩, h5⟩ := hHeld
      refine AllReadyH.cons (o := _) rfl (fun K hK => ?_) AllReadyH.nil
      rw [if_pos (by rfl)]
      refine store_step rfl rfl rfl h3 info_exact ?_
      refine hK.out _ _ ⟨h1.rowOther _ _ (by omega), h2.rowOther _ _ (by omega), ⟨_, h3.setRow⟩, ⟨_, h4.rowOther _ _ (by omega)⟩, below_setRow h5 (by omega) _⟩ (fun hHeld => ?_)
      clear hK K
      try simp only [Act.put, List.setIfInBounds_toArray, List.set_cons_zero, List.set_cons_succ]
      have k3 := h3.setRow (f' := a')
      have k4 := h4.rowOther (w.heap.size + 1 + 1) (vec 8 a') (by omega)
      have k5 := below_setRow h5 (g := w.heap.size + 1 + 1) (by omega) (vec 8 a')
      refine wpAnyH_ready (rs := [3]) (by kernel_rfl) (by simp) ?_
      refine AllReadyH.cons (o := _) rfl (fun K hK => ?_) AllReadyH.nil
      rw [if_pos (by rfl)]
      refine store_step rfl rfl rfl k4 info_exact ?_
      obtain ⟨h1, h2, _, _, h5⟩ := hHeld
      refine hK.out _ _ ⟨h1.rowOther _ _ (by omega), h2.rowOther _ _ (by omega), ⟨_, k3.rowOther _ _ (by omega)⟩, ⟨_, k4.setRow⟩, below_setRow h5 (by omega) _⟩ (fun hHeld => ?_)
      clear hK K
      try simp only [Act.put, List.setIfInBounds_toArray, List.set_cons_zero, List.set_cons_succ]
      have m3 := k3.rowOther (w.heap.size + 1 + 1 + 1) (vec 8 b') (by omega)
      have m4 := k4.setRow (f' := b')
      have m5 := below_setRow k5 (g := w.heap.size + 1 + 1 + 1) (by omega) (vec 8 b')
      refine wpAnyH_ready (rs := [4]) (by kernel_rfl) (by simp) ?_
      refine AllReadyH.cons (o := _) rfl (fun K hK => ?_) AllReadyH.nil
      go_simp
      refine hK.out _ _ hHeld (fun hHeld => ?_)
      clear hK K
      try simp only [Act.put, List.setIfInBounds_toArray, List.set_cons_zero, List.set_cons_succ]
      refine wpAnyH_done (by kernel_rfl) ?_ _
      go_wp2_with fail
      refine bodyPost_ret (results_row2_tmp rfl rfl rfl m3 m4 Try.underlying54 rfl info_exact Try.underlying54 rfl info_exact) rfl ?_
      exact ⟨rfl, m5⟩
end Go.Proofs.Ytjfljelpjgkmjaa
