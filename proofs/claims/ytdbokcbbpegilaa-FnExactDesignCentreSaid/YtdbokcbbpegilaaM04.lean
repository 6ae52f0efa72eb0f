/-
  Contracts of impl's calculations with exact points, third part: products, turned and mirrored points, roots.
  Contracts of impl's calculations with exact points, fourth part: pairs, differences, real points.
  Contracts of impl's calculations with exact points, fifth part: differences and real points.
-/
import Derived.Test.YtdbokcbbpegilaaM03
import Derived.Deep.RegionHeld3
import Derived.Deep.DeepCutAuto
/- Contracts of impl's calculations with exact points, third part: products, turned and mirrored points, roots. -/
namespace Go.Proofs.Ytdbokcbbpegilaa
set_option maxRecDepth 20000
open Go.ChangeShapes Go.WideShapes Go.ChangeAt Go.RowKit
set_option linter.unusedVariables false
set_option linter.unusedSimpArgs false

theorem turnPlus_any (a b : Nat) (ha : a ≤ 100) (hb : b ≤ 100) (w : World) :
    Calls Try.prog 83 #[.int .i64 a, .int .i64 b] w fun e w' => e = .returned (.int .i64 ((a + b) % 24 : Nat)) ∧ w = w' := by
  have C := fun w => within_any ((a : Int) + b) (by omega) (by omega) w
  have e : ((a : Int) + b) % 24 = (((a + b) % 24 : Nat) : Int) := by omega
  rw [e] at C
  clear e
  generalize (a + b) % 24 = r at *
  go_enter Try.func83, Try.ntmps83
  go_wp2_with fail
  refine (C _).mono ?_; rintro e w' ⟨rfl, rfl⟩
  go_wp2_with fail
  go_ret
  exact ⟨rfl, rfl⟩
theorem turnBack_any (a : Nat) (ha : a ≤ 23) (w : World) :
    Calls Try.prog 81 #[.int .i64 a, .int .i64 (-1)] w fun e w' => e = .returned (.int .i64 ((24 - a) % 24 : Nat)) ∧ w = w' := by
  have C := fun w => within_any (-(a : Int)) (by omega) (by omega) w
  have e : (-(a : Int)) % 24 = (((24 - a) % 24 : Nat) : Int) := by omega
  rw [e] at C
  clear e
  generalize (24 - a) % 24 = r at *
  have e1 : (a : Int) * (-1) = -(a : Int) := by omega
  have e2 : IntKind.i64.wrap (-(a : Int)) = -(a : Int) := by rw [IntKind.wrap_i64]; omega
  go_enter Try.func81, Try.ntmps81
  go_wp2_with fail
  refine (C _).mono ?_; rintro e w' ⟨rfl, rfl⟩
  go_wp2_with fail
  go_ret
  exact ⟨rfl, rfl⟩

theorem turned_any (a : Nat → Int) (t : Nat) (ht : t ≤ 23) (ha : InR a) (w : World) :
    Calls Try.prog 105 #[pt a, .int .i64 t] w fun e w' => e = .returned (pt (trn a t)) ∧ Below w.heap.size w w' := by
  have sa := vec_size 8 a
  have TB := trn_bound (a := a) (B := 1000000) (by omega) (fun j hj => ha j hj) t
  have P : ∀ w, Calls Try.prog 131 #[.agg (vec 24 (tpow a t 8))] w fun e w' => e = .returned (pt (trn a t)) ∧ Below w.heap.size w w' := fun w => point_any (tpow a t 8) (fun j hj => by have := TB j; omega) w
  clear TB
  unfold pt
  go_enter Try.func105, Try.ntmps105
  go_upto_region 1 with fail
  go_cut [2, 4, 5] (fun s2 s4 s5 wx => s2 = .pointer (some ⟨w.heap.size, 0, none⟩) ∧ s4 = .pointer (some ⟨w.heap.size + 1, 0, none⟩) ∧ s5 = .pointer (some ⟨w.heap.size + 1 + 1, 0, none⟩) ∧ RowAt wx w.heap.size 8 70 a ∧ RowAt wx (w.heap.size + 1) 8 70 nul ∧ RowAt wx (w.heap.size + 1 + 1) 24 135 nul ∧ Below w.heap.size w wx)
  case first =>
    go_wp2_with fail
    go_meet
    exact ⟨rfl, rfl, rfl, ((RowAt.newAt rfl (by simp)).alloc _).alloc _, (RowAt.newAt zero8 (by simp)).alloc _, RowAt.newAt zero24 (by simp), (((Below.refl _ _).alloc (Nat.le_refl _) _).alloc (by simp) _).alloc (by simp; omega) _⟩
  case rest =>
  obtain ⟨rfl, rfl, rfl, hA0, hO0, hP0, hbel0⟩ := hcut
  go_wp2_with (refine load_row rfl rfl rfl hA0 Try.underlying70 rfl info_exact ?_)
  go_loopw [9] (fun i wr => ∃ k : Nat, k ≤ 8 ∧ i = .int .i64 k ∧ RowAt wr (w.heap.size + 1) 8 70 nul ∧ RowAt wr (w.heap.size + 1 + 1) 24 135 (tpow a t k) ∧ Below w.heap.size w wr) (fun i _ => 8 - (intOf i).toNat)
  case atStart => exact ⟨0, Nat.zero_le _, rfl, hO0, hP0.same (fun j _ => by simp [nul, tpow]), hbel0⟩
  case round =>
    obtain ⟨k, hk, rfl, hO, hP, hbel⟩ := hrel
    by_cases hlt : k < 8
    · have ix := fun w => index_exact a hlt w
      have hlt' : (k : Int) < 8 := by omega
      have hk0 : (0 : Int) ≤ (k : Int) := by omega
      have C := fun w => turnPlus_any k t (by omega) (by omega) w
      have hr : (k + t) % 24 < 24 := by omega
      have hP3 := (hP.set hr (a k)).same (tpow_step a t k ht hlt)
      have cP := hP.cell hr
      have fP := hP.free ((k + t) % 24)
      generalize tpow a t k ((k + t) % 24) = y at cP
      generalize (k + t) % 24 = r at *
      have hr' : (r : Int) < 24 := by omega
      have hr0 : (0 : Int) ≤ (r : Int) := by omega
      have HP := Lib.hid hP3
      have HO := Lib.hid (hO.other ⟨w.heap.size + 1 + 1, r, none⟩ (.int .i64 (a k)) (by simp; try omega))
      have HL := Lib.hid (hbel.setCell (p := ⟨w.heap.size + 1 + 1, r, none⟩) (by simp; omega) (.int .i64 (a k)))
      clear hP3 hO hP hbel hA0 hO0 hP0 hbel0
      go_wp2_with fail
      refine (C _).mono ?_; rintro e w' ⟨rfl, rfl⟩
      clear C
      go_wp2_with fail
      go_roundw
      case rel => exact ⟨k + 1, by omega, by go_num, HO.out, HP.out, HL.out⟩
      case measure => simp [intOf]; omega
    · obtain rfl : k = 8 := by omega
      have HO := Lib.hid hO; have HL := Lib.hid hbel; have HP := Lib.hid hP
      clear hA0 hO0 hP0 hbel0 hO hP hbel
      go_wp2_with (refine load_row rfl rfl rfl HP.out Try.underlying135 rfl info_powers ?_)
      refine (P _).mono ?_; rintro e w2 ⟨rfl, hb2⟩
      have hO2 := (HO.out).below hb2
      have hL2 := below_next HL.out hb2
      have z2 := (HO.out).lt
      clear P
      go_wp2_with (refine store_row rfl rfl rfl rfl hO2 info_exact ?_)
      refine bodyPost_ret (results_row rfl rfl hO2.setRow Try.underlying70 rfl info_exact) rfl ?_
      exact ⟨rfl, below_setRow hL2 (by omega) _⟩

end Go.Proofs.Ytdbokcbbpegilaa
/- Contracts of impl's calculations with exact points, fourth part: pairs, differences, real points. -/
namespace Go.Proofs.Ytdbokcbbpegilaa
set_option maxRecDepth 20000
open Go.ChangeShapes Go.WideShapes Go.ChangeAt Go.RowKit
set_option linter.unusedVariables false
set_option linter.unusedSimpArgs false

theorem exactOf_yes (a : Nat → Int) (h : okc a = true) (w : World) :
    Calls Try.prog 93 #[pt a] w fun e w' => e = .returned (.tuple #[pt a, .bool true]) ∧ Below w.heap.size w w' := by
  rw [← ans_yes h]; exact exactOf_any a w
theorem exactOf_no (a : Nat → Int) (h : okc a = false) (w : World) :
    Calls Try.prog 93 #[pt a] w fun e w' => e = .returned (.tuple #[pt nul, .bool false]) ∧ Below w.heap.size w w' := by
  rw [← ans_bad h]; exact exactOf_any a w
theorem told_yes (a : Nat → Int) (h : okc a = true) (w : World) :
    Calls Try.prog 91 #[pt a] w fun e w' => e = .returned (.tuple #[pt a, .bool true]) ∧ Below w.heap.size w w' := by
  rw [← ans_yes h]; exact told_any a w
theorem told_no (a : Nat → Int) (h : okc a = false) (w : World) :
    Calls Try.prog 91 #[pt a] w fun e w' => e = .returned (.tuple #[pt nul, .bool false]) ∧ Below w.heap.size w w' := by
  rw [← ans_bad h]; exact told_any a w

/-- What exactOf's two answers are. -/
theorem exactOf_two (a : Nat → Int) (w : World) :
    Calls Try.prog 93 #[pt a] w fun e w' => e = .returned (.tuple #[pt (if okc a then a else nul), .bool (okc a)]) ∧ Below w.heap.size w w' := by
  cases h : okc a
  · exact exactOf_no a h w
  · exact exactOf_yes a h w
theorem told_two (a : Nat → Int) (w : World) :
    Calls Try.prog 91 #[pt a] w fun e w' => e = .returned (.tuple #[pt (if okc a then a else nul), .bool (okc a)]) ∧ Below w.heap.size w w' := by
  cases h : okc a
  · exact told_no a h w
  · exact told_yes a h w

theorem exactPair_at (a b : Nat → Int) (w : World) :
    Calls Try.prog 92 #[pt a, pt b] w fun e w' => e = .returned (.tuple #[pt (if okc a && okc b then a else nul), pt (if okc a && okc b then b else nul), .bool (okc a && okc b)]) ∧ Below w.heap.size w w' := by
  have sa := vec_size 8 a
  have sb := vec_size 8 b
  have CA := fun w => exactOf_two a w
  have CB := fun w => exactOf_two b w
  generalize hva : okc a = va at *
  generalize hvb : okc b = vb at *
  generalize ha' : (if va then a else nul) = a' at *
  generalize hb' : (if vb then b else nul) = b' at *
  unfold pt at *
  go_enter Try.func92, Try.ntmps92
  go_upto_region 1 with fail
  go_cut [2, 3, 4, 5, 6, 7, 8] (fun s2 s3 s4 s5 s6 s7 s8 wx => ∃ g : Nat, s2 = .pointer (some ⟨w.heap.size, 0, none⟩) ∧ s3 = .pointer (some ⟨w.heap.size + 1, 0, none⟩) ∧ s4 = .pointer (some ⟨w.heap.size + 1 + 1, 0, none⟩) ∧ s5 = .pointer (some ⟨w.heap.size + 1 + 1 + 1, 0, none⟩) ∧ s7 = .pointer (some ⟨g, 0, none⟩) ∧ s8 = .bool va ∧ w.heap.size + 1 + 1 + 1 < g ∧
      RowAt wx (w.heap.size + 1) 8 41 b ∧ RowAt wx (w.heap.size + 1 + 1) 8 70 nul ∧ RowAt wx (w.heap.size + 1 + 1 + 1) 8 70 nul ∧ RowAt wx g 8 70 a' ∧ Below w.heap.size w wx)
  case first =>
    have hA : RowAt (((w.alloc (.cells (vec 8 a) 41)).alloc (.cells (vec 8 b) 41)).alloc (.cells (vec 8 nul) 70) |>.alloc (.cells (vec 8 nul) 70)) w.heap.size 8 41 a := (((RowAt.newAt rfl rfl).alloc _).alloc _).alloc _
    have hB : RowAt (((w.alloc (.cells (vec 8 a) 41)).alloc (.cells (vec 8 b) 41)).alloc (.cells (vec 8 nul) 70) |>.alloc (.cells (vec 8 nul) 70)) (w.heap.size + 1) 8 41 b := ((RowAt.newAt rfl (by simp)).alloc _).alloc _
    have hO : RowAt (((w.alloc (.cells (vec 8 a) 41)).alloc (.cells (vec 8 b) 41)).alloc (.cells (vec 8 nul) 70) |>.alloc (.cells (vec 8 nul) 70)) (w.heap.size + 1 + 1) 8 70 nul := (RowAt.newAt rfl (by simp)).alloc _
    have hQ : RowAt (((w.alloc (.cells (vec 8 a) 41)).alloc (.cells (vec 8 b) 41)).alloc (.cells (vec 8 nul) 70) |>.alloc (.cells (vec 8 nul) 70)) (w.heap.size + 1 + 1 + 1) 8 70 nul := RowAt.newAt rfl (by simp)
    have hL : Below w.heap.size w (((w.alloc (.cells (vec 8 a) 41)).alloc (.cells (vec 8 b) 41)).alloc (.cells (vec 8 nul) 70) |>.alloc (.cells (vec 8 nul) 70)) := ((((Below.refl _ _).alloc (Nat.le_refl _) _).alloc (by simp) _).alloc (by simp; omega) _).alloc (by simp; omega) _
    go_wp2_with (refine load_row rfl rfl rfl hA Try.underlying41 rfl info_cyc ?_)
    refine (CA _).mono ?_; rintro e w2 ⟨rfl, hb2⟩
    have hB2 := hB.below hb2
    have hO2 := hO.below hb2
    have hQ2 := hQ.below hb2
    have hL2 := below_next hL hb2
    have z2 := hQ2.lt
    clear CA CB hA hB hO hQ hL hb2
    go_wp2_with (refine store_row rfl rfl rfl rfl (RowAt.newAt zero8 rfl) info_exact ?_)
    go_meet
    exact ⟨w2.heap.size, rfl, rfl, rfl, rfl, rfl, rfl, z2, (hB2.alloc _).rowOther _ _ (by omega), (hO2.alloc _).rowOther _ _ (by omega), (hQ2.alloc _).rowOther _ _ (by omega), (RowAt.newAt zero8 rfl).setRow, below_setRow (hL2.alloc (by omega) _) (by omega) _⟩
  case rest =>
  obtain ⟨g, rfl, rfl, rfl, rfl, rfl, rfl, hg, hB, hO, hQ, hA', hL⟩ := hcut
  go_upto_region 2 with fail
  go_cut [9, 10] (fun s9 s10 wx => ∃ g' : Nat, s9 = .pointer (some ⟨g', 0, none⟩) ∧ s10 = .bool vb ∧ w.heap.size + 1 + 1 + 1 < g' ∧ g ≠ g' ∧
      RowAt wx (w.heap.size + 1 + 1) 8 70 nul ∧ RowAt wx (w.heap.size + 1 + 1 + 1) 8 70 nul ∧ RowAt wx g 8 70 a' ∧ RowAt wx g' 8 70 b' ∧ Below w.heap.size w wx)
  case first =>
    have HO := Lib.hid hO; have HQ := Lib.hid hQ; have HA := Lib.hid hA'; have HL := Lib.hid hL
    clear hO hQ hA' hL
    go_wp2_with (refine load_row rfl rfl rfl hB Try.underlying41 rfl info_cyc ?_)
    refine (CB _).mono ?_; rintro e w2 ⟨rfl, hb2⟩
    have hO2 := HO.out.below hb2
    have hQ2 := HQ.out.below hb2
    have hA2 := HA.out.below hb2
    have hL2 := below_next HL.out hb2
    have z2 := hQ2.lt
    have z3 := hA2.lt
    clear CA CB hB HO HQ HA HL hb2
    go_wp2_with (refine store_row rfl rfl rfl rfl (RowAt.newAt zero8 rfl) info_exact ?_)
    go_meet
    exact ⟨w2.heap.size, rfl, rfl, z2, by omega, (hO2.alloc _).rowOther _ _ (by omega), (hQ2.alloc _).rowOther _ _ (by omega), (hA2.alloc _).rowOther _ _ (by omega), (RowAt.newAt zero8 rfl).setRow, below_setRow (hL2.alloc (by omega) _) (by omega) _⟩
  case rest =>
  clear hO hQ hA' hL hB CA CB
  obtain ⟨g', rfl, rfl, hg', hne, hO, hQ, hA', hB', hL⟩ := hcut
  have hO2 := hO.setRow (f' := nul)
  have hQ2 := (hQ.rowOther (w.heap.size + 1 + 1) (vec 8 nul) (by omega))
  cases va
  · cases vb <;>
    · go_wp2_with (first | (refine store_row rfl rfl rfl (show _ = Value.agg (vec 8 nul) from rfl) hO info_exact ?_) | (refine store_row rfl rfl rfl (show _ = Value.agg (vec 8 nul) from rfl) hQ2 info_exact ?_))
      refine bodyPost_ret (results_row2_tmp rfl rfl rfl (hO2.rowOther _ _ (by omega)) hQ2.setRow Try.underlying70 rfl info_exact Try.underlying70 rfl info_exact) rfl ?_
      exact ⟨rfl, below_setRow (below_setRow hL (by omega) _) (by omega) _⟩
  · cases vb
    · go_wp2_with (first | (refine store_row rfl rfl rfl (show _ = Value.agg (vec 8 nul) from rfl) hO info_exact ?_) | (refine store_row rfl rfl rfl (show _ = Value.agg (vec 8 nul) from rfl) hQ2 info_exact ?_))
      refine bodyPost_ret (results_row2_tmp rfl rfl rfl (hO2.rowOther _ _ (by omega)) hQ2.setRow Try.underlying70 rfl info_exact Try.underlying70 rfl info_exact) rfl ?_
      exact ⟨rfl, below_setRow (below_setRow hL (by omega) _) (by omega) _⟩
    · obtain rfl : a' = a := ha'.symm
      obtain rfl : b' = b := hb'.symm
      have hu := Try.underlying70
      have iA : (Try.prog.info? 70).map (·.size) = some (lst 8 a').length := by rw [lst_length]; exact info_exact
      have iB : (Try.prog.info? 70).map (·.size) = some (lst 8 b').length := by rw [lst_length]; exact info_exact
      go_wp2_with fail
      refine wp_region_held_drew (S := fun w' => RowAt w' g 8 70 a' ∧ RowAt w' g' 8 70 b' ∧ (∃ f, RowAt w' (w.heap.size + 1 + 1) 8 70 f) ∧ (∃ f, RowAt w' (w.heap.size + 1 + 1 + 1) 8 70 f) ∧ Below w.heap.size w w') (by kernel_rfl) ⟨hA'.drew1, hB'.drew1, ⟨_, hO.drew1⟩, ⟨_, hQ.drew1⟩, hL.drew⟩ (fun hHeld => ?_)
      refine wpAnyH_take (i := 0) (oi := _) (v := .agg (vec 8 a')) rfl (by kernel_rfl) (by kernel_rfl) (by kernel_rfl) (fun _ _ _ h => h) (yieldsIf_load_mid (by rfl) _ _ rfl _ _ rfl _ _ (fun w h => h.1.range) hu rfl iA) hHeld ?_
      try simp only [Act.put, List.setIfInBounds_toArray, List.set_cons_zero, List.set_cons_succ]
      refine wpAnyH_take (i := 1) (oi := _) (v := .agg (vec 8 b')) rfl (by kernel_rfl) (by kernel_rfl) (by kernel_rfl) (fun _ _ _ h => h) (yieldsIf_load_mid (by rfl) _ _ rfl _ _ rfl _ _ (fun w h => h.2.1.range) hu rfl iB) hHeld ?_
      try simp only [Act.put, List.setIfInBounds_toArray, List.set_cons_zero, List.set_cons_succ]
      refine wpAnyH_ready (rs := [2]) (by kernel_rfl) (by simp) ?_
      obtain ⟨h1, h2, ⟨_, h3⟩, ⟨_, h4⟩, h5⟩ := hHeld
      refine AllReadyH.cons (o := _) rfl (fun K hK => ?_) AllReadyH.nil
      rw [if_pos (by rfl)]
      refine store_step rfl rfl rfl h3 info_exact ?_
      refine hK.out _ _ ⟨h1.rowOther _ _ (by omega), h2.rowOther _ _ (by omega), ⟨_, h3.setRow⟩, ⟨_, h4.rowOther _ _ (by omega)⟩, below_setRow h5 (by omega) _⟩ (fun hHeld => ?_)
      clear hK K
      try simp only [Act.put, List.setIfInBounds_toArray, List.set_cons_zero, List.set_cons_succ]
      have k3 := h3.setRow (f' := a')
      have k4 := h4.rowOther (w.heap.size + 1 + 1) (vec 8 a') (by omega)
      have k5 := below_setRow h5 (g := w.heap.size + 1 + 1) (by omega) (vec 8 a')
      refine wpAnyH_ready (rs := [3]) (by kernel_rfl) (by simp) ?_
      refine AllReadyH.cons (o := _) rfl (fun K hK => ?_) AllReadyH.nil
      rw [if_pos (by rfl)]
      refine store_step rfl rfl rfl k4 info_exact ?_
      obtain ⟨h1, h2, _, _, h5⟩ := hHeld
      refine hK.out _ _ ⟨h1.rowOther _ _ (by omega), h2.rowOther _ _ (by omega), ⟨_, k3.rowOther _ _ (by omega)⟩, ⟨_, k4.setRow⟩, below_setRow h5 (by omega) _⟩ (fun hHeld => ?_)
      clear hK K
      try simp only [Act.put, List.setIfInBounds_toArray, List.set_cons_zero, List.set_cons_succ]
      have m3 := k3.rowOther (w.heap.size + 1 + 1 + 1) (vec 8 b') (by omega)
      have m4 := k4.setRow (f' := b')
      have m5 := below_setRow k5 (g := w.heap.size + 1 + 1 + 1) (by omega) (vec 8 b')
      refine wpAnyH_ready (rs := [4]) (by kernel_rfl) (by simp) ?_
      refine AllReadyH.cons (o := _) rfl (fun K hK => ?_) AllReadyH.nil
      go_simp
      refine hK.out _ _ hHeld (fun hHeld => ?_)
      clear hK K
      try simp only [Act.put, List.setIfInBounds_toArray, List.set_cons_zero, List.set_cons_succ]
      refine wpAnyH_done (by kernel_rfl) ?_ _
      go_wp2_with fail
      refine bodyPost_ret (results_row2_tmp rfl rfl rfl m3 m4 Try.underlying70 rfl info_exact Try.underlying70 rfl info_exact) rfl ?_
      exact ⟨rfl, m5⟩
end Go.Proofs.Ytdbokcbbpegilaa
/- Contracts of impl's calculations with exact points, fifth part: differences and real points. -/
namespace Go.Proofs.Ytdbokcbbpegilaa
set_option maxRecDepth 20000
open Go.ChangeShapes Go.WideShapes Go.ChangeAt Go.RowKit
set_option linter.unusedVariables false
set_option linter.unusedSimpArgs false

theorem size_exact (a : Nat → Int) : (Try.prog.info? 70).map (·.size) = some (lst 8 a).length := by rw [lst_length]; exact info_exact
theorem size_cycE (a : Nat → Int) : (Try.prog.info? 41).map (·.size) = some (lst 8 a).length := by rw [lst_length]; exact info_cyc

end Go.Proofs.Ytdbokcbbpegilaa
