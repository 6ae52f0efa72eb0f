/-
  Out of the text CycC: what the draws of polygons need.
  Out of the text CycD: what the draws of polygons need.
  Out of the text CycE: what the draws of polygons need.
  Out of the text CycS: what the draws of polygons need.
-/
import Derived.Test.YtdpakhggpgdgbaaGreatM01
import Derived.Deep.RegionHeld3
import Derived.Deep.DeepCutAuto
/- Out of the text CycC: what the draws of polygons need. -/
namespace Go.Proofs.YtdpakhggpgdgbaaGreat
set_option maxRecDepth 20000
open Go.ChangeShapes Go.WideShapes Go.ChangeAt Go.RowKit
set_option linter.unusedVariables false
set_option linter.unusedSimpArgs false
theorem turnPlus_any (a b : Nat) (ha : a ≤ 100) (hb : b ≤ 100) (w : World) :
    Calls Tryz.prog 122 #[.int .i64 a, .int .i64 b] w fun e w' => e = .returned (.int .i64 ((a + b) % 24 : Nat)) ∧ w = w' := by
  have C := fun w => within_any ((a : Int) + b) (by omega) (by omega) w
  have e : ((a : Int) + b) % 24 = (((a + b) % 24 : Nat) : Int) := by omega
  rw [e] at C
  clear e
  generalize (a + b) % 24 = r at *
  go_enter Tryz.func122, Tryz.ntmps122
  go_wp2_with fail
  refine (C _).mono ?_; rintro e w' ⟨rfl, rfl⟩
  go_wp2_with fail
  go_ret
  exact ⟨rfl, rfl⟩
theorem turnBack_any (a : Nat) (ha : a ≤ 23) (w : World) :
    Calls Tryz.prog 118 #[.int .i64 a, .int .i64 (-1)] w fun e w' => e = .returned (.int .i64 ((24 - a) % 24 : Nat)) ∧ w = w' := by
  have C := fun w => within_any (-(a : Int)) (by omega) (by omega) w
  have e : (-(a : Int)) % 24 = (((24 - a) % 24 : Nat) : Int) := by omega
  rw [e] at C
  clear e
  generalize (24 - a) % 24 = r at *
  have e1 : (a : Int) * (-1) = -(a : Int) := by omega
  have e2 : IntKind.i64.wrap (-(a : Int)) = -(a : Int) := by rw [IntKind.wrap_i64]; omega
  go_enter Tryz.func118, Tryz.ntmps118
  go_wp2_with fail
  refine (C _).mono ?_; rintro e w' ⟨rfl, rfl⟩
  go_wp2_with fail
  go_ret
  exact ⟨rfl, rfl⟩

theorem times_any (a b : Nat → Int) (ha : InR a) (hb : InR b) (w : World) :
    Calls Tryz.prog 109 #[pt a, pt b] w fun e w' => e = .returned (pt (prd a b)) ∧ Below w.heap.size w w' := by
  have sa := vec_size 8 a
  have sb := vec_size 8 b
  have OB := outer_bound ha hb
  have P := fun w => point_any (outer a b 8) (fun j hj => by have := OB 8 (by omega) j hj; omega) w
  unfold pt
  go_enter Tryz.func109, Tryz.ntmps109
  go_upto_region 1 with fail
  go_cut [2, 3, 4, 5] (fun s2 s3 s4 s5 wx => s2 = .pointer (some ⟨w.heap.size, 0, none⟩) ∧ s3 = .pointer (some ⟨w.heap.size + 1, 0, none⟩) ∧ s4 = .pointer (some ⟨w.heap.size + 1 + 1, 0, none⟩) ∧ s5 = .pointer (some ⟨w.heap.size + 1 + 1 + 1, 0, none⟩) ∧ RowAt wx w.heap.size 8 82 a ∧ RowAt wx (w.heap.size + 1) 8 82 b ∧ RowAt wx (w.heap.size + 1 + 1) 8 82 nul ∧ RowAt wx (w.heap.size + 1 + 1 + 1) 24 141 nul ∧ Below w.heap.size w wx)
  case first =>
    go_wp2_with fail
    go_meet
    exact ⟨rfl, rfl, rfl, rfl, ((RowAt.newAt rfl (by simp)).alloc _).alloc _ |>.alloc _, ((RowAt.newAt rfl (by simp)).alloc _).alloc _, (RowAt.newAt zero8 (by simp)).alloc _, RowAt.newAt zero24 (by simp), ((((Below.refl _ _).alloc (Nat.le_refl _) _).alloc (by simp) _).alloc (by simp; omega) _).alloc (by simp; omega) _⟩
  case rest =>
  obtain ⟨rfl, rfl, rfl, rfl, hA0, hB0, hO0, hP0, hbel0⟩ := hcut
  go_wp2_with (refine load_row rfl rfl rfl hA0 Tryz.underlying82 rfl info_exact ?_)
  go_loopw [11] (fun i wr => ∃ k : Nat, k ≤ 8 ∧ i = .int .i64 k ∧ RowAt wr (w.heap.size + 1) 8 82 b ∧ RowAt wr (w.heap.size + 1 + 1) 8 82 nul ∧ RowAt wr (w.heap.size + 1 + 1 + 1) 24 141 (outer a b k) ∧ Below w.heap.size w wr) (fun i _ => 8 - (intOf i).toNat)
  case atStart => exact ⟨0, Nat.zero_le _, rfl, hB0, hO0, hP0, hbel0⟩
  case round =>
    obtain ⟨k, hk, rfl, hB, hO, hP, hbel⟩ := hrel
    by_cases hlt : k < 8
    · have ix := fun w => index_exact a hlt w
      have hlt' : (k : Int) < 8 := by omega
      have hk0 : (0 : Int) ≤ (k : Int) := by omega
      go_wp2_with (refine load_row rfl rfl rfl hB Tryz.underlying82 rfl info_exact ?_)
      obtain ⟨wo, rfl⟩ : ∃ wo : World, wo = wr := ⟨_, rfl⟩
      go_loopw [16] (fun i wr => ∃ m : Nat, m ≤ 8 ∧ i = .int .i64 m ∧ RowAt wr (w.heap.size + 1) 8 82 b ∧ RowAt wr (w.heap.size + 1 + 1) 8 82 nul ∧ RowAt wr (w.heap.size + 1 + 1 + 1) 24 141 (inner a b k (outer a b k) m) ∧ Below w.heap.size w wr) (fun i _ => 8 - (intOf i).toNat)
      case atStart => exact ⟨0, Nat.zero_le _, rfl, hB, hO, hP, hbel⟩
      case round =>
        obtain ⟨m, hm, rfl, hB2, hO2, hP2, hbel2⟩ := hrel
        clear hB hO hP hbel ix
        by_cases hlm : m < 8
        · have ix := fun w => index_exact b hlm w
          have hlm' : (m : Int) < 8 := by omega
          have hm0 : (0 : Int) ≤ (m : Int) := by omega
          have cP := hP2.cell (k := k + m) (by omega)
          have fP := hP2.free (k + m)
          have pb := prod_bound (ha k hlt) (hb m hlm)
          have qb := inner_bound ha hb hlt (OB k hk) m hm (k + m) (by omega)
          have tk : ((k : Int) + (m : Int)).toNat = k + m := by omega
          have t0 : (0 : Int) ≤ (k : Int) + (m : Int) := by omega
          have t1 : (k : Int) + (m : Int) < 24 := by omega
          have hP3 := hP2.set (k := k + m) (by omega) (inner a b k (outer a b k) m (k + m) + a k * b m)
          have HP : Hid (RowAt _ _ _ _ (inner a b k (outer a b k) (m + 1))) := Lib.hid hP3
          have HB := Lib.hid (hB2.other ⟨w.heap.size + 1 + 1 + 1, k + m, none⟩ (.int .i64 (inner a b k (outer a b k) m (k + m) + a k * b m)) (by simp; try omega))
          have HO := Lib.hid (hO2.other ⟨w.heap.size + 1 + 1 + 1, k + m, none⟩ (.int .i64 (inner a b k (outer a b k) m (k + m) + a k * b m)) (by simp; try omega))
          have HL := Lib.hid (hbel2.setCell (p := ⟨w.heap.size + 1 + 1 + 1, k + m, none⟩) (by simp; omega) (.int .i64 (inner a b k (outer a b k) m (k + m) + a k * b m)))
          have HOB := Lib.hid OB
          clear hP3 hB2 hO2 hP2 hbel2 OB
          generalize inner a b k (outer a b k) m (k + m) = x at *
          have w1 : IntKind.i64.wrap (a k * b m) = a k * b m := by rw [IntKind.wrap_i64]; omega
          have w2 : IntKind.i64.wrap (x + a k * b m) = x + a k * b m := by rw [IntKind.wrap_i64]; omega
          go_wp2_with fail
          go_roundw
          case rel => exact ⟨m + 1, by omega, by go_num, HB.out, HO.out, HP.out, HL.out⟩
          case measure => simp [intOf]; omega
        · obtain rfl : m = 8 := by omega
          have HB := Lib.hid hB2; have HO := Lib.hid hO2; have HL := Lib.hid hbel2; have HP := Lib.hid hP2
          clear hB2 hO2 hP2 hbel2
          go_wp2_with fail
          go_roundw
          case rel => exact ⟨k + 1, by omega, by go_num, HB.out, HO.out, HP.out, HL.out⟩
          case measure => simp [intOf]; omega
    · obtain rfl : k = 8 := by omega
      have HO := Lib.hid hO; have HL := Lib.hid hbel; have HP := Lib.hid hP
      clear hA0 hB0 hO0 hP0 hbel0 hB hO hP hbel OB
      go_wp2_with (refine load_row rfl rfl rfl HP.out Tryz.underlying141 rfl info_powers ?_)
      refine (P _).mono ?_; rintro e w2 ⟨rfl, hb2⟩
      have hO2 := (HO.out).below hb2
      have hL2 := below_next HL.out hb2
      have z2 := (HO.out).lt
      clear P
      go_wp2_with (refine store_row rfl rfl rfl rfl hO2 info_exact ?_)
      refine bodyPost_ret (results_row rfl rfl hO2.setRow Tryz.underlying82 rfl info_exact) rfl ?_
      exact ⟨rfl, below_setRow hL2 (by omega) _⟩

theorem mirrored_any (a : Nat → Int) (ha : InR a) (w : World) :
    Calls Tryz.prog 108 #[pt a] w fun e w' => e = .returned (pt (mir a)) ∧ Below w.heap.size w w' := by
  have sa := vec_size 8 a
  have TB := mpow_bound (a := a) (B := 1000000) (by omega) (fun j hj => ha j hj)
  have P : ∀ w, Calls Tryz.prog 119 #[.agg (vec 24 (mpow a 8))] w fun e w' => e = .returned (pt (mir a)) ∧ Below w.heap.size w w' := fun w => by
    rw [← pt_same (mir_red a)]
    exact point_any (mpow a 8) (fun j hj => by have := TB j; omega) w
  clear TB
  unfold pt
  go_enter Tryz.func108, Tryz.ntmps108
  go_upto_region 1 with fail
  go_cut [1, 2, 3] (fun s2 s4 s5 wx => s2 = .pointer (some ⟨w.heap.size, 0, none⟩) ∧ s4 = .pointer (some ⟨w.heap.size + 1, 0, none⟩) ∧ s5 = .pointer (some ⟨w.heap.size + 1 + 1, 0, none⟩) ∧ RowAt wx w.heap.size 8 82 a ∧ RowAt wx (w.heap.size + 1) 8 82 nul ∧ RowAt wx (w.heap.size + 1 + 1) 24 141 nul ∧ Below w.heap.size w wx)
  case first =>
    go_wp2_with fail
    go_meet
    exact ⟨rfl, rfl, rfl, ((RowAt.newAt rfl (by simp)).alloc _).alloc _, (RowAt.newAt zero8 (by simp)).alloc _, RowAt.newAt zero24 (by simp), (((Below.refl _ _).alloc (Nat.le_refl _) _).alloc (by simp) _).alloc (by simp; omega) _⟩
  case rest =>
  obtain ⟨rfl, rfl, rfl, hA0, hO0, hP0, hbel0⟩ := hcut
  go_wp2_with (refine load_row rfl rfl rfl hA0 Tryz.underlying82 rfl info_exact ?_)
  go_loopw [7] (fun i wr => ∃ k : Nat, k ≤ 8 ∧ i = .int .i64 k ∧ RowAt wr (w.heap.size + 1) 8 82 nul ∧ RowAt wr (w.heap.size + 1 + 1) 24 141 (mpow a k) ∧ Below w.heap.size w wr) (fun i _ => 8 - (intOf i).toNat)
  case atStart => exact ⟨0, Nat.zero_le _, rfl, hO0, hP0.same (fun j _ => by simp [nul, mpow]), hbel0⟩
  case round =>
    obtain ⟨k, hk, rfl, hO, hP, hbel⟩ := hrel
    by_cases hlt : k < 8
    · have ix := fun w => index_exact a hlt w
      have hlt' : (k : Int) < 8 := by omega
      have hk0 : (0 : Int) ≤ (k : Int) := by omega
      have C := fun w => turnBack_any k (by omega) w
      have hr : (24 - k) % 24 < 24 := by omega
      have hP3 := (hP.set hr (a k)).same (mpow_step a k hlt)
      have cP := hP.cell hr
      have fP := hP.free ((24 - k) % 24)
      generalize mpow a k ((24 - k) % 24) = y at cP
      generalize (24 - k) % 24 = r at *
      have hr' : (r : Int) < 24 := by omega
      have hr0 : (0 : Int) ≤ (r : Int) := by omega
      have HP := Lib.hid hP3
      have HO := Lib.hid (hO.other ⟨w.heap.size + 1 + 1, r, none⟩ (.int .i64 (a k)) (by simp; try omega))
      have HL := Lib.hid (hbel.setCell (p := ⟨w.heap.size + 1 + 1, r, none⟩) (by simp; omega) (.int .i64 (a k)))
      clear hP3 hO hP hbel hA0 hO0 hP0 hbel0
      go_wp2_with fail
      refine (C _).mono ?_; rintro e w' ⟨rfl, rfl⟩
      clear C
      go_wp2_with fail
      go_roundw
      case rel => exact ⟨k + 1, by omega, by go_num, HO.out, HP.out, HL.out⟩
      case measure => simp [intOf]; omega
    · obtain rfl : k = 8 := by omega
      have HO := Lib.hid hO; have HL := Lib.hid hbel; have HP := Lib.hid hP
      clear hA0 hO0 hP0 hbel0 hO hP hbel
      go_wp2_with (refine load_row rfl rfl rfl HP.out Tryz.underlying141 rfl info_powers ?_)
      refine (P _).mono ?_; rintro e w2 ⟨rfl, hb2⟩
      have hO2 := (HO.out).below hb2
      have hL2 := below_next HL.out hb2
      have z2 := (HO.out).lt
      clear P
      go_wp2_with (refine store_row rfl rfl rfl rfl hO2 info_exact ?_)
      refine bodyPost_ret (results_row rfl rfl hO2.setRow Tryz.underlying82 rfl info_exact) rfl ?_
      exact ⟨rfl, below_setRow hL2 (by omega) _⟩
end Go.Proofs.YtdpakhggpgdgbaaGreat
/- Out of the text CycD: what the draws of polygons need. -/
namespace Go.Proofs.YtdpakhggpgdgbaaGreat
set_option maxRecDepth 20000
open Go.ChangeShapes Go.WideShapes Go.ChangeAt Go.RowKit
set_option linter.unusedVariables false
set_option linter.unusedSimpArgs false
theorem exactOf_yes (a : Nat → Int) (h : okc a = true) (w : World) :
    Calls Tryz.prog 78 #[pt a] w fun e w' => e = .returned (.tuple #[pt a, .bool true]) ∧ Below w.heap.size w w' := by
  rw [← ans_yes h]; exact exactOf_any a w
theorem exactOf_no (a : Nat → Int) (h : okc a = false) (w : World) :
    Calls Tryz.prog 78 #[pt a] w fun e w' => e = .returned (.tuple #[pt nul, .bool false]) ∧ Below w.heap.size w w' := by
  rw [← ans_bad h]; exact exactOf_any a w
/-- What exactOf's two answers are. -/
theorem exactOf_two (a : Nat → Int) (w : World) :
    Calls Tryz.prog 78 #[pt a] w fun e w' => e = .returned (.tuple #[pt (if okc a then a else nul), .bool (okc a)]) ∧ Below w.heap.size w w' := by
  cases h : okc a
  · exact exactOf_no a h w
  · exact exactOf_yes a h w
end Go.Proofs.YtdpakhggpgdgbaaGreat
/- Out of the text CycE: what the draws of polygons need. -/
namespace Go.Proofs.YtdpakhggpgdgbaaGreat
set_option maxRecDepth 20000
open Go.ChangeShapes Go.WideShapes Go.ChangeAt Go.RowKit
set_option linter.unusedVariables false
set_option linter.unusedSimpArgs false
theorem size_exact (a : Nat → Int) : (Tryz.prog.info? 82).map (·.size) = some (lst 8 a).length := by rw [lst_length]; exact info_exact
theorem less_any (a b : Nat → Int) (ha : InR a) (hb : InR b) (w : World) :
    Calls Tryz.prog 81 #[pt a, pt b] w fun e w' => e = .returned (pt (sub a b)) ∧ Below w.heap.size w w' := by
  have sa := vec_size 8 a
  have sb := vec_size 8 b
  have CS := fun w => scaled_any b (-1) (fun j hj => by have := hb j hj; simp only [tms]; omega) w
  have CP := fun w => plus_any a (scl (-1) b) (fun j hj => by have := ha j hj; omega) (fun j hj => by have := hb j hj; simp only [scl]; omega) w
  have es : pt (add a (scl (-1) b)) = pt (sub a b) := pt_same (fun j _ => by simp only [add, sub, scl]; omega)
  rw [es] at CP
  generalize scl (-1) b = b' at *
  clear es
  unfold pt at *
  go_enter Tryz.func81, Tryz.ntmps81
  go_upto_region 1 with fail
  show Code.wp _ _ _ _ (box2 w a b 82 82)
  obtain ⟨hA, hB, hO, hL⟩ := box2_facts w a b 82 82
  generalize box2 w a b 82 82 = W at *
  refine wp_region_held_drew (S := fun w' => RowAt w' w.heap.size 8 82 a ∧ RowAt w' (w.heap.size + 1) 8 82 b ∧ (∃ f, RowAt w' (w.heap.size + 1 + 1) 8 82 f) ∧ Below w.heap.size w w') (by kernel_rfl) ⟨hA.drew1, hB.drew1, ⟨_, hO.drew1⟩, hL.drew⟩ (fun hHeld => ?_)
  clear hA hB hO hL
  refine wpAnyH_take (i := 0) (oi := _) (v := .agg (vec 8 a)) rfl (by kernel_rfl) (by kernel_rfl) (by kernel_rfl) (fun _ _ _ h => h) (yieldsIf_load_mid (by rfl) _ _ rfl _ _ rfl _ _ (fun w h => h.1.range) Tryz.underlying82 rfl (size_exact a)) hHeld ?_
  try simp only [Act.put, List.setIfInBounds_toArray, List.set_cons_zero, List.set_cons_succ]
  refine wpAnyH_take (i := 1) (oi := _) (v := .agg (vec 8 b)) rfl (by kernel_rfl) (by kernel_rfl) (by kernel_rfl) (fun _ _ _ h => h) (yieldsIf_load_mid (by rfl) _ _ rfl _ _ rfl _ _ (fun w h => h.2.1.range) Tryz.underlying82 rfl (size_exact b)) hHeld ?_
  try simp only [Act.put, List.setIfInBounds_toArray, List.set_cons_zero, List.set_cons_succ]
  refine wpAnyH_ready (rs := [2]) (by kernel_rfl) (by simp) ?_
  refine AllReadyH.cons (o := _) rfl (fun K hK => ?_) AllReadyH.nil
  go_simp
  refine (CS _).mono ?_; rintro e w2 ⟨rfl, hb2⟩
  go_wp2_with fail
  obtain ⟨h1, h2, ⟨_, h3⟩, h4⟩ := hHeld
  refine hK.out _ _ ⟨h1.below hb2, h2.below hb2, ⟨_, h3.below hb2⟩, below_next h4 hb2⟩ (fun hHeld => ?_)
  clear hK K h1 h2 h3 h4 hb2
  try simp only [Act.put, List.setIfInBounds_toArray, List.set_cons_zero, List.set_cons_succ]
  refine wpAnyH_ready (rs := [3]) (by kernel_rfl) (by simp) ?_
  refine AllReadyH.cons (o := _) rfl (fun K hK => ?_) AllReadyH.nil
  go_simp
  refine (CP _).mono ?_; rintro e w3 ⟨rfl, hb2⟩
  go_wp2_with fail
  obtain ⟨h1, h2, ⟨_, h3⟩, h4⟩ := hHeld
  have k3 := h3.below hb2
  have k4 := below_next h4 hb2
  refine hK.out _ _ ⟨h1.below hb2, h2.below hb2, ⟨_, k3⟩, k4⟩ (fun hHeld => ?_)
  clear hK K h1 h2 h3 h4 hb2
  try simp only [Act.put, List.setIfInBounds_toArray, List.set_cons_zero, List.set_cons_succ]
  refine wpAnyH_ready (rs := [4]) (by kernel_rfl) (by simp) ?_
  refine AllReadyH.cons (o := _) rfl (fun K hK => ?_) AllReadyH.nil
  rw [if_pos (by rfl)]
  refine store_step rfl rfl rfl k3 info_exact ?_
  obtain ⟨h1, h2, _, _⟩ := hHeld
  have m3 := k3.setRow (f' := sub a b)
  have m4 := below_setRow k4 (g := w.heap.size + 1 + 1) (by omega) (vec 8 (sub a b))
  refine hK.out _ _ ⟨h1.rowOther _ _ (by omega), h2.rowOther _ _ (by omega), ⟨_, m3⟩, m4⟩ (fun hHeld => ?_)
  clear hK K
  try simp only [Act.put, List.setIfInBounds_toArray, List.set_cons_zero, List.set_cons_succ]
  refine wpAnyH_done (by kernel_rfl) ?_ _
  go_wp2_with fail
  refine bodyPost_ret (results_row rfl rfl m3 Tryz.underlying82 rfl info_exact) rfl ?_
  exact ⟨rfl, m4⟩

end Go.Proofs.YtdpakhggpgdgbaaGreat
/- Out of the text CycS: what the draws of polygons need. -/
namespace Go.Proofs.YtdpakhggpgdgbaaGreat
set_option maxRecDepth 20000
open Go.ChangeShapes Go.WideShapes Go.ChangeAt Go.RowKit
set_option linter.unusedVariables false
set_option linter.unusedSimpArgs false
theorem specValid_any (a : Nat → Int) (w : World) :
    Calls Tryz.prog 96 #[pt a] w fun e w' => e = .returned (.bool (okc a)) ∧ Below w.heap.size w w' := by
  have sa := vec_size 8 a
  unfold pt
  go_enter Tryz.func96, Tryz.ntmps96
  go_upto_region 1 with fail
  show Code.wp _ _ _ _ (box0 w a 40)
  obtain ⟨hA, hL⟩ := box0_facts w a 40
  generalize box0 w a 40 = W at *
  go_wp2_with fail
  go_loopw [3] (fun i wr => ∃ k : Nat, k ≤ 8 ∧ i = .int .i64 k ∧ (∀ j, j < k → -1000000 ≤ a j ∧ a j ≤ 1000000) ∧ RowAt wr w.heap.size 8 40 a ∧ Below w.heap.size w wr) (fun i _ => 8 - (intOf i).toNat)
  case atStart => exact ⟨0, Nat.zero_le _, rfl, fun j hj => absurd hj (by omega), hA, hL⟩
  case round =>
    clear hA hL
    obtain ⟨k, hk, rfl, hin, hA, hL⟩ := hrel
    by_cases hlt : k < 8
    · have hlt' : (k : Int) < 8 := by omega
      have hk0 : (0 : Int) ≤ (k : Int) := by omega
      have cA := hA.cell hlt
      have HA := Lib.hid hA
      have HL := Lib.hid hL
      have HI := Lib.hid hin
      clear hA hL hin
      by_cases hc : -1000000 ≤ a k ∧ a k ≤ 1000000
      · have G := fun w => in_yes (a k) (-1000000) 1000000 hc.1 hc.2 w
        go_wp2_with fail
        refine (G _).mono ?_; rintro e w' ⟨rfl, rfl⟩
        clear G
        go_wp2_with fail
        go_roundw
        case rel => exact ⟨k + 1, by omega, by go_num, upto_succ HI.out hc, HA.out, HL.out⟩
        case measure => simp [intOf]; omega
      · have G := fun w => in_no (a k) (-1000000) 1000000 (by omega) w
        go_wp2_with fail
        refine (G _).mono ?_; rintro e w' ⟨rfl, rfl⟩
        clear G
        go_wp2_with fail
        go_ret
        exact ⟨ret_bool (okc_not hlt hc).symm, HL.out⟩
    · obtain rfl : k = 8 := by omega
      have HL := Lib.hid hL; have HI := Lib.hid hin
      clear hA hL hin
      go_wp2_with fail
      go_ret
      exact ⟨ret_bool (inR_okc HI.out).symm, HL.out⟩

theorem specDone_any (a : Nat → Int) (w : World) :
    Calls Tryz.prog 98 #[pt a] w fun e w' => e = .returned (ans true a) ∧ Below w.heap.size w w' := by
  have sa := vec_size 8 a
  have V := fun w => specValid_any a w
  cases hv : okc a
  · rw [ans_bad hv]
    rw [hv] at V
    unfold pt at *
    go_enter Tryz.func98, Tryz.ntmps98
    go_upto_region 1 with fail
    show Code.wp _ _ _ _ (box1 w a 40 40)
    obtain ⟨hA, hO, hL⟩ := box1_facts w a 40 40
    generalize box1 w a 40 40 = W at *
    go_wp2_with (refine load_row rfl rfl rfl hA Tryz.underlying40 rfl info_cyc ?_)
    refine (V _).mono ?_; rintro e w2 ⟨rfl, hb2⟩
    have hO3 := hO.below hb2
    have hL3 := below_next hL hb2
    clear hA hO hL hb2 V
    go_wp2_with (refine store_row rfl rfl rfl (show _ = Value.agg (vec 8 nul) from rfl) hO3 info_cyc ?_)
    refine bodyPost_ret (results_row_tmp rfl rfl hO3.setRow Tryz.underlying40 rfl info_cyc) rfl ?_
    exact ⟨rfl, below_setRow hL3 (by omega) _⟩
  · rw [ans_yes hv]
    rw [hv] at V
    unfold pt at *
    go_enter Tryz.func98, Tryz.ntmps98
    go_upto_region 1 with fail
    show Code.wp _ _ _ _ (box1 w a 40 40)
    obtain ⟨hA, hO, hL⟩ := box1_facts w a 40 40
    generalize box1 w a 40 40 = W at *
    go_wp2_with (refine load_row rfl rfl rfl hA Tryz.underlying40 rfl info_cyc ?_)
    refine (V _).mono ?_; rintro e w2 ⟨rfl, hb2⟩
    have hA3 := hA.below hb2
    have hO3 := hO.below hb2
    have hL3 := below_next hL hb2
    clear hA hO hL hb2 V
    go_wp2_with (first | (refine load_row rfl rfl rfl hA3 Tryz.underlying40 rfl info_cyc ?_) | (refine store_row rfl rfl rfl rfl hO3 info_cyc ?_))
    refine bodyPost_ret (results_row_tmp rfl rfl hO3.setRow Tryz.underlying40 rfl info_cyc) rfl ?_
    exact ⟨rfl, below_setRow hL3 (by omega) _⟩

/-- The first k numbers one place on. -/
def shf (a : Nat → Int) (k : Nat) : Nat → Int := fun j => if j = 0 then 0 else if j ≤ k then a (j - 1) else 0
theorem shf_zero (a : Nat → Int) (j : Nat) : nul j = shf a 0 j := by
  simp only [nul, shf]
  by_cases h : j = 0
  · rw [if_pos h]
  · rw [if_neg h, if_neg (by omega)]
theorem shf_step (a : Nat → Int) (k j : Nat) : upd (shf a k) (k + 1) (a k) j = shf a (k + 1) j := by
  simp only [upd, shf]
  by_cases h1 : j = k + 1
  · subst h1; simp
  · rw [if_neg h1]
    by_cases h2 : j = 0
    · rw [if_pos h2, if_pos h2]
    · rw [if_neg h2, if_neg h2]
      by_cases h3 : j ≤ k
      · rw [if_pos h3, if_pos (by omega)]
      · rw [if_neg h3, if_neg (by omega)]
theorem shf_stp (a : Nat → Int) : ∀ j, j < 8 → upd (upd (shf a 7) 4 (a 3 + a 7)) 0 (-a 7) j = stp a j := by
  intro j hj
  simp only [upd, stp, shf]
  by_cases h1 : j = 0
  · rw [if_pos h1, if_pos h1]
  · rw [if_neg h1, if_neg h1, if_neg h1]
    by_cases h2 : j = 4
    · rw [if_pos h2, if_pos h2]
    · rw [if_neg h2, if_neg h2, if_pos (by omega)]

set_option maxHeartbeats 800000 in
theorem specStep_any (a : Nat → Int) (ha : ∀ j, j < 8 → -4000000000000000000 ≤ a j ∧ a j ≤ 4000000000000000000) (w : World) :
    Calls Tryz.prog 82 #[pt a] w fun e w' => e = .returned (pt (stp a)) ∧ Below w.heap.size w w' := by
  have sa := vec_size 8 a
  unfold pt at *
  go_enter Tryz.func82, Tryz.ntmps82
  go_upto_region 2 with fail
  show Code.wp _ _ _ _ ((box1 w a 40 40).alloc (.cells (vec 8 nul) 40))
  obtain ⟨hA, hO, hL⟩ := box1_facts w a 40 40
  have zE := hO.lt
  have hsz : (box1 w a 40 40).heap.size = w.heap.size + 1 + 1 := by simp [box1]
  have hA := hA.alloc (.cells (vec 8 nul) 40)
  have hO := hO.alloc (.cells (vec 8 nul) 40)
  have hL := hL.alloc (by omega) (.cells (vec 8 nul) 40)
  have hE : RowAt ((box1 w a 40 40).alloc (.cells (vec 8 nul) 40)) (w.heap.size + 1 + 1) 8 40 nul := RowAt.newAt rfl hsz
  clear zE hsz
  generalize (box1 w a 40 40).alloc (.cells (vec 8 nul) 40) = W at *
  go_wp2_with fail
  go_loopw [4] (fun i wr => ∃ k : Nat, k ≤ 7 ∧ i = .int .i64 (k + 1) ∧ RowAt wr w.heap.size 8 40 a ∧ RowAt wr (w.heap.size + 1) 8 40 nul ∧ RowAt wr (w.heap.size + 1 + 1) 8 40 (shf a k) ∧ Below w.heap.size w wr) (fun i _ => 8 - (intOf i).toNat)
  case atStart => exact ⟨0, Nat.zero_le _, rfl, hA, hO, hE.same (fun j _ => shf_zero a j), hL⟩
  case round =>
    clear hA hO hE hL
    obtain ⟨k, hk, rfl, hA, hO, hE, hL⟩ := hrel
    by_cases hlt : k < 7
    · have hlt' : (k : Int) + 1 < 8 := by omega
      have hk0 : (0 : Int) ≤ (k : Int) := by omega
      have hk8 : (k : Int) < 8 := by omega
      have hk1 : (0 : Int) ≤ (k : Int) + 1 := by omega
      have t1 : ((k : Int) + 1).toNat = k + 1 := by omega
      have v0 : IntKind.i64.wrap ((k : Int) + 1 - 1) = (k : Int) := by rw [IntKind.wrap_i64]; omega
      have v1 : IntKind.i64.wrap (k : Int) = (k : Int) := by rw [IntKind.wrap_i64]; omega
      have cA := hA.cell (k := k) (by omega)
      have cE := hE.cell (k := k + 1) (by omega)
      have fE := hE.free (k + 1)
      have hE3 := (hE.set (k := k + 1) (by omega) (a k)).same (fun j _ => shf_step a k j)
      have HE := Lib.hid hE3
      have HA := Lib.hid (hA.other ⟨w.heap.size + 1 + 1, k + 1, none⟩ (.int .i64 (a k)) (by simp; try omega))
      have HO := Lib.hid (hO.other ⟨w.heap.size + 1 + 1, k + 1, none⟩ (.int .i64 (a k)) (by simp; try omega))
      have HL := Lib.hid (hL.setCell (p := ⟨w.heap.size + 1 + 1, k + 1, none⟩) (by simp; omega) (.int .i64 (a k)))
      clear hA hO hE hL hE3
      generalize shf a k (k + 1) = y at cE
      go_wp2_with fail
      go_roundw
      case rel => exact ⟨k + 1, by omega, by go_num, HA.out, HO.out, HE.out, HL.out⟩
      case measure => simp [intOf]; omega
    · obtain rfl : k = 7 := by omega
      have b3 := ha 3 (by omega)
      have b7 := ha 7 (by omega)
      have cA := hA.cell (k := 7) (by omega)
      have c4 : _ = some (Value.int .i64 (a 3)) := hE.cell (k := 4) (by omega)
      have f4 := hE.free 4
      have hE4 := hE.set (k := 4) (by omega) (a 3 + a 7)
      have c0 : _ = some (Value.int .i64 0) := hE4.cell (k := 0) (by omega)
      have f0 := hE4.free 0
      have hE5 := (hE4.set (k := 0) (by omega) (-a 7)).same (shf_stp a)
      have hO5 := (hO.other ⟨w.heap.size + 1 + 1, 4, none⟩ (.int .i64 (a 3 + a 7)) (by simp)).other ⟨w.heap.size + 1 + 1, 0, none⟩ (.int .i64 (-a 7)) (by simp)
      have hA4 := hA.other ⟨w.heap.size + 1 + 1, 4, none⟩ (.int .i64 (a 3 + a 7)) (by simp; try omega)
      have cA4 := hA4.cell (k := 7) (by omega)
      have hL5 := (hL.setCell (p := ⟨w.heap.size + 1 + 1, 4, none⟩) (by simp; omega) (.int .i64 (a 3 + a 7))).setCell (p := ⟨w.heap.size + 1 + 1, 0, none⟩) (by simp; omega) (.int .i64 (-a 7))
      have HE := Lib.hid hE5
      have HO := Lib.hid hO5
      have HL := Lib.hid hL5
      clear hA hO hE hL hE4 hE5 hO5 hA4 hL5 ha
      generalize a 3 = x3 at *
      generalize a 7 = x7 at *
      go_upto_region 8 with fail
      go_wp2_with (first | (refine load_row (ty := 40) rfl rfl rfl HE.out Tryz.underlying40 rfl info_cyc ?_) | (refine store_row (ty := 40) rfl rfl rfl rfl HO.out info_cyc ?_))
      refine bodyPost_ret (results_row rfl rfl HO.out.setRow Tryz.underlying40 rfl info_cyc) rfl ?_
      exact ⟨rfl, below_setRow HL.out (by omega) _⟩
end Go.Proofs.YtdpakhggpgdgbaaGreat
