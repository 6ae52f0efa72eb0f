/-
  Contracts of impl's calculations with exact points, third part: products, turned and mirrored points, roots.
-/
import Derived.Test.YtjfljelpjgkmjaaCycB
import Derived.Deep.RegionHeld3
import Derived.Deep.DeepCutAuto
namespace Go.Proofs.Ytjfljelpjgkmjaa
set_option maxRecDepth 20000
open Go.ChangeShapes Go.WideShapes Go.ChangeAt Go.RowKit
set_option linter.unusedVariables false
set_option linter.unusedSimpArgs false

theorem turnPlus_any (a b : Nat) (ha : a ≤ 100) (hb : b ≤ 100) (w : World) :
    Calls Try.prog 88 #[.int .i64 a, .int .i64 b] w fun e w' => e = .returned (.int .i64 ((a + b) % 24 : Nat)) ∧ w = w' := by
  have C := fun w => within_any ((a : Int) + b) (by omega) (by omega) w
  have e : ((a : Int) + b) % 24 = (((a + b) % 24 : Nat) : Int) := by omega
  rw [e] at C
  clear e
  generalize (a + b) % 24 = r at *
  go_enter Try.func88, Try.ntmps88
  go_wp2_with fail
  refine (C _).mono ?_; rintro e w' ⟨rfl, rfl⟩
  go_wp2_with fail
  go_ret
  exact ⟨rfl, rfl⟩
theorem turnBack_any (a : Nat) (ha : a ≤ 23) (w : World) :
    Calls Try.prog 87 #[.int .i64 a, .int .i64 (-1)] w fun e w' => e = .returned (.int .i64 ((24 - a) % 24 : Nat)) ∧ w = w' := by
  have C := fun w => within_any (-(a : Int)) (by omega) (by omega) w
  have e : (-(a : Int)) % 24 = (((24 - a) % 24 : Nat) : Int) := by omega
  rw [e] at C
  clear e
  generalize (24 - a) % 24 = r at *
  have e1 : (a : Int) * (-1) = -(a : Int) := by omega
  have e2 : IntKind.i64.wrap (-(a : Int)) = -(a : Int) := by rw [IntKind.wrap_i64]; omega
  go_enter Try.func87, Try.ntmps87
  go_wp2_with fail
  refine (C _).mono ?_; rintro e w' ⟨rfl, rfl⟩
  go_wp2_with fail
  go_ret
  exact ⟨rfl, rfl⟩

theorem exactRoot_any (t : Nat) (ht : t ≤ 23) (w : World) :
    Calls Try.prog 67 #[.int .i64 t] w fun e w' => e = .returned (pt (trn one t)) ∧ Below w.heap.size w w' := by
  have hlt : (t : Int) < 24 := by omega
  have h0 : (0 : Int) ≤ (t : Int) := by omega
  have hb : ∀ j, j < 24 → -64000000000000 ≤ upd nul t 1 j ∧ upd nul t 1 j ≤ 64000000000000 := by
    intro j hj
    simp only [upd, nul]
    split <;> omega
  have P := fun w => point_any (upd nul t 1) hb w
  have e : pt (red (upd nul t 1)) = pt (trn one t) := pt_same (red_same (root_pow t ht))
  simp only [e] at P
  clear hb e
  unfold pt at P ⊢
  go_enter Try.func67, Try.ntmps67
  go_upto_region 1 with fail
  go_cut [2, 3] (fun s2 s3 wx => s2 = .pointer (some ⟨w.heap.size, 0, none⟩) ∧ s3 = .pointer (some ⟨w.heap.size + 1, 0, none⟩) ∧ RowAt wx w.heap.size 8 54 nul ∧ RowAt wx (w.heap.size + 1) 24 81 nul ∧ Below w.heap.size w wx)
  case first =>
    go_wp2_with fail
    go_meet
    exact ⟨rfl, rfl, (RowAt.newAt zero8 rfl).alloc _, RowAt.newAt zero24 (by simp), ((Below.refl _ _).alloc (Nat.le_refl _) _).alloc (by simp) _⟩
  case rest =>
    obtain ⟨rfl, rfl, hO, hP, hbel⟩ := hcut
    have cP := hP.cell (k := t) (by omega)
    have fP := hP.free t
    have HP := Lib.hid (hP.set (k := t) (by omega) 1)
    have HO := Lib.hid (hO.other ⟨w.heap.size + 1, t, none⟩ (.int .i64 1) (by simp; try omega))
    have HL := Lib.hid (hbel.setCell (p := ⟨w.heap.size + 1, t, none⟩) (by simp) (.int .i64 1))
    clear hO hP hbel
    go_wp2_with (refine load_row rfl rfl rfl HP.out Try.underlying81 rfl info_powers ?_)
    refine (P _).mono ?_; rintro e w2 ⟨rfl, hb2⟩
    have hO2 := (HO.out).below hb2
    have hL2 := below_next HL.out hb2
    have z2 := (HO.out).lt
    clear P
    go_wp2_with (refine store_row rfl rfl rfl rfl hO2 info_exact ?_)
    refine bodyPost_ret (results_row rfl rfl hO2.setRow Try.underlying54 rfl info_exact) rfl ?_
    exact ⟨rfl, below_setRow hL2 (by omega) _⟩

theorem times_any (a b : Nat → Int) (ha : InR a) (hb : InR b) (w : World) :
    Calls Try.prog 71 #[pt a, pt b] w fun e w' => e = .returned (pt (prd a b)) ∧ Below w.heap.size w w' := by
  have sa := vec_size 8 a
  have sb := vec_size 8 b
  have OB := outer_bound ha hb
  have P := fun w => point_any (outer a b 8) (fun j hj => by have := OB 8 (by omega) j hj; omega) w
  unfold pt
  go_enter Try.func71, Try.ntmps71
  go_upto_region 1 with fail
  go_cut [2, 3, 4, 5] (fun s2 s3 s4 s5 wx => s2 = .pointer (some ⟨w.heap.size, 0, none⟩) ∧ s3 = .pointer (some ⟨w.heap.size + 1, 0, none⟩) ∧ s4 = .pointer (some ⟨w.heap.size + 1 + 1, 0, none⟩) ∧ s5 = .pointer (some ⟨w.heap.size + 1 + 1 + 1, 0, none⟩) ∧ RowAt wx w.heap.size 8 54 a ∧ RowAt wx (w.heap.size + 1) 8 54 b ∧ RowAt wx (w.heap.size + 1 + 1) 8 54 nul ∧ RowAt wx (w.heap.size + 1 + 1 + 1) 24 81 nul ∧ Below w.heap.size w wx)
  case first =>
    go_wp2_with fail
    go_meet
    exact ⟨rfl, rfl, rfl, rfl, ((RowAt.newAt rfl (by simp)).alloc _).alloc _ |>.alloc _, ((RowAt.newAt rfl (by simp)).alloc _).alloc _, (RowAt.newAt zero8 (by simp)).alloc _, RowAt.newAt zero24 (by simp), ((((Below.refl _ _).alloc (Nat.le_refl _) _).alloc (by simp) _).alloc (by simp; omega) _).alloc (by simp; omega) _⟩
  case rest =>
  obtain ⟨rfl, rfl, rfl, rfl, hA0, hB0, hO0, hP0, hbel0⟩ := hcut
  go_wp2_with (refine load_row rfl rfl rfl hA0 Try.underlying54 rfl info_exact ?_)
  go_loopw [11] (fun i wr => ∃ k : Nat, k ≤ 8 ∧ i = .int .i64 k ∧ RowAt wr (w.heap.size + 1) 8 54 b ∧ RowAt wr (w.heap.size + 1 + 1) 8 54 nul ∧ RowAt wr (w.heap.size + 1 + 1 + 1) 24 81 (outer a b k) ∧ Below w.heap.size w wr) (fun i _ => 8 - (intOf i).toNat)
  case atStart => exact ⟨0, Nat.zero_le _, rfl, hB0, hO0, hP0, hbel0⟩
  case round =>
    obtain ⟨k, hk, rfl, hB, hO, hP, hbel⟩ := hrel
    by_cases hlt : k < 8
    · have ix := fun w => index_exact a hlt w
      have hlt' : (k : Int) < 8 := by omega
      have hk0 : (0 : Int) ≤ (k : Int) := by omega
      go_wp2_with (refine load_row rfl rfl rfl hB Try.underlying54 rfl info_exact ?_)
      obtain ⟨wo, rfl⟩ : ∃ wo : World, wo = wr := ⟨_, rfl⟩
      go_loopw [16] (fun i wr => ∃ m : Nat, m ≤ 8 ∧ i = .int .i64 m ∧ RowAt wr (w.heap.size + 1) 8 54 b ∧ RowAt wr (w.heap.size + 1 + 1) 8 54 nul ∧ RowAt wr (w.heap.size + 1 + 1 + 1) 24 81 (inner a b k (outer a b k) m) ∧ Below w.heap.size w wr) (fun i _ => 8 - (intOf i).toNat)
      case atStart => exact ⟨0, Nat.zero_le _, rfl, hB, hO, hP, hbel⟩
      case round =>
        obtain ⟨m, hm, rfl, hB2, hO2, hP2, hbel2⟩ := hrel
        clear hB hO hP hbel ix
        by_cases hlm : m < 8
        · have ix := fun w => index_exact b hlm w
          have hlm' : (m : Int) < 8 := by omega
          have hm0 : (0 : Int) ≤ (m : Int) := by omega
          have cP := hP2.cell (k := k + m) (by omega)
          have fP := hP2.free (k + m)
          have pb := prod_bound (ha k hlt) (hb m hlm)
          have qb := inner_bound ha hb hlt (OB k hk) m hm (k + m) (by omega)
          have tk : ((k : Int) + (m : Int)).toNat = k + m := by omega
          have t0 : (0 : Int) ≤ (k : Int) + (m : Int) := by omega
          have t1 : (k : Int) + (m : Int) < 24 := by omega
          have hP3 := hP2.set (k := k + m) (by omega) (inner a b k (outer a b k) m (k + m) + a k * b m)
          have HP : Hid (RowAt _ _ _ _ (inner a b k (outer a b k) (m + 1))) := Lib.hid hP3
          have HB := Lib.hid (hB2.other ⟨w.heap.size + 1 + 1 + 1, k + m, none⟩ (.int .i64 (inner a b k (outer a b k) m (k + m) + a k * b m)) (by simp; try omega))
          have HO := Lib.hid (hO2.other ⟨w.heap.size + 1 + 1 + 1, k + m, none⟩ (.int .i64 (inner a b k (outer a b k) m (k + m) + a k * b m)) (by simp; try omega))
          have HL := Lib.hid (hbel2.setCell (p := ⟨w.heap.size + 1 + 1 + 1, k + m, none⟩) (by simp; omega) (.int .i64 (inner a b k (outer a b k) m (k + m) + a k * b m)))
          have HOB := Lib.hid OB
          clear hP3 hB2 hO2 hP2 hbel2 OB
          generalize inner a b k (outer a b k) m (k + m) = x at *
          have w1 : IntKind.i64.wrap (a k * b m) = a k * b m := by rw [IntKind.wrap_i64]; omega
          have w2 : IntKind.i64.wrap (x + a k * b m) = x + a k * b m := by rw [IntKind.wrap_i64]; omega
          go_wp2_with fail
          go_roundw
          case rel => exact ⟨m + 1, by omega, by go_num, HB.out, HO.out, HP.out, HL.out⟩
          case measure => simp [intOf]; omega
        · obtain rfl : m = 8 := by omega
          have HB := Lib.hid hB2; have HO := Lib.hid hO2; have HL := Lib.hid hbel2; have HP := Lib.hid hP2
          clear hB2 hO2 hP2 hbel2
          go_wp2_with fail
          go_roundw
          case rel => exact ⟨k + 1, by omega, by go_num, HB.out, HO.out, HP.out, HL.out⟩
          case measure => simp [intOf]; omega
    · obtain rfl : k = 8 := by omega
      have HO := Lib.hid hO; have HL := Lib.hid hbel; have HP := Lib.hid hP
      clear hA0 hB0 hO0 hP0 hbel0 hB hO hP hbel OB
      go_wp2_with (refine load_row rfl rfl rfl HP.out Try.underlying81 rfl info_powers ?_)
      refine (P _).mono ?_; rintro e w2 ⟨rfl, hb2⟩
      have hO2 := (HO.out).below hb2
      have hL2 := below_next HL.out hb2
      have z2 := (HO.out).lt
      clear P
      go_wp2_with (refine store_row rfl rfl rfl rfl hO2 info_exact ?_)
      refine bodyPost_ret (results_row rfl rfl hO2.setRow Try.underlying54 rfl info_exact) rfl ?_
      exact ⟨rfl, below_setRow hL2 (by omega) _⟩

theorem turned_any (a : Nat → Int) (t : Nat) (ht : t ≤ 23) (ha : InR a) (w : World) :
    Calls Try.prog 72 #[pt a, .int .i64 t] w fun e w' => e = .returned (pt (trn a t)) ∧ Below w.heap.size w w' := by
  have sa := vec_size 8 a
  have TB := trn_bound (a := a) (B := 1000000) (by omega) (fun j hj => ha j hj) t
  have P : ∀ w, Calls Try.prog 85 #[.agg (vec 24 (tpow a t 8))] w fun e w' => e = .returned (pt (trn a t)) ∧ Below w.heap.size w w' := fun w => point_any (tpow a t 8) (fun j hj => by have := TB j; omega) w
  clear TB
  unfold pt
  go_enter Try.func72, Try.ntmps72
  go_upto_region 1 with fail
  go_cut [2, 4, 5] (fun s2 s4 s5 wx => s2 = .pointer (some ⟨w.heap.size, 0, none⟩) ∧ s4 = .pointer (some ⟨w.heap.size + 1, 0, none⟩) ∧ s5 = .pointer (some ⟨w.heap.size + 1 + 1, 0, none⟩) ∧ RowAt wx w.heap.size 8 54 a ∧ RowAt wx (w.heap.size + 1) 8 54 nul ∧ RowAt wx (w.heap.size + 1 + 1) 24 81 nul ∧ Below w.heap.size w wx)
  case first =>
    go_wp2_with fail
    go_meet
    exact ⟨rfl, rfl, rfl, ((RowAt.newAt rfl (by simp)).alloc _).alloc _, (RowAt.newAt zero8 (by simp)).alloc _, RowAt.newAt zero24 (by simp), (((Below.refl _ _).alloc (Nat.le_refl _) _).alloc (by simp) _).alloc (by simp; omega) _⟩
  case rest =>
  obtain ⟨rfl, rfl, rfl, hA0, hO0, hP0, hbel0⟩ := hcut
  go_wp2_with (refine load_row rfl rfl rfl hA0 Try.underlying54 rfl info_exact ?_)
  go_loopw [9] (fun i wr => ∃ k : Nat, k ≤ 8 ∧ i = .int .i64 k ∧ RowAt wr (w.heap.size + 1) 8 54 nul ∧ RowAt wr (w.heap.size + 1 + 1) 24 81 (tpow a t k) ∧ Below w.heap.size w wr) (fun i _ => 8 - (intOf i).toNat)
  case atStart => exact ⟨0, Nat.zero_le _, rfl, hO0, hP0.same (fun j _ => by simp [nul, tpow]), hbel0⟩
  case round =>
    obtain ⟨k, hk, rfl, hO, hP, hbel⟩ := hrel
    by_cases hlt : k < 8
    · have ix := fun w => index_exact a hlt w
      have hlt' : (k : Int) < 8 := by omega
      have hk0 : (0 : Int) ≤ (k : Int) := by omega
      have C := fun w => turnPlus_any k t (by omega) (by omega) w
      have hr : (k + t) % 24 < 24 := by omega
      have hP3 := (hP.set hr (a k)).same (tpow_step a t k ht hlt)
      have cP := hP.cell hr
      have fP := hP.free ((k + t) % 24)
      generalize tpow a t k ((k + t) % 24) = y at cP
      generalize (k + t) % 24 = r at *
      have hr' : (r : Int) < 24 := by omega
      have hr0 : (0 : Int) ≤ (r : Int) := by omega
      have HP := Lib.hid hP3
      have HO := Lib.hid (hO.other ⟨w.heap.size + 1 + 1, r, none⟩ (.int .i64 (a k)) (by simp; try omega))
      have HL := Lib.hid (hbel.setCell (p := ⟨w.heap.size + 1 + 1, r, none⟩) (by simp; omega) (.int .i64 (a k)))
      clear hP3 hO hP hbel hA0 hO0 hP0 hbel0
      go_wp2_with fail
      refine (C _).mono ?_; rintro e w' ⟨rfl, rfl⟩
      clear C
      go_wp2_with fail
      go_roundw
      case rel => exact ⟨k + 1, by omega, by go_num, HO.out, HP.out, HL.out⟩
      case measure => simp [intOf]; omega
    · obtain rfl : k = 8 := by omega
      have HO := Lib.hid hO; have HL := Lib.hid hbel; have HP := Lib.hid hP
      clear hA0 hO0 hP0 hbel0 hO hP hbel
      go_wp2_with (refine load_row rfl rfl rfl HP.out Try.underlying81 rfl info_powers ?_)
      refine (P _).mono ?_; rintro e w2 ⟨rfl, hb2⟩
      have hO2 := (HO.out).below hb2
      have hL2 := below_next HL.out hb2
      have z2 := (HO.out).lt
      clear P
      go_wp2_with (refine store_row rfl rfl rfl rfl hO2 info_exact ?_)
      refine bodyPost_ret (results_row rfl rfl hO2.setRow Try.underlying54 rfl info_exact) rfl ?_
      exact ⟨rfl, below_setRow hL2 (by omega) _⟩

theorem mirrored_any (a : Nat → Int) (ha : InR a) (w : World) :
    Calls Try.prog 70 #[pt a] w fun e w' => e = .returned (pt (mir a)) ∧ Below w.heap.size w w' := by
  have sa := vec_size 8 a
  have TB := mpow_bound (a := a) (B := 1000000) (by omega) (fun j hj => ha j hj)
  have P : ∀ w, Calls Try.prog 85 #[.agg (vec 24 (mpow a 8))] w fun e w' => e = .returned (pt (mir a)) ∧ Below w.heap.size w w' := fun w => by
    rw [← pt_same (mir_red a)]
    exact point_any (mpow a 8) (fun j hj => by have := TB j; omega) w
  clear TB
  unfold pt
  go_enter Try.func70, Try.ntmps70
  go_upto_region 1 with fail
  go_cut [1, 2, 3] (fun s2 s4 s5 wx => s2 = .pointer (some ⟨w.heap.size, 0, none⟩) ∧ s4 = .pointer (some ⟨w.heap.size + 1, 0, none⟩) ∧ s5 = .pointer (some ⟨w.heap.size + 1 + 1, 0, none⟩) ∧ RowAt wx w.heap.size 8 54 a ∧ RowAt wx (w.heap.size + 1) 8 54 nul ∧ RowAt wx (w.heap.size + 1 + 1) 24 81 nul ∧ Below w.heap.size w wx)
  case first =>
    go_wp2_with fail
    go_meet
    exact ⟨rfl, rfl, rfl, ((RowAt.newAt rfl (by simp)).alloc _).alloc _, (RowAt.newAt zero8 (by simp)).alloc _, RowAt.newAt zero24 (by simp), (((Below.refl _ _).alloc (Nat.le_refl _) _).alloc (by simp) _).alloc (by simp; omega) _⟩
  case rest =>
  obtain ⟨rfl, rfl, rfl, hA0, hO0, hP0, hbel0⟩ := hcut
  go_wp2_with (refine load_row rfl rfl rfl hA0 Try.underlying54 rfl info_exact ?_)
  go_loopw [7] (fun i wr => ∃ k : Nat, k ≤ 8 ∧ i = .int .i64 k ∧ RowAt wr (w.heap.size + 1) 8 54 nul ∧ RowAt wr (w.heap.size + 1 + 1) 24 81 (mpow a k) ∧ Below w.heap.size w wr) (fun i _ => 8 - (intOf i).toNat)
  case atStart => exact ⟨0, Nat.zero_le _, rfl, hO0, hP0.same (fun j _ => by simp [nul, mpow]), hbel0⟩
  case round =>
    obtain ⟨k, hk, rfl, hO, hP, hbel⟩ := hrel
    by_cases hlt : k < 8
    · have ix := fun w => index_exact a hlt w
      have hlt' : (k : Int) < 8 := by omega
      have hk0 : (0 : Int) ≤ (k : Int) := by omega
      have C := fun w => turnBack_any k (by omega) w
      have hr : (24 - k) % 24 < 24 := by omega
      have hP3 := (hP.set hr (a k)).same (mpow_step a k hlt)
      have cP := hP.cell hr
      have fP := hP.free ((24 - k) % 24)
      generalize mpow a k ((24 - k) % 24) = y at cP
      generalize (24 - k) % 24 = r at *
      have hr' : (r : Int) < 24 := by omega
      have hr0 : (0 : Int) ≤ (r : Int) := by omega
      have HP := Lib.hid hP3
      have HO := Lib.hid (hO.other ⟨w.heap.size + 1 + 1, r, none⟩ (.int .i64 (a k)) (by simp; try omega))
      have HL := Lib.hid (hbel.setCell (p := ⟨w.heap.size + 1 + 1, r, none⟩) (by simp; omega) (.int .i64 (a k)))
      clear hP3 hO hP hbel hA0 hO0 hP0 hbel0
      go_wp2_with fail
      refine (C _).mono ?_; rintro e w' ⟨rfl, rfl⟩
      clear C
      go_wp2_with fail
      go_roundw
      case rel => exact ⟨k + 1, by omega, by go_num, HO.out, HP.out, HL.out⟩
      case measure => simp [intOf]; omega
    · obtain rfl : k = 8 := by omega
      have HO := Lib.hid hO; have HL := Lib.hid hbel; have HP := Lib.hid hP
      clear hA0 hO0 hP0 hbel0 hO hP hbel
      go_wp2_with (refine load_row rfl rfl rfl HP.out Try.underlying81 rfl info_powers ?_)
      refine (P _).mono ?_; rintro e w2 ⟨rfl, hb2⟩
      have hO2 := (HO.out).below hb2
      have hL2 := below_next HL.out hb2
      have z2 := (HO.out).lt
      clear P
      go_wp2_with (refine store_row rfl rfl rfl rfl hO2 info_exact ?_)
      refine bodyPost_ret (results_row rfl rfl hO2.setRow Try.underlying54 rfl info_exact) rfl ?_
      exact ⟨rfl, below_setRow hL2 (by omega) _⟩
end Go.Proofs.Ytjfljelpjgkmjaa
