/-
  Contracts of impl's calculations with exact points, third part: products, turned and mirrored points, roots.
-/
import Derived.Test.YtmbhbocfnpklpaaCycB
import Derived.Deep.RegionHeld3
import Derived.Deep.DeepCutAuto
namespace Go.Proofs.Ytmbhbocfnpklpaa
set_option maxRecDepth 20000
open Go.ChangeShapes Go.WideShapes Go.ChangeAt Go.RowKit
set_option linter.unusedVariables false
set_option linter.unusedSimpArgs false

theorem turnPlus_any (a b : Nat) (ha : a ≤ 100) (hb : b ≤ 100) (w : World) :
    Calls Try.prog 87 #[.int .i64 a, .int .i64 b] w fun e w' => e = .returned (.int .i64 ((a + b) % 24 : Nat)) ∧ w = w' := by
  have C := fun w => within_any ((a : Int) + b) (by omega) (by omega) w
  have e : ((a : Int) + b) % 24 = (((a + b) % 24 : Nat) : Int) := by omega
  rw [e] at C
  clear e
  generalize (a + b) % 24 = r at *
  go_enter Try.func87, Try.ntmps87
  go_wp2_with fail
  refine (C _).mono ?_; rintro e w' ⟨rfl, rfl⟩
  go_wp2_with fail
  go_ret
  exact ⟨rfl, rfl⟩
theorem exactRoot_any (t : Nat) (ht : t ≤ 23) (w : World) :
    Calls Try.prog 52 #[.int .i64 t] w fun e w' => e = .returned (pt (trn one t)) ∧ Below w.heap.size w w' := by
  have hlt : (t : Int) < 24 := by omega
  have h0 : (0 : Int) ≤ (t : Int) := by omega
  have hb : ∀ j, j < 24 → -64000000000000 ≤ upd nul t 1 j ∧ upd nul t 1 j ≤ 64000000000000 := by
    intro j hj
    simp only [upd, nul]
    split <;> omega
  have P := fun w => point_any (upd nul t 1) hb w
  have e : pt (red (upd nul t 1)) = pt (trn one t) := pt_same (red_same (root_pow t ht))
  simp only [e] at P
  clear hb e
  unfold pt at P ⊢
  go_enter Try.func52, Try.ntmps52
  go_upto_region 1 with fail
  go_cut [2, 3] (fun s2 s3 wx => s2 = .pointer (some ⟨w.heap.size, 0, none⟩) ∧ s3 = .pointer (some ⟨w.heap.size + 1, 0, none⟩) ∧ RowAt wx w.heap.size 8 68 nul ∧ RowAt wx (w.heap.size + 1) 24 93 nul ∧ Below w.heap.size w wx)
  case first =>
    go_wp2_with fail
    go_meet
    exact ⟨rfl, rfl, (RowAt.newAt zero8 rfl).alloc _, RowAt.newAt zero24 (by simp), ((Below.refl _ _).alloc (Nat.le_refl _) _).alloc (by simp) _⟩
  case rest =>
    obtain ⟨rfl, rfl, hO, hP, hbel⟩ := hcut
    have cP := hP.cell (k := t) (by omega)
    have fP := hP.free t
    have HP := Lib.hid (hP.set (k := t) (by omega) 1)
    have HO := Lib.hid (hO.other ⟨w.heap.size + 1, t, none⟩ (.int .i64 1) (by simp; try omega))
    have HL := Lib.hid (hbel.setCell (p := ⟨w.heap.size + 1, t, none⟩) (by simp) (.int .i64 1))
    clear hO hP hbel
    go_wp2_with (refine load_row rfl rfl rfl HP.out Try.underlying93 rfl info_powers ?_)
    refine (P _).mono ?_; rintro e w2 ⟨rfl, hb2⟩
    have hO2 := (HO.out).below hb2
    have hL2 := below_next HL.out hb2
    have z2 := (HO.out).lt
    clear P
    go_wp2_with (refine store_row rfl rfl rfl rfl hO2 info_exact ?_)
    refine bodyPost_ret (results_row rfl rfl hO2.setRow Try.underlying68 rfl info_exact) rfl ?_
    exact ⟨rfl, below_setRow hL2 (by omega) _⟩

theorem turned_any (a : Nat → Int) (t : Nat) (ht : t ≤ 23) (ha : InR a) (w : World) :
    Calls Try.prog 77 #[pt a, .int .i64 t] w fun e w' => e = .returned (pt (trn a t)) ∧ Below w.heap.size w w' := by
  have sa := vec_size 8 a
  have TB := trn_bound (a := a) (B := 1000000) (by omega) (fun j hj => ha j hj) t
  have P : ∀ w, Calls Try.prog 71 #[.agg (vec 24 (tpow a t 8))] w fun e w' => e = .returned (pt (trn a t)) ∧ Below w.heap.size w w' := fun w => point_any (tpow a t 8) (fun j hj => by have := TB j; omega) w
  clear TB
  unfold pt
  go_enter Try.func77, Try.ntmps77
  go_upto_region 1 with fail
  go_cut [2, 4, 5] (fun s2 s4 s5 wx => s2 = .pointer (some ⟨w.heap.size, 0, none⟩) ∧ s4 = .pointer (some ⟨w.heap.size + 1, 0, none⟩) ∧ s5 = .pointer (some ⟨w.heap.size + 1 + 1, 0, none⟩) ∧ RowAt wx w.heap.size 8 68 a ∧ RowAt wx (w.heap.size + 1) 8 68 nul ∧ RowAt wx (w.heap.size + 1 + 1) 24 93 nul ∧ Below w.heap.size w wx)
  case first =>
    go_wp2_with fail
    go_meet
    exact ⟨rfl, rfl, rfl, ((RowAt.newAt rfl (by simp)).alloc _).alloc _, (RowAt.newAt zero8 (by simp)).alloc _, RowAt.newAt zero24 (by simp), (((Below.refl _ _).alloc (Nat.le_refl _) _).alloc (by simp) _).alloc (by simp; omega) _⟩
  case rest =>
  obtain ⟨rfl, rfl, rfl, hA0, hO0, hP0, hbel0⟩ := hcut
  go_wp2_with (refine load_row rfl rfl rfl hA0 Try.underlying68 rfl info_exact ?_)
  go_loopw [9] (fun i wr => ∃ k : Nat, k ≤ 8 ∧ i = .int .i64 k ∧ RowAt wr (w.heap.size + 1) 8 68 nul ∧ RowAt wr (w.heap.size + 1 + 1) 24 93 (tpow a t k) ∧ Below w.heap.size w wr) (fun i _ => 8 - (intOf i).toNat)
  case atStart => exact ⟨0, Nat.zero_le _, rfl, hO0, hP0.same (fun j _ => by simp [nul, tpow]), hbel0⟩
  case round =>
    obtain ⟨k, hk, rfl, hO, hP, hbel⟩ := hrel
    by_cases hlt : k < 8
    · have ix := fun w => index_exact a hlt w
      have hlt' : (k : Int) < 8 := by omega
      have hk0 : (0 : Int) ≤ (k : Int) := by omega
      have C := fun w => turnPlus_any k t (by omega) (by omega) w
      have hr : (k + t) % 24 < 24 := by omega
      have hP3 := (hP.set hr (a k)).same (tpow_step a t k ht hlt)
      have cP := hP.cell hr
      have fP := hP.free ((k + t) % 24)
      generalize tpow a t k ((k + t) % 24) = y at cP
      generalize (k + t) % 24 = r at *
      have hr' : (r : Int) < 24 := by omega
      have hr0 : (0 : Int) ≤ (r : Int) := by omega
      have HP := Lib.hid hP3
      have HO := Lib.hid (hO.other ⟨w.heap.size + 1 + 1, r, none⟩ (.int .i64 (a k)) (by simp; try omega))
      have HL := Lib.hid (hbel.setCell (p := ⟨w.heap.size + 1 + 1, r, none⟩) (by simp; omega) (.int .i64 (a k)))
      clear hP3 hO hP hbel hA0 hO0 hP0 hbel0
      go_wp2_with fail
      refine (C _).mono ?_; rintro e w' ⟨rfl, rfl⟩
      clear C
      go_wp2_with fail
      go_roundw
      case rel => exact ⟨k + 1, by omega, by go_num, HO.out, HP.out, HL.out⟩
      case measure => simp [intOf]; omega
    · obtain rfl : k = 8 := by omega
      have HO := Lib.hid hO; have HL := Lib.hid hbel; have HP := Lib.hid hP
      clear hA0 hO0 hP0 hbel0 hO hP hbel
      go_wp2_with (refine load_row rfl rfl rfl HP.out Try.underlying93 rfl info_powers ?_)
      refine (P _).mono ?_; rintro e w2 ⟨rfl, hb2⟩
      have hO2 := (HO.out).below hb2
      have hL2 := below_next HL.out hb2
      have z2 := (HO.out).lt
      clear P
      go_wp2_with (refine store_row rfl rfl rfl rfl hO2 info_exact ?_)
      refine bodyPost_ret (results_row rfl rfl hO2.setRow Try.underlying68 rfl info_exact) rfl ?_
      exact ⟨rfl, below_setRow hL2 (by omega) _⟩

end Go.Proofs.Ytmbhbocfnpklpaa
