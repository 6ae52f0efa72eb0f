/-
  What spec's CycReal answers.
  Contracts of impl's calculations with exact points, second part: multiples, and powers that come down.
  Contracts of impl's calculations with exact points, third part: products, turned and mirrored points, roots.
  Contracts of impl's calculations with exact points, fourth part: pairs, differences, real points.
-/
import Derived.Test.YtbdhbkedeglagaaM02
import Derived.Deep.RegionHeld3
import Derived.Deep.DeepCutAuto
/- What spec's CycReal answers. -/
namespace Go.Proofs.Ytbdhbkedeglagaa
set_option maxRecDepth 20000
open Go.ChangeShapes Go.WideShapes Go.ChangeAt Go.RowKit
set_option linter.unusedVariables false
set_option linter.unusedSimpArgs false

end Go.Proofs.Ytbdhbkedeglagaa
/- Contracts of impl's calculations with exact points, second part: multiples, and powers that come down. -/
namespace Go.Proofs.Ytbdhbkedeglagaa
set_option maxRecDepth 20000
open Go.ChangeShapes Go.WideShapes Go.ChangeAt Go.RowKit
set_option linter.unusedVariables false
set_option linter.unusedSimpArgs false

/-- Each number times n. -/
def tms (a : Nat → Int) (n : Int) : Nat → Int := fun j => a j * n
theorem tms_scl (a : Nat → Int) (n : Int) : tms a n = scl n a := by funext j; exact Int.mul_comm _ _

/-- One power comes down, in two steps. -/
def down1 (p : Nat → Int) (m : Nat) : Nat → Int := upd p (m + 4) (p (m + 4) + p (m + 8))
theorem down_two (p : Nat → Int) (m : Nat) : upd (down1 p m) m (down1 p m m - down1 p m (m + 8)) = down p (m + 8) := by
  funext j
  simp only [upd, down1, down, show m + 8 - 8 = m by omega, show m + 8 - 4 = m + 4 by omega, show ¬ m = m + 4 by omega, show ¬ m + 8 = m + 4 by omega, if_false]
  by_cases h : j = m
  · subst h; simp
  · rw [if_neg h, if_neg h]
    by_cases h' : j = m + 4
    · subst h'; simp
    · rw [if_neg h', if_neg h']

theorem point_any (p : Nat → Int) (hp : ∀ j, j < 24 → -64000000000000 ≤ p j ∧ p j ≤ 64000000000000) (w : World) :
    Calls Try.prog 89 #[.agg (vec 24 p)] w fun e w' => e = .returned (pt (red p)) ∧ Below w.heap.size w w' := by
  have sa := vec_size 24 p
  have D := downs_bound 64000000000000 p hp
  have D' : ∀ i, i ≤ 16 → ∀ j, j < 24 → -4194304000000000000 ≤ downs i p j ∧ downs i p j ≤ 4194304000000000000 := by
    intro i hi j hj
    have h := D i hi j hj
    have h2 : (2 : Int) ^ i ≤ 2 ^ 16 := by exact_mod_cast Nat.pow_le_pow_right (by omega) hi
    have h3 : (2 : Int) ^ i * 64000000000000 ≤ 65536 * 64000000000000 := Int.mul_le_mul_of_nonneg_right (by simpa using h2) (by omega)
    omega
  clear D hp
  unfold pt
  go_enter Try.func89, Try.ntmps89
  go_wp2_with fail
  go_loopw [3] (fun i wr => ∃ k : Nat, k ≤ 16 ∧ i = .int .i64 (23 - (k : Int)) ∧ RowAt wr w.heap.size 24 116 (downs k p) ∧ RowAt wr (w.heap.size + 1) 8 74 nul ∧ Below w.heap.size w wr) (fun i _ => (intOf i).toNat)
  case atStart => exact ⟨0, Nat.zero_le _, rfl, (RowAt.newAt rfl rfl).alloc _, RowAt.newAt zero8 (by simp), ((Below.refl _ _).alloc (Nat.le_refl _) _).alloc (by simp) _⟩
  case round =>
    obtain ⟨k, hk, rfl, hA, hO, hbel⟩ := hrel
    by_cases hlt : k < 16
    · obtain ⟨m, hm⟩ : ∃ m : Nat, m + 8 = 23 - k := ⟨15 - k, by omega⟩
      have hm' : 23 - (k : Int) = (m : Int) + 8 := by omega
      have hdn : downs (k + 1) p = down (downs k p) (m + 8) := by rw [hm]; rfl
      have hB := D' k hk
      have hB1 := hB (m + 4) (by omega)
      have hB2 := hB (m + 8) (by omega)
      have hB3 := hB m (by omega)
      generalize downs k p = q at *
      rw [hm']
      have hge : (8 : Int) ≤ (m : Int) + 8 := by omega
      have hm0 : (m : Int) + 8 ≤ 23 := by omega
      have g40 : (0 : Int) ≤ (m : Int) + 4 := by omega
      have g41 : (m : Int) + 4 < 24 := by omega
      have g80 : (0 : Int) ≤ (m : Int) + 8 := by omega
      have g81 : (m : Int) + 8 < 24 := by omega
      have g00 : (0 : Int) ≤ (m : Int) := by omega
      have g01 : (m : Int) < 24 := by omega
      have t4 : ((m : Int) + 4).toNat = m + 4 := by omega
      have v4 : IntKind.i64.wrap ((m : Int) + 8 - 4) = ((m + 4 : Nat) : Int) := by rw [IntKind.wrap_i64]; omega
      have v0 : IntKind.i64.wrap ((m : Int) + 8 - 8) = (m : Int) := by rw [IntKind.wrap_i64]; omega
      have w4 : IntKind.i64.wrap ((m : Int) + 4) = ((m + 4 : Nat) : Int) := by rw [IntKind.wrap_i64]; omega
      have w0 : IntKind.i64.wrap (m : Int) = (m : Int) := by rw [IntKind.wrap_i64]; omega
      have t8 : ((m : Int) + 8).toNat = m + 8 := by omega
      have c4 := hA.cell (k := m + 4) (by omega)
      have c8 := hA.cell (k := m + 8) (by omega)
      have f4 := hA.free (m + 4)
      have hA1 : RowAt _ _ _ _ (down1 q m) := hA.set (k := m + 4) (by omega) (q (m + 4) + q (m + 8))
      have e8 : down1 q m (m + 8) = q (m + 8) := by simp [down1, upd]
      have e0 : down1 q m m = q m := by simp [down1, upd]
      have HA := Lib.hid (hA1.drew 1)
      have HO := Lib.hid ((hO.other ⟨w.heap.size, m + 4, none⟩ (.int .i64 (q (m + 4) + q (m + 8))) (by simp)).drew 1)
      have HL := Lib.hid ((hbel.setCell (p := ⟨w.heap.size, m + 4, none⟩) (Nat.le_refl _) (.int .i64 (q (m + 4) + q (m + 8)))).drew)
      have HD := Lib.hid D'
      have HE := Lib.hid e8; have HE0 := Lib.hid e0; have HN := Lib.hid hdn; have HM := Lib.hid hm
      clear hA hA1 hO hbel D' hB e8 e0 hdn hm hm'
      have wA : IntKind.i64.wrap (q (m + 4) + q (m + 8)) = q (m + 4) + q (m + 8) := by rw [IntKind.wrap_i64]; omega
      have wS : IntKind.i64.wrap (q m - q (m + 8)) = q m - q (m + 8) := by rw [IntKind.wrap_i64]; omega
      go_wp2_with fail
      go_still_tail 9, (by kernel_rfl)
      go_wp2_with fail
      have hA1 : RowAt ((wr.setCell ⟨w.heap.size, m + 4, none⟩ (.int .i64 (q (m + 4) + q (m + 8)))).drew) _ _ _ (down1 q m) := HA.out
      have hO1 : RowAt ((wr.setCell ⟨w.heap.size, m + 4, none⟩ (.int .i64 (q (m + 4) + q (m + 8)))).drew) _ _ _ _ := HO.out
      have hL1 := HL.out
      clear HA HO HL c4 c8 f4
      generalize (wr.setCell ⟨w.heap.size, m + 4, none⟩ (.int .i64 (q (m + 4) + q (m + 8)))).drew = w2 at *
      have d8 := hA1.cell (k := m + 8) (by omega)
      have d0 := hA1.cell (k := m) (by omega)
      have f0 := hA1.free m
      rw [HE.out] at d8
      rw [HE0.out] at d0
      have hA2 := hA1.set (k := m) (by omega) (down1 q m m - down1 q m (m + 8))
      rw [down_two, ← HN.out, HE.out, HE0.out] at hA2
      have HA := Lib.hid (hA2.drew 1)
      have HO := Lib.hid ((hO1.other ⟨w.heap.size, m, none⟩ (.int .i64 (q m - q (m + 8))) (by simp)).drew 1)
      have HL := Lib.hid ((hL1.setCell (p := ⟨w.heap.size, m, none⟩) (Nat.le_refl _) (.int .i64 (q m - q (m + 8)))).drew)
      clear hA1 hA2 hO1 hL1
      go_still_tail 9, (by kernel_rfl)
      go_wp2_with fail
      go_roundw
      case rel => exact ⟨k + 1, by omega, congrArg (Value.int .i64) (by have := HM.out; omega), HA.out, HO.out, HL.out⟩
      case measure => simp [intOf]; omega
    · obtain rfl : k = 16 := by omega
      have HA := Lib.hid (hA.same (f' := downs 16 p) (fun j _ => rfl)); have HO := Lib.hid hO; have HL := Lib.hid hbel
      clear hA hO hbel D'
      go_wp2_with fail
      obtain ⟨wx, rfl⟩ : ∃ wx : World, wx = wr := ⟨_, rfl⟩
      have z1 := HO.out.lt
      have z2 := HL.out.size
      go_loopw [5, 28] (fun _ i wr => ∃ k : Nat, k ≤ 8 ∧ i = .int .i64 k ∧ RowAt wr w.heap.size 24 116 (downs 16 p) ∧ RowAt wr (w.heap.size + 1) 8 74 nul ∧ RowAt wr wx.heap.size 8 74 (mix k (downs 16 p) nul) ∧ Below w.heap.size w wr) (fun _ i _ => 8 - (intOf i).toNat)
      case atStart => exact ⟨0, Nat.zero_le _, rfl, HA.out.alloc _, HO.out.alloc _, by rw [mix_zero]; exact RowAt.newAt zero8 rfl, HL.out.alloc z2 _⟩
      case round =>
        obtain ⟨k, hk, rfl, hA, hO, hE, hbel⟩ := hrel
        by_cases hlt : k < 8
        · have cA := hA.cell (k := k) (by omega)
          have fE := hE.free k
          have hlt' : (k : Int) < 8 := by omega
          have hlt2 : (k : Int) < 24 := by omega
          have hk0 : (0 : Int) ≤ (k : Int) := by omega
          have hE2 := hE.set hlt (downs 16 p k)
          have cE := hE.cell hlt
          rw [mix_step] at hE2
          have HE := Lib.hid hE2
          have HO2 := Lib.hid (hO.other ⟨wx.heap.size, k, none⟩ (.int .i64 (downs 16 p k)) (by simp; omega))
          have HA2 := Lib.hid (hA.other ⟨wx.heap.size, k, none⟩ (.int .i64 (downs 16 p k)) (by simp; omega))
          have HL2 := Lib.hid (hbel.setCell (p := ⟨wx.heap.size, k, none⟩) z2 (.int .i64 (downs 16 p k)))
          clear hA hO hE hE2 hbel HA HO HL
          generalize downs 16 p k = x at *
          go_wp2_with fail
          go_roundw
          case rel => exact ⟨k + 1, by omega, by go_num, HA2.out, HO2.out, HE.out, HL2.out⟩
          case measure => simp [intOf]; omega
        · obtain rfl : k = 8 := by omega
          have HE := Lib.hid hE; have HO2 := Lib.hid hO; have HL2 := Lib.hid hbel
          clear hA hO hE hbel HA HO HL
          go_wp2_with (first | (refine load_row rfl rfl rfl HE.out Try.underlying74 rfl info_exact ?_) | (refine store_row rfl rfl rfl rfl HO2.out info_exact ?_))
          refine bodyPost_ret (results_row rfl rfl HO2.out.setRow Try.underlying74 rfl info_exact) rfl ?_
          exact ⟨by rw [vec_mix, vec_same (downs_all p)], below_setRow HL2.out (by omega) _⟩
end Go.Proofs.Ytbdhbkedeglagaa
/- Contracts of impl's calculations with exact points, third part: products, turned and mirrored points, roots. -/
namespace Go.Proofs.Ytbdhbkedeglagaa
set_option maxRecDepth 20000
open Go.ChangeShapes Go.WideShapes Go.ChangeAt Go.RowKit
set_option linter.unusedVariables false
set_option linter.unusedSimpArgs false

theorem turnPlus_any (a b : Nat) (ha : a ≤ 100) (hb : b ≤ 100) (w : World) :
    Calls Try.prog 88 #[.int .i64 a, .int .i64 b] w fun e w' => e = .returned (.int .i64 ((a + b) % 24 : Nat)) ∧ w = w' := by
  have C := fun w => within_any ((a : Int) + b) (by omega) (by omega) w
  have e : ((a : Int) + b) % 24 = (((a + b) % 24 : Nat) : Int) := by omega
  rw [e] at C
  clear e
  generalize (a + b) % 24 = r at *
  go_enter Try.func88, Try.ntmps88
  go_wp2_with fail
  refine (C _).mono ?_; rintro e w' ⟨rfl, rfl⟩
  go_wp2_with fail
  go_ret
  exact ⟨rfl, rfl⟩
theorem turnBack_any (a : Nat) (ha : a ≤ 23) (w : World) :
    Calls Try.prog 71 #[.int .i64 a, .int .i64 (-1)] w fun e w' => e = .returned (.int .i64 ((24 - a) % 24 : Nat)) ∧ w = w' := by
  have C := fun w => within_any (-(a : Int)) (by omega) (by omega) w
  have e : (-(a : Int)) % 24 = (((24 - a) % 24 : Nat) : Int) := by omega
  rw [e] at C
  clear e
  generalize (24 - a) % 24 = r at *
  have e1 : (a : Int) * (-1) = -(a : Int) := by omega
  have e2 : IntKind.i64.wrap (-(a : Int)) = -(a : Int) := by rw [IntKind.wrap_i64]; omega
  go_enter Try.func71, Try.ntmps71
  go_wp2_with fail
  refine (C _).mono ?_; rintro e w' ⟨rfl, rfl⟩
  go_wp2_with fail
  go_ret
  exact ⟨rfl, rfl⟩

theorem turned_any (a : Nat → Int) (t : Nat) (ht : t ≤ 23) (ha : InR a) (w : World) :
    Calls Try.prog 70 #[pt a, .int .i64 t] w fun e w' => e = .returned (pt (trn a t)) ∧ Below w.heap.size w w' := by
  have sa := vec_size 8 a
  have TB := trn_bound (a := a) (B := 1000000) (by omega) (fun j hj => ha j hj) t
  have P : ∀ w, Calls Try.prog 89 #[.agg (vec 24 (tpow a t 8))] w fun e w' => e = .returned (pt (trn a t)) ∧ Below w.heap.size w w' := fun w => point_any (tpow a t 8) (fun j hj => by have := TB j; omega) w
  clear TB
  unfold pt
  go_enter Try.func70, Try.ntmps70
  go_upto_region 1 with fail
  go_cut [2, 4, 5] (fun s2 s4 s5 wx => s2 = .pointer (some ⟨w.heap.size, 0, none⟩) ∧ s4 = .pointer (some ⟨w.heap.size + 1, 0, none⟩) ∧ s5 = .pointer (some ⟨w.heap.size + 1 + 1, 0, none⟩) ∧ RowAt wx w.heap.size 8 74 a ∧ RowAt wx (w.heap.size + 1) 8 74 nul ∧ RowAt wx (w.heap.size + 1 + 1) 24 116 nul ∧ Below w.heap.size w wx)
  case first =>
    go_wp2_with fail
    go_meet
    exact ⟨rfl, rfl, rfl, ((RowAt.newAt rfl (by simp)).alloc _).alloc _, (RowAt.newAt zero8 (by simp)).alloc _, RowAt.newAt zero24 (by simp), (((Below.refl _ _).alloc (Nat.le_refl _) _).alloc (by simp) _).alloc (by simp; omega) _⟩
  case rest =>
  obtain ⟨rfl, rfl, rfl, hA0, hO0, hP0, hbel0⟩ := hcut
  go_wp2_with (refine load_row rfl rfl rfl hA0 Try.underlying74 rfl info_exact ?_)
  go_loopw [9] (fun i wr => ∃ k : Nat, k ≤ 8 ∧ i = .int .i64 k ∧ RowAt wr (w.heap.size + 1) 8 74 nul ∧ RowAt wr (w.heap.size + 1 + 1) 24 116 (tpow a t k) ∧ Below w.heap.size w wr) (fun i _ => 8 - (intOf i).toNat)
  case atStart => exact ⟨0, Nat.zero_le _, rfl, hO0, hP0.same (fun j _ => by simp [nul, tpow]), hbel0⟩
  case round =>
    obtain ⟨k, hk, rfl, hO, hP, hbel⟩ := hrel
    by_cases hlt : k < 8
    · have ix := fun w => index_exact a hlt w
      have hlt' : (k : Int) < 8 := by omega
      have hk0 : (0 : Int) ≤ (k : Int) := by omega
      have C := fun w => turnPlus_any k t (by omega) (by omega) w
      have hr : (k + t) % 24 < 24 := by omega
      have hP3 := (hP.set hr (a k)).same (tpow_step a t k ht hlt)
      have cP := hP.cell hr
      have fP := hP.free ((k + t) % 24)
      generalize tpow a t k ((k + t) % 24) = y at cP
      generalize (k + t) % 24 = r at *
      have hr' : (r : Int) < 24 := by omega
      have hr0 : (0 : Int) ≤ (r : Int) := by omega
      have HP := Lib.hid hP3
      have HO := Lib.hid (hO.other ⟨w.heap.size + 1 + 1, r, none⟩ (.int .i64 (a k)) (by simp; try omega))
      have HL := Lib.hid (hbel.setCell (p := ⟨w.heap.size + 1 + 1, r, none⟩) (by simp; omega) (.int .i64 (a k)))
      clear hP3 hO hP hbel hA0 hO0 hP0 hbel0
      go_wp2_with fail
      refine (C _).mono ?_; rintro e w' ⟨rfl, rfl⟩
      clear C
      go_wp2_with fail
      go_roundw
      case rel => exact ⟨k + 1, by omega, by go_num, HO.out, HP.out, HL.out⟩
      case measure => simp [intOf]; omega
    · obtain rfl : k = 8 := by omega
      have HO := Lib.hid hO; have HL := Lib.hid hbel; have HP := Lib.hid hP
      clear hA0 hO0 hP0 hbel0 hO hP hbel
      go_wp2_with (refine load_row rfl rfl rfl HP.out Try.underlying116 rfl info_powers ?_)
      refine (P _).mono ?_; rintro e w2 ⟨rfl, hb2⟩
      have hO2 := (HO.out).below hb2
      have hL2 := below_next HL.out hb2
      have z2 := (HO.out).lt
      clear P
      go_wp2_with (refine store_row rfl rfl rfl rfl hO2 info_exact ?_)
      refine bodyPost_ret (results_row rfl rfl hO2.setRow Try.underlying74 rfl info_exact) rfl ?_
      exact ⟨rfl, below_setRow hL2 (by omega) _⟩

end Go.Proofs.Ytbdhbkedeglagaa
/- Contracts of impl's calculations with exact points, fourth part: pairs, differences, real points. -/
namespace Go.Proofs.Ytbdhbkedeglagaa
set_option maxRecDepth 20000
open Go.ChangeShapes Go.WideShapes Go.ChangeAt Go.RowKit
set_option linter.unusedVariables false
set_option linter.unusedSimpArgs false

theorem exactOf_yes (a : Nat → Int) (h : okc a = true) (w : World) :
    Calls Try.prog 68 #[pt a] w fun e w' => e = .returned (.tuple #[pt a, .bool true]) ∧ Below w.heap.size w w' := by
  rw [← ans_yes h]; exact exactOf_any a w
theorem exactOf_no (a : Nat → Int) (h : okc a = false) (w : World) :
    Calls Try.prog 68 #[pt a] w fun e w' => e = .returned (.tuple #[pt nul, .bool false]) ∧ Below w.heap.size w w' := by
  rw [← ans_bad h]; exact exactOf_any a w
theorem told_yes (a : Nat → Int) (h : okc a = true) (w : World) :
    Calls Try.prog 48 #[pt a] w fun e w' => e = .returned (.tuple #[pt a, .bool true]) ∧ Below w.heap.size w w' := by
  rw [← ans_yes h]; exact told_any a w
theorem told_no (a : Nat → Int) (h : okc a = false) (w : World) :
    Calls Try.prog 48 #[pt a] w fun e w' => e = .returned (.tuple #[pt nul, .bool false]) ∧ Below w.heap.size w w' := by
  rw [← ans_bad h]; exact told_any a w

/-- What exactOf's two answers are. -/
theorem exactOf_two (a : Nat → Int) (w : World) :
    Calls Try.prog 68 #[pt a] w fun e w' => e = .returned (.tuple #[pt (if okc a then a else nul), .bool (okc a)]) ∧ Below w.heap.size w w' := by
  cases h : okc a
  · exact exactOf_no a h w
  · exact exactOf_yes a h w
theorem told_two (a : Nat → Int) (w : World) :
    Calls Try.prog 48 #[pt a] w fun e w' => e = .returned (.tuple #[pt (if okc a then a else nul), .bool (okc a)]) ∧ Below w.heap.size w w' := by
  cases h : okc a
  · exact told_no a h w
  · exact told_yes a h w

end Go.Proofs.Ytbdhbkedeglagaa
