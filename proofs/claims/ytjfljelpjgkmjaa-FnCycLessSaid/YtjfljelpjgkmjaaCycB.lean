/-
  Contracts of impl's calculations with exact points, second part: multiples, and powers that come down.
-/
import Derived.Test.YtjfljelpjgkmjaaCycA
namespace Go.Proofs.Ytjfljelpjgkmjaa
set_option maxRecDepth 20000
open Go.ChangeShapes Go.WideShapes Go.ChangeAt Go.RowKit
set_option linter.unusedVariables false
set_option linter.unusedSimpArgs false

/-- Each number times n. -/
def tms (a : Nat → Int) (n : Int) : Nat → Int := fun j => a j * n
theorem tms_scl (a : Nat → Int) (n : Int) : tms a n = scl n a := by funext j; exact Int.mul_comm _ _

theorem scaled_any (a : Nat → Int) (n : Int) (hp : ∀ j, j < 8 → -4611686018427387904 ≤ tms a n j ∧ tms a n j ≤ 4611686018427387904) (w : World) :
    Calls Try.prog 61 #[pt a, .int .i64 n] w fun e w' => e = .returned (pt (scl n a)) ∧ Below w.heap.size w w' := by
  rw [← tms_scl]
  have sa := vec_size 8 a
  unfold pt
  go_enter Try.func61, Try.ntmps61
  go_wp2_with fail
  go_loopw [5, 6] (fun _ i wr => ∃ k : Nat, k ≤ 8 ∧ i = .int .i64 k ∧ RowAt wr w.heap.size 8 54 (mix k (tms a n) a) ∧ RowAt wr (w.heap.size + 1) 8 54 nul ∧ Below w.heap.size w wr) (fun _ i _ => 8 - (intOf i).toNat)
  case atStart => exact ⟨0, Nat.zero_le _, rfl, by rw [mix_zero]; exact (RowAt.newAt rfl rfl).alloc _, RowAt.newAt zero8 (by simp), ((Below.refl _ _).alloc (Nat.le_refl _) _).alloc (by simp) _⟩
  case round =>
    obtain ⟨k, hk, rfl, hA, hO, hbel⟩ := hrel
    by_cases hlt : k < 8
    · have cA := hA.cell hlt
      have fA := hA.free k
      rw [mix_at] at cA
      have hlt' : (k : Int) < 8 := by omega
      have hk0 : (0 : Int) ≤ (k : Int) := by omega
      have b1 : -4611686018427387904 ≤ a k * n ∧ a k * n ≤ 4611686018427387904 := hp k hlt
      have hA2 := hA.set hlt (tms a n k)
      rw [mix_step] at hA2
      have HA := Lib.hid hA2
      have HO := Lib.hid (hO.other ⟨w.heap.size, k, none⟩ (.int .i64 (a k * n)) (by simp))
      have HL := Lib.hid ((hbel.setCell (p := ⟨w.heap.size, k, none⟩) (Nat.le_refl _) (.int .i64 (a k * n))))
      clear hA hA2 hO hbel hp
      go_wp2_with fail
      go_roundw
      case rel => exact ⟨k + 1, by omega, by go_num, HA.out, HO.out, HL.out⟩
      case measure => simp [intOf]; omega
    · obtain rfl : k = 8 := by omega
      have HA := Lib.hid hA; have HO := Lib.hid hO; have HL := Lib.hid hbel
      clear hA hO hbel hp
      go_wp2_with (first | (refine load_row rfl rfl rfl HA.out Try.underlying54 rfl info_exact ?_) | (refine store_row rfl rfl rfl rfl HO.out info_exact ?_))
      refine bodyPost_ret (results_row rfl rfl HO.out.setRow Try.underlying54 rfl info_exact) rfl ?_
      exact ⟨by rw [vec_mix], below_setRow HL.out (by omega) _⟩

/-- One power comes down, in two steps. -/
def down1 (p : Nat → Int) (m : Nat) : Nat → Int := upd p (m + 4) (p (m + 4) + p (m + 8))
theorem down_two (p : Nat → Int) (m : Nat) : upd (down1 p m) m (down1 p m m - down1 p m (m + 8)) = down p (m + 8) := by
  funext j
  simp only [upd, down1, down, show m + 8 - 8 = m by omega, show m + 8 - 4 = m + 4 by omega, show ¬ m = m + 4 by omega, show ¬ m + 8 = m + 4 by omega, if_false]
  by_cases h : j = m
  · subst h; simp
  · rw [if_neg h, if_neg h]
    by_cases h' : j = m + 4
    · subst h'; simp
    · rw [if_neg h', if_neg h']

theorem point_any (p : Nat → Int) (hp : ∀ j, j < 24 → -64000000000000 ≤ p j ∧ p j ≤ 64000000000000) (w : World) :
    Calls Try.prog 85 #[.agg (vec 24 p)] w fun e w' => e = .returned (pt (red p)) ∧ Below w.heap.size w w' := by
  have sa := vec_size 24 p
  have D := downs_bound 64000000000000 p hp
  have D' : ∀ i, i ≤ 16 → ∀ j, j < 24 → -4194304000000000000 ≤ downs i p j ∧ downs i p j ≤ 4194304000000000000 := by
    intro i hi j hj
    have h := D i hi j hj
    have h2 : (2 : Int) ^ i ≤ 2 ^ 16 := by exact_mod_cast Nat.pow_le_pow_right (by omega) hi
    have h3 : (2 : Int) ^ i * 64000000000000 ≤ 65536 * 64000000000000 := Int.mul_le_mul_of_nonneg_right (by simpa using h2) (by omega)
    omega
  clear D hp
  unfold pt
  go_enter Try.func85, Try.ntmps85
  go_wp2_with fail
  go_loopw [3] (fun i wr => ∃ k : Nat, k ≤ 16 ∧ i = .int .i64 (23 - (k : Int)) ∧ RowAt wr w.heap.size 24 81 (downs k p) ∧ RowAt wr (w.heap.size + 1) 8 54 nul ∧ Below w.heap.size w wr) (fun i _ => (intOf i).toNat)
  case atStart => exact ⟨0, Nat.zero_le _, rfl, (RowAt.newAt rfl rfl).alloc _, RowAt.newAt zero8 (by simp), ((Below.refl _ _).alloc (Nat.le_refl _) _).alloc (by simp) _⟩
  case round =>
    obtain ⟨k, hk, rfl, hA, hO, hbel⟩ := hrel
    by_cases hlt : k < 16
    · obtain ⟨m, hm⟩ : ∃ m : Nat, m + 8 = 23 - k := ⟨15 - k, by omega⟩
      have hm' : 23 - (k : Int) = (m : Int) + 8 := by omega
      have hdn : downs (k + 1) p = down (downs k p) (m + 8) := by rw [hm]; rfl
      have hB := D' k hk
      have hB1 := hB (m + 4) (by omega)
      have hB2 := hB (m + 8) (by omega)
      have hB3 := hB m (by omega)
      generalize downs k p = q at *
      rw [hm']
      have hge : (8 : Int) ≤ (m : Int) + 8 := by omega
      have hm0 : (m : Int) + 8 ≤ 23 := by omega
      have g40 : (0 : Int) ≤ (m : Int) + 4 := by omega
      have g41 : (m : Int) + 4 < 24 := by omega
      have g80 : (0 : Int) ≤ (m : Int) + 8 := by omega
      have g81 : (m : Int) + 8 < 24 := by omega
      have g00 : (0 : Int) ≤ (m : Int) := by omega
      have g01 : (m : Int) < 24 := by omega
      have t4 : ((m : Int) + 4).toNat = m + 4 := by omega
      have v4 : IntKind.i64.wrap ((m : Int) + 8 - 4) = ((m + 4 : Nat) : Int) := by rw [IntKind.wrap_i64]; omega
      have v0 : IntKind.i64.wrap ((m : Int) + 8 - 8) = (m : Int) := by rw [IntKind.wrap_i64]; omega
      have w4 : IntKind.i64.wrap ((m : Int) + 4) = ((m + 4 : Nat) : Int) := by rw [IntKind.wrap_i64]; omega
      have w0 : IntKind.i64.wrap (m : Int) = (m : Int) := by rw [IntKind.wrap_i64]; omega
      have t8 : ((m : Int) + 8).toNat = m + 8 := by omega
      have c4 := hA.cell (k := m + 4) (by omega)
      have c8 := hA.cell (k := m + 8) (by omega)
      have f4 := hA.free (m + 4)
      have hA1 : RowAt _ _ _ _ (down1 q m) := hA.set (k := m + 4) (by omega) (q (m + 4) + q (m + 8))
      have e8 : down1 q m (m + 8) = q (m + 8) := by simp [down1, upd]
      have e0 : down1 q m m = q m := by simp [down1, upd]
      have HA := Lib.hid (hA1.drew 1)
      have HO := Lib.hid ((hO.other ⟨w.heap.size, m + 4, none⟩ (.int .i64 (q (m + 4) + q (m + 8))) (by simp)).drew 1)
      have HL := Lib.hid ((hbel.setCell (p := ⟨w.heap.size, m + 4, none⟩) (Nat.le_refl _) (.int .i64 (q (m + 4) + q (m + 8)))).drew)
      have HD := Lib.hid D'
      have HE := Lib.hid e8; have HE0 := Lib.hid e0; have HN := Lib.hid hdn; have HM := Lib.hid hm
      clear hA hA1 hO hbel D' hB e8 e0 hdn hm hm'
      have wA : IntKind.i64.wrap (q (m + 4) + q (m + 8)) = q (m + 4) + q (m + 8) := by rw [IntKind.wrap_i64]; omega
      have wS : IntKind.i64.wrap (q m - q (m + 8)) = q m - q (m + 8) := by rw [IntKind.wrap_i64]; omega
      go_wp2_with fail
      go_still_tail 9, (by kernel_rfl)
      go_wp2_with fail
      have hA1 : RowAt ((wr.setCell ⟨w.heap.size, m + 4, none⟩ (.int .i64 (q (m + 4) + q (m + 8)))).drew) _ _ _ (down1 q m) := HA.out
      have hO1 : RowAt ((wr.setCell ⟨w.heap.size, m + 4, none⟩ (.int .i64 (q (m + 4) + q (m + 8)))).drew) _ _ _ _ := HO.out
      have hL1 := HL.out
      clear HA HO HL c4 c8 f4
      generalize (wr.setCell ⟨w.heap.size, m + 4, none⟩ (.int .i64 (q (m + 4) + q (m + 8)))).drew = w2 at *
      have d8 := hA1.cell (k := m + 8) (by omega)
      have d0 := hA1.cell (k := m) (by omega)
      have f0 := hA1.free m
      rw [HE.out] at d8
      rw [HE0.out] at d0
      have hA2 := hA1.set (k := m) (by omega) (down1 q m m - down1 q m (m + 8))
      rw [down_two, ← HN.out, HE.out, HE0.out] at hA2
      have HA := Lib.hid (hA2.drew 1)
      have HO := Lib.hid ((hO1.other ⟨w.heap.size, m, none⟩ (.int .i64 (q m - q (m + 8))) (by simp)).drew 1)
      have HL := Lib.hid ((hL1.setCell (p := ⟨w.heap.size, m, none⟩) (Nat.le_refl _) (.int .i64 (q m - q (m + 8)))).drew)
      clear hA1 hA2 hO1 hL1
      go_still_tail 9, (by kernel_rfl)
      go_wp2_with fail
      go_roundw
      case rel => exact ⟨k + 1, by omega, congrArg (Value.int .i64) (by have := HM.out; omega), HA.out, HO.out, HL.out⟩
      case measure => simp [intOf]; omega
    · obtain rfl : k = 16 := by omega
      have HA := Lib.hid (hA.same (f' := downs 16 p) (fun j _ => rfl)); have HO := Lib.hid hO; have HL := Lib.hid hbel
      clear hA hO hbel D'
      go_wp2_with fail
      obtain ⟨wx, rfl⟩ : ∃ wx : World, wx = wr := ⟨_, rfl⟩
      have z1 := HO.out.lt
      have z2 := HL.out.size
      go_loopw [5, 28] (fun _ i wr => ∃ k : Nat, k ≤ 8 ∧ i = .int .i64 k ∧ RowAt wr w.heap.size 24 81 (downs 16 p) ∧ RowAt wr (w.heap.size + 1) 8 54 nul ∧ RowAt wr wx.heap.size 8 54 (mix k (downs 16 p) nul) ∧ Below w.heap.size w wr) (fun _ i _ => 8 - (intOf i).toNat)
      case atStart => exact ⟨0, Nat.zero_le _, rfl, HA.out.alloc _, HO.out.alloc _, by rw [mix_zero]; exact RowAt.newAt zero8 rfl, HL.out.alloc z2 _⟩
      case round =>
        obtain ⟨k, hk, rfl, hA, hO, hE, hbel⟩ := hrel
        by_cases hlt : k < 8
        · have cA := hA.cell (k := k) (by omega)
          have fE := hE.free k
          have hlt' : (k : Int) < 8 := by omega
          have hlt2 : (k : Int) < 24 := by omega
          have hk0 : (0 : Int) ≤ (k : Int) := by omega
          have hE2 := hE.set hlt (downs 16 p k)
          have cE := hE.cell hlt
          rw [mix_step] at hE2
          have HE := Lib.hid hE2
          have HO2 := Lib.hid (hO.other ⟨wx.heap.size, k, none⟩ (.int .i64 (downs 16 p k)) (by simp; omega))
          have HA2 := Lib.hid (hA.other ⟨wx.heap.size, k, none⟩ (.int .i64 (downs 16 p k)) (by simp; omega))
          have HL2 := Lib.hid (hbel.setCell (p := ⟨wx.heap.size, k, none⟩) z2 (.int .i64 (downs 16 p k)))
          clear hA hO hE hE2 hbel HA HO HL
          generalize downs 16 p k = x at *
          go_wp2_with fail
          go_roundw
          case rel => exact ⟨k + 1, by omega, by go_num, HA2.out, HO2.out, HE.out, HL2.out⟩
          case measure => simp [intOf]; omega
        · obtain rfl : k = 8 := by omega
          have HE := Lib.hid hE; have HO2 := Lib.hid hO; have HL2 := Lib.hid hbel
          clear hA hO hE hbel HA HO HL
          go_wp2_with (first | (refine load_row rfl rfl rfl HE.out Try.underlying54 rfl info_exact ?_) | (refine store_row rfl rfl rfl rfl HO2.out info_exact ?_))
          refine bodyPost_ret (results_row rfl rfl HO2.out.setRow Try.underlying54 rfl info_exact) rfl ?_
          exact ⟨by rw [vec_mix, vec_same (downs_all p)], below_setRow HL2.out (by omega) _⟩
end Go.Proofs.Ytjfljelpjgkmjaa
