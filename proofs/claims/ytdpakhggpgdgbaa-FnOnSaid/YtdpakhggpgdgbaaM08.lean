/-
  Contracts of impl's single circles.
-/
import Derived.Test.YtdpakhggpgdgbaaM07
import Derived.Test.YtdpakhggpgdgbaaM03
import Derived.Deep.RegionHeld
import Derived.Deep.RegionWith
/- Contracts of impl's single circles. -/
namespace Go.Proofs.Ytdpakhggpgdgbaa
set_option maxRecDepth 20000
open Go.ChangeShapes Go.WideShapes Go.ChangeAt Go.RowKit
set_option linter.unusedVariables false
set_option linter.unusedSimpArgs false

theorem size_wheel (c : Wh) : (Try.prog.info? 130).map (·.size) = some (enc c).length := by rw [enc_length]; exact info_wheel
theorem size_exact8 (f : Nat → Int) : (Try.prog.info? 75).map (·.size) = some (lst 8 f).length := by rw [lst_length]; exact info_exact
theorem size_cyc8 (f : Nat → Int) : (Try.prog.info? 32).map (·.size) = some (lst 8 f).length := by rw [lst_length]; exact info_cyc
/-! The calculations, in radii. -/
theorem pt_tV (a : V) {t : Nat} (ht : t ≤ 23) : pt (trn a.up t) = pt (tV t a).up := pt_same fun j hj => by rw [← tV_trn a ht, up_dn _ j hj]
theorem inR_bound {a : V} (h : okv a = true) : InR a.up := okc_inR h
theorem turnedV (a : V) (t : Nat) (ht : t ≤ 23) (ha : okv a = true) (w : World) :
    Calls Try.prog 128 #[pt a.up, .int .i64 t] w fun e w' => e = .returned (pt (tV t a).up) ∧ Below w.heap.size w w' := by
  rw [← pt_tV a ht]; exact turned_any a.up t ht (inR_bound ha) w
theorem timesV (a b : V) (ha : okv a = true) (hb : okv b = true) (w : World) :
    Calls Try.prog 102 #[pt a.up, pt b.up] w fun e w' => e = .returned (pt (prV a b).up) ∧ Below w.heap.size w w' := by
  have e : pt (prd a.up b.up) = pt (prV a b).up := pt_same fun j hj => (up_dn _ j hj).symm
  rw [← e]; exact times_any a.up b.up (inR_bound ha) (inR_bound hb) w
def Big (a : V) (B : Int) : Prop := ∀ j, j < 8 → -B ≤ a.up j ∧ a.up j ≤ B
theorem big_ok {a : V} (h : okv a = true) : Big a 1000000 := fun j hj => inR_bound h j hj
theorem Big.mono {a : V} {B C : Int} (h : Big a B) (hBC : B ≤ C) : Big a C := fun j hj => by have := h j hj; omega
theorem Big.add {a b : V} {B C : Int} (h : Big a B) (k : Big b C) : Big (V.add a b) (B + C) := fun j hj => by
  have h1 := h j hj
  have h2 := k j hj
  rw [add_up]
  show -(B + C) ≤ a.up j + b.up j ∧ a.up j + b.up j ≤ B + C
  omega
theorem big_zero : Big V.zero 0 := fun j hj => by rw [zero_up]; exact ⟨Int.le_refl _, Int.le_refl _⟩
theorem trn_big {a : Nat → Int} (h : InR a) (t : Nat) (j : Nat) (hj : j < 8) : -4000000 ≤ trn a t j ∧ trn a t j ≤ 4000000 := by
  have hp : ∀ k, -1000000 ≤ tpow a t 8 k ∧ tpow a t 8 k ≤ 1000000 := fun k => by
    unfold tpow
    split
    · rename_i hk; exact h _ hk
    · omega
  unfold trn red
  have h1 := hp j; have h2 := hp (j + 4); have h3 := hp (j + 8); have h4 := hp (j + 12); have h5 := hp (j + 16); have h6 := hp (j + 20)
  split <;> omega
theorem big_tV {a : V} (h : okv a = true) {t : Nat} (ht : t ≤ 23) : Big (tV t a) 4000000 := fun j hj => by
  rw [← tV_trn a ht, up_dn _ j hj]; exact trn_big (inR_bound h) t j hj

theorem plus_big (a b : Nat → Int) (ha : ∀ j, j < 8 → -1000000000000 ≤ a j ∧ a j ≤ 1000000000000) (hb : ∀ j, j < 8 → -1000000000000 ≤ b j ∧ b j ≤ 1000000000000) (w : World) :
    Calls Try.prog 143 #[pt a, pt b] w fun e w' => e = .returned (pt (add a b)) ∧ Below w.heap.size w w' := by
  unfold pt
  have sa := vec_size 8 a
  have sb := vec_size 8 b
  go_enter Try.func143, Try.ntmps143
  go_wp2_with fail
  go_loopw [5, 6] (fun _ i wr => ∃ k : Nat, k ≤ 8 ∧ i = .int .i64 k ∧ RowAt wr w.heap.size 8 75 (mix k (add a b) a) ∧ RowAt wr (w.heap.size + 1) 8 75 b ∧ RowAt wr (w.heap.size + 1 + 1) 8 75 (fun _ => 0) ∧ Below w.heap.size w wr) (fun _ i _ => 8 - (intOf i).toNat)
  case atStart => exact ⟨0, Nat.zero_le _, rfl, by rw [mix_zero]; exact ((RowAt.newAt rfl rfl).alloc _).alloc _, (RowAt.newAt rfl (by simp)).alloc _, RowAt.newAt zero8 (by simp), (((Below.refl _ _).alloc (Nat.le_refl _) _).alloc (by simp) _).alloc (by simp; omega) _⟩
  case round =>
    obtain ⟨k, hk, rfl, hA, hB, hO, hbel⟩ := hrel
    by_cases hlt : k < 8
    · have cA := hA.cell hlt
      have fA := hA.free k
      have cB := hB.cell hlt
      rw [mix_at] at cA
      have hlt' : (k : Int) < 8 := by omega
      have hk0 : (0 : Int) ≤ (k : Int) := by omega
      have b1 := ha k hlt
      have b2 := hb k hlt
      have hA2 := hA.set hlt (add a b k)
      rw [mix_step] at hA2
      have HA := Lib.hid hA2
      have HB := Lib.hid (hB.other ⟨w.heap.size, k, none⟩ (.int .i64 (a k + b k)) (by simp))
      have HO := Lib.hid (hO.other ⟨w.heap.size, k, none⟩ (.int .i64 (a k + b k)) (by simp; try omega))
      have HL := Lib.hid ((hbel.setCell (p := ⟨w.heap.size, k, none⟩) (Nat.le_refl _) (.int .i64 (a k + b k))))
      clear hA hA2 hB hO hbel
      go_wp2_with fail
      go_still_tail 8, (by kernel_rfl)
      go_wp2_with fail
      go_roundw
      case rel => exact ⟨k + 1, by omega, by go_num, HA.out, HB.out, HO.out, HL.out.drew⟩
      case measure => simp [intOf]; omega
    · obtain rfl : k = 8 := by omega
      have HA := Lib.hid hA; have HO := Lib.hid hO; have HL := Lib.hid hbel
      clear hA hB hO hbel
      go_wp2_with (first | (refine load_row rfl rfl rfl HA.out Try.underlying75 rfl info_exact ?_) | (refine store_row rfl rfl rfl rfl HO.out info_exact ?_))
      refine bodyPost_ret (results_row rfl rfl HO.out.setRow Try.underlying75 rfl info_exact) rfl ?_
      exact ⟨by rw [vec_mix], below_setRow HL.out (by omega) _⟩
theorem plusV (a b : V) (ha : Big a 1000000000000) (hb : Big b 1000000000000) (w : World) :
    Calls Try.prog 143 #[pt a.up, pt b.up] w fun e w' => e = .returned (pt (V.add a b).up) ∧ Below w.heap.size w w' := by
  rw [add_up]; exact plus_big a.up b.up ha hb w
/-! A turn, so many times. -/
theorem turnTimes_any (t : Nat) (n : Int) (ht : t ≤ 23) (hn : -1000000 ≤ n ∧ n ≤ 1000000) (w : World) :
    Calls Try.prog 126 #[.int .i64 t, .int .i64 n] w fun e w' => e = .returned (.int .i64 (tm t n)) ∧ w = w' := by
  have hb : -1000000000 ≤ (t : Int) * n ∧ (t : Int) * n ≤ 1000000000 := by
    have h1 : (t : Int) ≤ 23 := by omega
    have h0 : (0 : Int) ≤ (t : Int) := by omega
    constructor
    · have := Int.mul_le_mul_of_nonneg_left hn.1 h0
      omega
    · have := Int.mul_le_mul_of_nonneg_left hn.2 h0
      omega
  have C := fun w => within_any ((t : Int) * n) (by omega) (by omega) w
  have e : ((t : Int) * n) % 24 = ((tm t n : Nat) : Int) := by unfold tm; omega
  rw [e] at C
  clear e
  have e2 : IntKind.i64.wrap ((t : Int) * n) = (t : Int) * n := by rw [IntKind.wrap_i64]; omega
  generalize tm t n = q at *
  clear hb ht hn
  go_enter Try.func126, Try.ntmps126
  go_wp2_with fail
  refine (C _).mono ?_; rintro e w' ⟨rfl, rfl⟩
  go_wp2_with fail
  go_ret
  exact ⟨rfl, rfl⟩

/-- A speed of a design. -/
theorem inS_bound {s : Int} (h : inS s = true) : -1000 ≤ s ∧ s ≤ 1000 := by
  unfold inS at h
  simpa using h

theorem nan_of (a : Int) (w : World) : Calls Try.prog 161 #[.int .i64 a] w fun e w' => e = .returned (.bool false) ∧ w = w' := by
  go_enter Try.func161, Try.ntmps161
  go_wp2
  go_ret
  exact ⟨by simp, rfl⟩
/-- How two speeds compare. -/
def cfS (a b : Int) : Int := if a < b then -1 else if b < a then 1 else 0
theorem cmp_of (a b : Int) (w : World) : Calls Try.prog 155 #[.int .i64 a, .int .i64 b] w fun e w' => e = .returned (.int .i64 (cfS a b)) ∧ w = w' := by
  have N1 := fun w => nan_of a w
  have N2 := fun w => nan_of b w
  by_cases h1 : a < b
  · go_enter Try.func155, Try.ntmps155
    go_wp2_with (first | (refine (N1 _).mono ?_; rintro e w' ⟨rfl, rfl⟩) | (refine (N2 _).mono ?_; rintro e w' ⟨rfl, rfl⟩))
    go_ret
    exact ⟨ret_int (by unfold cfS; rw [if_pos (by omega)]), rfl⟩
  · by_cases h2 : b < a
    · go_enter Try.func155, Try.ntmps155
      go_wp2_with (first | (refine (N1 _).mono ?_; rintro e w' ⟨rfl, rfl⟩) | (refine (N2 _).mono ?_; rintro e w' ⟨rfl, rfl⟩))
      go_ret
      exact ⟨ret_int (by unfold cfS; rw [if_neg (by omega), if_pos (by omega)]), rfl⟩
    · obtain rfl : a = b := by omega
      clear h1 h2
      go_enter Try.func155, Try.ntmps155
      go_wp2_with (first | (refine (N1 _).mono ?_; rintro e w' ⟨rfl, rfl⟩))
      go_ret
      exact ⟨ret_int (by unfold cfS; rw [if_neg (by omega), if_neg (by omega)]), rfl⟩
end Go.Proofs.Ytdpakhggpgdgbaa
