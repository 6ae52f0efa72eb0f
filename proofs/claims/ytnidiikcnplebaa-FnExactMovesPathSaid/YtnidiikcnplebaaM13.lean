/-
  Contracts: the size of a float, PointsNear.
  Contracts of impl's points in both widths, second part: the sum of eight terms, the points.
  Contracts of impl's points in both widths, third part: WidePoint, SinglePoint, PointsFit.
  Contracts of spec's points in both widths.
-/
import Derived.Test.YtnidiikcnplebaaM12
import Derived.Laws.Externs
import GoSem.Extern.MathFloatBits
import Derived.StillTailTactics
import Derived.Test.YtnidiikcnplebaaM01
/- Contracts: the size of a float, PointsNear. -/
namespace Go.Proofs.Ytnidiikcnplebaa
set_option maxRecDepth 20000
open Go.ChangeShapes Go.WideShapes Go.ChangeAt Go.RowKit
set_option linter.unusedVariables false
set_option linter.unusedSimpArgs false

/-- A word without its sign. -/
def mgn (x : Nat) : Nat := x % 9223372036854775808
theorem mgn_bits (x : Nat) : bits .andNot .u64 (x : Int) 9223372036854775808 = ((mgn x : Nat) : Int) := by
  unfold bits mgn
  have h1 : ~~~(BitVec.ofInt IntKind.u64.bits 9223372036854775808) = BitVec.ofNat 64 (2 ^ 63 - 1) := by
    show ~~~(BitVec.ofInt 64 9223372036854775808) = BitVec.ofNat 64 (2 ^ 63 - 1)
    decide
  have h2 : (BitVec.ofInt IntKind.u64.bits (x : Int) &&& ~~~(BitVec.ofInt IntKind.u64.bits 9223372036854775808)).toNat = x % 9223372036854775808 := by
    rw [h1]
    show (BitVec.ofInt 64 (x : Int) &&& BitVec.ofNat 64 (2 ^ 63 - 1)).toNat = _
    rw [BitVec.toNat_and, BitVec.ofInt_natCast, BitVec.toNat_ofNat, BitVec.toNat_ofNat, show (2 ^ 63 - 1) % 2 ^ 64 = 2 ^ 63 - 1 by decide, Nat.and_two_pow_sub_one_eq_mod]
    omega
  simp only [h2]
  have h3 := Nat.mod_lt x (show 0 < 9223372036854775808 by decide)
  have : ((x % 9223372036854775808 : Nat) : Int) < 9223372036854775808 := by omega
  generalize x % 9223372036854775808 = y at *
  show IntKind.u64.wrap (y : Int) = y
  have e : IntKind.u64.wrap (y : Int) = (y : Int) % 18446744073709551616 := by
    unfold IntKind.wrap
    rw [show IntKind.u64.signed = false from rfl]
    simp only [Bool.false_and, Bool.false_eq_true, if_false]
    rfl
  rw [e]; omega
theorem mgn_val {x : Nat} {v : Int} (h : ValD x v) : ValD (mgn x) v.natAbs := by
  unfold ValD Val at h
  obtain ⟨s, m, b, r, e⟩ := h
  have e1 : Ieee.double.signWeight = 9223372036854775808 := by decide
  have e2 : Ieee.double.infRung = 9218868437227405312 := by decide
  have e3 : Ieee.double.binade = 4503599627370496 := by decide
  have ha := abs_mul_pow e
  refine ⟨false, m, b, ?_, ?_⟩
  · unfold Ieee.Format.read at r ⊢
    unfold mgn
    rw [e1] at r ⊢
    have h3 := Nat.mod_lt x (show 0 < 9223372036854775808 by decide)
    rw [Nat.mod_mod, Nat.div_eq_of_lt h3]
    simp only at r ⊢
    split at r
    · rename_i k; rw [if_pos k]; injection r with _ r1 r2; rw [r1, r2]; rfl
    · rename_i k
      rw [if_neg k]
      split at r
      · rename_i k2; rw [if_pos k2]; injection r with _ r1 r2; rw [r1, r2]; rfl
      · split at r <;> cases r
  · rw [ha]
    show ((v.natAbs * 2 ^ tD : Nat) : Int) = _
    rw [Int.natCast_mul, cast_powI]
theorem bits_of (x : Nat) (w : World) : (callFunc 147 #[.float .f64 x]).run Try.prog w = .ok (.value (.int .u64 (x : Int))) w := by
  rw [run_callFunc_extern (e := Extern.MathFloatBits.float64bits) Try.func147 (by kernel_rfl) (by kernel_rfl) (by kernel_rfl) (by kernel_rfl)]
  rfl
theorem of_bits (x : Nat) (w : World) : (callFunc 146 #[.int .u64 (x : Int)]).run Try.prog w = .ok (.value (.float .f64 x)) w := by
  rw [run_callFunc_extern (e := Extern.MathFloatBits.float64frombits) Try.func146 (by kernel_rfl) (by kernel_rfl) (by kernel_rfl) (by kernel_rfl)]
  rfl
theorem abs_any (x : Nat) (w : World) : Calls Try.prog 131 #[.float .f64 x] w fun e w' => e = .returned (.float .f64 (mgn x)) ∧ w' = w := by
  have B := fun w => bits_of x w
  have M := mgn_bits x
  have F := fun w => of_bits (mgn x) w
  generalize mgn x = y at *
  go_enter Try.func131, Try.ntmps131
  go_wp2_with (first | rw [B] | rw [F])
  go_ret
  exact ⟨rfl, rfl⟩
/-- At most: what a comparison told. -/
def leq (c : Option Ordering) : Bool := c == some .lt || c == some .eq
end Go.Proofs.Ytnidiikcnplebaa
/- Contracts of impl's points in both widths, second part: the sum of eight terms, the points. -/
namespace Go.Proofs.Ytnidiikcnplebaa
set_option maxRecDepth 20000
open Go.ChangeShapes Go.WideShapes Go.ChangeAt Go.RowKit
set_option linter.unusedVariables false
set_option linter.unusedSimpArgs false

theorem wb_one (w : World) (o : Obj) : Below w.heap.size w (w.alloc o) := (Below.refl _ _).alloc (Nat.le_refl _) _
theorem wb_step {w W : World} (h : Below w.heap.size w W) (o : Obj) : Below w.heap.size w (W.alloc o) := h.alloc h.size o
theorem wb_next {w W W' : World} (h : Below w.heap.size w W) (k : Below W.heap.size W W') : Below w.heap.size w W' := h.trans (k.mono h.size)
theorem pointInSingle_any (c : Nat → Int) (hc : Okc c) (w : World) :
    Calls Try.prog 110 #[pt c, .func (.func 111) #[] #[]] w fun e w' => e = .returned (cs (spr c 8) (spi c 8)) ∧ Below w.heap.size w w' := by
  unfold pt
  have sa := vec_size 8 c
  go_enter Try.func110, Try.ntmps110
  go_wp2_with (refine load_row rfl rfl rfl (RowAt.newAt rfl rfl) Try.underlying97 rfl info_exact ?_)
  go_loopw [5, 6, 7, 9] (fun x _ _ i wr => ∃ k : Nat, k ≤ 8 ∧ i = .int .i64 k ∧ x = cs (spr c k) (spi c k) ∧ Below w.heap.size w wr) (fun _ _ _ i _ => 8 - (intOf i).toNat)
  case atStart => exact ⟨0, Nat.zero_le _, rfl, rfl, ((Below.refl _ _).alloc (Nat.le_refl _) _)⟩
  case round =>
    obtain ⟨k, hk, rfl, rfl, hbel⟩ := hrel
    by_cases hlt : k < 8
    · have ix := fun w => index_exact c hlt w
      have hlt' : (k : Int) < 8 := by omega
      have hk0 : (0 : Int) ≤ (k : Int) := by omega
      obtain ⟨s1, s2⟩ := sing_step hc k hlt
      have R : ∀ t w, (binOp .add t (cs (spr c k) (spi c k)) (cs (tmW .f32 (c k) (wSr k)) (tmW .f32 (c k) (wSi k)))).run Try.prog w = .ok (cs (spr c (k + 1)) (spi c (k + 1))) w := fun t w => run_complex_sum w .add (Or.inl rfl) t .f32 _ _ _ _ _ _ (by unfold cSumBits; rw [s1, s2]; rfl)
      clear s1 s2
      have C := fun w => singleTerm_any k hlt (c k) (hc k hlt) w
      unfold cs at *
      generalize tmW .f32 (c k) (wSr k) = x at *
      generalize tmW .f32 (c k) (wSi k) = y at *
      have HL := Lib.hid hbel
      clear hbel
      go_wp2_with (first | rw [R] | (go_at_call 111; refine (C _).mono ?_; rintro e w2 ⟨rfl, rfl⟩))
      go_roundw
      case rel => exact ⟨k + 1, by omega, by go_num, rfl, HL.out⟩
      case measure => simp [intOf]; omega
    · obtain rfl : k = 8 := by omega
      have HL := Lib.hid hbel
      clear hbel
      go_wp2
      go_ret
      exact ⟨rfl, HL.out⟩
theorem singlePoint_any (c : Nat → Int) (hc : Okc c) (w : World) :
    Calls Try.prog 75 #[pt c] w fun e w' => e = .returned (cs (spr c 8) (spi c 8)) ∧ Below w.heap.size w w' := by
  have C := pointInSingle_any c hc
  generalize spr c 8 = x at *
  generalize spi c 8 = y at *
  unfold pt cs at *
  have sa := vec_size 8 c
  clear hc
  go_enter Try.func75, Try.ntmps75
  go_wp2_with (first | (refine load_row rfl rfl rfl (RowAt.newAt rfl rfl) Try.underlying97 rfl info_exact ?_) | (go_at_call 110; refine (C _).mono ?_; rintro e w2 ⟨rfl, hb⟩; have hB := Lib.hid (wb_next (wb_one _ _) hb); clear hb))
  go_ret
  exact ⟨rfl, hB.out⟩
end Go.Proofs.Ytnidiikcnplebaa
/- Contracts of impl's points in both widths, third part: WidePoint, SinglePoint, PointsFit. -/
namespace Go.Proofs.Ytnidiikcnplebaa
set_option maxRecDepth 20000
open Go.ChangeShapes Go.WideShapes Go.ChangeAt Go.RowKit
set_option linter.unusedVariables false
set_option linter.unusedSimpArgs false

theorem SinglePoint_yes (a : Nat → Int) (va : okc a = true) (w : World) :
    Calls Try.prog 24 #[pt a] w fun e w' => e = .returned (.tuple #[cs (spr a 8) (spi a 8), .bool true]) ∧ Below w.heap.size w w' := by
  have sa := vec_size 8 a
  have P : ∀ w, Calls Try.prog 74 #[pt a] w fun e w' => e = .returned (.tuple #[pt a, .bool true]) ∧ Below w.heap.size w w' := fun w => exactOf_yes a va w
  have M := fun w => singlePoint_any a (okc_inR va) w
  unfold pt cs at *
  generalize spr a 8 = x at *
  generalize spi a 8 = y at *
  go_enter Try.func24, Try.ntmps24
  go_wp2_with (refine load_row rfl rfl rfl (RowAt.newAt rfl rfl) Try.underlying40 rfl info_cyc ?_)
  refine (P _).mono ?_; rintro e w2 ⟨rfl, hb2⟩
  have hL2 := wb_next (wb_one _ _) hb2
  clear hb2 P
  go_upto_region 2 with (refine store_row rfl rfl rfl rfl (RowAt.newAt zero8 rfl) info_exact ?_)
  show Code.wp _ _ _ _ (sole w2 a 97)
  have hA3 := sole_first w2 a 97
  have hL3 := sole_below hL2 a 97
  clear hL2
  generalize sole w2 a 97 = W3 at *
  go_wp2_with (refine load_row rfl rfl rfl hA3 Try.underlying97 rfl info_exact ?_)
  refine (M _).mono ?_; rintro e w4 ⟨rfl, hb4⟩
  have hL4 := wb_next hL3 hb4
  clear hA3 hL3 hb4 M
  go_wp2_with fail
  go_ret2
  exact ⟨rfl, hL4⟩
theorem SinglePoint_no (a : Nat → Int) (va : okc a = false) (w : World) :
    Calls Try.prog 24 #[pt a] w fun e w' => e = .returned (.tuple #[cs 0 0, .bool false]) ∧ Below w.heap.size w w' := by
  have sa := vec_size 8 a
  have sn := vec_size 8 nul
  have P : ∀ w, Calls Try.prog 74 #[pt a] w fun e w' => e = .returned (.tuple #[pt nul, .bool false]) ∧ Below w.heap.size w w' := fun w => exactOf_no a va w
  unfold pt cs at *
  go_enter Try.func24, Try.ntmps24
  go_wp2_with (refine load_row rfl rfl rfl (RowAt.newAt rfl rfl) Try.underlying40 rfl info_cyc ?_)
  refine (P _).mono ?_; rintro e w2 ⟨rfl, hb2⟩
  have hL2 := wb_next (wb_one _ _) hb2
  clear hb2 P
  go_upto_region 2 with (refine store_row rfl rfl rfl rfl (RowAt.newAt zero8 rfl) info_exact ?_)
  show Code.wp _ _ _ _ (sole w2 nul 97)
  have hL3 := sole_below hL2 nul 97
  clear hL2
  generalize sole w2 nul 97 = W3 at *
  go_wp2_with fail
  go_ret2
  exact ⟨rfl, hL3⟩
end Go.Proofs.Ytnidiikcnplebaa
/- Contracts of spec's points in both widths. -/
namespace Go.Proofs.Ytnidiikcnplebaa
set_option maxRecDepth 20000
open Go.ChangeShapes Go.WideShapes Go.ChangeAt Go.RowKit
set_option linter.unusedVariables false
set_option linter.unusedSimpArgs false

theorem l4Wide_any (k : Nat) (hk : k < 8) (w : World) :
    Calls Try.prog 108 #[.int .i64 k] w fun e w' => e = .returned (cw (wDr k) (wDi k)) ∧ w' = w := by
  rcases (show k = 0 ∨ k = 1 ∨ k = 2 ∨ k = 3 ∨ k = 4 ∨ k = 5 ∨ k = 6 ∨ k = 7 by omega) with rfl | rfl | rfl | rfl | rfl | rfl | rfl | rfl <;>
  · go_enter Try.func108, Try.ntmps108
    go_wp2
    go_ret
    exact ⟨rfl, rfl⟩
theorem narrow_root (k : Nat) (hk : k < 8) (w : World) : (convert 102 35 (cw (wDr k) (wDi k))).run Try.prog w = .ok (cs (wSr k) (wSi k)) w :=
  run_convert_complex w _ _ .f64 .f32 _ _ _ _ (by kernel_rfl) (by kernel_rfl) (by
    rcases (show k = 0 ∨ k = 1 ∨ k = 2 ∨ k = 3 ∨ k = 4 ∨ k = 5 ∨ k = 6 ∨ k = 7 by omega) with rfl | rfl | rfl | rfl | rfl | rfl | rfl | rfl <;> decide +kernel)
theorem specSinglePoint_no (a : Nat → Int) (va : okc a = false) (w : World) :
    Calls Try.prog 73 #[pt a] w fun e w' => e = .returned (.tuple #[cs 0 0, .bool false]) ∧ Below w.heap.size w w' := by
  have sa := vec_size 8 a
  have P : ∀ w, Calls Try.prog 106 #[pt a] w fun e w' => e = .returned (.bool false) ∧ Below w.heap.size w w' := fun w => by rw [← va]; exact specValid_any a w
  unfold pt cs at *
  go_enter Try.func73, Try.ntmps73
  go_wp2_with (refine load_row rfl rfl rfl (RowAt.newAt rfl rfl) Try.underlying40 rfl info_cyc ?_)
  refine (P _).mono ?_; rintro e w2 ⟨rfl, hb2⟩
  have hL2 := wb_next (wb_one _ _) hb2
  clear hb2 P
  go_wp2_with fail
  go_ret2
  exact ⟨rfl, hL2⟩
theorem specSinglePoint_yes (a : Nat → Int) (va : okc a = true) (w : World) :
    Calls Try.prog 73 #[pt a] w fun e w' => e = .returned (.tuple #[cs (spr a 8) (spi a 8), .bool true]) ∧ Below w.heap.size w w' := by
  have sa := vec_size 8 a
  have hc : Okc a := okc_inR va
  have P : ∀ w, Calls Try.prog 106 #[pt a] w fun e w' => e = .returned (.bool true) ∧ Below w.heap.size w w' := fun w => by rw [← va]; exact specValid_any a w
  clear va
  unfold pt at *
  go_enter Try.func73, Try.ntmps73
  go_wp2_with (refine load_row rfl rfl rfl (RowAt.newAt rfl rfl) Try.underlying40 rfl info_cyc ?_)
  refine (P _).mono ?_; rintro e w2 ⟨rfl, hb2⟩
  have hA2 : RowAt w2 w.heap.size 8 40 a := (RowAt.newAt rfl rfl : RowAt (w.alloc (.cells (vec 8 a) 40)) w.heap.size 8 40 a).below hb2
  have hL2 := wb_next (wb_one _ _) hb2
  clear hb2 P
  go_wp2_with fail
  go_loopw [4, 5, 6, 7] (fun x i _ _ wr => ∃ k : Nat, k ≤ 8 ∧ i = .int .i64 k ∧ x = cs (spr a k) (spi a k) ∧ RowAt wr w.heap.size 8 40 a ∧ Below w.heap.size w wr) (fun _ i _ _ _ => 8 - (intOf i).toNat)
  case atStart => exact ⟨0, Nat.zero_le _, rfl, rfl, hA2, hL2⟩
  case round =>
    clear hA2 hL2
    obtain ⟨k, hk, rfl, rfl, hA, hbel⟩ := hrel
    by_cases hlt : k < 8
    · have cA := hA.cell hlt
      have fA := hA.free k
      have hlt' : (k : Int) < 8 := by omega
      have hk0 : (0 : Int) ≤ (k : Int) := by omega
      obtain ⟨s1, s2⟩ := sing_step hc k hlt
      have R : ∀ t w, (binOp .add t (cs (spr a k) (spi a k)) (cs (tmW .f32 (a k) (wSr k)) (tmW .f32 (a k) (wSi k)))).run Try.prog w = .ok (cs (spr a (k + 1)) (spi a (k + 1))) w := fun t w => run_complex_sum w .add (Or.inl rfl) t .f32 _ _ _ _ _ _ (by unfold cSumBits; rw [s1, s2]; rfl)
      have R1 : ∀ t w, (binOp .mul t (.float .f32 (floatOfInt .f32 (a k))) (.float .f32 (wSr k))).run Try.prog w = .ok (.float .f32 (tmW .f32 (a k) (wSr k))) w := fun t w => run_float_arith w .mul t .f32 _ _ _ (tm_sgl (hc k hlt) (rootSr k hlt) (sizeSr k)).1
      have R2 : ∀ t w, (binOp .mul t (.float .f32 (floatOfInt .f32 (a k))) (.float .f32 (wSi k))).run Try.prog w = .ok (.float .f32 (tmW .f32 (a k) (wSi k))) w := fun t w => run_float_arith w .mul t .f32 _ _ _ (tm_sgl (hc k hlt) (rootSi k hlt) (sizeSi k)).1
      clear s1 s2
      have C := fun w => l4Wide_any k hlt w
      have RN := fun w => narrow_root k hlt w
      unfold cs cw at *
      generalize tmW .f32 (a k) (wSr k) = x at *
      generalize tmW .f32 (a k) (wSi k) = y at *
      generalize wSr k = rx at *
      generalize wSi k = ry at *
      generalize wDr k = dx at *
      generalize wDi k = dy at *
      have HA := Lib.hid hA
      have HL := Lib.hid hbel
      clear hA hbel
      go_wp2_with (first | rw [RN] | rw [R1] | rw [R2] | rw [R] | (go_at_call 108; refine (C _).mono ?_; rintro e w2 ⟨rfl, rfl⟩))
      go_roundw
      case rel => exact ⟨k + 1, by omega, by go_num, rfl, HA.out, HL.out⟩
      case measure => simp [intOf]; omega
    · obtain rfl : k = 8 := by omega
      have HL := Lib.hid hbel
      clear hA hbel
      unfold cs at *
      go_wp2_with fail
      go_ret2
      exact ⟨rfl, HL.out⟩
end Go.Proofs.Ytnidiikcnplebaa
