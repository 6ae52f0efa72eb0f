/-
  NaNs; how spec draws complex numbers.
  impl: sizes of points, which points a path may have.
  Both sides: which lists are paths.
  Contracts: whole parts of floats, WideGauss on both sides; Gaussian numbers are exact in both widths.
-/
import Derived.Test.YtibhlaojinedoaaM07
import Derived.Test.YtibhlaojinedoaaM11
import Derived.Test.YtibhlaojinedoaaM10
import Derived.Test.YtibhlaojinedoaaM08
import Derived.Test.YtibhlaojinedoaaM03
import GoSem.Extern.MathFloor
/- NaNs; how spec draws complex numbers. -/
namespace Go.Proofs.Ytibhlaojinedoaa
set_option maxRecDepth 20000
open Go.ChangeShapes Go.WideShapes Go.ChangeAt Go.RowKit
set_option linter.unusedVariables false
set_option linter.unusedSimpArgs false

/-- A word of 64 bits that is a NaN. -/
def IsN (x : Nat) : Prop := (Ieee.double.read x).isNaN = true
theorem nan_order {x : Nat} (h : IsN x) (y : Nat) : FloatKind.f64.format.order x y = none ∧ FloatKind.f64.format.order y x = none := by
  unfold IsN at h
  show (Ieee.double.read x).order (Ieee.double.read y) = none ∧ (Ieee.double.read y).order (Ieee.double.read x) = none
  generalize Ieee.double.read x = d at *
  generalize Ieee.double.read y = d' at *
  cases d with
  | number s m e => cases h
  | infinity s => cases h
  | nan s t => cases d' <;> exact ⟨rfl, rfl⟩
theorem nan_word (k : Nat) (h : 9218868437227405313 ≤ k % 9223372036854775808) : IsN k := by
  have e1 : Ieee.double.signWeight = 9223372036854775808 := by decide
  have e2 : Ieee.double.infRung = 9218868437227405312 := by decide
  have e3 : Ieee.double.binade = 4503599627370496 := by decide
  unfold IsN Ieee.Format.read
  rw [e1, e2, e3]
  simp only
  rw [if_neg (by omega), if_neg (by omega), if_neg (by omega)]
  rfl
theorem nan_cut (x y t : Nat) : IsN (Question.cut (.nanBits .f64 x y) t) := by
  show IsN ((t % 2) * 2 ^ 63 + 0x7ff0000000000000 + 1 + (t / 2) % (2 ^ 52 - 1))
  refine nan_word _ ?_
  have h1 := Nat.mod_lt (t / 2) (show 0 < 2 ^ 52 - 1 by decide)
  have h2 := Nat.mod_lt t (show 0 < 2 by decide)
  have e4 : (2 : Nat) ^ 63 = 9223372036854775808 := by decide
  have e5 : (2 : Nat) ^ 52 - 1 = 4503599627370495 := by decide
  rw [e5] at *
  rw [e4]
  generalize t / 2 % 4503599627370495 = a at *
  rcases (show t % 2 = 0 ∨ t % 2 = 1 by omega) with h | h <;> rw [h] <;> omega
/-- An operation without an answer: some NaN, out of one draw. -/
theorem run_arith_nan {op : BinOp} {x y : Nat} (h : floatBits op .f64 x y = none) (hop : op = .add ∨ op = .sub ∨ op = .mul ∨ op = .quo) (t : TypeId) (w : World) :
    ∃ r, IsN r ∧ (binOp op t (.float .f64 x) (.float .f64 y)).run Try.prog w = .ok (.float .f64 r) w.drew := by
  refine ⟨_, nan_cut x y (w.tape w.drawn (.nanBits .f64 x y)), ?_⟩
  unfold floatBits at h
  rcases hop with rfl | rfl | rfl | rfl <;> simp only at h <;> simp [binOp, Op.floatArith, h, choose, Sem.run, Question.forced] <;> rfl
/-- What l91Wide draws. -/
def WK (x y : Nat) : Prop :=
  (IsN x ∧ y = 4607182418800017408) ∨ (x = 4607182418800017408 ∧ y = 9218868437227405312) ∨ (x = 9223372036854775808 ∧ y = 4611686018427387904) ∨ (x = 4602678819172646912 ∧ y = 4607182418800017408) ∨
  ∃ i j : Int, -20 ≤ i ∧ i ≤ 20 ∧ -20 ≤ j ∧ j ≤ 20 ∧ x = floatOfInt .f64 i ∧ y = floatOfInt .f64 j
def DrewWd (w : World) (R p : Nat) (e : Ending) (w' : World) : Prop := ∃ x y q, e = .returned (cw x y) ∧ WK x y ∧ q ≤ p + 3 ∧ Rd w' R q ∧ w.grownBy w' (some R)
theorem Rd.drew {w : World} {R p : Nat} (h : Rd w R p) : Rd w.drew R p := h.keep (row := none) ⟨rfl, rfl, rfl, Nat.le_refl _, fun _ _ _ => rfl⟩ (fun g e => by cases e)
theorem only_drew {a w : World} {row : Option Nat} (h : a.grownBy w row) : a.grownBy w.drew row := ⟨h.os, h.tape, h.output, h.size, h.block⟩
set_option maxHeartbeats 2000000 in
theorem wide_drawn (R p : Nat) (w : World) (h : Rd w R p) (hp : p ≤ 900000) : Calls Try.prog 15 #[.pointer (some ⟨R, 0, none⟩)] w (DrewWd w R p) := by
  have T1 := Lib.hid (pick_any _ _ 10 w h (by omega) (by omega))
  clear h
  go_enter Try.func15, Try.ntmps15
  go_wp2_with fail
  refine T1.out.mono ?_; rintro e w2 ⟨k, rfl, k0, k1, hr2, hg2⟩
  clear T1
  rcases (show k = 0 ∨ k = 1 ∨ k = 2 ∨ k = 3 ∨ 4 ≤ k by omega) with rfl | rfl | rfl | rfl | hk
  · obtain ⟨r, nr, R1⟩ := run_arith_nan (op := .quo) (x := 0) (y := 0) (by decide +kernel) (by simp) 30 w2
    have HR := Lib.hid (hr2.drew)
    have HG := Lib.hid (only_drew hg2)
    clear hr2 hg2
    go_wp2_with (rw [R1])
    go_ret
    exact ⟨_, _, _, rfl, Or.inl ⟨nr, rfl⟩, by omega, HR.out, HG.out⟩
  · have R1 : ∀ t w, (binOp .quo t (.float .f64 4607182418800017408) (.float .f64 0)).run Try.prog w = .ok (.float .f64 9218868437227405312) w := fun t w => run_float_arith w .quo t .f64 _ _ _ (by decide +kernel)
    have HR := Lib.hid hr2
    have HG := Lib.hid hg2
    clear hr2 hg2
    go_wp2_with (rw [R1])
    go_ret
    exact ⟨_, _, _, rfl, Or.inr (Or.inl ⟨rfl, rfl⟩), by omega, HR.out, HG.out⟩
  · have R1 : ∀ t w, (binOp .mul t (.float .f64 9223372036854775808) (.float .f64 4607182418800017408)).run Try.prog w = .ok (.float .f64 9223372036854775808) w := fun t w => run_float_arith w .mul t .f64 _ _ _ (by decide +kernel)
    have R0 : ∀ w, (Op.unary .neg (.float .f64 0)).run Try.prog w = .ok (.float .f64 9223372036854775808) w := fun w => by simp only [Op.unary, show Op.negFloat .f64 0 = 9223372036854775808 by decide +kernel]; rfl
    have HR := Lib.hid hr2
    have HG := Lib.hid hg2
    clear hr2 hg2
    go_wp2_with (first | rw [R1] | rw [R0])
    go_ret
    exact ⟨_, _, _, rfl, Or.inr (Or.inr (Or.inl ⟨rfl, rfl⟩)), by omega, HR.out, HG.out⟩
  · have HR := Lib.hid hr2
    have HG := Lib.hid hg2
    clear hr2 hg2
    go_wp2_with fail
    go_ret
    exact ⟨_, _, _, rfl, Or.inr (Or.inr (Or.inr (Or.inl ⟨rfl, rfl⟩))), by omega, HR.out, HG.out⟩
  · have T2 := Lib.hid (pick_any _ _ 41 w2 hr2 (by omega) (by omega))
    have HG := Lib.hid hg2
    have z2 := hg2.size
    clear hr2 hg2
    have n0 : k ≠ 0 := by omega
    have n1 : k ≠ 1 := by omega
    have n2 : k ≠ 2 := by omega
    have n3 : k ≠ 3 := by omega
    go_wp2_with fail
    refine T2.out.mono ?_; rintro e w3 ⟨i, rfl, i0, i1, hr3, hg3⟩
    have T3 := Lib.hid (pick_any _ _ 41 w3 hr3 (by omega) (by omega))
    have HG3 := Lib.hid (only_trans' HG.out hg3)
    clear T2 HG hr3 hg3
    go_wp2_with fail
    refine T3.out.mono ?_; rintro e w4 ⟨j, rfl, j0, j1, hr4, hg4⟩
    have HG4 := Lib.hid (only_trans' HG3.out hg4)
    have HR := Lib.hid hr4
    clear T3 HG3 hr4 hg4
    go_wp2_with fail
    go_ret
    exact ⟨_, _, _, rfl, Or.inr (Or.inr (Or.inr (Or.inr ⟨i - 20, j - 20, by omega, by omega, by omega, by omega, rfl, rfl⟩))), by omega, HR.out, HG4.out⟩
end Go.Proofs.Ytibhlaojinedoaa
/- impl: sizes of points, which points a path may have. -/
namespace Go.Proofs.Ytibhlaojinedoaa
set_option maxRecDepth 20000
open Go.ChangeShapes Go.WideShapes Go.ChangeAt Go.RowKit
set_option linter.unusedVariables false
set_option linter.unusedSimpArgs false

/-! ### Sizes: of a NaN, of an infinity, of a number. -/
abbrev Sz := Option (Option Nat)
def clsS (x : Nat) : Sz := match Ieee.single.read x with | .nan .. => none | .infinity _ => some none | .number .. => some (some (szS x))
def mx : Sz → Sz → Sz
  | none, _ => none
  | _, none => none
  | some none, _ => some none
  | _, some none => some none
  | some (some V), some (some W) => some (some (max V W))
def upZ : Sz → Sz
  | none => none
  | some none => some none
  | some (some V) => some (some (V * 2 ^ gapSD))
/-- What a word of 64 bits without a sign stands for. -/
def ED (A : Nat) : Sz → Prop
  | none => IsN A
  | some none => Ieee.double.read A = .infinity false
  | some (some V) => FD A false V
def ES (A : Nat) : Sz → Prop
  | none => nanS A = true
  | some none => Ieee.single.read A = .infinity false
  | some (some V) => FS A false V
theorem mx_up (a b : Sz) : mx (upZ a) (upZ b) = upZ (mx a b) := by
  have hp := Nat.two_pow_pos gapSD
  rcases a with _ | _ | V <;> rcases b with _ | _ | W <;> try rfl
  simp only [mx, upZ, Option.some.injEq]
  rcases Nat.le_total V W with h | h
  · have := Nat.mul_le_mul_right (2 ^ gapSD) h
    rw [Nat.max_eq_right h, Nat.max_eq_right this]
  · have := Nat.mul_le_mul_right (2 ^ gapSD) h
    rw [Nat.max_eq_left h, Nat.max_eq_left this]
theorem d_sign : Ieee.double.signWeight = 9223372036854775808 := by decide
theorem d_inf : Ieee.double.infRung = 9218868437227405312 := by decide
theorem d_bin : Ieee.double.binade = 4503599627370496 := by decide
theorem s_sign : Ieee.single.signWeight = 2147483648 := by decide
theorem s_inf : Ieee.single.infRung = 2139095040 := by decide
theorem s_bin : Ieee.single.binade = 8388608 := by decide
theorem nanS_word (k : Nat) (h : 2139095041 ≤ k % 2147483648) : nanS k = true := by
  unfold nanS Ieee.Format.read
  rw [s_sign, s_inf, s_bin]
  simp only
  rw [if_neg (by omega), if_neg (by omega), if_neg (by omega)]
  rfl
theorem nanS_cut (q : Question) (x t : Nat) (h : q = .nanConv .f32 x) : nanS (Question.cut q t) = true := by
  subst h
  show nanS ((t % 2) * 2 ^ 31 + 0x7f800000 + 1 + (t / 2) % (2 ^ 23 - 1)) = true
  refine nanS_word _ ?_
  have h1 := Nat.mod_lt (t / 2) (show 0 < 2 ^ 23 - 1 by decide)
  have e4 : (2 : Nat) ^ 31 = 2147483648 := by decide
  have e5 : (2 : Nat) ^ 23 - 1 = 8388607 := by decide
  rw [e5] at *
  rw [e4]
  generalize t / 2 % 8388607 = a at *
  rcases (show t % 2 = 0 ∨ t % 2 = 1 by omega) with h | h <;> rw [h] <;> omega
theorem mgn_read (x : Nat) : Ieee.double.read (mgn x) = match Ieee.double.read x with | .number _ m e => .number false m e | .infinity _ => .infinity false | .nan _ t => .nan false t := by
  unfold Ieee.Format.read mgn
  rw [d_sign]
  have h3 := Nat.mod_lt x (show 0 < 9223372036854775808 by decide)
  rw [Nat.mod_mod, Nat.div_eq_of_lt h3]
  simp only
  split
  · rfl
  · split
    · rfl
    · split <;> rfl
theorem inf_read (s : Bool) : Ieee.double.read (Ieee.double.word s Ieee.double.infRung) = .infinity s := by cases s <;> decide +kernel
theorem infS_read (s : Bool) : Ieee.single.read (Ieee.single.word s Ieee.single.infRung) = .infinity s := by cases s <;> decide +kernel
/-- Widened, without its sign. -/
theorem conv_any (x : Nat) (w : World) : ∃ A w', (convert 31 30 (.float .f32 x)).run Try.prog w = .ok (.float .f64 A) w' ∧ Below w.heap.size w w' ∧ ED (mgn A) (upZ (clsS x)) := by
  unfold clsS
  cases hr : Ieee.single.read x with
  | number s m e =>
    obtain ⟨b, he, -, -⟩ := read_shape fmtS hr
    have hx : FS x s (m * 2 ^ b) := ⟨m, b, by rw [hr, he], rfl⟩
    obtain ⟨z, hz, hd⟩ := fs_wider hx
    refine ⟨z, w, run_convert_float_float w _ _ .f32 .f64 _ _ (by kernel_rfl) (by kernel_rfl) hz, Below.refl _ _, ?_⟩
    obtain ⟨m2, b2, r2, e2⟩ := hd
    rw [(fs_fin hx).2.2]
    exact ⟨m2, b2, by rw [mgn_read, r2], e2⟩
  | infinity s =>
    refine ⟨Ieee.double.word s Ieee.double.infRung, w, run_convert_float_float w _ _ .f32 .f64 _ _ (by kernel_rfl) (by kernel_rfl) ?_, Below.refl _ _, ?_⟩
    · have hd : FloatKind.f32.decode x = .infinity s := hr
      unfold floatToFloatBits
      rw [if_neg (by decide), hd]
      rfl
    · show Ieee.double.read _ = _
      rw [mgn_read, inf_read]
  | nan s t =>
    have hd : FloatKind.f32.decode x = .nan s t := hr
    have hs : (Try.prog.underlying 31) = some (.float .f32) := by kernel_rfl
    have ht : (Try.prog.underlying 30) = some (.float .f64) := by kernel_rfl
    refine ⟨Question.cut (.nanConv .f64 x) (w.tape w.drawn (.nanConv .f64 x)), w.drew, ?_, (Below.refl _ _).drew, ?_⟩
    · simp [convert, run_underlying hs, run_underlying ht, Conv.floatToFloat, hd, choose, Sem.run, Question.forced]
    · have h : IsN (Question.cut (.nanConv .f64 x) (w.tape w.drawn (.nanConv .f64 x))) := nan_cut x x _
      show IsN _
      unfold IsN at *
      rw [mgn_read]
      generalize Ieee.double.read _ = d at *
      cases d with
      | number s m e => cases h
      | infinity s => cases h
      | nan s t => rfl
theorem ed_fin_order {A B V W : Nat} (hA : FD A false V) (hB : FD B false W) : FloatKind.f64.format.order A B = some (compare (V : Int) (W : Int)) := by
  have := fv_order hA hB
  simp only [sgnd, Bool.false_eq_true, if_false] at this
  exact this
theorem ed_neg {A V : Nat} (hA : FD A false V) : (FloatKind.f64.decode A).neg = false := by
  obtain ⟨m, b, r, -⟩ := hA
  show (Ieee.double.read A).neg = false
  rw [r]; rfl
/-- The greater of two sizes. -/
theorem max_run {P : Program} {A B : Nat} {a b : Sz} (hA : ED A a) (hB : ED B b) (w : World) : ∃ C w', (∀ at' t, (Builtin.max_ at' t #[.float .f64 A, .float .f64 B]).run P w = .ok (.float .f64 C) w') ∧ Below w.heap.size w w' ∧ ED C (mx a b) := by
  have nn : ∀ (A B : Nat), (IsN A ∨ IsN B) → ∃ C w', (∀ at' t, (Builtin.max_ at' t #[.float .f64 A, .float .f64 B]).run P w = .ok (.float .f64 C) w') ∧ Below w.heap.size w w' ∧ IsN C := by
    intro A B h
    have ho : FloatKind.f64.format.order A B = none := by
      rcases h with h | h
      · exact (nan_order h B).1
      · exact (nan_order h A).2
    refine ⟨Question.cut (.nanMinMax .f64 true A B) (w.tape w.drawn (.nanMinMax .f64 true A B)), w.drew, fun at' t => ?_, (Below.refl _ _).drew, nan_cut A B _⟩
    simp [Builtin.max_, Builtin.max2, ho, choose, Sem.run, Question.forced]
  have one : ∀ (A B : Nat) (o : Ordering), FloatKind.f64.format.order A B = some o → (FloatKind.f64.decode A).neg = false → ∀ at' t, (Builtin.max_ at' t #[.float .f64 A, .float .f64 B]).run P w = .ok (.float .f64 (if o = .lt then B else A)) w := by
    intro A B o ho hn at' t
    cases o <;> simp [Builtin.max_, Builtin.max2, ho, hn]
  rcases a with _ | _ | V
  · obtain ⟨C, w', h⟩ := nn A B (.inl hA)
    exact ⟨C, w', h⟩
  · rcases b with _ | _ | W
    · obtain ⟨C, w', h⟩ := nn A B (.inr hB)
      exact ⟨C, w', h⟩
    · have hA' : Ieee.double.read A = .infinity false := hA
      have hB' : Ieee.double.read B = .infinity false := hB
      refine ⟨_, w, one A B .eq ?_ ?_, Below.refl _ _, hA⟩
      · show (Ieee.double.read A).order (Ieee.double.read B) = _
        rw [hA', hB']; rfl
      · show (Ieee.double.read A).neg = _
        rw [hA']; rfl
    · have hA' : Ieee.double.read A = .infinity false := hA
      obtain ⟨m, b, hB', -⟩ := hB
      refine ⟨_, w, one A B .gt ?_ ?_, Below.refl _ _, hA⟩
      · show (Ieee.double.read A).order (Ieee.double.read B) = _
        rw [hA', hB']; rfl
      · show (Ieee.double.read A).neg = _
        rw [hA']; rfl
  · rcases b with _ | _ | W
    · obtain ⟨C, w', h⟩ := nn A B (.inr hB)
      exact ⟨C, w', h⟩
    · have hB' : Ieee.double.read B = .infinity false := hB
      have hn := ed_neg hA
      obtain ⟨m, b, hA', -⟩ := hA
      refine ⟨_, w, one A B .lt ?_ hn, Below.refl _ _, hB⟩
      show (Ieee.double.read A).order (Ieee.double.read B) = _
      rw [hA', hB']; rfl
    · have ho := ed_fin_order hA hB
      refine ⟨_, w, one A B _ ho (ed_neg hA), Below.refl _ _, ?_⟩
      show FD _ false (max V W)
      rcases Int.lt_trichotomy (V : Int) W with h | h | h
      · rw [Int.compare_eq_lt.2 h, if_pos rfl, Nat.max_eq_right (by omega)]; exact hB
      · rw [Int.compare_eq_eq.2 h, if_neg (by decide), Nat.max_eq_left (by omega)]; exact hA
      · rw [Int.compare_eq_gt.2 h, if_neg (by decide), Nat.max_eq_left (by omega)]; exact hA
/-- A size of which a float of 32 bits can be. -/
def FitZ : Sz → Prop
  | some (some V) => rndN 23 V = V ∧ V < 2 ^ topS
  | _ => True
theorem fit_cls (x : Nat) : FitZ (clsS x) := by
  unfold clsS
  cases hr : Ieee.single.read x with
  | number s m e =>
    obtain ⟨b, he, -, -⟩ := read_shape fmtS hr
    have hx : FS x s (m * 2 ^ b) := ⟨m, b, by rw [hr, he], rfl⟩
    rw [(fs_fin hx).2.2]
    exact ⟨fs_fit hx, fs_lt hx⟩
  | infinity s => exact True.intro
  | nan s t => exact True.intro
theorem fit_mx {a b : Sz} (ha : FitZ a) (hb : FitZ b) : FitZ (mx a b) := by
  rcases a with _ | _ | V <;> rcases b with _ | _ | W <;> try exact True.intro
  show rndN 23 (max V W) = max V W ∧ max V W < 2 ^ topS
  rcases Nat.le_total V W with h | h
  · rw [Nat.max_eq_right h]; exact hb
  · rw [Nat.max_eq_left h]; exact ha
theorem narrow_pen {A : Nat} {o : Sz} (h : ED A (upZ o)) (hf : FitZ o) (w : World) : ∃ r w', (convert 30 31 (.float .f64 A)).run Try.prog w = .ok (.float .f32 r) w' ∧ Below w.heap.size w w' ∧ ES r o := by
  rcases o with _ | _ | V
  · have hn : ∃ s t, FloatKind.f64.decode A = .nan s t := by
      have h : IsN A := h
      unfold IsN at h
      show ∃ s t, Ieee.double.read A = .nan s t
      generalize Ieee.double.read A = d at *
      cases d with
      | number s m e => cases h
      | infinity s => cases h
      | nan s t => exact ⟨s, t, rfl⟩
    obtain ⟨s, t, hd⟩ := hn
    have hs : (Try.prog.underlying 31) = some (.float .f32) := by kernel_rfl
    have ht : (Try.prog.underlying 30) = some (.float .f64) := by kernel_rfl
    refine ⟨Question.cut (.nanConv .f32 A) (w.tape w.drawn (.nanConv .f32 A)), w.drew, ?_, (Below.refl _ _).drew, nanS_cut _ A _ rfl⟩
    simp [convert, run_underlying hs, run_underlying ht, Conv.floatToFloat, hd, choose, Sem.run, Question.forced]
  · have hd : FloatKind.f64.decode A = .infinity false := h
    refine ⟨Ieee.single.word false Ieee.single.infRung, w, run_convert_float_float w _ _ .f64 .f32 _ _ (by kernel_rfl) (by kernel_rfl) ?_, Below.refl _ _, infS_read false⟩
    unfold floatToFloatBits
    rw [if_neg (by decide), hd]
    rfl
  · obtain ⟨z, hz, hs⟩ := fd_narrow (V := V) h hf.1 hf.2
    exact ⟨z, w, run_convert_float_float w _ _ .f64 .f32 _ _ (by kernel_rfl) (by kernel_rfl) hz, Below.refl _ _, hs⟩
theorem pointSize_any (a b : Nat) (w : World) : Calls Try.prog 27 #[cs a b] w fun e w' => ∃ r, e = .returned (.float .f32 r) ∧ Below w.heap.size w w' ∧ ES r (mx (clsS a) (clsS b)) := by
  obtain ⟨A, w1, R1, b1, e1⟩ := conv_any a w
  obtain ⟨B, w2, R2, b2, e2⟩ := conv_any b w1
  obtain ⟨C, w3, R3, b3, e3⟩ := max_run (P := Try.prog) e1 e2 w2
  rw [mx_up] at e3
  obtain ⟨r, w4, R4, b4, e4⟩ := narrow_pen e3 (fit_mx (fit_cls a) (fit_cls b)) w3
  have HB := Lib.hid (((b1.trans (b2.mono b1.size)).trans (b3.mono (Nat.le_trans b1.size b2.size))).trans (b4.mono (Nat.le_trans b1.size (Nat.le_trans b2.size b3.size))))
  have A1 := fun w => abs_any A w
  have A2 := fun w => abs_any B w
  have HE := Lib.hid e4
  clear b1 b2 b3 b4 e1 e2 e3 e4
  unfold cs
  generalize mgn A = A' at *
  generalize mgn B = B' at *
  generalize mx (clsS a) (clsS b) = o at *
  go_enter Try.func27, Try.ntmps27
  go_wp2_with (first | rw [R1])
  refine (A1 _).mono ?_; rintro e w5 ⟨rfl, rfl⟩
  go_wp2_with (first | rw [R2])
  refine (A2 _).mono ?_; rintro e w6 ⟨rfl, rfl⟩
  go_wp2_with (first | rw [R3] | rw [R4])
  go_ret
  exact ⟨r, rfl, HB.out, HE.out⟩
end Go.Proofs.Ytibhlaojinedoaa
/- Both sides: which lists are paths. -/
namespace Go.Proofs.Ytibhlaojinedoaa
set_option maxRecDepth 20000
open Go.ChangeShapes Go.WideShapes Go.ChangeAt Go.RowKit
set_option linter.unusedVariables false
set_option linter.unusedSimpArgs false

theorem cls_cases (x : Nat) : (clsS x = none ∧ finS x = false) ∨ (clsS x = some none ∧ finS x = false) ∨ (clsS x = some (some (szS x)) ∧ finS x = true) := by
  unfold clsS finS
  cases Ieee.single.read x with
  | number s m e => exact .inr (.inr ⟨rfl, rfl⟩)
  | infinity s => exact .inr (.inl ⟨rfl, rfl⟩)
  | nan s t => exact .inl ⟨rfl, rfl⟩
theorem nan_ord32 {r : Nat} (h : nanS r = true) (y : Nat) : FloatKind.f32.format.order r y = none ∧ FloatKind.f32.format.order y r = none := by
  unfold nanS at h
  show (Ieee.single.read r).order (Ieee.single.read y) = none ∧ (Ieee.single.read y).order (Ieee.single.read r) = none
  generalize Ieee.single.read r = d at *
  generalize Ieee.single.read y = d' at *
  cases d with
  | number s m e => cases h
  | infinity s => cases h
  | nan s t => cases d' <;> exact ⟨rfl, rfl⟩
theorem cmp_leq (a b : Int) : leq (some (compare a b)) = decide (a ≤ b) := by
  unfold leq
  rcases Int.lt_trichotomy a b with h | h | h
  · rw [Int.compare_eq_lt.2 h, decide_eq_true (by omega)]; rfl
  · rw [Int.compare_eq_eq.2 h, decide_eq_true (by omega)]; rfl
  · rw [Int.compare_eq_gt.2 h, decide_eq_false (by omega)]; rfl
theorem fs_order {x y V W : Nat} {s t : Bool} (hx : FS x s V) (hy : FS y t W) : FloatKind.f32.format.order x y = some (compare (sgnd s V) (sgnd t W)) := fv_order hx hy
theorem size_leq {r a b : Nat} (h : ES r (mx (clsS a) (clsS b))) : leq (FloatKind.f32.format.order r w4096) = (inR a && inR b) := by
  have hn : nanS r = true → leq (FloatKind.f32.format.order r w4096) = false := fun h => by rw [(nan_ord32 h _).1]; rfl
  have hi : Ieee.single.read r = .infinity false → leq (FloatKind.f32.format.order r w4096) = false := fun h => by
    obtain ⟨m, b, h2, -⟩ := fs_4096
    rw [show FloatKind.f32.format.order r w4096 = (Ieee.single.read r).order (Ieee.single.read w4096) from rfl, h, h2]; rfl
  rcases cls_cases a with ⟨ha, fa⟩ | ⟨ha, fa⟩ | ⟨ha, fa⟩
  · rw [ha] at h
    rw [inR_not fa]; exact hn h
  · rw [inR_not fa]
    rw [ha] at h
    rcases cls_cases b with ⟨hb, fb⟩ | ⟨hb, fb⟩ | ⟨hb, fb⟩ <;> rw [hb] at h
    · exact hn h
    · exact hi h
    · exact hi h
  · rcases cls_cases b with ⟨hb, fb⟩ | ⟨hb, fb⟩ | ⟨hb, fb⟩ <;> rw [ha, hb] at h
    · rw [inR_not fb, Bool.and_false]; exact hn h
    · rw [inR_not fb, Bool.and_false]; exact hi h
    · have h : FS r false (max (szS a) (szS b)) := h
      rw [fs_order h fs_4096, cmp_leq]
      unfold inR
      rw [fa, fb, Bool.true_and, Bool.true_and]
      simp only [sgnd, Bool.false_eq_true, if_false]
      generalize 4096 * 2 ^ loS = L
      generalize szS a = A
      generalize szS b = B
      by_cases h1 : A ≤ L <;> by_cases h2 : B ≤ L <;> simp [h1, h2] <;> omega
theorem pointInRange_any (a : Pn) (w : World) : Calls Try.prog 17 #[cs a.1 a.2] w fun e w' => e = .returned (.bool (ptR a)) ∧ Below w.heap.size w w' := by
  have C := pointSize_any a.1 a.2 w
  obtain ⟨a, b⟩ := a
  unfold ptR
  simp only at C ⊢
  generalize cs a b = z at *
  go_enter Try.func17, Try.ntmps17
  go_wp2_with fail
  refine C.mono ?_; rintro e w2 ⟨r, rfl, hb, hr⟩
  have hq := size_leq hr
  have HB := Lib.hid hb
  unfold leq at hq
  clear C hr hb
  cases hc : FloatKind.f32.format.order r w4096 with
  | none =>
    rw [hc] at hq
    have HQ := Lib.hid hq
    clear hq
    go_wp2
    go_ret
    exact ⟨by rw [← HQ.out]; rfl, HB.out⟩
  | some o =>
    rw [hc] at hq
    have HQ := Lib.hid hq
    clear hq
    cases o <;>
    · go_wp2
      go_ret
      exact ⟨by rw [← HQ.out]; rfl, HB.out⟩

/-! ### Lists of points -/
theorem pt_cell {w : World} {g o k : Nat} {xs : List Pn} {a : Pn} (h : w.rangeAt g o (flt encC xs)) (hx : xs[k]? = some a) : w.cell? ⟨g, o + k, none⟩ = some (cs a.1 a.2) := by
  have := cells_part encC_ok h hx 0 (cs a.1 a.2) rfl
  rwa [Nat.mul_one, Nat.add_zero] at this
theorem pt_take {α : Type} {p : α → Bool} {xs : List α} {k : Nat} {a : α} (h : (xs.take k).all p = true) (ha : xs[k]? = some a) (hp : p a = true) : (xs.take (k + 1)).all p = true := by
  rw [List.take_add_one, ha, List.all_append, h]; simp [hp]
theorem pathValid_any (v : Value) (xs : List Pn) (w : World) (hv : ReadsL encC w v xs) : Calls Try.prog 33 #[v] w fun e w' => e = .returned (.bool (pvB xs)) ∧ Below w.heap.size w w' := by
  obtain ⟨p, cap, rfl, hc1, hc2, hp0, hp⟩ := hv
  simp only [maxLen] at hc2
  have HP := Lib.hid hp
  clear hp
  by_cases h1 : 1 ≤ xs.length
  · by_cases h2 : xs.length ≤ 100
    · go_enter Try.func33, Try.ntmps33
      go_wp2_with fail
      go_loopw [15] (fun i wr => ∃ k : Nat, k ≤ xs.length ∧ i = .int .i64 k ∧ (xs.take k).all ptR = true ∧ Below w.heap.size w wr) (fun i _ => xs.length - (intOf i).toNat)
      case atStart => exact ⟨0, Nat.zero_le _, rfl, rfl, Below.refl _ _⟩
      case round =>
        obtain ⟨k, hk, rfl, hall, hb⟩ := hrel
        by_cases hlt : k < xs.length
        · have hkz : (k : Int) < (xs.length : Int) := by omega
          have hk0 : (0 : Int) ≤ (k : Int) := by omega
          obtain ⟨a, ha⟩ : ∃ a, xs[k]? = some a := ⟨_, List.getElem?_eq_getElem hlt⟩
          obtain ⟨g, o, rfl, hg, hr⟩ := HP.out (by rintro rfl; have := hp0 rfl; omega)
          have c0 := pt_cell (cells_below hr hg hb) ha
          have C := fun w => pointInRange_any a w
          have HA := Lib.hid ha
          have HL := Lib.hid hall
          have HB := Lib.hid hb
          clear hr ha hall hb
          unfold cs at c0 C
          cases hq : ptR a with
          | true =>
            rw [hq] at C
            go_wp2_with fail
            refine (C _).mono ?_; rintro e w2 ⟨rfl, hb2⟩
            have HB2 := Lib.hid (HB.out.trans (hb2.mono HB.out.size))
            clear C hb2 c0
            go_wp2_with fail
            go_roundw
            case rel => exact ⟨k + 1, by omega, by go_num, pt_take HL.out HA.out hq, HB2.out⟩
            case measure => simp [intOf]; omega
          | false =>
            rw [hq] at C
            go_wp2_with fail
            refine (C _).mono ?_; rintro e w2 ⟨rfl, hb2⟩
            have HB2 := Lib.hid (HB.out.trans (hb2.mono HB.out.size))
            clear C hb2 c0
            go_wp2_with fail
            go_ret
            exact ⟨ret_bool (pvB_bad HA.out hq).symm, HB2.out⟩
        · obtain rfl : k = xs.length := by omega
          rw [List.take_length] at hall
          have HV := Lib.hid (pvB_yes h1 h2 (List.all_eq_true.1 hall))
          have HB := Lib.hid hb
          clear hb hall
          go_wp2
          go_ret
          exact ⟨ret_bool HV.out.symm, HB.out⟩
    · rw [pvB_len (by omega)]
      go_enter Try.func33, Try.ntmps33
      go_wp2
      go_ret
      exact ⟨rfl, Below.refl _ _⟩
  · rw [pvB_len (by omega)]
    have h0 : xs.length = 0 := by omega
    rw [h0]
    go_enter Try.func33, Try.ntmps33
    go_wp2
    go_ret
    exact ⟨rfl, Below.refl _ _⟩
end Go.Proofs.Ytibhlaojinedoaa
/- Contracts: whole parts of floats, WideGauss on both sides; Gaussian numbers are exact in both widths. -/
namespace Go.Proofs.Ytibhlaojinedoaa
set_option maxRecDepth 20000
open Go.ChangeShapes Go.WideShapes Go.ChangeAt Go.RowKit
set_option linter.unusedVariables false
set_option linter.unusedSimpArgs false

/-- What stands for the cut towards zero: the third of its kin. -/
def cutFn : Array Value → Sem Value := match Extern.MathFloor.rows with | [_, _, r, _] => r.2 | _ => fun a => pure (.tuple a)
/-- A word cut towards zero. -/
def trw (x : Nat) : Nat := Ieee.double.write ((Ieee.double.read x).integral .zero)
theorem arch_fine {x : Nat} (h : NN x) (w : World) : (callFunc 75 #[.float .f64 x]).run Try.prog w = .ok (.value (.float .f64 (trw x))) w := by
  rw [run_callFunc_extern (e := cutFn) Try.func75 (by kernel_rfl) (by kernel_rfl) (by kernel_rfl) (by kernel_rfl)]
  unfold NN at h
  unfold trw
  show ((match Ieee.double.read x with | .nan s t => _ | d => _ : Sem Value).run Try.prog w).andThen _ = _
  generalize Ieee.double.read x = d at *
  cases d with
  | number s m e => rfl
  | infinity s => rfl
  | nan s t => cases h
/-- What a NaN's cut is. -/
def trI (ask : Question) (d : Ieee.Datum) (x : Nat) : Sem Value :=
  match d with
  | .nan s t => if FloatKind.f64.format.quiet t = t then pure (.float .f64 x) else do
    let kept ← choose ask
    pure (.float .f64 (if kept == 1 then x else FloatKind.f64.encode (.nan s (FloatKind.f64.format.quiet t))))
  | d => pure (.float .f64 (FloatKind.f64.encode (d.integral .zero)))
theorem nan_quiet {x s t} (hr : Ieee.double.read x = .nan s t) : IsN (Ieee.double.write (.nan s (Ieee.double.quiet t))) := by
  have e1 : Ieee.double.signWeight = 9223372036854775808 := by decide
  have e2 : Ieee.double.infRung = 9218868437227405312 := by decide
  have e3 : Ieee.double.binade = 4503599627370496 := by decide
  have ht : t < 4503599627370496 ∧ 0 < t := by
    unfold Ieee.Format.read at hr
    rw [e1, e2, e3] at hr
    simp only at hr
    have hm := Nat.mod_lt x (show 0 < 9223372036854775808 by decide)
    split at hr
    · cases hr
    · split at hr
      · cases hr
      · split at hr
        · cases hr
        · injection hr with _ r1; omega
  have hq : 0 < Ieee.double.quiet t ∧ Ieee.double.quiet t < 4503599627370496 := by
    have e : Ieee.double.quiet t = t ||| 2251799813685248 := rfl
    rw [e]
    have hl : t ||| 2251799813685248 < 2 ^ 52 := Nat.or_lt_two_pow (by omega) (by decide)
    have hg : t ≤ t ||| 2251799813685248 := Nat.left_le_or
    omega
  show IsN (Ieee.double.word s (Ieee.double.infRung + Ieee.double.quiet t % Ieee.double.binade))
  rw [e2, e3, Nat.mod_eq_of_lt hq.2]
  unfold Ieee.Format.word
  rw [e1]
  refine nan_word _ ?_
  cases s <;> simp <;> omega
theorem run_ask (ask : Question) (w : World) : ∃ k w', (choose ask).run Try.prog w = .ok k w' ∧ Below w.heap.size w w' := by
  by_cases h : ask.forced = true
  · exact ⟨0, w, by simp [choose, Sem.run, h], Below.refl _ _⟩
  · exact ⟨ask.cut (w.tape w.drawn ask), w.drew, by simp [choose, Sem.run, h], (Below.refl _ _).drew⟩
theorem trI_nan {x : Nat} (h : IsN x) (ask : Question) (w : World) : ∃ y w', IsN y ∧ Below w.heap.size w w' ∧ ((trI ask (Ieee.double.read x) x).run Try.prog w).andThen (fun v w' => .ok (.value v) w') = .ok (Next.value (.float .f64 y)) w' := by
  have h0 := h
  unfold IsN at h
  have hn : ∃ s t, Ieee.double.read x = .nan s t := by
    generalize Ieee.double.read x = d at *
    cases d with
    | number s m e => cases h
    | infinity s => cases h
    | nan s t => exact ⟨s, t, rfl⟩
  obtain ⟨s, t, hr⟩ := hn
  have hnq := nan_quiet hr
  rw [hr]
  by_cases hq : FloatKind.f64.format.quiet t = t
  · refine ⟨x, w, h0, Below.refl _ _, ?_⟩
    simp only [trI, hq, if_true]; rfl
  · obtain ⟨k, w', hk, hb⟩ := run_ask ask w
    refine ⟨if k == 1 then x else FloatKind.f64.encode (.nan s (FloatKind.f64.format.quiet t)), w', ?_, hb, ?_⟩
    · by_cases h1 : (k == 1) = true
      · rw [if_pos h1]; exact h0
      · rw [if_neg h1]; exact hnq
    · simp only [trI, hq, if_false, Sem.run_bind, hk]; rfl
theorem arch_nan {x : Nat} (h : IsN x) (w : World) : ∃ y w', IsN y ∧ Below w.heap.size w w' ∧ (callFunc 75 #[.float .f64 x]).run Try.prog w = .ok (.value (.float .f64 y)) w' := by
  rw [run_callFunc_extern (e := cutFn) Try.func75 (by kernel_rfl) (by kernel_rfl) (by kernel_rfl) (by kernel_rfl)]
  exact trI_nan h _ w
theorem trunc_fine {x : Nat} (h : NN x) (w : World) : Calls Try.prog 72 #[.float .f64 x] w fun e w' => e = .returned (.float .f64 (trw x)) ∧ w' = w := by
  have F := fun w => arch_fine h w
  clear h
  generalize trw x = y at *
  go_enter Try.func72, Try.ntmps72
  go_wp2_with (rw [F])
  go_ret
  exact ⟨rfl, rfl⟩
theorem trunc_nan {x : Nat} (h : IsN x) (w : World) : Calls Try.prog 72 #[.float .f64 x] w fun e w' => ∃ y, IsN y ∧ e = .returned (.float .f64 y) ∧ Below w.heap.size w w' := by
  obtain ⟨y, w2, ny, hb, F⟩ := arch_nan h w
  clear h
  go_enter Try.func72, Try.ntmps72
  go_wp2_with (rw [F])
  go_ret
  exact ⟨y, ny, rfl, hb⟩
theorem run_int {x : Nat} {n : Int} (h : floatToIntVal .f64 x .i64 = some n) (w : World) : (convert 30 3 (.float .f64 x)).run Try.prog w = .ok (.int .i64 n) w :=
  run_convert_float_int w _ _ .f64 .i64 _ _ (by kernel_rfl) (by kernel_rfl) h
end Go.Proofs.Ytibhlaojinedoaa
