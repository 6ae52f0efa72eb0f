/-
  Both sides: boxes of paths.
  Both sides: how far two paths are from each other.
  Both sides: grid points.
  Both sides: grid points, continued.
-/
import Derived.Test.YtibhlaojinedoaaM21
import Derived.Test.YtibhlaojinedoaaM22
import Derived.Test.YtibhlaojinedoaaM12
/- Both sides: boxes of paths. -/
namespace Go.Proofs.Ytibhlaojinedoaa
set_option maxRecDepth 20000
open Go.ChangeShapes Go.WideShapes Go.ChangeAt Go.RowKit
set_option linter.unusedVariables false
set_option linter.unusedSimpArgs false

/-- The lesser word of two, the first one if they are equal; the greater one. -/
def lesW (x y : Nat) : Nat := if ivS y < ivS x then y else x
def morW (x y : Nat) : Nat := if ivS x < ivS y then y else x
def lowP (a z : Pn) : Pn := (lesW a.1 z.1, lesW a.2 z.2)
def higP (a z : Pn) : Pn := (morW a.1 z.1, morW a.2 z.2)
def lowL (xs : List Pn) : Pn := xs.foldl lowP (xs.headD (0, 0))
def higL (xs : List Pn) : Pn := xs.foldl higP (xs.headD (0, 0))
theorem lowP_self (a : Pn) : lowP a a = a := by unfold lowP lesW; rw [if_neg (Int.lt_irrefl _), if_neg (Int.lt_irrefl _)]
theorem higP_self (a : Pn) : higP a a = a := by unfold higP morW; rw [if_neg (Int.lt_irrefl _), if_neg (Int.lt_irrefl _)]
theorem ptF_parts {a : Pn} (h : ptF a = true) : finS a.1 = true ∧ finS a.2 = true := by unfold ptF at h; rwa [Bool.and_eq_true] at h
theorem ptF_mk {a : Pn} (h1 : finS a.1 = true) (h2 : finS a.2 = true) : ptF a = true := by unfold ptF; rw [h1, h2]; rfl
theorem les_fin {x y : Nat} (h1 : finS x = true) (h2 : finS y = true) : finS (lesW x y) = true := by unfold lesW; split <;> assumption
theorem mor_fin {x y : Nat} (h1 : finS x = true) (h2 : finS y = true) : finS (morW x y) = true := by unfold morW; split <;> assumption
theorem lowP_fin {a z : Pn} (h1 : ptF a = true) (h2 : ptF z = true) : ptF (lowP a z) = true := ptF_mk (les_fin (ptF_parts h1).1 (ptF_parts h2).1) (les_fin (ptF_parts h1).2 (ptF_parts h2).2)
theorem higP_fin {a z : Pn} (h1 : ptF a = true) (h2 : ptF z = true) : ptF (higP a z) = true := ptF_mk (mor_fin (ptF_parts h1).1 (ptF_parts h2).1) (mor_fin (ptF_parts h1).2 (ptF_parts h2).2)
theorem fin_order {x y : Nat} (hx : finS x = true) (hy : finS y = true) : FloatKind.f32.format.order x y = some (compare (ivS x) (ivS y)) := fs_order (fin_fs hx) (fin_fs hy)
theorem ptR_fin {a : Pn} (h : ptR a = true) : ptF a = true := ptF_mk (inR_fin (ptR_parts h).1).1 (inR_fin (ptR_parts h).2).1
theorem cmp_lt {a b : Int} (h : a < b) : compare a b = .lt := Int.compare_eq_lt.2 h
theorem cmp_ge {a b : Int} (h : ¬ a < b) : compare a b = .eq ∨ compare a b = .gt := by
  rcases Int.lt_trichotomy a b with h1 | h1 | h1
  · exact absurd h1 h
  · exact .inl (Int.compare_eq_eq.2 h1)
  · exact .inr (Int.compare_eq_gt.2 h1)
theorem cmp_gt {a b : Int} (h : b < a) : compare a b = .gt := Int.compare_eq_gt.2 h
theorem cmp_le {a b : Int} (h : ¬ b < a) : compare a b = .lt ∨ compare a b = .eq := by
  rcases Int.lt_trichotomy a b with h1 | h1 | h1
  · exact .inl (Int.compare_eq_lt.2 h1)
  · exact .inr (Int.compare_eq_eq.2 h1)
  · exact absurd h1 h
/-! ### Boxes -/
abbrev csP (a : Pn) : Value := cs a.1 a.2
/-- What is told of a list of points. -/
def bl (xs : List Pn) : Pn := if pvB xs = true then lowL xs else (0, 0)
def bh (xs : List Pn) : Pn := if pvB xs = true then higL xs else (0, 0)
end Go.Proofs.Ytibhlaojinedoaa
/- Both sides: how far two paths are from each other. -/
namespace Go.Proofs.Ytibhlaojinedoaa
set_option maxRecDepth 20000
open Go.ChangeShapes Go.WideShapes Go.ChangeAt Go.RowKit
set_option linter.unusedVariables false
set_option linter.unusedSimpArgs false

/-! ### Differences -/
theorem sz_iv (x : Nat) : (ivS x).natAbs = szS x := by unfold ivS; exact sgnd_abs _ _
theorem rnd_abs (p : Nat) (v : Int) : (rnd p v).natAbs = rndN p v.natAbs := by unfold rnd; exact sgnd_abs _ _
theorem sg_rnd (p : Nat) (T : Int) (b : Bool) : sgnd (if T = 0 then b else decide (T < 0)) (rndN p T.natAbs) = rnd p T := by
  by_cases h : T = 0
  · subst h
    rw [show (0 : Int).natAbs = 0 from rfl, rndN_zero, sgnd_zero, rnd_zero]
  · rw [if_neg h]; rfl
theorem lim_log : (8192 * 2 ^ loS).log2 + 3 ≤ 255 + 23 := by
  rw [show (8192 : Nat) = 2 ^ 13 by decide, Nat.mul_comm, log2_up (Nat.two_pow_pos _), Nat.log2_two_pow, loS_eq]; omega
theorem log_mono {a b : Nat} (h : a ≤ b) : a.log2 ≤ b.log2 := by
  rcases Nat.eq_zero_or_pos a with rfl | ha
  · rw [show Nat.log2 0 = 0 by decide]; omega
  · rw [Nat.le_log2 (by omega)]
    exact Nat.le_trans (Nat.log2_self_le (by omega)) h
theorem fits_lim {V : Nat} (h : V ≤ 8192 * 2 ^ loS) : Fits 23 255 V := fits_small (by decide) (by have := log_mono h; have := lim_log; omega)
theorem sub_in {x y : Nat} (hx : inR x = true) (hy : inR y = true) : ∃ z, floatBits .sub .f32 x y = some z ∧ finS z = true ∧ ivS z = rnd 23 (ivS x - ivS y) := by
  obtain ⟨fx, lx⟩ := inR_fin hx
  obtain ⟨fy, ly⟩ := inR_fin hy
  have gx := sz_iv x
  have gy := sz_iv y
  obtain ⟨z, hz, hv⟩ := sub_fv fmtS (fin_fs fx) (fin_fs fy) (fits_lim (by
    show (ivS x - ivS y).natAbs ≤ _
    omega))
  refine ⟨z, hz, (fs_fin hv).1, ?_⟩
  rw [fs_iv hv]
  exact sg_rnd 23 (ivS x - ivS y) _
theorem neg_in {x : Nat} (hx : finS x = true) : ∃ z, floatBits .sub .f32 0 x = some z ∧ finS z = true ∧ ivS z = - ivS x := by
  have h0 : FS 0 false 0 := ⟨0, loS - 149, by rw [show Ieee.single.read 0 = .number false 0 (-149) by decide +kernel]; congr 1; have := loS_eq; omega, by simp⟩
  have hf := fin_fs hx
  have e : (sgnd false 0 - sgnd (sgS x) (szS x)) = - ivS x := by rw [sgnd_zero]; unfold ivS; omega
  obtain ⟨z, hz, hv⟩ := sub_fv fmtS h0 hf (by
    rw [e, Int.natAbs_neg, sz_iv]
    have hl := fs_lt hf
    rw [topS_eq] at hl
    exact fits_exact (by decide) (fs_fit hf) hl)
  refine ⟨z, hz, (fs_fin hv).1, ?_⟩
  rw [fs_iv hv, sg_rnd, e, rnd_neg]
  congr 1
  have h3 : (rnd 23 (ivS x)) = sgnd (sgS x) (rndN 23 (szS x)) := by unfold ivS; exact rnd_sgnd _ _ _
  rw [h3, fs_fit hf]; rfl
/-- How far two points are from each other. -/
def farN (a b : Pn) : Nat := max (rnd 23 (ivS a.1 - ivS b.1)).natAbs (rnd 23 (ivS a.2 - ivS b.2)).natAbs
def farM (m : Nat) (p : Pn × Pn) : Nat := max m (farN p.1 p.2)
def farL (xs ys : List Pn) : Nat := (xs.zip ys).foldl farM 0
def farB (xs ys : List Pn) : Bool := pvB xs && pvB ys && (xs.length == ys.length)
theorem zip_at {xs ys : List Pn} {k : Nat} {a b : Pn} (ha : xs[k]? = some a) (hb : ys[k]? = some b) : (xs.zip ys)[k]? = some (a, b) := by
  rw [List.getElem?_zip_eq_some]; exact ⟨ha, hb⟩
theorem zip_len {xs ys : List Pn} (h : xs.length = ys.length) : (xs.zip ys).length = xs.length := by rw [List.length_zip]; omega
theorem fs_zero : FS 0 false 0 := ⟨0, loS - 149, by rw [show Ieee.single.read 0 = .number false 0 (-149) by decide +kernel]; congr 1; have := loS_eq; omega, by simp⟩
theorem s_neg {A V : Nat} (hA : FS A false V) : (FloatKind.f32.decode A).neg = false := by
  obtain ⟨m, b, r, -⟩ := hA
  show (Ieee.single.read A).neg = false
  rw [r]; rfl
theorem max32 {P : Program} {A B V W : Nat} (hA : FS A false V) (hB : FS B false W) : ∃ C, (∀ at' t w, (Builtin.max_ at' t #[.float .f32 A, .float .f32 B]).run P w = .ok (.float .f32 C) w) ∧ FS C false (max V W) := by
  have ho := fs_order hA hB
  have hn := s_neg hA
  simp only [sgnd, Bool.false_eq_true, if_false] at ho
  rcases Int.lt_trichotomy (V : Int) W with h | h | h
  · rw [Int.compare_eq_lt.2 h] at ho
    rw [Nat.max_eq_right (by omega)]
    exact ⟨B, fun at' t w => by simp [Builtin.max_, Builtin.max2, ho], hB⟩
  · rw [Int.compare_eq_eq.2 h] at ho
    rw [Nat.max_eq_left (by omega)]
    exact ⟨A, fun at' t w => by simp [Builtin.max_, Builtin.max2, ho, hn], hA⟩
  · rw [Int.compare_eq_gt.2 h] at ho
    rw [Nat.max_eq_left (by omega)]
    exact ⟨A, fun at' t w => by simp [Builtin.max_, Builtin.max2, ho], hA⟩
theorem run_csub {P : Program} {a b x y d1 d2 : Nat} (h1 : floatBits .sub .f32 a x = some d1) (h2 : floatBits .sub .f32 b y = some d2) (t : TypeId) (w : World) :
    (binOp .sub t (.complex .f32 a b) (.complex .f32 x y)).run P w = .ok (.complex .f32 d1 d2) w := run_complex_sum w .sub (Or.inr rfl) t .f32 _ _ _ _ _ _ (by unfold cSumBits; rw [h1, h2]; rfl)
theorem cls_fin {x : Nat} (h : finS x = true) : clsS x = some (some (szS x)) := by
  rcases cls_cases x with ⟨-, f⟩ | ⟨-, f⟩ | ⟨e, -⟩
  · rw [h] at f; cases f
  · rw [h] at f; cases f
  · exact e
/-- What PathFar tells. -/
def farR (xs ys : List Pn) : Nat := if farB xs ys = true then farL xs ys else 0
def ToldF (xs ys : List Pn) (w : World) (e : Ending) (w' : World) : Prop := ∃ r, e = .returned (.tuple #[.float .f32 r, .bool (farB xs ys)]) ∧ FS r false (farR xs ys) ∧ Below w.heap.size w w'
theorem farB_1 {xs ys : List Pn} (h : pvB xs = false) : farB xs ys = false := by unfold farB; rw [h]; rfl
theorem farB_2 {xs ys : List Pn} (h : pvB ys = false) : farB xs ys = false := by unfold farB; rw [h, Bool.and_false]; rfl
theorem farB_3 {xs ys : List Pn} (h : ¬ xs.length = ys.length) : farB xs ys = false := by unfold farB; rw [beq_eq_false_iff_ne.2 h, Bool.and_false]
theorem farB_yes {xs ys : List Pn} (h1 : pvB xs = true) (h2 : pvB ys = true) (h : xs.length = ys.length) : farB xs ys = true := by unfold farB; rw [h1, h2, h]; simp
theorem farR_no {xs ys : List Pn} (h : farB xs ys = false) : FS 0 false (farR xs ys) := by unfold farR; rw [if_neg (by rw [h]; decide)]; exact fs_zero
theorem farR_yes {xs ys : List Pn} (h : farB xs ys = true) : farR xs ys = farL xs ys := by unfold farR; rw [if_pos h]
end Go.Proofs.Ytibhlaojinedoaa
/- Both sides: grid points. -/
namespace Go.Proofs.Ytibhlaojinedoaa
set_option maxRecDepth 20000
open Go.ChangeShapes Go.WideShapes Go.ChangeAt Go.RowKit
set_option linter.unusedVariables false
set_option linter.unusedSimpArgs false

/-! ### Units -/
theorem rndN_twice (p V : Nat) : rndN p V ≤ 2 * V := by
  have h := (rndN_err p V).1
  have hp := Nat.two_pow_pos (p + 1)
  have h2 : V ≤ V * 2 ^ (p + 1) := Nat.le_mul_of_pos_right _ hp
  have h3 : rndN p V * 2 ^ (p + 1) ≤ 2 * V * 2 ^ (p + 1) := by rw [Nat.mul_assoc, Nat.two_mul]; omega
  exact Nat.le_of_mul_le_mul_right h3 hp
def sclW (g : Nat) : Nat := floatOfInt .f32 ((2 ^ g : Nat) : Int)
theorem nine {g : Nat} (h : g ≤ 8) : g = 0 ∨ g = 1 ∨ g = 2 ∨ g = 3 ∨ g = 4 ∨ g = 5 ∨ g = 6 ∨ g = 7 ∨ g = 8 := by omega
theorem scl_read {g : Nat} (h : g ≤ 8) : Ieee.single.read (sclW g) = .number false (2 ^ 23) ((g : Int) - ((23 : Nat) : Int)) := by
  rcases nine h with rfl | rfl | rfl | rfl | rfl | rfl | rfl | rfl | rfl <;> decide +kernel
abbrev wHalf : Nat := 1056964608
theorem fs_half : FS wHalf false (2 ^ (loS - 1)) := by
  have e := fs_const (x := wHalf) false 8388608 (loS - 24) (-24) (by decide +kernel) (by have := loS_eq; omega)
  rw [show 8388608 * 2 ^ (loS - 24) = 2 ^ (loS - 1) by
    rw [show (8388608 : Nat) = 2 ^ 23 by decide, ← Nat.pow_add]; congr 1; have := loS_eq; omega] at e
  exact e
theorem half_lo : 2 ^ loS = 2 ^ (loS - 1) * 2 := by
  have := pow_loS 1 (by omega)
  rwa [Nat.pow_one] at this
/-- The word of a part in units, with a half; what it stands for; its whole part, by floor and by cutting. -/
theorem units_words {x g : Nat} (hx : inR x = true) (hg : g ≤ 8) : ∃ u y Y Z t tw : Nat, ∃ i : Int,
    floatBits .mul .f32 x (sclW g) = some u ∧ floatBits .add .f32 u wHalf = some y ∧ floatToFloatBits .f32 y .f64 = some Y ∧ NN Y ∧ Ieee.double.write ((Ieee.double.read Y).integral .down) = Z ∧
    floatToIntVal .f64 Z .i64 = some (unI g (ivS x)) ∧ floatToIntVal .f32 y .i64 = some i ∧ (FloatKind.f32.format.order (floatOfInt .f32 i) y = some .gt → unI g (ivS x) = i - 1) ∧
    (∀ o, FloatKind.f32.format.order (floatOfInt .f32 i) y = some o → o ≠ .gt → unI g (ivS x) = i) ∧ (∃ o, FloatKind.f32.format.order (floatOfInt .f32 i) y = some o) ∧ (-4194305 ≤ i ∧ i ≤ 4194305) ∧ (-4194305 ≤ unI g (ivS x) ∧ unI g (ivS x) ≤ 4194305) := by
  obtain ⟨fx, lx⟩ := inR_fin hx
  have hG : 2 ^ g ≤ 2 ^ 8 := Nat.pow_le_pow_right (by decide) hg
  have hL := Nat.two_pow_pos loS
  have hVg : szS x * 2 ^ g ≤ 4096 * 2 ^ loS * 2 ^ 8 := Nat.mul_le_mul lx hG
  have hLs : 4096 * 2 ^ loS * 2 ^ 8 = 1048576 * 2 ^ loS := by rw [Nat.mul_right_comm]
  obtain ⟨u, hu, fu⟩ := scale_fv fmtS (fin_fs fx) (scl_read hg) (by
    have e : 1048576 * 2 ^ loS = 2 ^ (20 + loS) := by rw [Nat.pow_add]
    have h1 : 2 ^ (20 + loS) < 2 ^ topS := Nat.pow_lt_pow_right (by decide) (by rw [topS_eq, loS_eq]; omega)
    rw [← topS_eq]
    generalize 2 ^ topS = top at *
    omega)
  have hhalf := half_lo
  have hT : (sgnd (sgS x) (szS x * 2 ^ g) + sgnd false (2 ^ (loS - 1))).natAbs ≤ 1048577 * 2 ^ loS := by
    have h1 : (sgnd (sgS x) (szS x * 2 ^ g)).natAbs = szS x * 2 ^ g := sgnd_abs _ _
    have h2 : sgnd false (2 ^ (loS - 1)) = ((2 ^ (loS - 1) : Nat) : Int) := rfl
    rw [h2]
    generalize sgnd (sgS x) (szS x * 2 ^ g) = a at *
    generalize 2 ^ (loS - 1) = b at *
    generalize 2 ^ loS = c at *
    generalize szS x * 2 ^ g = d at *
    omega
  obtain ⟨y, hy, fy⟩ := add_fv fmtS fu fs_half (by
    refine fits_small (by decide) ?_
    have h1 := log_mono hT
    have h2 : (1048577 * 2 ^ loS).log2 ≤ 21 + loS := by
      have e : 1048577 * 2 ^ loS < 2 ^ (21 + loS) := by
        rw [Nat.pow_add]; exact Nat.mul_lt_mul_of_pos_right (by decide) hL
      exact Nat.le_of_lt (log_of_lt e (by omega))
    have := loS_eq
    generalize (1048577 * 2 ^ loS).log2 = l1 at *
    generalize (sgnd (sgS x) (szS x * 2 ^ g) + sgnd false (2 ^ (loS - 1))).natAbs.log2 = l2 at *
    omega)
  obtain ⟨Y, hY, fY⟩ := fs_wider fy
  -- the value
  have hv : sgnd (sgS x) (szS x * 2 ^ g) + sgnd false (2 ^ (loS - 1)) = ivS x * 2 ^ g + 2 ^ (loS - 1) := by
    unfold ivS
    rw [← cast_powI g, sgnd_mul]
    show _ + ((2 ^ (loS - 1) : Nat) : Int) = _
    rw [cast_powI]
  have hiv := fs_iv fy
  rw [sg_rnd] at hiv
  have hun : unI g (ivS x) = ivS y / 2 ^ loS := by unfold unI; rw [hiv, hv]
  obtain ⟨s, V, hs⟩ : ∃ s V, FS y s V := ⟨_, _, fy⟩
  have hV := fs_fin hs
  have hVy := fs_fin fy
  have hVl : V ≤ 2 * (1048577 * 2 ^ loS) := by
    rw [← hV.2.2, hVy.2.2]
    have := rndN_twice 23 (sgnd (sgS x) (szS x * 2 ^ g) + sgnd false (2 ^ (loS - 1))).natAbs
    omega
  have hYs : FD Y s (V * 2 ^ gapSD) := by
    rw [← hV.2.1, ← hV.2.2, hVy.2.1, hVy.2.2]; exact fY
  have hvy := fs_iv hs
  -- floor
  have hF := down_fv hYs
  have hq : V / 2 ^ loS ≤ 2097154 := by
    refine Nat.le_of_lt_succ ((Nat.div_lt_iff_lt_mul hL).2 ?_)
    generalize 2 ^ loS = L at *
    omega
  have hflo : flN loD s (V * 2 ^ gapSD) = flN loS s V := by
    unfold flN
    rw [lo_gap, Nat.pow_add, Nat.mul_div_mul_right _ _ (Nat.two_pow_pos gapSD), Nat.mul_mod_mul_right]
    have : (V % 2 ^ loS * 2 ^ gapSD != 0) = (V % 2 ^ loS != 0) := by
      have hp := Nat.two_pow_pos gapSD
      rw [Bool.eq_iff_iff]
      simp only [bne_iff_ne, ne_eq, Nat.mul_eq_zero]
      omega
    rw [this]
  have hfl := flN_eq loS s V
  have hfb : flN loS s V ≤ 2097155 := by
    unfold flN
    generalize (s && V % 2 ^ loS != 0) = b
    cases b <;> simp only [Bool.toNat_false, Bool.toNat_true] <;> omega
  have hZ : FD (Ieee.double.write ((Ieee.double.read Y).integral .down)) s (flN loS s V * 2 ^ loD) := by
    rw [hF, hflo]
    have hr : rndN 52 (flN loS s V * 2 ^ loD) = flN loS s V * 2 ^ loD := rndN_exact (by omega) _
    have h := near_fv fmtD s (flN loS s V) loD 0 (flN loS s V * 2 ^ loD) 0 (by omega) (by rw [Nat.pow_zero, Nat.mul_one]) (fits_small (by decide) (by
      have e : flN loS s V * 2 ^ loD < 2 ^ (22 + loD) := by
        rw [Nat.pow_add]; exact Nat.mul_lt_mul_of_pos_right (by omega) (Nat.two_pow_pos _)
      have := log_of_lt e (by omega)
      rw [loD_eq] at this; rw [loD_eq]; omega))
    rw [hr] at h
    exact h
  have hzI := zero_fv hZ
  rw [Nat.mul_div_cancel _ (Nat.two_pow_pos loD), hfl] at hzI
  have hvv : sgnd s V / 2 ^ loS = unI g (ivS x) := by rw [hun, hvy]
  have hub : -4194305 ≤ unI g (ivS x) ∧ unI g (ivS x) ≤ 4194305 := by
    rw [← hvv, ← hfl]
    have h1 : (sgnd s (flN loS s V)).natAbs = flN loS s V := sgnd_abs _ _
    omega
  -- cut
  have hcI := zero_fv hs
  have hcb : (sgnd s (V / 2 ^ loS)).natAbs = V / 2 ^ loS := sgnd_abs _ _
  have hmin : IntKind.i64.min = -9223372036854775808 := by decide
  have hmax : IntKind.i64.max = 9223372036854775807 := by decide
  obtain ⟨i, hi⟩ : ∃ i, i = sgnd s (V / 2 ^ loS) := ⟨_, rfl⟩
  have hib : i.natAbs = V / 2 ^ loS := by rw [hi]; exact hcb
  have hfi : FS (floatOfInt .f32 i) (decide (i < 0)) (i.natAbs * 2 ^ loS) := by
    have hr : rndN 23 i.natAbs = i.natAbs := by
      have := rndN_exact (p := 23) (n := i.natAbs) (by omega) 0
      rwa [Nat.pow_zero, Nat.mul_one] at this
    have h := int_fv fmtS i (fits_small (by decide) (by
      have e : i.natAbs * 2 ^ loS < 2 ^ (22 + loS) := by
        rw [Nat.pow_add]; exact Nat.mul_lt_mul_of_pos_right (by omega) hL
      have := log_of_lt e (by omega)
      rw [loS_eq] at this; rw [loS_eq]; omega))
    rw [hr] at h
    exact h
  have hord := fs_order hfi hs
  have hci : sgnd (decide (i < 0)) (i.natAbs * 2 ^ loS) = i * 2 ^ loS := by rw [← sgnd_mul, sgnd_of, cast_powI]
  rw [hci] at hord
  have hdm := Nat.div_add_mod V (2 ^ loS)
  have hrm := Nat.mod_lt V hL
  have hi2 : i * 2 ^ loS = sgnd s (V / 2 ^ loS * 2 ^ loS) := by rw [hi, ← cast_powI, sgnd_mul]
  have hcmt : V / 2 ^ loS * 2 ^ loS = 2 ^ loS * (V / 2 ^ loS) := Nat.mul_comm _ _
  refine ⟨u, y, Y, _, 0, 0, i, hu, hy, hY, ?_, rfl, ?_, ?_, ?_, ?_, ⟨_, hord⟩, by omega, hub⟩
  · obtain ⟨m, b, r, -⟩ := hYs
    unfold NN; rw [r]; rfl
  · unfold floatToIntVal
    have : (FloatKind.f64.decode (Ieee.double.write ((Ieee.double.read Y).integral .down))).toInt .zero = some (sgnd s V / 2 ^ loS) := hzI
    rw [this, hvv]
    simp only [hmin, hmax]
    rw [if_pos (by omega)]
  · unfold floatToIntVal
    have : (FloatKind.f32.decode y).toInt .zero = some (sgnd s (V / 2 ^ loS)) := hcI
    rw [this, ← hi]
    simp only [hmin, hmax]
    rw [if_pos (by omega)]
  · intro ho
    rw [hord, Option.some.injEq] at ho
    have hlt : sgnd s V < i * 2 ^ loS := by
      rcases Int.lt_trichotomy (i * 2 ^ loS) (sgnd s V) with h | h | h
      · rw [Int.compare_eq_lt.2 h] at ho; cases ho
      · rw [Int.compare_eq_eq.2 h] at ho; cases ho
      · exact h
    rw [← hvv, ← hfl, hi]
    unfold flN
    rw [hi2] at hlt
    cases s
    · simp only [sgnd, Bool.false_eq_true, if_false] at hlt ⊢
      omega
    · simp only [sgnd, if_true] at hlt ⊢
      have h0 : V % 2 ^ loS ≠ 0 := by omega
      rw [show (true && V % 2 ^ loS != 0) = true by simpa using h0]
      simp only [Bool.toNat_true]
      omega
  · intro o ho hne
    rw [hord, Option.some.injEq] at ho
    have hle : ¬ sgnd s V < i * 2 ^ loS := by
      intro h
      rw [Int.compare_eq_gt.2 h] at ho
      exact hne ho.symm
    rw [← hvv, ← hfl, hi]
    unfold flN
    rw [hi2] at hle
    cases s
    · simp only [Bool.false_and, Bool.toNat_false, Nat.add_zero]
    · simp only [sgnd, if_true] at hle ⊢
      have h0 : V % 2 ^ loS = 0 := by omega
      rw [h0]
      simp
end Go.Proofs.Ytibhlaojinedoaa
/- Both sides: grid points, continued. -/
namespace Go.Proofs.Ytibhlaojinedoaa
set_option maxRecDepth 20000
open Go.ChangeShapes Go.WideShapes Go.ChangeAt Go.RowKit
set_option linter.unusedVariables false
set_option linter.unusedSimpArgs false

theorem shl_g {g : Nat} (hg : g ≤ 8) : wrap64 (2 ^ min g 64) = ((2 ^ g : Nat) : Int) := by
  rcases nine hg with rfl | rfl | rfl | rfl | rfl | rfl | rfl | rfl | rfl <;> unfold wrap64 <;> decide
theorem scale_any (g : Nat) (hg : g ≤ 8) (w : World) : Calls Try.prog 37 #[.int .i64 g] w fun e w' => e = .returned (.float .f32 (sclW g)) ∧ w = w' := by
  unfold sclW
  rw [← shl_g hg]
  clear hg
  go_enter Try.func37, Try.ntmps37
  go_wp2
  go_ret
  exact ⟨rfl, rfl⟩
/-- What stands for the floor: the first of its kin. -/
def downFn : Array Value → Sem Value := match Extern.MathFloor.rows with | [r, _, _, _] => r.2 | _ => fun a => pure (.tuple a)
theorem archFloor_fine {x : Nat} (h : NN x) (w : World) : (callFunc 50 #[.float .f64 x]).run Try.prog w = .ok (.value (.float .f64 (Ieee.double.write ((Ieee.double.read x).integral .down)))) w := by
  rw [run_callFunc_extern (e := downFn) Try.func50 (by kernel_rfl) (by kernel_rfl) (by kernel_rfl) (by kernel_rfl)]
  unfold NN at h
  show ((match Ieee.double.read x with | .nan s t => _ | d => _ : Sem Value).run Try.prog w).andThen _ = _
  generalize Ieee.double.read x = d at *
  cases d with
  | number s m e => rfl
  | infinity s => rfl
  | nan s t => cases h
theorem floor_fine {x z : Nat} (h : NN x) (hz : Ieee.double.write ((Ieee.double.read x).integral .down) = z) (w : World) : Calls Try.prog 38 #[.float .f64 x] w fun e w' => e = .returned (.float .f64 z) ∧ w' = w := by
  have F := fun w => archFloor_fine h w
  rw [hz] at F
  clear h hz
  go_enter Try.func38, Try.ntmps38
  go_wp2_with (rw [F])
  go_ret
  exact ⟨rfl, rfl⟩
theorem wholeUnits_any (g x : Nat) (hg : g ≤ 8) (hx : inR x = true) (w : World) : Calls Try.prog 28 #[.int .i64 g, .float .f32 x] w fun e w' => e = .returned (.int .i64 (unI g (ivS x))) ∧ w = w' := by
  obtain ⟨u, y, Y, Z, -, -, i, h1, h2, h3, h4, h5, h6, -⟩ := units_words hx hg
  have S := fun w => scale_any g hg w
  have F := fun w => floor_fine h4 h5 w
  have R1 : ∀ t w, (binOp .mul t (.float .f32 x) (.float .f32 (sclW g))).run Try.prog w = .ok (.float .f32 u) w := fun t w => run_float_arith w .mul t .f32 _ _ _ h1
  have R2 : ∀ t w, (binOp .add t (.float .f32 u) (.float .f32 wHalf)).run Try.prog w = .ok (.float .f32 y) w := fun t w => run_float_arith w .add t .f32 _ _ _ h2
  have R3 : ∀ w, (convert 31 30 (.float .f32 y)).run Try.prog w = .ok (.float .f64 Y) w := fun w => run_convert_float_float w _ _ .f32 .f64 _ _ (by kernel_rfl) (by kernel_rfl) h3
  have R4 := fun w => run_int h6 w
  clear h1 h2 h3 h4 h5 h6 hx
  generalize unI g (ivS x) = n at *
  generalize sclW g = sc at *
  go_enter Try.func28, Try.ntmps28
  go_wp2_with fail
  refine (S _).mono ?_; rintro e w2 ⟨rfl, rfl⟩
  go_wp2_with (first | rw [R1] | rw [R2] | rw [R3])
  refine (F _).mono ?_; rintro e w3 ⟨rfl, rfl⟩
  go_wp2_with (first | rw [R4])
  go_ret
  exact ⟨rfl, rfl⟩
theorem run_int32 {x : Nat} {n : Int} (h : floatToIntVal .f32 x .i64 = some n) (w : World) : (convert 31 3 (.float .f32 x)).run Try.prog w = .ok (.int .i64 n) w :=
  run_convert_float_int w _ _ .f32 .i64 _ _ (by kernel_rfl) (by kernel_rfl) h
theorem specUnits_any (g x : Nat) (hg : g ≤ 8) (hx : inR x = true) (w : World) : Calls Try.prog 29 #[.float .f32 x, .int .i64 g] w fun e w' => e = .returned (.int .i64 (unI g (ivS x))) ∧ w = w' := by
  obtain ⟨u, y, Y, Z, -, -, i, h1, h2, h3, h4, h5, h6, h7, h8, h9, ⟨o, ho⟩, hi, -⟩ := units_words hx hg
  have R1 : ∀ t w, (binOp .mul t (.float .f32 x) (.float .f32 (sclW g))).run Try.prog w = .ok (.float .f32 u) w := fun t w => run_float_arith w .mul t .f32 _ _ _ h1
  have R2 : ∀ t w, (binOp .add t (.float .f32 u) (.float .f32 wHalf)).run Try.prog w = .ok (.float .f32 y) w := fun t w => run_float_arith w .add t .f32 _ _ _ h2
  have R4 := fun w => run_int32 h7 w
  have wi : IntKind.i64.wrap (i - 1) = i - 1 := by rw [IntKind.wrap_i64]; omega
  unfold sclW at R1
  rw [← shl_g hg] at R1
  clear h1 h2 h3 h4 h5 h6 h7 hx hg
  cases o with
  | gt =>
    have h8 := h8 ho
    rw [h8]
    clear h8 h9
    go_enter Try.func29, Try.ntmps29
    go_wp2_with (first | rw [R1] | rw [R2] | rw [R4])
    go_ret
    exact ⟨rfl, rfl⟩
  | lt =>
    have h8 := h9 _ ho (by decide)
    rw [h8]
    clear h8 h9
    go_enter Try.func29, Try.ntmps29
    go_wp2_with (first | rw [R1] | rw [R2] | rw [R4])
    go_ret
    exact ⟨rfl, rfl⟩
  | eq =>
    have h8 := h9 _ ho (by decide)
    rw [h8]
    clear h8 h9
    go_enter Try.func29, Try.ntmps29
    go_wp2_with (first | rw [R1] | rw [R2] | rw [R4])
    go_ret
    exact ⟨rfl, rfl⟩
/-! ### Moves as values -/
def mvV (m : Mv) : Value := .agg #[.int .i64 m.1, .int .i64 m.2]
theorem mv_lies (w : World) (o : Obj) : Below w.heap.size w (w.alloc o) := (Below.refl _ _).alloc (Nat.le_refl _) _
theorem mv_two (w : World) (o : Obj) (u v : Value) : Below w.heap.size w (((w.alloc o).setCell ⟨w.heap.size, 0, none⟩ u).setCell ⟨w.heap.size, 1, none⟩ v) := ((mv_lies w o).setCell (p := ⟨w.heap.size, 0, none⟩) (Nat.le_refl _) _).setCell (p := ⟨w.heap.size, 1, none⟩) (Nat.le_refl _) _
theorem nearest_any (g : Nat) (a : Pn) (hg : g ≤ 8) (ha : ptR a = true) (w : World) : Calls Try.prog 19 #[.int .i64 g, csP a] w fun e w' => e = .returned (mvV (gpt g a)) ∧ Below w.heap.size w w' := by
  have U1 := fun w => wholeUnits_any g a.1 hg (ptR_parts ha).1 w
  have U2 := fun w => wholeUnits_any g a.2 hg (ptR_parts ha).2 w
  unfold mvV gpt
  unfold csP cs
  clear ha hg
  generalize unI g (ivS a.1) = p at *
  generalize unI g (ivS a.2) = q at *
  go_enter Try.func19, Try.ntmps19
  go_wp2_with fail
  refine (U1 _).mono ?_; rintro e w2 ⟨rfl, rfl⟩
  go_wp2_with fail
  refine (U2 _).mono ?_; rintro e w2 ⟨rfl, rfl⟩
  go_wp2_with fail
  simp [bodyPost, results, Try.results19, go_sem]
  exact mv_lies _ _
theorem specGrid_any (g : Nat) (a : Pn) (hg : g ≤ 8) (ha : ptR a = true) (w : World) : Calls Try.prog 22 #[csP a, .int .i64 g] w fun e w' => e = .returned (mvV (gpt g a)) ∧ Below w.heap.size w w' := by
  have U1 := fun w => specUnits_any g a.1 hg (ptR_parts ha).1 w
  have U2 := fun w => specUnits_any g a.2 hg (ptR_parts ha).2 w
  unfold mvV gpt
  unfold csP cs
  clear ha hg
  generalize unI g (ivS a.1) = p at *
  generalize unI g (ivS a.2) = q at *
  go_enter Try.func22, Try.ntmps22
  go_wp2_with fail
  refine (U1 _).mono ?_; rintro e w2 ⟨rfl, rfl⟩
  go_wp2_with fail
  refine (U2 _).mono ?_; rintro e w2 ⟨rfl, rfl⟩
  go_wp2_with fail
  simp [bodyPost, results, Try.results22, go_sem]
  exact mv_lies _ _
/-- A grid's halvings. -/
def grB (g : Int) : Bool := decide (0 ≤ g ∧ g ≤ 8)
theorem gridValid_any (g : Int) (w : World) : Calls Try.prog 18 #[.int .i64 g] w fun e w' => e = .returned (.bool (grB g)) ∧ w = w' := by
  unfold grB
  by_cases h1 : 0 ≤ g
  · by_cases h2 : g ≤ 8
    · rw [decide_eq_true ⟨h1, h2⟩]
      go_enter Try.func18, Try.ntmps18
      go_wp2
      go_ret
      exact ⟨rfl, rfl⟩
    · rw [decide_eq_false (fun h => h2 h.2)]
      go_enter Try.func18, Try.ntmps18
      go_wp2
      go_ret
      exact ⟨rfl, rfl⟩
  · rw [decide_eq_false (fun h => h1 h.1)]
    go_enter Try.func18, Try.ntmps18
    go_wp2
    go_ret
    exact ⟨rfl, rfl⟩
theorem grB_yes {g : Int} (h : grB g = true) : ∃ n : Nat, g = n ∧ n ≤ 8 := by
  unfold grB at h
  rw [decide_eq_true_iff] at h
  exact ⟨g.toNat, by omega, by omega⟩
theorem specIn_grid (g : Int) (w : World) : Calls Try.prog 21 #[.int .i64 g, .int .i64 0, .int .i64 8] w fun e w' => e = .returned (.bool (grB g)) ∧ w = w' := by
  unfold grB
  by_cases h : 0 ≤ g ∧ g ≤ 8
  · rw [decide_eq_true h]; exact in_yes g 0 8 h.1 h.2 w
  · rw [decide_eq_false h]; exact in_no g 0 8 (by omega) w
/-- What GridPoint tells. -/
def gpB (a : Pn) (g : Int) : Bool := ptR a && grB g
def gpM (a : Pn) (g : Int) : Mv := if gpB a g = true then gpt g.toNat a else (0, 0)
theorem gpM_no {a : Pn} {g : Int} (h : gpB a g = false) : mvV (gpM a g) = .agg #[.int .i64 0, .int .i64 0] := by unfold gpM; rw [if_neg (by rw [h]; decide)]; rfl
theorem gpM_yes {a : Pn} {n : Nat} (h : gpB a n = true) : gpM a n = gpt n a := by unfold gpM; rw [if_pos h]; rfl
/-- A struct's variable behind calls: what it holds, that it may be written, what it holds then. -/
theorem res_facts {w w2 : World} {T : TypeId} (hb : Below (w.alloc (.cells #[.int .i64 0, .int .i64 0] T)).heap.size (w.alloc (.cells #[.int .i64 0, .int .i64 0] T)) w2) (p q : Int) :
    (w2.frozen? ⟨w.heap.size, 0, none⟩ = false ∧ w2.frozen? ⟨w.heap.size, 1, none⟩ = false ∧ w2.cell? ⟨w.heap.size, 0, none⟩ = some (.int .i64 0) ∧ w2.cell? ⟨w.heap.size, 1, none⟩ = some (.int .i64 0)) ∧
    (w2.setCell ⟨w.heap.size, 0, none⟩ (.int .i64 p)).cell? ⟨w.heap.size, 0, none⟩ = some (.int .i64 p) ∧ ((w2.setCell ⟨w.heap.size, 0, none⟩ (.int .i64 p)).setCell ⟨w.heap.size, 1, none⟩ (.int .i64 q)).cell? ⟨w.heap.size, 1, none⟩ = some (.int .i64 q) := by
  have RR : RowAt w2 w.heap.size 2 T nul := (RowAt.newAt rfl rfl : RowAt (w.alloc (.cells #[.int .i64 0, .int .i64 0] T)) w.heap.size 2 T nul).below hb
  have S0 := RR.set (k := 0) (by decide) p
  have S1 := S0.set (k := 1) (by decide) q
  exact ⟨⟨RR.free 0, RR.free 1, RR.cell (k := 0) (by decide), RR.cell (k := 1) (by decide)⟩, S0.cell (k := 0) (by decide), S1.cell (k := 1) (by decide)⟩
set_option maxHeartbeats 1000000 in
theorem GridPoint_any (a : Pn) (g : Int) (w : World) : Calls Try.prog 6 #[csP a, .int .i64 g] w fun e w' => e = .returned (.tuple #[mvV (gpM a g), .bool (gpB a g)]) ∧ Below w.heap.size w w' := by
  have C := fun w => pointInRange_any a w
  have G := fun w => gridValid_any g w
  cases h1 : ptR a with
  | false =>
    have hf : gpB a g = false := by unfold gpB; rw [h1]; rfl
    rw [hf, gpM_no hf]
    rw [h1] at C
    clear G h1 hf
    unfold csP cs at *
    go_enter Try.func6, Try.ntmps6
    go_wp2_with fail
    refine (C _).mono ?_; rintro e w2 ⟨rfl, hb⟩
    have HB := Lib.hid (below_next (mv_lies w _) hb)
    obtain ⟨⟨K0, K1, K2, K3⟩, K4, K5⟩ := res_facts hb 0 0
    clear C hb
    go_wp2_with fail
    simp [K4, K5, bodyPost, results, Try.results6, go_sem]
    exact (HB.out.setCell (p := ⟨w.heap.size, 0, none⟩) (Nat.le_refl _) _).setCell (p := ⟨w.heap.size, 1, none⟩) (Nat.le_refl _) _
  | true =>
    cases h2 : grB g with
    | false =>
      have hf : gpB a g = false := by unfold gpB; rw [h1, h2]; rfl
      rw [hf, gpM_no hf]
      rw [h1] at C
      rw [h2] at G
      clear h1 h2 hf
      unfold csP cs at *
      go_enter Try.func6, Try.ntmps6
      go_wp2_with fail
      refine (C _).mono ?_; rintro e w2 ⟨rfl, hb⟩
      have HB := Lib.hid (below_next (mv_lies w _) hb)
      obtain ⟨⟨K0, K1, K2, K3⟩, K4, K5⟩ := res_facts hb 0 0
      clear C hb
      go_wp2_with fail
      refine (G _).mono ?_; rintro e w2 ⟨rfl, rfl⟩
      go_wp2_with fail
      simp [K4, K5, bodyPost, results, Try.results6, go_sem]
      exact (HB.out.setCell (p := ⟨w.heap.size, 0, none⟩) (Nat.le_refl _) _).setCell (p := ⟨w.heap.size, 1, none⟩) (Nat.le_refl _) _
    | true =>
      obtain ⟨n, rfl, hn⟩ := grB_yes h2
      have hf : gpB a n = true := by unfold gpB; rw [h1, h2]; rfl
      rw [hf, gpM_yes hf]
      rw [h1] at C
      rw [h2] at G
      have N := fun w => nearest_any n a hn h1 w
      clear h1 h2 hf
      unfold mvV at *
      unfold csP cs at *
      generalize (gpt n a).1 = p at *
      generalize (gpt n a).2 = q at *
      go_enter Try.func6, Try.ntmps6
      go_wp2_with fail
      refine (C _).mono ?_; rintro e w2 ⟨rfl, hb⟩
      have HB := Lib.hid (below_next (mv_lies w _) hb)
      have HBB := Lib.hid hb
      clear C hb
      go_wp2_with fail
      refine (G _).mono ?_; rintro e w2 ⟨rfl, rfl⟩
      go_wp2_with fail
      refine (N _).mono ?_; rintro e w3 ⟨rfl, hb3⟩
      have HB3 := Lib.hid (below_next HB.out hb3)
      obtain ⟨⟨K0, K1, K2, K3⟩, K4, K5⟩ := res_facts (below_next HBB.out hb3) p q
      clear N hb3 HBB
      go_wp2_with fail
      simp [K4, K5, bodyPost, results, Try.results6, go_sem]
      exact (HB3.out.setCell (p := ⟨w.heap.size, 0, none⟩) (Nat.le_refl _) _).setCell (p := ⟨w.heap.size, 1, none⟩) (Nat.le_refl _) _
end Go.Proofs.Ytibhlaojinedoaa
