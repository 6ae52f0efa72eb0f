/-
  Grid points in floats of 64 bits: what the law FnGrid reckons of one part.
  Both sides: lengths of moves.
  impl: directions of moves.
  impl: tidy moves.
-/
import Derived.Test.YtibhlaojinedoaaM27
import Derived.Test.YtibhlaojinedoaaM26
import Derived.Test.YtibhlaojinedoaaM22
import Derived.Test.YtibhlaojinedoaaM01
import Derived.OrdersHeld
/- Grid points in floats of 64 bits: what the law FnGrid reckons of one part. -/
namespace Go.Proofs.Ytibhlaojinedoaa
set_option maxRecDepth 20000
set_option linter.unusedVariables false
set_option linter.unusedSimpArgs false
open Ieee

abbrev w07 : Nat := 4604480259023595110
theorem fd_07 : FD w07 false (6305039478318694 * 2 ^ (loD - 53)) := ⟨6305039478318694, loD - 53, by rw [loD_eq]; decide +kernel, rfl⟩
def sclD (g : Nat) : Nat := floatOfInt .f64 ((2 ^ g : Nat) : Int)
theorem sclD_read {g : Nat} (h : g ≤ 8) : double.read (sclD g) = .number false (2 ^ 52) ((g : Int) - ((52 : Nat) : Int)) := by
  rcases nine h with rfl | rfl | rfl | rfl | rfl | rfl | rfl | rfl | rfl <;> decide +kernel
theorem fdNil : FD 0 false 0 := ⟨0, 0, by rw [loD_eq]; decide +kernel, rfl⟩
theorem fd_int {n : Int} (h : -100000000 ≤ n ∧ n ≤ 100000000) : FD (floatOfInt .f64 n) (decide (n < 0)) (n.natAbs * 2 ^ loD) := by
  have hr : rndN 52 n.natAbs = n.natAbs := by
    have := rndN_exact (p := 52) (n := n.natAbs) (by omega) 0
    rwa [Nat.pow_zero, Nat.mul_one] at this
  have h := int_fv fmtD n (fits_small (by decide) (by
    have e : n.natAbs * 2 ^ loD < 2 ^ (27 + loD) := by
      rw [Nat.pow_add]; exact Nat.mul_lt_mul_of_pos_right (by omega) (Nat.two_pow_pos _)
    have := log_of_lt e (by omega)
    rw [loD_eq] at this; rw [loD_eq]; omega))
  rw [hr] at h
  exact h
theorem wdW_fdG {x V : Nat} {s : Bool} (h : FS x s V) : floatToFloatBits .f32 x .f64 = some (wdW x) ∧ FD (wdW x) s (V * 2 ^ gapSD) := by
  obtain ⟨z, hz, hd⟩ := fs_wider h
  have e : wdW x = z := by unfold wdW; rw [hz]; rfl
  rw [e]; exact ⟨hz, hd⟩
theorem fits_off {N : Nat} (h : N ≤ 2 ^ (24 + loD)) : Fits 52 2047 N := by
  refine fits_small (by decide) ?_
  have h1 := log_mono h
  rw [Nat.log2_two_pow] at h1
  rw [loD_eq] at h1
  omega
/-- What is left of a float's multiple beside its grid point, in floats of 64 bits. -/
theorem grid_words {r g : Nat} (hx : inR r = true) (hg : g ≤ 8) : ∃ M x p q : Nat, ∃ t : Int, ∃ o o2 : Ordering,
    floatBits .mul .f64 (wdW r) (sclD g) = some M ∧ floatBits .sub .f64 M (floatOfInt .f64 (unI g (ivS r))) = some x ∧ floatBits .sub .f64 x 0 = some p ∧ floatBits .sub .f64 0 x = some q ∧
    FloatKind.f64.format.order p w07 = some .lt ∧ FloatKind.f64.format.order q w07 = some .lt ∧ FloatKind.f64.format.order x 0 = some o ∧ floatToIntVal .f32 r .i64 = some t ∧
    FloatKind.f64.format.order (wdW r) (floatOfInt .f64 t) = some o2 ∧ (o = .eq ∨ o2 ≠ .eq) := by
  obtain ⟨fx, lx⟩ := inR_fin hx
  have hfs := fin_fs fx
  obtain ⟨-, hd⟩ := wdW_fdG hfs
  obtain ⟨-, -, -, -, -, -, -, -, -, -, -, -, -, -, -, -, -, -, hX⟩ := units_words hx hg
  have hiv : ivS r = sgnd (sgS r) (szS r) := rfl
  have hG : 2 ^ g ≤ 2 ^ 8 := Nat.pow_le_pow_right (by decide) hg
  have hgl := lo_gap
  have hgap := Nat.two_pow_pos gapSD
  have hVg : szS r * 2 ^ gapSD * 2 ^ g ≤ 1048576 * 2 ^ loD := by
    have h1 : szS r * 2 ^ gapSD ≤ 4096 * 2 ^ loS * 2 ^ gapSD := Nat.mul_le_mul_right _ lx
    have h2 := Nat.mul_le_mul h1 hG
    have e : 4096 * 2 ^ loS * 2 ^ gapSD * 2 ^ 8 = 1048576 * 2 ^ loD := by rw [hgl, Nat.pow_add]; generalize 2 ^ loS = A; generalize 2 ^ gapSD = B; simp only [Nat.mul_assoc, Nat.mul_left_comm, Nat.mul_comm]
    omega
  obtain ⟨M, hM, fM⟩ := scale_fv fmtD hd (sclD_read hg) (by
    have e : 1048576 * 2 ^ loD = 2 ^ (20 + loD) := by rw [Nat.pow_add]
    have h1 : 2 ^ (20 + loD) < 2 ^ topD := Nat.pow_lt_pow_right (by decide) (by rw [topD_eq, loD_eq]; omega)
    rw [← topD_eq]
    generalize 2 ^ topD = top at *
    omega)
  have fX := fd_int (n := unI g (ivS r)) (by omega)
  -- the difference
  have hD : sgnd (sgS r) (szS r * 2 ^ gapSD * 2 ^ g) - sgnd (decide (unI g (ivS r) < 0)) ((unI g (ivS r)).natAbs * 2 ^ loD) = offI g (ivS r) * 2 ^ gapSD := by
    have a1 : sgnd (sgS r) (szS r * 2 ^ gapSD * 2 ^ g) = ivS r * 2 ^ gapSD * 2 ^ g := by rw [← sgnd_mul, ← sgnd_mul, cast_powI, cast_powI, hiv]
    have a2 : sgnd (decide (unI g (ivS r) < 0)) ((unI g (ivS r)).natAbs * 2 ^ loD) = unI g (ivS r) * 2 ^ loD := by rw [← sgnd_mul, sgnd_of, cast_powI]
    unfold offI
    rw [a1, a2, Int.sub_mul, hgl, Int.pow_add, Int.mul_right_comm, Int.mul_assoc (unI g (ivS r))]
  have hVi : ((szS r : Nat) : Int) ≤ 4096 * 2 ^ loS := by
    have h := Int.ofNat_le.2 lx
    rw [Int.natCast_mul, cast_powI] at h
    exact h
  have hon := off_near hg (v := ivS r) (by
    rw [hiv]; cases sgS r <;> simp only [sgnd, if_true, Bool.false_eq_true, if_false] <;> omega) (by
    rw [hiv]; cases sgS r <;> simp only [sgnd, if_true, Bool.false_eq_true, if_false] <;> omega)
  obtain ⟨N, hN⟩ : ∃ N, N = (offI g (ivS r) * 2 ^ gapSD).natAbs := ⟨_, rfl⟩
  have hN2 : N = (offI g (ivS r)).natAbs * 2 ^ gapSD := by rw [hN, Int.natAbs_mul, Int.natAbs_pow]; rfl
  have hN8 : 8 * N ≤ 5 * 2 ^ loD := by
    rw [hN2, hgl, Nat.pow_add, ← Nat.mul_assoc, ← Nat.mul_assoc]
    refine Nat.mul_le_mul_right _ ?_
    rw [← cast_powI] at hon
    omega
  have hfit : Fits 52 2047 N := fits_off (by rw [Nat.pow_add]; omega)
  obtain ⟨x, hxs, fxx⟩ := sub_fv fmtD fM fX (by rw [hD, ← hN]; exact hfit)
  rw [hD, ← hN] at fxx
  generalize (if offI g (ivS r) * 2 ^ gapSD = 0 then sgS r && !decide (unI g (ivS r) < 0) else decide (offI g (ivS r) * 2 ^ gapSD < 0)) = sx at fxx
  -- its size
  have hR := rndN_err 52 N
  obtain ⟨R, hRr⟩ : ∃ R, R = rndN 52 N := ⟨_, rfl⟩
  rw [← hRr] at hR fxx
  have hfitR : rndN 52 R = R := fv_fit fmtD fxx
  have h53 : (2 : Nat) ^ (52 + 1) = 9007199254740992 := by decide
  rw [h53] at hR
  have hL53 : (2 : Nat) ^ loD = 9007199254740992 * 2 ^ (loD - 53) := by
    rw [← h53, ← Nat.pow_add]; congr 1; rw [loD_eq]
  rw [hL53] at hN8
  have hQ0 := Nat.two_pow_pos (loD - 53)
  have hRlt : R < 6305039478318694 * 2 ^ (loD - 53) := by
    generalize 2 ^ (loD - 53) = Q at *
    omega
  have fitR : Fits 52 2047 R := fits_off (by rw [Nat.pow_add, hL53]; generalize 2 ^ (loD - 53) = Q at *; omega)
  have e1 : sgnd sx R - sgnd false 0 = sgnd sx R := by rw [sgnd_zero]; omega
  have e2 : sgnd false 0 - sgnd sx R = sgnd (!sx) R := by rw [sgnd_zero, sgnd_neg]; omega
  obtain ⟨p, hp, fp⟩ := sub_fv fmtD fxx fdNil (by rw [e1, sgnd_abs]; exact fitR)
  obtain ⟨q, hq, fq⟩ := sub_fv fmtD fdNil fxx (by rw [e2, sgnd_abs]; exact fitR)
  rw [e1, sgnd_abs, hfitR] at fp
  rw [e2, sgnd_abs, hfitR] at fq
  have lt07 : ∀ (y : Nat) (s : Bool), FD y s R → FloatKind.f64.format.order y w07 = some .lt := fun y s hy => by
    have := fv_order hy fd_07
    rw [show FloatKind.f64.format.order y w07 = double.order y w07 from rfl, this, Int.compare_eq_lt.2]
    generalize 6305039478318694 * 2 ^ (loD - 53) = B at *
    cases s <;> simp only [sgnd, if_true, Bool.false_eq_true, if_false] <;> omega
  -- the whole part
  have hc := zero_fv hfs
  have hVE : szS r / 2 ^ loS ≤ 4096 := Nat.div_le_of_le_mul (by rw [Nat.mul_comm]; exact lx)
  obtain ⟨t, ht⟩ : ∃ t, t = sgnd (sgS r) (szS r / 2 ^ loS) := ⟨_, rfl⟩
  have htb : t.natAbs = szS r / 2 ^ loS := by rw [ht, sgnd_abs]
  have ft := fd_int (n := t) (by omega)
  have o2 := fv_order hd ft
  have ht2 : sgnd (decide (t < 0)) (t.natAbs * 2 ^ loD) = t * 2 ^ loD := by rw [← sgnd_mul, sgnd_of, cast_powI]
  rw [ht2] at o2
  have o0 := fv_order fxx fdNil
  refine ⟨M, x, p, q, t, _, _, hM, hxs, hp, hq, lt07 p _ fp, lt07 q _ fq, o0, ?_, o2, ?_⟩
  · unfold floatToIntVal
    have : (FloatKind.f32.decode r).toInt .zero = some (sgnd (sgS r) (szS r / 2 ^ loS)) := hc
    rw [this, ← ht]
    simp only [show IntKind.i64.min = -9223372036854775808 by decide, show IntKind.i64.max = 9223372036854775807 by decide]
    rw [if_pos (by omega)]
  · by_cases hw : szS r % 2 ^ loS = 0
    · left
      have hq : ivS r = t * 2 ^ loS := by
        have hdm := Nat.div_add_mod (szS r) (2 ^ loS)
        rw [hw, Nat.add_zero] at hdm
        rw [hiv, ht, ← cast_powI, sgnd_mul, Nat.mul_comm (szS r / 2 ^ loS), hdm]
      have h0 : offI g (ivS r) = 0 := by rw [hq]; exact off_whole hg (by omega) (by omega)
      have hN0 : N = 0 := by rw [hN, h0, Int.zero_mul]; rfl
      have hR0 : R = 0 := by rw [hRr, hN0, rndN_zero]
      rw [hR0, sgnd_zero, sgnd_zero]
      exact Int.compare_eq_eq.2 rfl
    · right
      intro he
      have he := Int.compare_eq_eq.1 he
      apply hw
      have hgI := two_powI gapSD
      rw [ht, hgl, Nat.add_comm, Int.pow_add, ← Int.mul_assoc, Int.mul_right_comm] at he
      rw [← sgnd_mul, cast_powI] at he
      have h3 := Int.eq_of_mul_eq_mul_right (by omega) he
      rw [← cast_powI, sgnd_mul] at h3
      have h4 := congrArg Int.natAbs h3
      rw [sgnd_abs, sgnd_abs] at h4
      rw [h4]
      exact Nat.mul_mod_left _ _
end Go.Proofs.Ytibhlaojinedoaa
/- Both sides: lengths of moves. -/
namespace Go.Proofs.Ytibhlaojinedoaa
set_option maxRecDepth 20000
open Go.ChangeShapes Go.WideShapes Go.ChangeAt Go.RowKit
set_option linter.unusedVariables false
set_option linter.unusedSimpArgs false

theorem max_size (a : Int) : max a (-a) = ((a.natAbs : Nat) : Int) := by omega
def lenO (xs : List Mv) : Int := if mvB xs = true then lensM xs else -1
theorem lensM_big {xs : List Mv} (h : ∀ y ∈ xs, big y ≤ 10000000) : ∀ k, k ≤ xs.length → 0 ≤ lensM (xs.take k) ∧ lensM (xs.take k) ≤ 20000000 * (k : Int)
  | 0, _ => by simp [lensM]
  | k + 1, hk => by
    obtain ⟨a, ha⟩ : ∃ a, xs[k]? = some a := ⟨_, List.getElem?_eq_getElem (by omega)⟩
    rw [lensM_next ha]
    have h1 := lensM_big h k (by omega)
    have h2 := h a (List.mem_of_getElem? ha)
    unfold big at h2
    unfold lenM
    omega
end Go.Proofs.Ytibhlaojinedoaa
/- impl: directions of moves. -/
namespace Go.Proofs.Ytibhlaojinedoaa
set_option maxRecDepth 20000
open Go.ChangeShapes Go.WideShapes Go.ChangeAt Go.RowKit
set_option linter.unusedVariables false
set_option linter.unusedSimpArgs false

theorem eq_two (a b x y : Int) (w : World) :
    (Op.equalIn 10000 27 (.agg #[.int .i64 a, .int .i64 b]) (.agg #[.int .i64 x, .int .i64 y])).run Try.prog w = .ok (a == x && b == y) w := by
  by_cases ha : a = x
  · by_cases hb : b = y
    · subst ha; subst hb
      go_simp
    · have hb' : (b == y) = false := by simpa using hb
      subst ha
      go_simp
  · have ha' : (a == x) = false := by simpa using ha
    go_simp
theorem mv_eq (m k : Mv) : (m.1 == k.1 && m.2 == k.2) = decide (m = k) := by
  obtain ⟨a, b⟩ := m
  obtain ⟨x, y⟩ := k
  rw [Bool.eq_iff_iff, Bool.and_eq_true, beq_iff_eq, beq_iff_eq, decide_eq_true_iff, Prod.mk.injEq]
theorem gcd_pstep (p q : Int) : Int.gcd q (p.tmod q) = Int.gcd p q := by
  unfold Int.gcd
  rw [Int.natAbs_tmod, Nat.gcd_comm p.natAbs q.natAbs, Nat.gcd_rec q.natAbs p.natAbs, Nat.gcd_comm]
theorem sgcd_pen (a b : Int) (ha : -1000000000000 ≤ a ∧ a ≤ 1000000000000) (hb : -1000000000000 ≤ b ∧ b ≤ 1000000000000) (w : World) :
    Calls Try.prog 57 #[.int .i64 a, .int .i64 b] w fun e w' => e = .returned (.int .i64 ((Int.gcd a b : Nat) : Int)) ∧ w = w' := by
  go_enter Try.func57, Try.ntmps57
  go_wp2
  go_loop [0, 1, 5] (fun x y _ => ∃ p q : Int, x = .int .i64 p ∧ y = .int .i64 q ∧ (-1000000000000 ≤ p ∧ p ≤ 1000000000000) ∧ (-1000000000000 ≤ q ∧ q ≤ 1000000000000) ∧ Int.gcd p q = Int.gcd a b) (fun _ y _ => (intOf y).natAbs)
  case atStart => exact ⟨a, b, rfl, rfl, ha, hb, rfl⟩
  case round =>
    obtain ⟨p, q, rfl, rfl, hp, hq, hg⟩ := hrel
    have G := Lib.hid hg; clear hg
    by_cases h : q = 0
    · subst h
      by_cases hn : p < 0
      · go_wp2
        go_ret
        exact ⟨ret_int (by have := G.out; rw [Int.gcd_zero_right] at this; omega), rfl⟩
      · go_wp2
        go_ret
        exact ⟨ret_int (by have := G.out; rw [Int.gcd_zero_right] at this; omega), rfl⟩
    · have hq0 : (q != 0) = true := by simpa using h
      have hq2 : (q == 0) = false := by simpa using h
      have ht : (p.tmod q).natAbs = p.natAbs % q.natAbs := Int.natAbs_tmod p q
      have hlt : p.natAbs % q.natAbs < q.natAbs := Nat.mod_lt _ (by omega)
      have w1 : IntKind.i64.wrap (p.tmod q) = p.tmod q := by rw [IntKind.wrap_i64]; omega
      have HR : Aside (-1000000000000 ≤ p.tmod q ∧ p.tmod q ≤ 1000000000000) := (show _ ∧ _ from by omega)
      have HM : Aside ((p.tmod q).natAbs < q.natAbs) := (show _ < _ from by omega)
      clear ht hlt
      go_wp2
      go_round
      case rel => exact ⟨q, p.tmod q, rfl, rfl, hq, HR.out, by rw [gcd_pstep, G.out]⟩
      case measure => have := HM.out; simp only [intOf]; omega
theorem quo_in (a : Int) (g : Nat) {M : Int} (h : -M ≤ a ∧ a ≤ M) : -M ≤ a.tdiv g ∧ a.tdiv g ≤ M := by
  have h1 : (a.tdiv (g : Int)).natAbs ≤ a.natAbs := by
    rw [Int.natAbs_tdiv]; exact Nat.div_le_self _ _
  omega
end Go.Proofs.Ytibhlaojinedoaa
/- impl: tidy moves. -/
namespace Go.Proofs.Ytibhlaojinedoaa
set_option maxRecDepth 20000
open Go.ChangeShapes Go.WideShapes Go.ChangeAt Go.RowKit
set_option linter.unusedVariables false
set_option linter.unusedSimpArgs false

theorem joinM_zero (R : List Mv) : joinM R (0, 0) = R := by unfold joinM; rw [if_pos rfl]
theorem joinM_nil {a : Mv} (h : a ≠ (0, 0)) : joinM [] a = [a] := by unfold joinM; rw [if_neg h]; rfl
theorem last_at {R : List Mv} {j : Nat} {l : Mv} (hl : R[j]? = some l) (hj : j + 1 = R.length) : R.getLast? = some l := by
  rw [List.getLast?_eq_getElem?, show R.length - 1 = j by omega]; exact hl
theorem joinM_other {R : List Mv} {a l : Mv} {j : Nat} (h : a ≠ (0, 0)) (hl : R[j]? = some l) (hj : j + 1 = R.length) (hd : dirM l ≠ dirM a) : joinM R a = R ++ [a] := by
  unfold joinM; rw [if_neg h, last_at hl hj]; simp only; rw [if_neg hd]
theorem joinM_same {R : List Mv} {a l : Mv} {j : Nat} (h : a ≠ (0, 0)) (hl : R[j]? = some l) (hj : j + 1 = R.length) (hd : dirM l = dirM a) : joinM R a = R.dropLast ++ [addM l a] := by
  unfold joinM; rw [if_neg h, last_at hl hj]; simp only; rw [if_pos hd]
theorem drop_set {R : List Mv} {j : Nat} (x : Mv) (hj : j + 1 = R.length) : R.dropLast ++ [x] = R.set j x := by
  have h : R.dropLast = R.take j := by rw [List.dropLast_eq_take, show R.length - 1 = j by omega]
  rw [h]
  apply List.ext_getElem?
  intro i
  rw [List.getElem?_set]
  by_cases hi : i < j
  · rw [List.getElem?_append_left (by rw [List.length_take]; omega), List.getElem?_take, if_pos hi, if_neg (by omega)]
  · by_cases he : j = i
    · subst he
      rw [if_pos rfl, List.getElem?_append_right (by rw [List.length_take]; omega), List.length_take, Nat.min_eq_left (by omega), Nat.sub_self, if_pos (by omega)]; rfl
    · rw [if_neg he, List.getElem?_append_right (by rw [List.length_take]; omega), List.length_take, Nat.min_eq_left (by omega), List.getElem?_eq_none (by simp; omega), List.getElem?_eq_none (by omega)]
theorem mv_lst (m : Mv) : encM m = lst 2 (mfn m) := rfl
theorem size_mv (f : Nat → Int) : (Try.prog.info? 27).map (·.size) = some (lst 2 f).length := by rw [lst_length]; exact info_mv
theorem big_in {m : Mv} (h : big m ≤ 1000000000) : (-10000000000 ≤ m.1 ∧ m.1 ≤ 10000000000) ∧ (-10000000000 ≤ m.2 ∧ m.2 ≤ 10000000000) := by unfold big at h; omega
end Go.Proofs.Ytibhlaojinedoaa
