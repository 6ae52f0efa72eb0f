/-
  Both sides: the paths of moves.
  Both sides: the paths of moves, told.
  The laws' helpers on lists of points in words: compared, marked, held.
  Grid points: how near they lie, in whole numbers and in floats of 64 bits; whole parts are met.
-/
import Derived.Test.YtibhlaojinedoaaM26
import Derived.Test.YtibhlaojinedoaaM22
import Derived.Test.YtibhlaojinedoaaM21
import Derived.Test.YtibhlaojinedoaaM07
import Derived.Test.YtibhlaojinedoaaM10
/- Both sides: the paths of moves. -/
namespace Go.Proofs.Ytibhlaojinedoaa
set_option maxRecDepth 20000
open Go.ChangeShapes Go.WideShapes Go.ChangeAt Go.RowKit
set_option linter.unusedVariables false
set_option linter.unusedSimpArgs false

/-- So many units, as a part of a point. -/
def quoW (n : Int) (g : Nat) : Nat := (floatBits .quo .f32 (floatOfInt .f32 n) (sclW g)).getD 0
theorem fs_int {n : Int} (h : -10000000000 ≤ n ∧ n ≤ 10000000000) : FS (floatOfInt .f32 n) (decide (n < 0)) (rndN 23 n.natAbs * 2 ^ loS) := by
  refine int_fv fmtS n (fits_small (by decide) ?_)
  have e : n.natAbs * 2 ^ loS < 2 ^ (34 + loS) := by
    rw [Nat.pow_add]; exact Nat.mul_lt_mul_of_pos_right (by omega) (Nat.two_pow_pos _)
  have := log_of_lt e (by omega)
  rw [loS_eq] at this; rw [loS_eq]; omega
theorem quo_some {n : Int} {g : Nat} (h : -10000000000 ≤ n ∧ n ≤ 10000000000) (hg : g ≤ 8) : floatBits .quo .f32 (floatOfInt .f32 n) (sclW g) = some (quoW n g) := by
  obtain ⟨m, b, r, -⟩ := fs_int h
  have hs := scl_read hg
  unfold quoW
  have : ∃ z, floatBits .quo .f32 (floatOfInt .f32 n) (sclW g) = some z := by
    show ∃ z, ((Ieee.single.read (floatOfInt .f32 n)).quotient (Ieee.single.fractionBits + 2) (Ieee.single.read (sclW g))).map Ieee.single.write = some z
    rw [r, hs]
    simp only [Ieee.Datum.quotient]
    rw [if_neg (Nat.ne_of_gt (Nat.two_pow_pos 23))]
    exact ⟨_, rfl⟩
  obtain ⟨z, hz⟩ := this
  rw [hz]; rfl
def ptW (g : Nat) (m : Mv) : Pn := (quoW m.1 g, quoW m.2 g)
/-- The points that moves lead to. -/
def pathL (g : Nat) (xs : List Mv) : List Pn := (List.range xs.length).map fun k => ptW g (sumM (xs.take (k + 1)))
theorem pathL_len (g : Nat) (xs : List Mv) : (pathL g xs).length = xs.length := by simp [pathL]
theorem pathL_at {g k : Nat} {xs : List Mv} (h : k < xs.length) : (pathL g xs)[k]? = some (ptW g (sumM (xs.take (k + 1)))) := by simp [pathL, h]
theorem pathL_next {g k : Nat} {xs : List Mv} (h : k < xs.length) : (pathL g xs).take (k + 1) = (pathL g xs).take k ++ [ptW g (sumM (xs.take (k + 1)))] := take_nextL (pathL_at h)
def mpO (xs : List Mv) (g : Int) : Option (List Pn) := if mvB xs && grB g && pvB (pathL g.toNat xs) then some (pathL g.toNat xs) else none
theorem mpO_1 {xs : List Mv} {g : Int} (h : mvB xs = false) : mpO xs g = none := by unfold mpO; rw [h]; rfl
theorem mpO_2 {xs : List Mv} {g : Int} (h : grB g = false) : mpO xs g = none := by unfold mpO; rw [h, Bool.and_false]; rfl
theorem mpO_3 {xs : List Mv} {n : Nat} (h : pvB (pathL n xs) = false) : mpO xs n = none := by
  unfold mpO
  rw [Int.toNat_natCast, h, Bool.and_false]; rfl
theorem mpO_yes {xs : List Mv} {n : Nat} (h : mvB xs = true) (h2 : grB n = true) (h3 : pvB (pathL n xs) = true) : mpO xs n = some (pathL n xs) := by
  unfold mpO
  rw [Int.toNat_natCast, h, h2, h3]; rfl
theorem sumM_in {xs : List Mv} (h : ∀ y ∈ xs, big y ≤ 10000000) (hl : xs.length ≤ 100) {k : Nat} (hk : k ≤ xs.length) : (-1000000000 ≤ (sumM (xs.take k)).1 ∧ (sumM (xs.take k)).1 ≤ 1000000000) ∧ (-1000000000 ≤ (sumM (xs.take k)).2 ∧ (sumM (xs.take k)).2 ≤ 1000000000) := by
  have := sumM_big h k hk
  unfold big at this
  omega
end Go.Proofs.Ytibhlaojinedoaa
/- Both sides: the paths of moves, told. -/
namespace Go.Proofs.Ytibhlaojinedoaa
set_option maxRecDepth 20000
open Go.ChangeShapes Go.WideShapes Go.ChangeAt Go.RowKit
set_option linter.unusedVariables false
set_option linter.unusedSimpArgs false

end Go.Proofs.Ytibhlaojinedoaa
/- The laws' helpers on lists of points in words: compared, marked, held. -/
namespace Go.Proofs.Ytibhlaojinedoaa
set_option maxRecDepth 20000
open Go.ChangeShapes Go.WideShapes Go.ChangeAt Go.RowKit
set_option linter.unusedVariables false
set_option linter.unusedSimpArgs false

/-! ### Words widened -/
def wdW (x : Nat) : Nat := (floatToFloatBits .f32 x .f64).getD 0
theorem wd_fin {x : Nat} (h : finS x = true) : floatToFloatBits .f32 x .f64 = some (wdW x) ∧ NN (wdW x) := by
  obtain ⟨z, hz, hd⟩ := fs_wider (fin_fs h)
  unfold wdW
  rw [hz]
  refine ⟨rfl, ?_⟩
  obtain ⟨m, b, r, -⟩ := hd
  show NN z
  unfold NN
  rw [r]; rfl
theorem swap_eq {F : FuncId} {args : Array Value} {w : World} {v : Value} (h : Calls Try.prog F args w fun e w' => e = .returned v ∧ w' = w) : Calls Try.prog F args w fun e w' => e = .returned v ∧ w = w' := h.mono fun _ _ ⟨a, b⟩ => ⟨a, b.symm⟩
/-! ### Marks -/
def mkW (k : Nat) : Nat := floatOfInt .f32 ((k : Nat) : Int)
abbrev oneS : Nat := 1065353216
theorem mk_narrow (k : Nat) (h : k < 128) : floatToFloatBits .f64 (floatOfInt .f64 ((k : Nat) : Int)) .f32 = some (mkW k) := by
  have key : ∀ k : Fin 128, floatToFloatBits .f64 (floatOfInt .f64 ((k.val : Nat) : Int)) .f32 = some (mkW k.val) := by decide +kernel
  exact key ⟨k, h⟩
theorem mk_self (k : Nat) (h : k < 128) : FloatKind.f32.format.order (mkW k) (mkW k) = some .eq := by
  have key : ∀ k : Fin 128, FloatKind.f32.format.order (mkW k.val) (mkW k.val) = some .eq := by decide +kernel
  exact key ⟨k, h⟩
theorem run_mark (k : Nat) (h : k < 128) (w : World) : (convert 44 23 (.complex .f64 (floatOfInt .f64 ((k : Nat) : Int)) 4607182418800017408)).run Try.prog w = .ok (.complex .f32 (mkW k) oneS) w :=
  run_convert_complex w _ _ .f64 .f32 _ _ _ _ (by kernel_rfl) (by kernel_rfl) (by unfold cConvBits; rw [mk_narrow k h, show floatToFloatBits .f64 4607182418800017408 .f32 = some oneS by decide +kernel]; rfl)
theorem run_cne {p q : Nat} (h1 : FloatKind.f32.format.order p p = some .eq) (h2 : FloatKind.f32.format.order q q = some .eq) (t : TypeId) (w : World) :
    (binOp .neq t (.complex .f32 p q) (.complex .f32 p q)).run Try.prog w = .ok (.bool false) w := by
  simp [binOp, Op.complexOp, Op.Complex.cmp, Op.floatCmp, h1, h2, go_sem, asBool]
theorem run_store_cpx (P : Program) (w : World) (a : Addr) (p q : Nat) (m : Mode) : (store a (.complex .f32 p q) m).run P w = stored P w a (.complex .f32 p q) m := run_store P w a _ m rfl
theorem store_cpx {P : Program} {w : World} {a : Addr} {p q : Nat} {old : Value} (h1 : w.cell? a = some old) (h2 : w.frozen? a = false) (m : Mode) : (store a (.complex .f32 p q) m).run P w = .ok () (w.setCell a (.complex .f32 p q)) := by
  rw [run_store_cpx]
  unfold stored
  rw [h1, h2]
  rfl
def mkZL (m : Nat) : List Value := (List.range m).map fun (p : Nat) => Value.complex .f32 (mkW (1 + p)) oneS
theorem mkZL_len (m : Nat) : (mkZL m).length = m := by simp [mkZL]
theorem mkZL_at {m p : Nat} (h : p < m) : (mkZL m)[p]? = some (.complex .f32 (mkW (1 + p)) oneS) := by simp [mkZL, h]
theorem mkZL_next (m : Nat) : mkZL (m + 1) = mkZL m ++ [.complex .f32 (mkW (1 + m)) oneS] := by simp [mkZL, List.range_succ]
def mkdZ (cs : List Value) (p : Nat) : List Value := mkZL p ++ cs.drop p
theorem mkdZ_none (cs : List Value) : mkdZ cs 0 = cs := rfl
theorem mkdZ_all {n : Nat} {cs : List Value} (h : cs.length = n) : mkdZ cs n = mkZL n := by
  unfold mkdZ
  rw [List.drop_of_length_le (by omega), List.append_nil]
theorem mkdZ_old {p : Nat} {cs : List Value} (h : p < cs.length) : (mkdZ cs p)[p]? = some cs[p] := by
  unfold mkdZ
  rw [List.getElem?_append_right (by rw [mkZL_len]; omega), mkZL_len, Nat.sub_self, List.getElem?_drop, Nat.add_zero, List.getElem?_eq_getElem h]
theorem mkdZ_step {p : Nat} {cs : List Value} (h : p < cs.length) : (mkdZ cs p).set p (.complex .f32 (mkW (1 + p)) oneS) = mkdZ cs (p + 1) := by
  have e : cs.drop p = cs[p] :: cs.drop (p + 1) := List.drop_eq_getElem_cons h
  unfold mkdZ
  rw [e, mkZL_next, List.set_append_right _ _ (by rw [mkZL_len]; omega), mkZL_len, Nat.sub_self, List.set_cons_zero, List.append_assoc]
  rfl
theorem markZ_number (n : Nat) : ∃ M : Int, Aside ((1 + (n : Int)) = M) ∧ ¬ M < 0 ∧ (M != M) = false := ⟨_, (show _ = _ from rfl), by omega, by simp⟩
end Go.Proofs.Ytibhlaojinedoaa
/- Grid points: how near they lie, in whole numbers and in floats of 64 bits; whole parts are met. -/
namespace Go.Proofs.Ytibhlaojinedoaa
set_option maxRecDepth 20000
set_option linter.unusedVariables false
set_option linter.unusedSimpArgs false
open Ieee

/-- How far a float's multiple lies from its grid point, in least floats. -/
def offI (g : Nat) (v : Int) : Int := v * 2 ^ g - unI g v * 2 ^ loS
theorem halves_loS : (2 : Int) ^ loS = 2 * 2 ^ (loS - 1) := by
  have hlo := loS_eq
  rw [show loS = loS - 1 + 1 by omega, Int.pow_succ, Int.mul_comm]; rfl
theorem off_near {g : Nat} {v : Int} (hg : g ≤ 8) (h1 : -(4096 * 2 ^ loS) ≤ v) (h2 : v ≤ 4096 * 2 ^ loS) : -(5 * 2 ^ loS) ≤ 8 * offI g v ∧ 8 * offI g v ≤ 5 * 2 ^ loS := by
  unfold offI unI
  rw [halves_loS] at h1 h2 ⊢
  obtain ⟨P, hP, hP0⟩ : ∃ P : Int, (2 : Int) ^ (loS - 1) = P ∧ 0 < P := ⟨_, rfl, Int.pow_pos (by decide)⟩
  rw [hP] at h1 h2 ⊢
  obtain ⟨G, hG, hG1, hG2⟩ : ∃ G : Int, (2 : Int) ^ g = G ∧ 1 ≤ G ∧ G ≤ 256 := ⟨_, rfl, Int.pow_pos (by decide), by
    have : (2 : Nat) ^ g ≤ 2 ^ 8 := Nat.pow_le_pow_right (by decide) hg
    have h : ((2 ^ g : Nat) : Int) ≤ ((2 ^ 8 : Nat) : Int) := by omega
    rw [cast_powI] at h
    exact h⟩
  rw [hG]
  have hu1 : -(2097152 * P) ≤ v * G := by
    have : -(8192 * P) * G ≤ v * G := Int.mul_le_mul_of_nonneg_right (by omega) (by omega)
    have h3 : (8192 * P) * G ≤ (8192 * P) * 256 := Int.mul_le_mul_of_nonneg_left hG2 (by omega)
    rw [Int.neg_mul] at this
    omega
  have hu2 : v * G ≤ 2097152 * P := by
    have : v * G ≤ (8192 * P) * G := Int.mul_le_mul_of_nonneg_right (by omega) (by omega)
    have h3 : (8192 * P) * G ≤ (8192 * P) * 256 := Int.mul_le_mul_of_nonneg_left hG2 (by omega)
    omega
  generalize v * G = u at *
  obtain ⟨e1, e2⟩ := rnd_err 23 (u + P) (2097153 * P) (by omega) (by omega)
  rw [show (2 : Int) ^ (23 + 1) = 16777216 by decide] at e1 e2
  generalize rnd 23 (u + P) = W at *
  have hd := Int.emod_add_mul_ediv W (2 * P)
  have hm0 := Int.emod_nonneg W (show 2 * P ≠ 0 by omega)
  have hm1 := Int.emod_lt_of_pos W (show 0 < 2 * P by omega)
  rw [Int.mul_comm (2 * P)] at hd
  generalize W / (2 * P) * (2 * P) = XE at *
  generalize W % (2 * P) = r at *
  omega
theorem grid_back {n : Int} {g : Nat} (hg : g ≤ 8) (h : n.natAbs ≤ 1048576) : unI g (n * 2 ^ (loS - g)) = n := by
  have hlo := loS_eq
  unfold unI
  have e1 : n * 2 ^ (loS - g) * 2 ^ g = n * (2 * 2 ^ (loS - 1)) := by
    rw [Int.mul_assoc, ← Int.pow_add]
    rw [show loS - g + g = loS - 1 + 1 by omega, Int.pow_succ, Int.mul_comm (2 ^ (loS - 1)) 2]
  rw [e1]
  obtain ⟨P, hP, hP0⟩ : ∃ P : Int, (2 : Int) ^ (loS - 1) = P ∧ 0 < P := ⟨_, rfl, Int.pow_pos (by decide)⟩
  have e2 : n * (2 * P) + P = (2 * n + 1) * P := by rw [Int.add_mul, Int.one_mul, Int.mul_comm 2 n, Int.mul_assoc]
  have e3 : (2 : Int) ^ loS = 2 * P := by rw [← hP, show loS = loS - 1 + 1 by omega, Int.pow_succ, Int.mul_comm]; rfl
  have hx : rnd 23 ((2 * n + 1) * P) = (2 * n + 1) * P := by
    have hr := rnd_exact (p := 23) (n := (2 * n + 1).natAbs) (by have : (2 : Nat) ^ (23 + 1) = 16777216 := by decide
                                                                 omega) (loS - 1) (decide (2 * n + 1 < 0))
    have hq : sgnd (decide (2 * n + 1 < 0)) ((2 * n + 1).natAbs * 2 ^ (loS - 1)) = (2 * n + 1) * P := by
      have hp : (((2 * n + 1).natAbs * 2 ^ (loS - 1) : Nat) : Int) = ((2 * n + 1).natAbs : Int) * P := by rw [← hP]; push_cast; rfl
      unfold sgnd
      by_cases hn : 2 * n + 1 < 0
      · rw [decide_eq_true hn, if_pos rfl, hp, show ((2 * n + 1).natAbs : Int) = -(2 * n + 1) by omega, Int.neg_mul, Int.neg_neg]
      · rw [decide_eq_false hn, if_neg (by decide), hp, show ((2 * n + 1).natAbs : Int) = 2 * n + 1 by omega]
    rw [hq] at hr
    exact hr
  rw [hP, e2, hx, e3, Int.mul_comm (2 * n + 1) P, Int.mul_comm 2 P, Int.mul_ediv_mul_of_pos _ _ hP0]
  omega
theorem off_whole {g : Nat} {q : Int} (hg : g ≤ 8) (h1 : -4096 ≤ q) (h2 : q ≤ 4096) : offI g (q * 2 ^ loS) = 0 := by
  have hlo := loS_eq
  obtain ⟨G, hG, hG1, hG2⟩ : ∃ G : Int, (2 : Int) ^ g = G ∧ 1 ≤ G ∧ G ≤ 256 := ⟨_, rfl, Int.pow_pos (by decide), by
    have : (2 : Nat) ^ g ≤ 2 ^ 8 := Nat.pow_le_pow_right (by decide) hg
    have h : ((2 ^ g : Nat) : Int) ≤ ((2 ^ 8 : Nat) : Int) := by omega
    rw [cast_powI] at h
    exact h⟩
  have hn1 : -1048576 ≤ q * G := by
    have h3 : -4096 * G ≤ q * G := Int.mul_le_mul_of_nonneg_right h1 (by omega)
    omega
  have hn2 : q * G ≤ 1048576 := by
    have h3 : q * G ≤ 4096 * G := Int.mul_le_mul_of_nonneg_right h2 (by omega)
    omega
  have hb := grid_back (n := q * G) hg (by omega)
  have e : q * 2 ^ loS = q * G * 2 ^ (loS - g) := by
    rw [Int.mul_assoc, ← hG, ← Int.pow_add, show g + (loS - g) = loS by omega]
  unfold offI
  rw [e, hb, Int.mul_assoc, ← Int.pow_add, show loS - g + g = loS by omega, Int.sub_self]
end Go.Proofs.Ytibhlaojinedoaa
