/-
  impl: directions of moves.
  impl: tidy moves.
  Both sides: tidy moves, told.
  spec: how far two paths are from each other.
-/
import Derived.Test.YtpbppgaohfgpbaaM28
import Derived.Test.YtpbppgaohfgpbaaM27
import Derived.Test.YtpbppgaohfgpbaaM01
import Derived.OrdersHeld
import Derived.Test.YtpbppgaohfgpbaaM26
/- impl: directions of moves. -/
namespace Go.Proofs.Ytpbppgaohfgpbaa
set_option maxRecDepth 20000
open Go.ChangeShapes Go.WideShapes Go.ChangeAt Go.RowKit
set_option linter.unusedVariables false
set_option linter.unusedSimpArgs false

theorem mv_eq (m k : Mv) : (m.1 == k.1 && m.2 == k.2) = decide (m = k) := by
  obtain ⟨a, b⟩ := m
  obtain ⟨x, y⟩ := k
  rw [Bool.eq_iff_iff, Bool.and_eq_true, beq_iff_eq, beq_iff_eq, decide_eq_true_iff, Prod.mk.injEq]
theorem gcd_pstep (p q : Int) : Int.gcd q (p.tmod q) = Int.gcd p q := by
  unfold Int.gcd
  rw [Int.natAbs_tmod, Nat.gcd_comm p.natAbs q.natAbs, Nat.gcd_rec q.natAbs p.natAbs, Nat.gcd_comm]
theorem quo_in (a : Int) (g : Nat) {M : Int} (h : -M ≤ a ∧ a ≤ M) : -M ≤ a.tdiv g ∧ a.tdiv g ≤ M := by
  have h1 : (a.tdiv (g : Int)).natAbs ≤ a.natAbs := by
    rw [Int.natAbs_tdiv]; exact Nat.div_le_self _ _
  omega
end Go.Proofs.Ytpbppgaohfgpbaa
/- impl: tidy moves. -/
namespace Go.Proofs.Ytpbppgaohfgpbaa
set_option maxRecDepth 20000
open Go.ChangeShapes Go.WideShapes Go.ChangeAt Go.RowKit
set_option linter.unusedVariables false
set_option linter.unusedSimpArgs false

theorem joinM_zero (R : List Mv) : joinM R (0, 0) = R := by unfold joinM; rw [if_pos rfl]
theorem joinM_nil {a : Mv} (h : a ≠ (0, 0)) : joinM [] a = [a] := by unfold joinM; rw [if_neg h]; rfl
theorem last_at {R : List Mv} {j : Nat} {l : Mv} (hl : R[j]? = some l) (hj : j + 1 = R.length) : R.getLast? = some l := by
  rw [List.getLast?_eq_getElem?, show R.length - 1 = j by omega]; exact hl
theorem joinM_other {R : List Mv} {a l : Mv} {j : Nat} (h : a ≠ (0, 0)) (hl : R[j]? = some l) (hj : j + 1 = R.length) (hd : dirM l ≠ dirM a) : joinM R a = R ++ [a] := by
  unfold joinM; rw [if_neg h, last_at hl hj]; simp only; rw [if_neg hd]
theorem joinM_same {R : List Mv} {a l : Mv} {j : Nat} (h : a ≠ (0, 0)) (hl : R[j]? = some l) (hj : j + 1 = R.length) (hd : dirM l = dirM a) : joinM R a = R.dropLast ++ [addM l a] := by
  unfold joinM; rw [if_neg h, last_at hl hj]; simp only; rw [if_pos hd]
theorem drop_set {R : List Mv} {j : Nat} (x : Mv) (hj : j + 1 = R.length) : R.dropLast ++ [x] = R.set j x := by
  have h : R.dropLast = R.take j := by rw [List.dropLast_eq_take, show R.length - 1 = j by omega]
  rw [h]
  apply List.ext_getElem?
  intro i
  rw [List.getElem?_set]
  by_cases hi : i < j
  · rw [List.getElem?_append_left (by rw [List.length_take]; omega), List.getElem?_take, if_pos hi, if_neg (by omega)]
  · by_cases he : j = i
    · subst he
      rw [if_pos rfl, List.getElem?_append_right (by rw [List.length_take]; omega), List.length_take, Nat.min_eq_left (by omega), Nat.sub_self, if_pos (by omega)]; rfl
    · rw [if_neg he, List.getElem?_append_right (by rw [List.length_take]; omega), List.length_take, Nat.min_eq_left (by omega), List.getElem?_eq_none (by simp; omega), List.getElem?_eq_none (by omega)]
theorem mv_lst (m : Mv) : encM m = lst 2 (mfn m) := rfl
theorem big_in {m : Mv} (h : big m ≤ 1000000000) : (-10000000000 ≤ m.1 ∧ m.1 ≤ 10000000000) ∧ (-10000000000 ≤ m.2 ∧ m.2 ≤ 10000000000) := by unfold big at h; omega
end Go.Proofs.Ytpbppgaohfgpbaa
/- Both sides: tidy moves, told. -/
namespace Go.Proofs.Ytpbppgaohfgpbaa
set_option maxRecDepth 20000
open Go.ChangeShapes Go.WideShapes Go.ChangeAt Go.RowKit
set_option linter.unusedVariables false
set_option linter.unusedSimpArgs false

/-- The tidy moves that are told. -/
def tdO (xs : List Mv) : Option (List Mv) := if mvB xs && mvB (tidyM xs) then some (tidyM xs) else none
theorem tdO_1 {xs : List Mv} (h : mvB xs = false) : tdO xs = none := by unfold tdO; rw [h]; rfl
theorem tdO_2 {xs : List Mv} (h : mvB (tidyM xs) = false) : tdO xs = none := by unfold tdO; rw [h, Bool.and_false]; rfl
theorem tdO_yes {xs : List Mv} (h : mvB xs = true) (h2 : mvB (tidyM xs) = true) : tdO xs = some (tidyM xs) := by unfold tdO; rw [h, h2]; rfl
/-! ### spec's -/
theorem own_take {w : World} {B T g cap : Nat} {R : List Mv} (j : Nat) (h : OwnL encM 2 w B T (.slice (some ⟨g, 0, none⟩) R.length cap) R) (hj : j ≤ R.length) : OwnL encM 2 w B T (.slice (some ⟨g, 0, none⟩) (R.take j).length cap) (R.take j) := by
  have hl : (R.take j).length = j := by rw [List.length_take]; omega
  refine ⟨flt_length encM_ok _, ?_⟩
  rcases h.2 with ⟨h0, _⟩ | ⟨g', cap', cur, e', hB, hg, hnc, hcm, hcs, htk⟩
  · cases h0
  · simp only [Value.slice.injEq, Option.some.injEq, Addr.mk.injEq, and_true, true_and] at e'
    obtain ⟨rfl, rfl⟩ := e'
    refine .inr ⟨g, cap, cur, rfl, hB, hg, by omega, hcm, hcs, ?_⟩
    rw [flt_take encM_ok, ← htk, List.take_take, hl]
    congr 1
    have := Nat.mul_le_mul_right 2 hj
    omega
theorem ownM_form {w : World} {B T : Nat} {v : Value} {R : List Mv} (h : OwnL encM 2 w B T v R) (h0 : R ≠ []) : ∃ g c, v = .slice (some ⟨g, 0, none⟩) R.length c := by
  rcases h.2 with ⟨-, h1⟩ | ⟨g, cap, cur, rfl, -⟩
  · exact absurd (List.length_eq_zero_iff.1 h1) h0
  · exact ⟨g, cap, rfl⟩
end Go.Proofs.Ytpbppgaohfgpbaa
/- spec: how far two paths are from each other. -/
namespace Go.Proofs.Ytpbppgaohfgpbaa
set_option maxRecDepth 20000
open Go.ChangeShapes Go.WideShapes Go.ChangeAt Go.RowKit
set_option linter.unusedVariables false
set_option linter.unusedSimpArgs false

theorem mor_iv (x y : Nat) : ivS (morW x y) = max (ivS x) (ivS y) := by unfold morW; split <;> omega
theorem sg_pos {x : Nat} (h : 0 < ivS x) : sgS x = false := by
  unfold ivS at h
  cases hs : sgS x with
  | false => rfl
  | true => rw [hs] at h; simp only [sgnd, if_true] at h; omega
theorem mor_sg {x y V : Nat} (hx : FS x false V) (hy : finS y = true) : sgS (morW x y) = false := by
  have h1 := fs_iv hx
  have h2 := (fs_fin hx).2.1
  simp only [sgnd, Bool.false_eq_true, if_false] at h1
  unfold morW
  split
  · exact sg_pos (by omega)
  · exact h2
/-- What the model's five comparisons come to. -/
theorem far_step {f x y n1 n2 V : Nat} (hf : FS f false V) (hx : finS x = true) (hy : finS y = true) (h1 : finS n1 = true) (h2 : finS n2 = true) (e1 : ivS n1 = - ivS x) (e2 : ivS n2 = - ivS y) :
    FS (morW (morW f x) (morW y (morW n1 n2))) false (max V (max (ivS x).natAbs (ivS y).natAbs)) := by
  have a1 := mor_fin (fs_fin hf).1 hx
  have a2 := mor_fin hy (mor_fin h1 h2)
  have a3 := mor_fin a1 a2
  have s1 := mor_sg hf hx
  have b1 := fin_fs a1
  rw [s1] at b1
  have s3 := mor_sg b1 a2
  have hv := fs_iv hf
  simp only [sgnd, Bool.false_eq_true, if_false] at hv
  have hs := sz_iv (morW (morW f x) (morW y (morW n1 n2)))
  rw [mor_iv, mor_iv, mor_iv, mor_iv, hv, e1, e2] at hs
  have h := fin_fs a3
  rw [s3] at h
  rw [show max V (max (ivS x).natAbs (ivS y).natAbs) = szS (morW (morW f x) (morW y (morW n1 n2))) by rw [← hs]; omega]
  exact h
end Go.Proofs.Ytpbppgaohfgpbaa
