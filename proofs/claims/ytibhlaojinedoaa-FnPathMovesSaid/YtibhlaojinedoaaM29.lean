/-
  Both sides: tidy moves, told.
  spec: how far two paths are from each other.
  The exact laws' helpers on lists of moves: copied, counted, compared, marked, held.
  The exact laws' helpers on lists of moves, continued: compared, marked, held.
-/
import Derived.Test.YtibhlaojinedoaaM28
import Derived.Test.YtibhlaojinedoaaM25
import Derived.Test.YtibhlaojinedoaaM26
import Derived.Test.YtibhlaojinedoaaM21
import Derived.OrdersHeld
/- Both sides: tidy moves, told. -/
namespace Go.Proofs.Ytibhlaojinedoaa
set_option maxRecDepth 20000
open Go.ChangeShapes Go.WideShapes Go.ChangeAt Go.RowKit
set_option linter.unusedVariables false
set_option linter.unusedSimpArgs false

/-- The tidy moves that are told. -/
def tdO (xs : List Mv) : Option (List Mv) := if mvB xs && mvB (tidyM xs) then some (tidyM xs) else none
theorem tdO_1 {xs : List Mv} (h : mvB xs = false) : tdO xs = none := by unfold tdO; rw [h]; rfl
theorem tdO_2 {xs : List Mv} (h : mvB (tidyM xs) = false) : tdO xs = none := by unfold tdO; rw [h, Bool.and_false]; rfl
theorem tdO_yes {xs : List Mv} (h : mvB xs = true) (h2 : mvB (tidyM xs) = true) : tdO xs = some (tidyM xs) := by unfold tdO; rw [h, h2]; rfl
/-! ### spec's -/
theorem own_take {w : World} {B T g cap : Nat} {R : List Mv} (j : Nat) (h : OwnL encM 2 w B T (.slice (some ⟨g, 0, none⟩) R.length cap) R) (hj : j ≤ R.length) : OwnL encM 2 w B T (.slice (some ⟨g, 0, none⟩) (R.take j).length cap) (R.take j) := by
  have hl : (R.take j).length = j := by rw [List.length_take]; omega
  refine ⟨flt_length encM_ok _, ?_⟩
  rcases h.2 with ⟨h0, _⟩ | ⟨g', cap', cur, e', hB, hg, hnc, hcm, hcs, htk⟩
  · cases h0
  · simp only [Value.slice.injEq, Option.some.injEq, Addr.mk.injEq, and_true, true_and] at e'
    obtain ⟨rfl, rfl⟩ := e'
    refine .inr ⟨g, cap, cur, rfl, hB, hg, by omega, hcm, hcs, ?_⟩
    rw [flt_take encM_ok, ← htk, List.take_take, hl]
    congr 1
    have := Nat.mul_le_mul_right 2 hj
    omega
theorem ownM_form {w : World} {B T : Nat} {v : Value} {R : List Mv} (h : OwnL encM 2 w B T v R) (h0 : R ≠ []) : ∃ g c, v = .slice (some ⟨g, 0, none⟩) R.length c := by
  rcases h.2 with ⟨-, h1⟩ | ⟨g, cap, cur, rfl, -⟩
  · exact absurd (List.length_eq_zero_iff.1 h1) h0
  · exact ⟨g, cap, rfl⟩
end Go.Proofs.Ytibhlaojinedoaa
/- spec: how far two paths are from each other. -/
namespace Go.Proofs.Ytibhlaojinedoaa
set_option maxRecDepth 20000
open Go.ChangeShapes Go.WideShapes Go.ChangeAt Go.RowKit
set_option linter.unusedVariables false
set_option linter.unusedSimpArgs false

theorem mor_iv (x y : Nat) : ivS (morW x y) = max (ivS x) (ivS y) := by unfold morW; split <;> omega
theorem sg_pos {x : Nat} (h : 0 < ivS x) : sgS x = false := by
  unfold ivS at h
  cases hs : sgS x with
  | false => rfl
  | true => rw [hs] at h; simp only [sgnd, if_true] at h; omega
theorem mor_sg {x y V : Nat} (hx : FS x false V) (hy : finS y = true) : sgS (morW x y) = false := by
  have h1 := fs_iv hx
  have h2 := (fs_fin hx).2.1
  simp only [sgnd, Bool.false_eq_true, if_false] at h1
  unfold morW
  split
  · exact sg_pos (by omega)
  · exact h2
/-- What the model's five comparisons come to. -/
theorem far_step {f x y n1 n2 V : Nat} (hf : FS f false V) (hx : finS x = true) (hy : finS y = true) (h1 : finS n1 = true) (h2 : finS n2 = true) (e1 : ivS n1 = - ivS x) (e2 : ivS n2 = - ivS y) :
    FS (morW (morW f x) (morW y (morW n1 n2))) false (max V (max (ivS x).natAbs (ivS y).natAbs)) := by
  have a1 := mor_fin (fs_fin hf).1 hx
  have a2 := mor_fin hy (mor_fin h1 h2)
  have a3 := mor_fin a1 a2
  have s1 := mor_sg hf hx
  have b1 := fin_fs a1
  rw [s1] at b1
  have s3 := mor_sg b1 a2
  have hv := fs_iv hf
  simp only [sgnd, Bool.false_eq_true, if_false] at hv
  have hs := sz_iv (morW (morW f x) (morW y (morW n1 n2)))
  rw [mor_iv, mor_iv, mor_iv, mor_iv, hv, e1, e2] at hs
  have h := fin_fs a3
  rw [s3] at h
  rw [show max V (max (ivS x).natAbs (ivS y).natAbs) = szS (morW (morW f x) (morW y (morW n1 n2))) by rw [← hs]; omega]
  exact h
end Go.Proofs.Ytibhlaojinedoaa
/- The exact laws' helpers on lists of moves: copied, counted, compared, marked, held. -/
namespace Go.Proofs.Ytibhlaojinedoaa
set_option maxRecDepth 20000
open Go.ChangeShapes Go.WideShapes Go.ChangeAt Go.RowKit
set_option linter.unusedVariables false
set_option linter.unusedSimpArgs false

theorem made_zerosM (n : Nat) : (madeCells (Value.agg #[.int .i64 0, .int .i64 0]).cells (n * 2)).toList = flt encM (List.replicate n ((0, 0) : Mv)) := by
  apply List.ext_getElem?
  intro i
  by_cases hi : i < n * 2
  · have h1 := flt_at encM_ok (xs := List.replicate n ((0, 0) : Mv)) (i := i / 2) (a := (0, 0)) (by rw [List.getElem?_replicate, if_pos (by omega)]) (i % 2) (by omega)
    rw [show i / 2 * 2 + i % 2 = i from by omega] at h1
    rw [h1]
    have h2 : (encM (0, 0))[i % 2]? = some (.int .i64 0) := by
      rcases (show i % 2 = 0 ∨ i % 2 = 1 by omega) with h | h <;> rw [h] <;> rfl
    rw [h2]
    rcases (show i % 2 = 0 ∨ i % 2 = 1 by omega) with h | h <;> simp [madeCells, Value.cells, hi, h]
  · rw [List.getElem?_eq_none (by simp [madeCells]; omega), List.getElem?_eq_none (by rw [flt_length encM_ok]; simp; omega)]
theorem zero_mv : (Try.prog.info? 27).map (·.zero) = some (some (.agg #[.int .i64 0, .int .i64 0])) := by kernel_rfl
section
variable {P : Program} {t e : TypeId} {ops : Array Oper} {rest : List Oper} {o : Oper} {a : Act} {Q : Exit → Act → World → Prop} {w0 w : World} {B : Nat}
/-- 'make' of a list of moves of nothing. -/
theorem make_fullM (ty : TyL P t e 2) (hz : (P.info? e).map (·.zero) = some (some (.agg #[.int .i64 0, .int .i64 0]))) (hgd : o.guard = none) {l c : Operand} (hop : o.op = .makeSlice t l c) (n : Nat) (hl : a.eval l = .int .i64 n) (hc : a.eval c = .int .i64 n) (hn : n ≤ 1000000000)
    (h : ∀ w', w'.ownsRow w.heap.size e 2 (.slice (some ⟨w.heap.size, 0, none⟩) n n) n (flt encM (List.replicate n ((0, 0) : Mv))) → Below w.heap.size w w' → wpList P ops Q rest (a.put o.dst (.slice (some ⟨w.heap.size, 0, none⟩) n n)) w') : wpList P ops Q (o :: rest) a w := by
  obtain ⟨i, z, hi, hz0, hs, hby, hzs⟩ := ty.inf
  have hzz : i.zero = some (.agg #[.int .i64 0, .int .i64 0]) := by rw [hi] at hz; simpa using hz
  refine wpList_plain hgd fun K hK' => ?_
  have h1 : i.bytes * n ≤ 281474976710656 := by have := Nat.mul_le_mul hby hn; omega
  obtain ⟨w', hrun, r1, r2⟩ := run_make_full (P := P) w w.heap.size t e i _ 2 ty.sl hi hzz hs .i64 .i64 n h1 (by simp only [maxLen]; omega) (Nat.le_refl _)
  rw [made_zerosM] at r1
  unfold Oper.wp
  simp [execOp, hop, hl, hc, hrun, Result.andThen]
  exact hK' _ _ (h w' r1 ((Below.refl _ _).grown r2 (Nat.le_refl _) fun k hk => by cases hk))
theorem store_mv {ty : TypeId} {g p : Nat} {m : Mv} (hgd : o.guard = none) {x y : Operand} (ho : o.op = .store ty x y) (hx : a.eval x = .pointer (some ⟨g, p, none⟩)) (hy : a.eval y = mvV m)
    (ht : w.there g p 2) (hi : (P.info? ty).map (·.size) = some 2) (h : wpList P ops Q rest (a.put o.dst undef) (w.setCells g p (encM m))) : wpList P ops Q (o :: rest) a w :=
  wpList_store_mid hgd ty x y ho g p #[.int .i64 m.1, .int .i64 m.2] hx hy ht hi (by simp [Value.oneCell']) h
end
theorem own_below2 {w w' : World} {B T g n cap : Nat} {xs : List Value} (h : w.ownsRow B T 2 (.slice (some ⟨g, 0, none⟩) n cap) n xs) (hb : Below w.heap.size w w') : w'.ownsRow B T 2 (.slice (some ⟨g, 0, none⟩) n cap) n xs := rows_below h hb
end Go.Proofs.Ytibhlaojinedoaa
/- The exact laws' helpers on lists of moves, continued: compared, marked, held. -/
namespace Go.Proofs.Ytibhlaojinedoaa
set_option maxRecDepth 20000
open Go.ChangeShapes Go.WideShapes Go.ChangeAt Go.RowKit
set_option linter.unusedVariables false
set_option linter.unusedSimpArgs false

theorem size_mvE (m : Mv) : (Try.prog.info? 27).map (·.size) = some (encM m).length := by rw [encM_ok.len]; exact info_mv
/-! ### Marks -/
theorem markM_number (k n : Nat) : ∃ M : Int, Aside (((k + n * 2 : Nat) : Int) = M) ∧ ¬ M < 0 ∧ (M != M) = false := ⟨_, (show _ = _ from rfl), by omega, by simp⟩
end Go.Proofs.Ytibhlaojinedoaa
