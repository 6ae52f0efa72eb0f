/-
  What the walks of the laws of exact points share.
-/
import Derived.Test.YtjfljelpjgkmjaaDrawCyc2
namespace Go.Proofs.Ytjfljelpjgkmjaa
set_option maxRecDepth 20000
open Go.ChangeShapes Go.WideShapes Go.ChangeAt Go.RowKit
set_option linter.unusedVariables false
set_option linter.unusedSimpArgs false

theorem code_length {w : World} {v : Value} (h : CodeAt w v) : ∃ a n c, v = .slice a n c ∧ n ≤ 9223372036854775807 := by
  rcases h with ⟨a, rfl⟩ | ⟨b, off, len, cap, zs, rfl, _, h1, h2, _⟩
  · exact ⟨a, 0, 0, rfl, by omega⟩
  · exact ⟨_, _, _, rfl, by unfold maxLen at h2; omega⟩
theorem ans_t {v : Bool} {c : Nat → Int} (h : (v && okc c) = true) : ans v c = .tuple #[.agg (vec 8 c), .bool true] := by simp [ans, h]
theorem ans_f {v : Bool} {c : Nat → Int} (h : (v && okc c) = false) : ans v c = .tuple #[.agg (vec 8 nul), .bool false] := by simp [ans, h]
theorem ans_is {v : Bool} {c d : Nat → Int} (h : Eight c d) (hv : (v && okc d) = true) : ans v c = .tuple #[.agg (vec 8 d), .bool true] := by rw [ans_same v h]; exact ans_t hv
theorem eq_cells (f : Nat → Int) (w : World) : (Op.equalIn 10000 25 (.agg #[.int .i64 (f 0), .int .i64 (f 1), .int .i64 (f 2), .int .i64 (f 3), .int .i64 (f 4), .int .i64 (f 5), .int .i64 (f 6), .int .i64 (f 7)]) (.agg #[.int .i64 (f 0), .int .i64 (f 1), .int .i64 (f 2), .int .i64 (f 3), .int .i64 (f 4), .int .i64 (f 5), .int .i64 (f 6), .int .i64 (f 7)])).run Try.prog w = .ok true w := by
  have h := equal_cyc f f w
  rw [eqv_true (fun _ _ => rfl)] at h
  exact h
theorem eq_nul (w : World) : (Op.equalIn 10000 25 (.agg #[.int .i64 (nul 0), .int .i64 (nul 1), .int .i64 (nul 2), .int .i64 (nul 3), .int .i64 (nul 4), .int .i64 (nul 5), .int .i64 (nul 6), .int .i64 (nul 7)]) (.agg #[.int .i64 0, .int .i64 0, .int .i64 0, .int .i64 0, .int .i64 0, .int .i64 0, .int .i64 0, .int .i64 0])).run Try.prog w = .ok true w := eq_cells nul w
theorem okc_nul : okc nul = true := by decide
theorem okc_scl {a : Nat → Int} (h : okc a = true) : okc (scl (-1) a) = true := inR_okc fun j hj => by have := okc_inR h j hj; simp only [scl]; omega
theorem okc_root {t : Nat} (ht : t ≤ 23) : okc (trn one t) = true := inR_okc fun j hj => by have := (root_facts t ht j hj).1; omega
theorem okc_mroot {t : Nat} (ht : t ≤ 23) : okc (mir (trn one t)) = true := inR_okc fun j hj => by have := (root_facts t ht j hj).2.1; omega
theorem okc_one : okc one = true := by decide
theorem know_CycAdd (a b : Nat → Int) : ∃ c v, (∀ w, Calls Try.prog 36 #[.agg (vec 8 a), .agg (vec 8 b)] w fun e w' => e = .returned (.tuple #[.agg (vec 8 c), .bool v]) ∧ Below w.heap.size w w') ∧ (∀ w, Calls Try.prog 28 #[.agg (vec 8 a), .agg (vec 8 b)] w fun e w' => e = .returned (.tuple #[.agg (vec 8 c), .bool v]) ∧ Below w.heap.size w w') ∧ (v = true → okc a = true ∧ okc b = true ∧ okc c = true ∧ c = add a b) := by
  cases hv : (okc a && okc b && okc (add a b))
  · exact ⟨nul, false, fun w => by rw [← ans_f hv]; exact specAdd_any a b w, fun w => by rw [← ans_f hv]; exact CycAdd_any a b w, fun h => by cases h⟩
  · refine ⟨add a b, true, fun w => by rw [← ans_t hv]; exact specAdd_any a b w, fun w => by rw [← ans_t hv]; exact CycAdd_any a b w, fun _ => ?_⟩
    simp only [Bool.and_eq_true] at hv
    exact ⟨hv.1.1, hv.1.2, hv.2, rfl⟩

theorem know_CycLess (a b : Nat → Int) : ∃ c v, (∀ w, Calls Try.prog 39 #[.agg (vec 8 a), .agg (vec 8 b)] w fun e w' => e = .returned (.tuple #[.agg (vec 8 c), .bool v]) ∧ Below w.heap.size w w') ∧ (∀ w, Calls Try.prog 37 #[.agg (vec 8 a), .agg (vec 8 b)] w fun e w' => e = .returned (.tuple #[.agg (vec 8 c), .bool v]) ∧ Below w.heap.size w w') ∧ (v = true → okc a = true ∧ okc b = true ∧ okc c = true ∧ c = sub a b) := by
  cases hv : (okc a && okc b && okc (sub a b))
  · exact ⟨nul, false, fun w => by rw [← ans_f hv]; exact specLess_any a b w, fun w => by rw [← ans_f hv]; exact CycLess_any a b w, fun h => by cases h⟩
  · refine ⟨sub a b, true, fun w => by rw [← ans_t hv]; exact specLess_any a b w, fun w => by rw [← ans_t hv]; exact CycLess_any a b w, fun _ => ?_⟩
    simp only [Bool.and_eq_true] at hv
    exact ⟨hv.1.1, hv.1.2, hv.2, rfl⟩

theorem know_CycTimes (a b : Nat → Int) : ∃ c v, (∀ w, Calls Try.prog 41 #[.agg (vec 8 a), .agg (vec 8 b)] w fun e w' => e = .returned (.tuple #[.agg (vec 8 c), .bool v]) ∧ Below w.heap.size w w') ∧ (∀ w, Calls Try.prog 33 #[.agg (vec 8 a), .agg (vec 8 b)] w fun e w' => e = .returned (.tuple #[.agg (vec 8 c), .bool v]) ∧ Below w.heap.size w w') ∧ (v = true → okc a = true ∧ okc b = true ∧ okc c = true ∧ c = prd a b) := by
  cases hv : (okc a && okc b && okc (prd a b))
  · exact ⟨nul, false, fun w => by rw [← ans_f hv]; exact specProd_any a b w, fun w => by rw [← ans_f hv]; exact CycTimes_any a b w, fun h => by cases h⟩
  · refine ⟨prd a b, true, fun w => by rw [← ans_t hv]; exact specProd_any a b w, fun w => by rw [← ans_t hv]; exact CycTimes_any a b w, fun _ => ?_⟩
    simp only [Bool.and_eq_true] at hv
    exact ⟨hv.1.1, hv.1.2, hv.2, rfl⟩

theorem know_CycMirror (a : Nat → Int) : ∃ c v, (∀ w, Calls Try.prog 45 #[.agg (vec 8 a)] w fun e w' => e = .returned (.tuple #[.agg (vec 8 c), .bool v]) ∧ Below w.heap.size w w') ∧ (∀ w, Calls Try.prog 32 #[.agg (vec 8 a)] w fun e w' => e = .returned (.tuple #[.agg (vec 8 c), .bool v]) ∧ Below w.heap.size w w') ∧ (v = true → okc a = true ∧ okc c = true ∧ c = mir a) := by
  cases va : okc a
  · exact ⟨nul, false, fun w => specCycMirror_no a va w, fun w => CycMirror_no a va w, fun h => by cases h⟩
  · cases hv : okc (mir a)
    · exact ⟨nul, false, fun w => by rw [← ans_bad hv]; exact specCycMirror_yes a va w, fun w => by rw [← ans_bad hv]; exact CycMirror_yes a va w, fun h => by cases h⟩
    · exact ⟨mir a, true, fun w => by rw [← ans_yes hv]; exact specCycMirror_yes a va w, fun w => by rw [← ans_yes hv]; exact CycMirror_yes a va w, fun _ => ⟨rfl, hv, rfl⟩⟩

theorem know_CycTurned (a : Nat → Int) (n : Int) : ∃ c v, (∀ w, Calls Try.prog 43 #[.agg (vec 8 a), .int .i64 n] w fun e w' => e = .returned (.tuple #[.agg (vec 8 c), .bool v]) ∧ Below w.heap.size w w') ∧ (∀ w, Calls Try.prog 34 #[.agg (vec 8 a), .int .i64 n] w fun e w' => e = .returned (.tuple #[.agg (vec 8 c), .bool v]) ∧ Below w.heap.size w w') ∧ (v = true → ∃ t : Nat, n = t ∧ t ≤ 23 ∧ okc a = true ∧ okc c = true ∧ c = trn a t) := by
  cases va : okc a
  · exact ⟨nul, false, fun w => specCycTurned_no1 a n va w, fun w => CycTurned_no1 a n va w, fun h => by cases h⟩
  · by_cases hn : n < 0 ∨ 23 < n
    · exact ⟨nul, false, fun w => specCycTurned_no2 a n va hn w, fun w => CycTurned_no2 a n va hn w, fun h => by cases h⟩
    · obtain ⟨t, rfl⟩ : ∃ t : Nat, n = t := ⟨n.toNat, by omega⟩
      have ht : t ≤ 23 := by omega
      cases hv : okc (trn a t)
      · exact ⟨nul, false, fun w => by rw [← ans_bad hv]; exact specCycTurned_yes a t va ht w, fun w => by rw [← ans_bad hv]; exact CycTurned_yes a t va ht w, fun h => by cases h⟩
      · exact ⟨trn a t, true, fun w => by rw [← ans_yes hv]; exact specCycTurned_yes a t va ht w, fun w => by rw [← ans_yes hv]; exact CycTurned_yes a t va ht w, fun _ => ⟨t, rfl, ht, rfl, hv, rfl⟩⟩

theorem know_CycScale (a : Nat → Int) (n : Int) : ∃ c v, (∀ w, Calls Try.prog 48 #[.agg (vec 8 a), .int .i64 n] w fun e w' => e = .returned (.tuple #[.agg (vec 8 c), .bool v]) ∧ Below w.heap.size w w') ∧ (∀ w, Calls Try.prog 27 #[.agg (vec 8 a), .int .i64 n] w fun e w' => e = .returned (.tuple #[.agg (vec 8 c), .bool v]) ∧ Below w.heap.size w w') ∧ (v = true → okc a = true ∧ okc c = true ∧ c = scl n a) := by
  cases va : okc a
  · exact ⟨nul, false, fun w => specCycScale_no1 a n va w, fun w => CycScale_no1 a n va w, fun h => by cases h⟩
  · by_cases hn : -1000000 ≤ n ∧ n ≤ 1000000
    · cases hv : okc (scl n a)
      · exact ⟨nul, false, fun w => by rw [← ans_bad hv]; exact specCycScale_yes a n va hn w, fun w => by rw [← ans_bad hv]; exact CycScale_yes a n va hn w, fun h => by cases h⟩
      · exact ⟨scl n a, true, fun w => by rw [← ans_yes hv]; exact specCycScale_yes a n va hn w, fun w => by rw [← ans_yes hv]; exact CycScale_yes a n va hn w, fun _ => ⟨rfl, hv, rfl⟩⟩
    · exact ⟨nul, false, fun w => specCycScale_no2 a n va hn w, fun w => CycScale_no2 a n va hn w, fun h => by cases h⟩

theorem know_CycGauss (re im : Int) : ∃ c v, (∀ w, Calls Try.prog 51 #[.int .i64 re, .int .i64 im] w fun e w' => e = .returned (.tuple #[.agg (vec 8 c), .bool v]) ∧ Below w.heap.size w w') ∧ (∀ w, Calls Try.prog 50 #[.int .i64 re, .int .i64 im] w fun e w' => e = .returned (.tuple #[.agg (vec 8 c), .bool v]) ∧ Below w.heap.size w w') ∧ (v = true → okc c = true ∧ c = gau re im) := by
  cases hv : okc (gau re im)
  · exact ⟨nul, false, fun w => by rw [← ans_bad hv]; exact specGauss_any re im w, fun w => by rw [← ans_bad hv]; exact CycGauss_any re im w, fun h => by cases h⟩
  · exact ⟨gau re im, true, fun w => by rw [← ans_yes hv]; exact specGauss_any re im w, fun w => by rw [← ans_yes hv]; exact CycGauss_any re im w, fun _ => ⟨hv, rfl⟩⟩

theorem know_CycRoot (t : Int) : ∃ c v, (∀ w, Calls Try.prog 31 #[.int .i64 t] w fun e w' => e = .returned (.tuple #[.agg (vec 8 c), .bool v]) ∧ Below w.heap.size w w') ∧ (∀ w, Calls Try.prog 30 #[.int .i64 t] w fun e w' => e = .returned (.tuple #[.agg (vec 8 c), .bool v]) ∧ Below w.heap.size w w') ∧ (v = true → ∃ n : Nat, t = n ∧ n ≤ 23 ∧ okc c = true ∧ c = trn one n) := by
  by_cases ht : t < 0 ∨ 23 < t
  · exact ⟨nul, false, fun w => specRoot_no t ht w, fun w => CycRoot_no t ht w, fun h => by cases h⟩
  · obtain ⟨n, rfl⟩ : ∃ n : Nat, t = n := ⟨t.toNat, by omega⟩
    have hn : n ≤ 23 := by omega
    exact ⟨trn one n, true, fun w => specRoot_yes n hn w, fun w => by rw [← ans_yes (okc_root hn)]; exact CycRoot_yes n hn w, fun _ => ⟨n, rfl, hn, okc_root hn, rfl⟩⟩

theorem rl_true {a : Nat → Int} (h : Eight (mir a) a) : rl a = true := eqv_true h
theorem rl_same {a : Nat → Int} (h : rl a = true) : Eight (mir a) a := eqv_same h
theorem mir_same {a b : Nat → Int} (h : Eight a b) : Eight (mir a) (mir b) := by
  have h0 := h 0 (by omega); have h1 := h 1 (by omega); have h2 := h 2 (by omega); have h3 := h 3 (by omega); have h4 := h 4 (by omega); have h5 := h 5 (by omega); have h6 := h 6 (by omega); have h7 := h 7 (by omega)
  refine eight_cases ?_ ?_ ?_ ?_ ?_ ?_ ?_ ?_ <;> simp [mir, *]
theorem prd_both {a : Nat → Int} (h : Eight (mir a) a) : Eight (mir (prd a a)) (prd a a) := fun j hj =>
  (mir_prd a a j hj).trans ((prd_same h j hj).trans ((prd_comm a (mir a) j hj).trans (prd_same h j hj)))
theorem know_CycValid (a : Nat → Int) : ∃ v, (∀ w, Calls Try.prog 26 #[.agg (vec 8 a)] w fun e w' => e = .returned (.bool v) ∧ Below w.heap.size w w') ∧
    (∀ w, Calls Try.prog 25 #[.agg (vec 8 a)] w fun e w' => e = .returned (.bool v) ∧ Below w.heap.size w w') ∧ (v = true → okc a = true) := ⟨_, fun w => specValid_any a w, fun w => CycValid_any a w, id⟩
theorem know_CycReal (a : Nat → Int) : ∃ v, (∀ w, Calls Try.prog 53 #[.agg (vec 8 a)] w fun e w' => e = .returned (.bool v) ∧ Below w.heap.size w w') ∧
    (∀ w, Calls Try.prog 46 #[.agg (vec 8 a)] w fun e w' => e = .returned (.bool v) ∧ Below w.heap.size w w') ∧ (v = true → okc a = true ∧ rl a = true) := by
  cases va : okc a
  · exact ⟨_, fun w => specReal_no a va w, fun w => CycReal_no a va w, fun h => by cases h⟩
  · exact ⟨_, fun w => specReal_yes a va w, fun w => CycReal_yes a va w, fun h => ⟨rfl, h⟩⟩
end Go.Proofs.Ytjfljelpjgkmjaa
