/-
  What the walks of the laws of surds share.
-/
import Derived.Test.YtcdlenphgenejaaSurdX
import Derived.Test.YtcdlenphgenejaaDrawSurd
import Derived.Test.YtcdlenphgenejaaSurdMathC
namespace Go.Proofs.Ytcdlenphgenejaa
set_option maxRecDepth 20000
open Go.ChangeShapes Go.WideShapes Go.ChangeAt Go.RowKit
set_option linter.unusedVariables false
set_option linter.unusedSimpArgs false

theorem eqs_cells (f : Nat → Int) (w : World) : (Op.equalIn 10000 24 (.agg #[.int .i64 (f 0), .int .i64 (f 1), .int .i64 (f 2), .int .i64 (f 3)]) (.agg #[.int .i64 (f 0), .int .i64 (f 1), .int .i64 (f 2), .int .i64 (f 3)])).run Try.prog w = .ok true w := by
  have h := eq_four 24 (.inl rfl) (f 0) (f 1) (f 2) (f 3) (f 0) (f 1) (f 2) (f 3) w
  simpa using h
theorem eqs_nul (w : World) : (Op.equalIn 10000 24 (.agg #[.int .i64 (nul 0), .int .i64 (nul 1), .int .i64 (nul 2), .int .i64 (nul 3)]) (.agg #[.int .i64 0, .int .i64 0, .int .i64 0, .int .i64 0])).run Try.prog w = .ok true w := eqs_cells nul w
theorem rng_of {n : Int} (h : -10000000 ≤ n ∧ n ≤ 10000000) : rng n = true := decide_eq_true h
theorem okf_of {f : Nat → Int} (h0 : -10000000 ≤ f 0 ∧ f 0 ≤ 10000000) (h1 : -10000000 ≤ f 1 ∧ f 1 ≤ 10000000) (h2 : -10000000 ≤ f 2 ∧ f 2 ≤ 10000000) (h3 : -10000000 ≤ f 3 ∧ f 3 ≤ 10000000) : okf f = true := by
  simp [okf, okr, rng_of h0, rng_of h1, rng_of h2, rng_of h3]
theorem okf_same {a b : Nat → Int} (h : ∀ j, j < 4 → a j = b j) : okf a = okf b := by
  unfold okf; rw [h 0 (by omega), h 1 (by omega), h 2 (by omega), h 3 (by omega)]
theorem tls_is {v : Bool} {c d : Nat → Int} (h : ∀ j, j < 4 → c j = d j) (hv : (v && okf d) = true) : tls v c = .tuple #[.agg (vec 4 d), .bool true] := by
  simp only [tls, okf_same h, hv, if_true]
  rw [show p4 c = p4 d by unfold p4; rw [vec_same h]]
theorem SurdSign_yes {a : Nat → Int} {z : Int} (va : okf a = true) (h : sgf a = z) (w : World) : Calls Try.prog 18 #[.agg (vec 4 a)] w fun e w' => e = .returned (.tuple #[.int .i64 z, .bool true]) ∧ Below w.heap.size w w' := by
  have := SurdSign_any (a 0) (a 1) (a 2) (a 3) w
  rw [show okr (a 0) (a 1) (a 2) (a 3) = true from va, if_pos rfl, show sg4 (a 0) (a 1) (a 2) (a 3) = z from h] at this
  exact this
theorem SurdCompare_yes {a b : Nat → Int} {z : Int} (va : okf a = true) (vb : okf b = true) (h : sgf (sub a b) = z) (w : World) : Calls Try.prog 31 #[.agg (vec 4 a), .agg (vec 4 b)] w fun e w' => e = .returned (.tuple #[.int .i64 z, .bool true]) ∧ Below w.heap.size w w' := by
  have := SurdCompare_any a b w
  rw [va, vb, if_pos (show (true && true) = true from rfl), h] at this
  exact this
theorem know_turned (a : Nat → Int) (t : Nat) (ht : t ≤ 23) : ∃ d v, (∀ w, Calls Try.prog 24 #[.agg (vec 8 a), .int .i64 t] w fun e w' => e = .returned (.tuple #[.agg (vec 8 d), .bool v]) ∧ Below w.heap.size w w') ∧ (v = true → okc a = true ∧ okc d = true ∧ d = trn a t) := by
  cases va : okc a
  · exact ⟨nul, false, fun w => CycTurned_no1 a t va w, fun h => by cases h⟩
  · cases hv : okc (trn a t)
    · exact ⟨nul, false, fun w => by rw [← ans_bad hv]; exact CycTurned_yes a t va ht w, fun h => by cases h⟩
    · exact ⟨trn a t, true, fun w => by rw [← ans_yes hv]; exact CycTurned_yes a t va ht w, fun _ => ⟨rfl, hv, rfl⟩⟩
theorem rea_mir (a : Nat → Int) : ∀ j, j < 4 → rea (mir a) j = rea a j := by
  refine four_cases ?_ ?_ ?_ ?_ <;> simp [rea, f4, mir] <;> omega
theorem ima_mir (a : Nat → Int) : ∀ j, j < 4 → ima (mir a) j = -ima a j := by
  refine four_cases ?_ ?_ ?_ ?_ <;> simp [ima, f4, mir] <;> omega
theorem ima_six (a : Nat → Int) : ∀ j, j < 4 → ima (trn a 6) j = rea a j := by
  refine four_cases ?_ ?_ ?_ ?_ <;> simp [rea, ima, f4, trn, red, tpow] <;> omega
theorem Re_same {m c : Nat → Int} {v : Bool} (h : v = true → okc m = true ∧ okf c = true ∧ ∀ j, j < 4 → rea m j = c j) :
    ∃ x u, (∀ w, Calls Try.prog 21 #[.agg (vec 8 m)] w fun e w' => e = .returned (.tuple #[.agg (vec 4 x), .bool u]) ∧ Below w.heap.size w w') ∧ (v = true → u = true ∧ x = c) := by
  cases v
  · obtain ⟨x, u, -, K, -⟩ := know_SurdRe m
    exact ⟨x, u, K, fun h => by cases h⟩
  · obtain ⟨h1, h2, h3⟩ := h rfl
    exact ⟨c, true, fun w => by rw [← tls_is (v := true) h3 (by rw [h2]; rfl)]; exact SurdRe_yes m h1 w, fun _ => ⟨rfl, rfl⟩⟩
theorem Im_same {m c : Nat → Int} {v : Bool} (h : v = true → okc m = true ∧ okf c = true ∧ ∀ j, j < 4 → ima m j = c j) :
    ∃ x u, (∀ w, Calls Try.prog 25 #[.agg (vec 8 m)] w fun e w' => e = .returned (.tuple #[.agg (vec 4 x), .bool u]) ∧ Below w.heap.size w w') ∧ (v = true → u = true ∧ x = c) := by
  cases v
  · obtain ⟨x, u, -, K, -⟩ := know_SurdIm m
    exact ⟨x, u, K, fun h => by cases h⟩
  · obtain ⟨h1, h2, h3⟩ := h rfl
    exact ⟨c, true, fun w => by rw [← tls_is (v := true) h3 (by rw [h2]; rfl)]; exact SurdIm_yes m h1 w, fun _ => ⟨rfl, rfl⟩⟩
theorem sgf_in (a : Nat → Int) : -1 ≤ sgf a ∧ sgf a ≤ 1 := by have := sg4_range (a 0) (a 1) (a 2) (a 3); unfold sgf; omega
theorem sgf_same {a b : Nat → Int} (h : ∀ j, j < 4 → a j = b j) : sgf a = sgf b := by
  unfold sgf; rw [h 0 (by omega), h 1 (by omega), h 2 (by omega), h 3 (by omega)]
theorem sgf_neg {a b : Nat → Int} (h : ∀ j, j < 4 → b j = -a j) : sgf b = -sgf a := by
  unfold sgf; rw [h 0 (by omega), h 1 (by omega), h 2 (by omega), h 3 (by omega)]; exact sg4_neg _ _ _ _
theorem Norm_same {m c : Nat → Int} (a : Nat → Int) (v : Bool) (h : v = true → nrm m = nrm a) (hc : c = nrm a) :
    ∃ x u, (∀ w, Calls Try.prog 41 #[.agg (vec 8 m)] w fun e w' => e = .returned (.tuple #[.agg (vec 4 x), .bool u]) ∧ Below w.heap.size w w') ∧ (v = true → u = true → x = c) := by
  obtain ⟨x, u, -, K, k⟩ := know_SurdNorm m
  exact ⟨x, u, K, fun e f => by rw [hc, ← h e]; exact (k f).2.2.2.2⟩
theorem eqc_nul (f : Nat → Int) (w : World) : (Op.equalIn 10000 34 (.agg #[.int .i64 (f 0), .int .i64 (f 1), .int .i64 (f 2), .int .i64 (f 3), .int .i64 (f 4), .int .i64 (f 5), .int .i64 (f 6), .int .i64 (f 7)]) (.agg #[.int .i64 0, .int .i64 0, .int .i64 0, .int .i64 0, .int .i64 0, .int .i64 0, .int .i64 0, .int .i64 0])).run Try.prog w = .ok (eqv 8 f nul) w := equal_cyc f nul w
theorem norm_is (a : Nat → Int) : (sgf (nrm a) == 1) = !eqv 8 a nul := by
  rcases nrm_sign a with ⟨h, k⟩ | ⟨h, k⟩
  · rw [k, eqv_true h]; rfl
  · rw [k]
    cases e : eqv 8 a nul
    · rfl
    · exact absurd (eqv_same e) h
theorem norm_least (a : Nat → Int) : 0 ≤ sgf (nrm a) := by
  rcases nrm_sign a with ⟨h, k⟩ | ⟨h, k⟩ <;> rw [k] <;> decide
theorem real_is (a : Nat → Int) : rl a = (ima a 0 == 0 && ima a 1 == 0 && ima a 2 == 0 && ima a 3 == 0) := by
  rw [Bool.eq_iff_iff]
  simp only [Bool.and_eq_true, beq_iff_eq]
  constructor
  · intro h
    have e := eqv_same h
    have h0 := e 0 (by omega); have h1 := e 1 (by omega); have h2 := e 2 (by omega); have h3 := e 3 (by omega); have h4 := e 4 (by omega); have h5 := e 5 (by omega); have h6 := e 6 (by omega); have h7 := e 7 (by omega)
    simp [mir] at h0 h1 h2 h3 h4 h5 h6 h7
    simp only [ima, f4]
    refine ⟨⟨⟨?_, ?_⟩, ?_⟩, ?_⟩ <;> simp <;> omega
  · rintro ⟨⟨⟨h0, h1⟩, h2⟩, h3⟩
    simp [ima, f4] at h0 h1 h2 h3
    refine eqv_true (eight_cases ?_ ?_ ?_ ?_ ?_ ?_ ?_ ?_) <;> simp [mir] <;> omega
end Go.Proofs.Ytcdlenphgenejaa
