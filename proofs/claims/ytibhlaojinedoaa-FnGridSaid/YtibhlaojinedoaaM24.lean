/-
  Sizes of exact points: sums of two squares.
-/
import Derived.Test.YtibhlaojinedoaaM23
/- Sizes of exact points: sums of two squares. -/
namespace Go.Proofs.Ytibhlaojinedoaa
set_option maxRecDepth 20000
set_option linter.unusedVariables false
set_option linter.unusedSimpArgs false

theorem four_cases {P : Nat → Prop} (h0 : P 0) (h1 : P 1) (h2 : P 2) (h3 : P 3) : ∀ j, j < 4 → P j := fun j hj => by
  rcases (show j = 0 ∨ j = 1 ∨ j = 2 ∨ j = 3 by omega) with rfl | rfl | rfl | rfl <;> assumption
/-- Four times the square of the size. -/
def nrm (a : Nat → Int) : Nat → Int := rea (prd a (mir a))
set_option maxHeartbeats 4000000 in
theorem nrm_parts (a : Nat → Int) : ∀ j, j < 4 → stm (rea a) (rea a) j + stm (ima a) (ima a) j = 4 * nrm a j := by
  refine four_cases ?_ ?_ ?_ ?_ <;> simp [nrm, stm, rea, ima, f4, prd, red, outer, inner_at, mir] <;> grind
set_option maxHeartbeats 4000000 in
theorem nrm_stp (a : Nat → Int) : ∀ j, j < 4 → nrm (stp a) j = nrm a j := by
  refine four_cases ?_ ?_ ?_ ?_ <;> simp [nrm, rea, f4, prd, red, outer, inner_at, mir, stp] <;> grind
theorem rea_same {a b : Nat → Int} (h : Eight a b) : rea a = rea b := by
  unfold rea
  rw [h 0 (by omega), h 1 (by omega), h 2 (by omega), h 3 (by omega), h 4 (by omega), h 5 (by omega), h 7 (by omega)]
theorem rea_ext {a b : Nat → Int} (h : ∀ j, j < 4 → rea a j = rea b j) : rea a = rea b := by
  have e : ∀ c : Nat → Int, rea c = f4 (rea c 0) (rea c 1) (rea c 2) (rea c 3) := fun c => rfl
  rw [e a, e b, h 0 (by omega), h 1 (by omega), h 2 (by omega), h 3 (by omega)]
theorem mir_same' {a b : Nat → Int} (h : Eight a b) : Eight (mir a) (mir b) := by
  have h0 := h 0 (by omega); have h1 := h 1 (by omega); have h2 := h 2 (by omega); have h3 := h 3 (by omega); have h4 := h 4 (by omega); have h5 := h 5 (by omega); have h6 := h 6 (by omega); have h7 := h 7 (by omega)
  refine eight_cases ?_ ?_ ?_ ?_ ?_ ?_ ?_ ?_ <;> simp [mir, *]
theorem nrm_same {a b : Nat → Int} (h : Eight a b) : nrm a = nrm b := by
  unfold nrm
  refine rea_same fun j hj => ?_
  exact (prd_same (mir_same' h) j hj).trans ((prd_comm (mir b) a j hj).trans ((prd_same h j hj).trans (prd_comm b (mir b) j hj)))
theorem nrm_stps (a : Nat → Int) : ∀ n, nrm (stps n a) = nrm a
  | 0 => rfl
  | n + 1 => by
    have h := nrm_stps a n
    rw [show stps (n + 1) a = stp (stps n a) from rfl]
    exact (rea_ext (a := prd (stp (stps n a)) (mir (stp (stps n a)))) (b := prd (stps n a) (mir (stps n a))) (nrm_stp (stps n a))).trans h
theorem nrm_trn (a : Nat → Int) (t : Nat) (ht : t ≤ 23) : nrm (trn a t) = nrm a := by
  rw [← nrm_stps a t]
  exact (nrm_same (trn_steps a t ht)).symm
theorem nrm_mir (a : Nat → Int) : nrm (mir a) = nrm a := by
  unfold nrm
  exact rea_same fun j hj => (prd_same (mir_mir a) j hj).trans (prd_comm a (mir a) j hj)
theorem p4_four {a b c e : Int} (h : P4 (4 * a) (4 * b) (4 * c) (4 * e)) : P4 a b c e := by
  rcases p4_tri a b c e with ⟨rfl, rfl, rfl, rfl⟩ | k | k
  · exact (p4_zero h).elim
  · exact k
  · exfalso
    have k2 := p4_add (p4_add k k) (p4_add k k)
    refine p4_not h ?_
    rwa [show -a + -a + (-a + -a) = -(4 * a) by omega, show -b + -b + (-b + -b) = -(4 * b) by omega, show -c + -c + (-c + -c) = -(4 * c) by omega, show -e + -e + (-e + -e) = -(4 * e) by omega] at k2
theorem sgf_sq (x : Nat → Int) : sgf (stm x x) = sgf x * sgf x := sg4_mul _ _ _ _ _ _ _ _
theorem sgf_nil {x : Nat → Int} (h : sgf x = 0) : ∀ j, j < 4 → x j = 0 := by
  obtain ⟨h0, h1, h2, h3⟩ := sg4_zero.1 h
  exact four_cases h0 h1 h2 h3
theorem sgf_three (a : Nat → Int) : sgf a = 1 ∨ sgf a = -1 ∨ sgf a = 0 := sg4_range _ _ _ _
/-- Squares are 0 or greater. -/
theorem sq_pos (x : Nat → Int) : (∀ j, j < 4 → x j = 0) ∨ P4 (stm x x 0) (stm x x 1) (stm x x 2) (stm x x 3) := by
  rcases sgf_three x with h | h | h
  · exact .inr (sg4_pos.1 (show sgf (stm x x) = 1 by rw [sgf_sq, h]; rfl))
  · exact .inr (sg4_pos.1 (show sgf (stm x x) = 1 by rw [sgf_sq, h]; rfl))
  · exact .inl (sgf_nil h)
theorem stm_nil {x : Nat → Int} (h : ∀ j, j < 4 → x j = 0) : ∀ j, j < 4 → stm x x j = 0 := by
  refine four_cases ?_ ?_ ?_ ?_ <;> simp [stm, f4, h 0 (by omega), h 1 (by omega), h 2 (by omega), h 3 (by omega)]
theorem parts_nil {a : Nat → Int} (h : ∀ j, j < 4 → rea a j = 0) (k : ∀ j, j < 4 → ima a j = 0) : Eight a nul := by
  have h0 := h 0 (by omega); have h1 := h 1 (by omega); have h2 := h 2 (by omega); have h3 := h 3 (by omega)
  have k0 := k 0 (by omega); have k1 := k 1 (by omega); have k2 := k 2 (by omega); have k3 := k 3 (by omega)
  simp [rea, f4] at h0 h1 h2 h3
  simp [ima, f4] at k0 k1 k2 k3
  refine eight_cases ?_ ?_ ?_ ?_ ?_ ?_ ?_ ?_ <;> simp only [nul] <;> omega
theorem nul_parts {a : Nat → Int} (h : Eight a nul) : (∀ j, j < 4 → rea a j = 0) ∧ (∀ j, j < 4 → ima a j = 0) := by
  have h0 := h 0 (by omega); have h1 := h 1 (by omega); have h2 := h 2 (by omega); have h3 := h 3 (by omega); have h4 := h 4 (by omega); have h5 := h 5 (by omega); have h6 := h 6 (by omega); have h7 := h 7 (by omega)
  simp only [nul] at h0 h1 h2 h3 h4 h5 h6 h7
  constructor <;> refine four_cases ?_ ?_ ?_ ?_ <;> simp [rea, ima, f4] <;> omega
/-- The size of a point is greater than 0, but 0's. -/
theorem nrm_sign (a : Nat → Int) : (Eight a nul ∧ sgf (nrm a) = 0) ∨ (¬ Eight a nul ∧ sgf (nrm a) = 1) := by
  have hp := nrm_parts a
  have p0 := hp 0 (by omega); have p1 := hp 1 (by omega); have p2 := hp 2 (by omega); have p3 := hp 3 (by omega)
  rcases sq_pos (rea a) with hx | hx <;> rcases sq_pos (ima a) with hy | hy
  · refine .inl ⟨parts_nil hx hy, ?_⟩
    have x := stm_nil hx; have y := stm_nil hy
    have x0 := x 0 (by omega); have x1 := x 1 (by omega); have x2 := x 2 (by omega); have x3 := x 3 (by omega)
    have y0 := y 0 (by omega); have y1 := y 1 (by omega); have y2 := y 2 (by omega); have y3 := y 3 (by omega)
    exact sg4_zero.2 ⟨by omega, by omega, by omega, by omega⟩
  · refine .inr ⟨fun h => ?_, ?_⟩
    · have y := stm_nil (nul_parts h).2
      rw [y 0 (by omega), y 1 (by omega), y 2 (by omega), y 3 (by omega)] at hy
      exact p4_zero hy
    · have x := stm_nil hx
      rw [x 0 (by omega), Int.zero_add] at p0; rw [x 1 (by omega), Int.zero_add] at p1; rw [x 2 (by omega), Int.zero_add] at p2; rw [x 3 (by omega), Int.zero_add] at p3
      rw [p0, p1, p2, p3] at hy
      exact sg4_pos.2 (p4_four hy)
  · refine .inr ⟨fun h => ?_, ?_⟩
    · have x := stm_nil (nul_parts h).1
      rw [x 0 (by omega), x 1 (by omega), x 2 (by omega), x 3 (by omega)] at hx
      exact p4_zero hx
    · have y := stm_nil hy
      rw [y 0 (by omega), Int.add_zero] at p0; rw [y 1 (by omega), Int.add_zero] at p1; rw [y 2 (by omega), Int.add_zero] at p2; rw [y 3 (by omega), Int.add_zero] at p3
      rw [p0, p1, p2, p3] at hx
      exact sg4_pos.2 (p4_four hx)
  · refine .inr ⟨fun h => ?_, ?_⟩
    · have x := stm_nil (nul_parts h).1
      rw [x 0 (by omega), x 1 (by omega), x 2 (by omega), x 3 (by omega)] at hx
      exact p4_zero hx
    · have h := p4_add hx hy
      rw [p0, p1, p2, p3] at h
      exact sg4_pos.2 (p4_four h)
end Go.Proofs.Ytibhlaojinedoaa
