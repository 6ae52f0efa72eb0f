/-
  Out of the text SurdD: what the draws of polygons need.
  Out of the text SurdE: what the draws of polygons need.
  Out of the text SurdMathB: what the draws of polygons need.
  Out of the text SurdF: what the draws of polygons need.
-/
import Derived.Test.YtdpakhggpgdgbaaGreatM05
import Derived.Test.YtdpakhggpgdgbaaGreatM02
/- Out of the text SurdD: what the draws of polygons need. -/
namespace Go.Proofs.YtdpakhggpgdgbaaGreat
set_option maxRecDepth 20000
open Go.ChangeShapes Go.WideShapes Go.ChangeAt Go.RowKit
set_option linter.unusedVariables false
set_option linter.unusedSimpArgs false
theorem okr_in {a b c d : Int} (h : okr a b c d = true) : (-10000000 ≤ a ∧ a ≤ 10000000) ∧ (-10000000 ≤ b ∧ b ≤ 10000000) ∧ (-10000000 ≤ c ∧ c ≤ 10000000) ∧ (-10000000 ≤ d ∧ d ≤ 10000000) := by
  simp only [okr, Bool.and_eq_true] at h
  exact ⟨rng_in h.1.1.1, rng_in h.1.1.2, rng_in h.1.2, rng_in h.2⟩
/-- What is told: a valid surd and true, or the zero value and false. -/
def tell (a b c d : Int) : Value := if okr a b c d then .tuple #[sv a b c d, .bool true] else .tuple #[sv 0 0 0 0, .bool false]
theorem tell_t {a b c d : Int} (h : okr a b c d = true) : tell a b c d = .tuple #[sv a b c d, .bool true] := by simp [tell, h]
theorem tell_f {a b c d : Int} (h : okr a b c d = false) : tell a b c d = .tuple #[sv 0 0 0 0, .bool false] := by simp [tell, h]
theorem below_four (w : World) (o p q r : Obj) : Below w.heap.size w ((((w.alloc o).alloc p).alloc q).alloc r) := (below_three w o p q).alloc (by simp; omega) _
theorem rtold_any (a b c d : Int) (w : World) : Calls Tryz.prog 29 #[sv a b c d] w fun e w' => e = .returned (tell a b c d) ∧ Below w.heap.size w w' := by
  cases hv : okr a b c d
  · rw [tell_f hv]
    unfold sv
    go_enter Tryz.func29, Tryz.ntmps29
    go_wp2_with (refine (rvalid_any _ _ _ _ _).mono ?_; rintro e w' ⟨rfl, rfl⟩)
    simp [bodyPost, results, Tryz.results29, go_sem]
    exact below_three _ _ _ _
  · rw [tell_t hv]
    unfold sv
    go_enter Tryz.func29, Tryz.ntmps29
    go_wp2_with (refine (rvalid_any _ _ _ _ _).mono ?_; rintro e w' ⟨rfl, rfl⟩)
    simp [bodyPost, results, Tryz.results29, go_sem]
    exact below_three _ _ _ _
theorem radicalOf_any (a b c d : Int) (w : World) : Calls Tryz.prog 30 #[sv a b c d] w fun e w' => e = .returned (tell a b c d) ∧ Below w.heap.size w w' := by
  cases hv : okr a b c d
  · rw [tell_f hv]
    unfold sv
    go_enter Tryz.func30, Tryz.ntmps30
    go_wp2_with (refine (rvalid_any _ _ _ _ _).mono ?_; rintro e w' ⟨rfl, rfl⟩)
    simp [bodyPost, results, Tryz.results30, go_sem]
    exact below_four _ _ _ _ _
  · rw [tell_t hv]
    unfold sv
    go_enter Tryz.func30, Tryz.ntmps30
    go_wp2_with (refine (rvalid_any _ _ _ _ _).mono ?_; rintro e w' ⟨rfl, rfl⟩)
    simp [bodyPost, results, Tryz.results30, go_sem]
    exact below_four _ _ _ _ _
end Go.Proofs.YtdpakhggpgdgbaaGreat
/- Out of the text SurdE: what the draws of polygons need. -/
namespace Go.Proofs.YtdpakhggpgdgbaaGreat
set_option maxRecDepth 20000
open Go.ChangeShapes Go.WideShapes Go.ChangeAt Go.RowKit
set_option linter.unusedVariables false
set_option linter.unusedSimpArgs false
theorem zero4 : (#[.int .i64 0, .int .i64 0, .int .i64 0, .int .i64 0] : Array Value) = vec 4 (fun _ => 0) := rfl
/-- A surd as a value, by its four numbers. -/
abbrev p4 (f : Nat → Int) : Value := .agg (vec 4 f)
def okf (f : Nat → Int) : Bool := okr (f 0) (f 1) (f 2) (f 3)
/-- What is told of a surd. -/
def tls (v : Bool) (f : Nat → Int) : Value := if v && okf f then .tuple #[p4 f, .bool true] else .tuple #[p4 nul, .bool false]
theorem ans_no4 (f : Nat → Int) : tls false f = .tuple #[p4 nul, .bool false] := rfl
theorem ans_yes4 {f : Nat → Int} (h : okf f = true) : tls true f = .tuple #[p4 f, .bool true] := by simp [tls, h]
theorem ans_bad4 {f : Nat → Int} (h : okf f = false) : tls true f = .tuple #[p4 nul, .bool false] := by simp [tls, h]
theorem tell_tls (f : Nat → Int) : tell (f 0) (f 1) (f 2) (f 3) = tls true f := by
  cases h : okf f
  · rw [ans_bad4 h, tell_f h]; rfl
  · rw [ans_yes4 h, tell_t h]; rfl
theorem rtold_at (a : Nat → Int) (w : World) : Calls Tryz.prog 29 #[p4 a] w fun e w' => e = .returned (tls true a) ∧ Below w.heap.size w w' := by
  rw [← tell_tls]; exact rtold_any (a 0) (a 1) (a 2) (a 3) w
def sole4 (w : World) (a : Nat → Int) (E : TypeId) : World := (w.alloc (.cells (vec 4 nul) E)).setRow w.heap.size (vec 4 a)
theorem sole_first4 (w : World) (a : Nat → Int) (E : TypeId) : RowAt (sole4 w a E) w.heap.size 4 E a := (RowAt.newAt rfl rfl : RowAt _ _ 4 E nul).setRow
theorem sole_keep4 {w : World} {g n : Nat} {T : TypeId} {f : Nat → Int} (h : RowAt w g n T f) (a : Nat → Int) (E : TypeId) : RowAt (sole4 w a E) g n T f :=
  have := h.lt
  (h.alloc _).rowOther _ _ (by omega)
theorem sole_below4 {w W : World} (h : Below w.heap.size w W) (a : Nat → Int) (E : TypeId) : Below w.heap.size w (sole4 W a E) :=
  have := h.size
  below_setRow (h.alloc this _) this _
theorem told_yes4 (a : Nat → Int) (h : okf a = true) (w : World) :
    Calls Tryz.prog 29 #[p4 a] w fun e w' => e = .returned (.tuple #[p4 a, .bool true]) ∧ Below w.heap.size w w' := by
  rw [← ans_yes4 h]; exact rtold_at a w
theorem told_no4 (a : Nat → Int) (h : okf a = false) (w : World) :
    Calls Tryz.prog 29 #[p4 a] w fun e w' => e = .returned (.tuple #[p4 nul, .bool false]) ∧ Below w.heap.size w w' := by
  rw [← ans_bad4 h]; exact rtold_at a w

theorem told_two4 (a : Nat → Int) (w : World) :
    Calls Tryz.prog 29 #[p4 a] w fun e w' => e = .returned (.tuple #[p4 (if okf a then a else nul), .bool (okf a)]) ∧ Below w.heap.size w w' := by
  cases h : okf a
  · exact told_no4 a h w
  · exact told_yes4 a h w

theorem told_some4 (c : Nat → Int) : ∃ c' v', (∀ w, Calls Tryz.prog 29 #[.agg (vec 4 c)] w fun e w' => e = .returned (.tuple #[.agg (vec 4 c'), .bool v']) ∧ Below w.heap.size w w') ∧ tls true c = .tuple #[.agg (vec 4 c'), .bool v'] :=
  ⟨if okf c then c else nul, okf c, told_two4 c, by cases h : okf c <;> simp [tls, h]⟩
/-- Four times a product. -/
def stm (a b : Nat → Int) : Nat → Int := f4 (a 0 * b 0 + 2 * a 1 * b 1 + 3 * a 2 * b 2 + 6 * a 3 * b 3) (a 0 * b 1 + a 1 * b 0 + 3 * (a 2 * b 3 + a 3 * b 2)) (a 0 * b 2 + a 2 * b 0 + 2 * (a 1 * b 3 + a 3 * b 1)) (a 0 * b 3 + a 3 * b 0 + a 1 * b 2 + a 2 * b 1)
end Go.Proofs.YtdpakhggpgdgbaaGreat
/- Out of the text SurdMathB: what the draws of polygons need. -/
namespace Go.Proofs.YtdpakhggpgdgbaaGreat
set_option linter.unusedVariables false
set_option linter.unusedSimpArgs false
theorem p4_int {n : Int} (h : 0 < n) : P4 n 0 0 0 := by
  have h2 : 0 < n * n := Int.mul_pos h h
  refine .inl ⟨.inl ⟨h, ?_⟩, .inl ⟨?_, ?_⟩⟩
  · show 0 < n * n - 2 * 0 * 0; omega
  · show 0 < (n * n + 2 * 0 * 0) - ((3 * 0 + 2 * 0 * 0) * 0 + 2 * (3 * 0 + 0 * 0) * 0); omega
  · show 0 < ((n * n + 2 * 0 * 0) - ((3 * 0 + 2 * 0 * 0) * 0 + 2 * (3 * 0 + 0 * 0) * 0)) * ((n * n + 2 * 0 * 0) - ((3 * 0 + 2 * 0 * 0) * 0 + 2 * (3 * 0 + 0 * 0) * 0)) - 2 * ((n * 0 + 0 * n) - ((3 * 0 + 2 * 0 * 0) * 0 + (3 * 0 + 0 * 0) * 0)) * ((n * 0 + 0 * n) - ((3 * 0 + 2 * 0 * 0) * 0 + (3 * 0 + 0 * 0) * 0))
    have h3 := Int.mul_pos h2 h2
    simp
    exact h3
theorem p4_one {p q : Half} (h1 : PH p) (h2 : PH (p * p - three * q * q)) : P4 p.x p.y q.x q.y := .inl ⟨h1, h2⟩
theorem p4_lin2 {n b : Int} (h : 0 < n) (hb : 2 * b * b < n * n) : P4 n b 0 0 := by
  have h1 : PH ⟨n, b⟩ := .inl ⟨h, by show 0 < n * n - 2 * b * b; omega⟩
  refine p4_one (p := ⟨n, b⟩) (q := 0) h1 ?_
  have h2 := Two.p_mul h1 h1
  rwa [show (⟨n, b⟩ * ⟨n, b⟩ : Half) = ⟨n, b⟩ * ⟨n, b⟩ - three * 0 * 0 by apply Half.ext <;> simp only [Half.subx, Half.suby, Half.mulx, Half.muly, Half.zx, Half.zy] <;> grind] at h2
theorem ph_int {n : Int} (h : 0 < n) : PH ⟨n, 0⟩ := .inl ⟨h, by show 0 < n * n - 2 * 0 * 0; have := Int.mul_pos h h; omega⟩
theorem p4_lin3 {n c : Int} (h : 0 < n) (hc : 3 * c * c < n * n) : P4 n 0 c 0 := by
  refine p4_one (p := ⟨n, 0⟩) (q := ⟨c, 0⟩) (ph_int h) ?_
  have h2 := ph_int (n := n * n - 3 * c * c) (by omega)
  rwa [show (⟨n * n - 3 * c * c, 0⟩ : Half) = ⟨n, 0⟩ * ⟨n, 0⟩ - three * ⟨c, 0⟩ * ⟨c, 0⟩ by apply Half.ext <;> simp only [Half.subx, Half.suby, Half.mulx, Half.muly, tx, ty] <;> grind] at h2
theorem p4_lin6 {n e : Int} (h : 0 < n) (he : 6 * e * e < n * n) : P4 n 0 0 e := by
  refine p4_one (p := ⟨n, 0⟩) (q := ⟨0, e⟩) (ph_int h) ?_
  have h2 := ph_int (n := n * n - 6 * e * e) (by omega)
  rwa [show (⟨n * n - 6 * e * e, 0⟩ : Half) = ⟨n, 0⟩ * ⟨n, 0⟩ - three * ⟨0, e⟩ * ⟨0, e⟩ by apply Half.ext <;> simp only [Half.subx, Half.suby, Half.mulx, Half.muly, tx, ty] <;> grind] at h2
theorem sq_le {x : Int} (X : Nat) (h : -(X : Int) ≤ x ∧ x ≤ X) : 0 ≤ x * x ∧ x * x ≤ ((X * X : Nat) : Int) := by
  refine ⟨sq_nonneg x, ?_⟩
  have h1 : x.natAbs ≤ X := by omega
  have h3 : x.natAbs * x.natAbs ≤ X * X := Nat.mul_le_mul h1 h1
  have h4 : ((x.natAbs * x.natAbs : Nat) : Int) = x * x := by
    rcases Int.natAbs_eq x with e | e
    · rw [Int.natCast_mul, ← e]
    · conv => rhs; rw [e]
      rw [Int.neg_mul_neg, Int.natCast_mul]
  omega
theorem far {a b c e : Int} (ha : -10000000 ≤ a ∧ a ≤ 10000000) (hb : -10000000 ≤ b ∧ b ≤ 10000000) (hc : -10000000 ≤ c ∧ c ≤ 10000000) (he : -10000000 ≤ e ∧ e ≤ 10000000) : P4 (a + 80000000) b c e := by
  have h1 := sq_le 10000000 hb; have h2 := sq_le 10000000 hc; have h3 := sq_le 10000000 he
  simp only [Nat.reduceMul] at h1 h2 h3
  have k1 : P4 20000000 b 0 0 := p4_lin2 (by decide) (by rw [Int.mul_assoc]; omega)
  have k2 : P4 20000000 0 c 0 := p4_lin3 (by decide) (by rw [Int.mul_assoc]; omega)
  have k3 : P4 25000000 0 0 e := p4_lin6 (by decide) (by rw [Int.mul_assoc]; omega)
  have k4 : P4 (a + 15000000) 0 0 0 := p4_int (by omega)
  have := p4_add (p4_add k1 k2) (p4_add k3 k4)
  rwa [show (20000000 : Int) + 20000000 + (25000000 + (a + 15000000)) = a + 80000000 by omega, show b + 0 + (0 + 0) = b by omega, show 0 + c + (0 + 0) = c by omega, show 0 + 0 + (e + 0) = e by omega] at this
end Go.Proofs.YtdpakhggpgdgbaaGreat
/- Out of the text SurdF: what the draws of polygons need. -/
namespace Go.Proofs.YtdpakhggpgdgbaaGreat
set_option maxRecDepth 20000
open Go.ChangeShapes Go.WideShapes Go.ChangeAt Go.RowKit
set_option linter.unusedVariables false
set_option linter.unusedSimpArgs false
theorem below_step {w W : World} (h : Below w.heap.size w W) (o : Obj) : Below w.heap.size w (W.alloc o) := h.alloc h.size o
theorem radicalOf_t {a b c d : Int} (h : okr a b c d = true) (w : World) : Calls Tryz.prog 30 #[.agg #[.int .i64 a, .int .i64 b, .int .i64 c, .int .i64 d]] w fun e w' => e = .returned (.tuple #[.agg #[.int .i64 a, .int .i64 b, .int .i64 c, .int .i64 d], .bool true]) ∧ Below w.heap.size w w' := by
  have := radicalOf_any a b c d w
  rw [tell_t h] at this
  exact this
theorem radicalOf_f {a b c d : Int} (h : okr a b c d = false) (w : World) : Calls Tryz.prog 30 #[.agg #[.int .i64 a, .int .i64 b, .int .i64 c, .int .i64 d]] w fun e w' => e = .returned (.tuple #[.agg #[.int .i64 0, .int .i64 0, .int .i64 0, .int .i64 0], .bool false]) ∧ Below w.heap.size w w' := by
  have := radicalOf_any a b c d w
  rw [tell_f h] at this
  exact this
theorem SurdSign_any (a b c d : Int) (w : World) : Calls Tryz.prog 11 #[sv a b c d] w fun e w' => e = .returned (.tuple #[.int .i64 (if okr a b c d then sg4 a b c d else 0), .bool (okr a b c d)]) ∧ Below w.heap.size w w' := by
  unfold sv
  cases hv : okr a b c d
  · have R := fun w => radicalOf_f hv w
    clear hv
    go_enter Tryz.func11, Tryz.ntmps11
    go_wp2_with (go_at_call 30; refine (R _).mono ?_; rintro e w2 ⟨rfl, hb2⟩)
    go_ret2
    exact ⟨rfl, below_step (below_next (below_one _ _) hb2) _⟩
  · obtain ⟨ha, hb, hc, hd⟩ := okr_in hv
    have R := fun w => radicalOf_t hv w
    have S := fun w => rsign_any a b c d (by omega) (by omega) (by omega) (by omega) w
    unfold sv at S
    generalize sg4 a b c d = z at *
    try rw [if_pos rfl]
    clear hv ha hb hc hd
    go_enter Tryz.func11, Tryz.ntmps11
    go_wp2_with (first | (go_at_call 30; refine (R _).mono ?_; rintro e w2 ⟨rfl, hb2⟩) | (go_at_call 31; refine (S _).mono ?_; rintro e w3 ⟨rfl, hb3⟩))
    go_ret2
    exact ⟨rfl, below_next (below_step (below_next (below_one _ _) hb2) _) hb3⟩
/-- The sign of a surd; of the difference of two. -/
def sgf (a : Nat → Int) : Int := sg4 (a 0) (a 1) (a 2) (a 3)
/-- One point and a surd's variable. -/
def boxP (w : World) (a : Nat → Int) (T O : TypeId) : World := (w.alloc (.cells (vec 8 a) T)).alloc (.cells (vec 4 nul) O)
theorem boxP_facts (w : World) (a : Nat → Int) (T O : TypeId) : RowAt (boxP w a T O) w.heap.size 8 T a ∧ RowAt (boxP w a T O) (w.heap.size + 1) 4 O nul ∧ Below w.heap.size w (boxP w a T O) :=
  ⟨(RowAt.newAt rfl rfl).alloc _, RowAt.newAt rfl (by simp), ((Below.refl _ _).alloc (Nat.le_refl _) _).alloc (by simp) _⟩
/-- Four times the real part, the imaginary part. -/
def rea (a : Nat → Int) : Nat → Int := f4 (4 * a 0 + 2 * a 4) (a 1 + 2 * a 3 - a 5 + a 7) (2 * a 2) (a 1 + a 5 - a 7)
def ima (a : Nat → Int) : Nat → Int := f4 (2 * a 2 + 4 * a 6) (0 - a 1 + 2 * a 3 + a 5 + a 7) (2 * a 4) (a 1 + a 5 + a 7)
theorem ima_rea (a : Nat → Int) : ima a = rea (trn a 18) := by
  unfold ima rea
  congr 1 <;> simp [trn, red, tpow] <;> omega
set_option maxHeartbeats 1000000 in
theorem realPart_any (a : Nat → Int) (ha : ∀ j, j < 8 → -1000000000000 ≤ a j ∧ a j ≤ 1000000000000) (w : World) : Calls Tryz.prog 114 #[pt a] w fun e w' => e = .returned (p4 (rea a)) ∧ Below w.heap.size w w' := by
  have h0 := ha 0 (by omega); have h1 := ha 1 (by omega); have h2 := ha 2 (by omega); have h3 := ha 3 (by omega); have h4 := ha 4 (by omega); have h5 := ha 5 (by omega); have h6 := ha 6 (by omega); have h7 := ha 7 (by omega)
  clear ha
  change Calls Tryz.prog 114 #[.agg #[.int .i64 (a 0), .int .i64 (a 1), .int .i64 (a 2), .int .i64 (a 3), .int .i64 (a 4), .int .i64 (a 5), .int .i64 (a 6), .int .i64 (a 7)]] w fun e w' => e = .returned (.agg #[.int .i64 (4 * a 0 + 2 * a 4), .int .i64 (a 1 + 2 * a 3 - a 5 + a 7), .int .i64 (2 * a 2), .int .i64 (a 1 + a 5 - a 7)]) ∧ Below w.heap.size w w'
  go_enter Tryz.func114, Tryz.ntmps114
  go_wp2
  simp [bodyPost, results, Tryz.results114, go_sem]
  exact below_two _ _ _
end Go.Proofs.YtdpakhggpgdgbaaGreat
