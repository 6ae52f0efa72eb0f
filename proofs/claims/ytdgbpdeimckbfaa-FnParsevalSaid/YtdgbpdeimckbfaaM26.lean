/-
  Contracts of impl's radicals, second part: from surds and back, products, comparisons.
  impl's functions of surds.
  Signs, second part: greatest whole numbers, sizes.
  impl's functions of surds, second part: signs, comparisons, whole numbers.
  Sizes of exact points: sums of two squares.
  Contracts of spec's signs.
-/
import Derived.Test.YtdgbpdeimckbfaaM25
import Derived.Test.YtdgbpdeimckbfaaM02
import Derived.Test.YtdgbpdeimckbfaaM24
import Derived.WalkLawsBesides
import Derived.Deep.DeepCutAuto
/- Contracts of impl's radicals, second part: from surds and back, products, comparisons. -/
namespace Go.Proofs.Ytdgbpdeimckbfaa
set_option maxRecDepth 20000
open Go.ChangeShapes Go.WideShapes Go.ChangeAt Go.RowKit
set_option linter.unusedVariables false
set_option linter.unusedSimpArgs false

theorem okr_in {a b c d : Int} (h : okr a b c d = true) : (-10000000 ≤ a ∧ a ≤ 10000000) ∧ (-10000000 ≤ b ∧ b ≤ 10000000) ∧ (-10000000 ≤ c ∧ c ≤ 10000000) ∧ (-10000000 ≤ d ∧ d ≤ 10000000) := by
  simp only [okr, Bool.and_eq_true] at h
  exact ⟨rng_in h.1.1.1, rng_in h.1.1.2, rng_in h.1.2, rng_in h.2⟩
/-- What is told: a valid surd and true, or the zero value and false. -/
def tell (a b c d : Int) : Value := if okr a b c d then .tuple #[sv a b c d, .bool true] else .tuple #[sv 0 0 0 0, .bool false]
theorem tell_t {a b c d : Int} (h : okr a b c d = true) : tell a b c d = .tuple #[sv a b c d, .bool true] := by simp [tell, h]
theorem tell_f {a b c d : Int} (h : okr a b c d = false) : tell a b c d = .tuple #[sv 0 0 0 0, .bool false] := by simp [tell, h]
theorem below_four (w : World) (o p q r : Obj) : Below w.heap.size w ((((w.alloc o).alloc p).alloc q).alloc r) := (below_three w o p q).alloc (by simp; omega) _
theorem below_five (w : World) (o p q r s : Obj) : Below w.heap.size w (((((w.alloc o).alloc p).alloc q).alloc r).alloc s) := (below_four w o p q r).alloc (by simp; omega) _
theorem rtold_any (a b c d : Int) (w : World) : Calls Try.prog 95 #[sv a b c d] w fun e w' => e = .returned (tell a b c d) ∧ Below w.heap.size w w' := by
  cases hv : okr a b c d
  · rw [tell_f hv]
    unfold sv
    go_enter Try.func95, Try.ntmps95
    go_wp2_with (refine (rvalid_any _ _ _ _ _).mono ?_; rintro e w' ⟨rfl, rfl⟩)
    simp [bodyPost, results, Try.results95, go_sem]
    exact below_three _ _ _ _
  · rw [tell_t hv]
    unfold sv
    go_enter Try.func95, Try.ntmps95
    go_wp2_with (refine (rvalid_any _ _ _ _ _).mono ?_; rintro e w' ⟨rfl, rfl⟩)
    simp [bodyPost, results, Try.results95, go_sem]
    exact below_three _ _ _ _
theorem radicalOf_any (a b c d : Int) (w : World) : Calls Try.prog 108 #[sv a b c d] w fun e w' => e = .returned (tell a b c d) ∧ Below w.heap.size w w' := by
  cases hv : okr a b c d
  · rw [tell_f hv]
    unfold sv
    go_enter Try.func108, Try.ntmps108
    go_wp2_with (refine (rvalid_any _ _ _ _ _).mono ?_; rintro e w' ⟨rfl, rfl⟩)
    simp [bodyPost, results, Try.results108, go_sem]
    exact below_four _ _ _ _ _
  · rw [tell_t hv]
    unfold sv
    go_enter Try.func108, Try.ntmps108
    go_wp2_with (refine (rvalid_any _ _ _ _ _).mono ?_; rintro e w' ⟨rfl, rfl⟩)
    simp [bodyPost, results, Try.results108, go_sem]
    exact below_four _ _ _ _ _
set_option maxHeartbeats 2000000 in
theorem rtimes_any (a b c d a' b' c' d' : Int) (ha : -10000000 ≤ a ∧ a ≤ 10000000) (hb : -10000000 ≤ b ∧ b ≤ 10000000) (hc : -10000000 ≤ c ∧ c ≤ 10000000) (hd : -10000000 ≤ d ∧ d ≤ 10000000) (ha' : -10000000 ≤ a' ∧ a' ≤ 10000000) (hb' : -10000000 ≤ b' ∧ b' ≤ 10000000) (hc' : -10000000 ≤ c' ∧ c' ≤ 10000000) (hd' : -10000000 ≤ d' ∧ d' ≤ 10000000) (w : World) :
    Calls Try.prog 208 #[sv a b c d, sv a' b' c' d'] w fun e w' => e = .returned (sv (a * a' + 2 * b * b' + 3 * c * c' + 6 * d * d') (a * b' + b * a' + 3 * (c * d' + d * c')) (a * c' + c * a' + 2 * (b * d' + d * b')) (a * d' + d * a' + b * c' + c * b')) ∧ Below w.heap.size w w' := by
  have m1 := mul_in 10000000 10000000 ha ha'
  have m2 := mul_in 20000000 10000000 (x := 2 * b) (by omega) hb'
  have m3 := mul_in 30000000 10000000 (x := 3 * c) (by omega) hc'
  have m4 := mul_in 60000000 10000000 (x := 6 * d) (by omega) hd'
  have m5 := mul_in 10000000 10000000 ha hb'
  have m6 := mul_in 10000000 10000000 hb ha'
  have m7 := mul_in 10000000 10000000 hc hd'
  have m8 := mul_in 10000000 10000000 hd hc'
  have m9 := mul_in 10000000 10000000 ha hc'
  have m10 := mul_in 10000000 10000000 hc ha'
  have m11 := mul_in 10000000 10000000 hb hd'
  have m12 := mul_in 10000000 10000000 hd hb'
  have m13 := mul_in 10000000 10000000 ha hd'
  have m14 := mul_in 10000000 10000000 hd ha'
  have m15 := mul_in 10000000 10000000 hb hc'
  have m16 := mul_in 10000000 10000000 hc hb'
  simp only [Nat.reduceMul] at m1 m2 m3 m4 m5 m6 m7 m8 m9 m10 m11 m12 m13 m14 m15 m16
  unfold sv
  go_enter Try.func208, Try.ntmps208
  go_wp2
  simp [bodyPost, results, Try.results208, go_sem]
  exact below_three _ _ _ _
end Go.Proofs.Ytdgbpdeimckbfaa
/- impl's functions of surds. -/
namespace Go.Proofs.Ytdgbpdeimckbfaa
set_option maxRecDepth 20000
open Go.ChangeShapes Go.WideShapes Go.ChangeAt Go.RowKit
set_option linter.unusedVariables false
set_option linter.unusedSimpArgs false

theorem zero4 : (#[.int .i64 0, .int .i64 0, .int .i64 0, .int .i64 0] : Array Value) = vec 4 (fun _ => 0) := rfl
/-- A surd as a value, by its four numbers. -/
abbrev p4 (f : Nat → Int) : Value := .agg (vec 4 f)
def okf (f : Nat → Int) : Bool := okr (f 0) (f 1) (f 2) (f 3)
/-- What is told of a surd. -/
def tls (v : Bool) (f : Nat → Int) : Value := if v && okf f then .tuple #[p4 f, .bool true] else .tuple #[p4 nul, .bool false]
theorem tls_no4 (f : Nat → Int) : tls false f = .tuple #[p4 nul, .bool false] := rfl
theorem ans_no4 (f : Nat → Int) : tls false f = .tuple #[p4 nul, .bool false] := rfl
theorem ans_yes4 {f : Nat → Int} (h : okf f = true) : tls true f = .tuple #[p4 f, .bool true] := by simp [tls, h]
theorem ans_bad4 {f : Nat → Int} (h : okf f = false) : tls true f = .tuple #[p4 nul, .bool false] := by simp [tls, h]
theorem tell_tls (f : Nat → Int) : tell (f 0) (f 1) (f 2) (f 3) = tls true f := by
  cases h : okf f
  · rw [ans_bad4 h, tell_f h]; rfl
  · rw [ans_yes4 h, tell_t h]; rfl
theorem okf_in {f : Nat → Int} (h : okf f = true) : (-10000000 ≤ f 0 ∧ f 0 ≤ 10000000) ∧ (-10000000 ≤ f 1 ∧ f 1 ≤ 10000000) ∧ (-10000000 ≤ f 2 ∧ f 2 ≤ 10000000) ∧ (-10000000 ≤ f 3 ∧ f 3 ≤ 10000000) := okr_in h
theorem radicalOf_at (a : Nat → Int) (w : World) : Calls Try.prog 108 #[p4 a] w fun e w' => e = .returned (tls true a) ∧ Below w.heap.size w w' := by
  rw [← tell_tls]; exact radicalOf_any (a 0) (a 1) (a 2) (a 3) w
theorem rtold_at (a : Nat → Int) (w : World) : Calls Try.prog 95 #[p4 a] w fun e w' => e = .returned (tls true a) ∧ Below w.heap.size w w' := by
  rw [← tell_tls]; exact rtold_any (a 0) (a 1) (a 2) (a 3) w
def box24 (w : World) (a b : Nat → Int) (T O : TypeId) : World := ((w.alloc (.cells (vec 4 a) T)).alloc (.cells (vec 4 b) T)).alloc (.cells (vec 4 nul) O)
theorem box2_facts4 (w : World) (a b : Nat → Int) (T O : TypeId) : RowAt (box24 w a b T O) w.heap.size 4 T a ∧ RowAt (box24 w a b T O) (w.heap.size + 1) 4 T b ∧ RowAt (box24 w a b T O) (w.heap.size + 1 + 1) 4 O nul ∧ Below w.heap.size w (box24 w a b T O) :=
  ⟨((RowAt.newAt rfl rfl).alloc _).alloc _, (RowAt.newAt rfl (by simp)).alloc _, RowAt.newAt rfl (by simp), (((Below.refl _ _).alloc (Nat.le_refl _) _).alloc (by simp) _).alloc (by simp; omega) _⟩
def box14 (w : World) (a : Nat → Int) (T O : TypeId) : World := (w.alloc (.cells (vec 4 a) T)).alloc (.cells (vec 4 nul) O)
theorem box1_facts4 (w : World) (a : Nat → Int) (T O : TypeId) : RowAt (box14 w a T O) w.heap.size 4 T a ∧ RowAt (box14 w a T O) (w.heap.size + 1) 4 O nul ∧ Below w.heap.size w (box14 w a T O) :=
  ⟨(RowAt.newAt rfl rfl).alloc _, RowAt.newAt rfl (by simp), ((Below.refl _ _).alloc (Nat.le_refl _) _).alloc (by simp) _⟩
def box04 (w : World) (a : Nat → Int) (T : TypeId) : World := w.alloc (.cells (vec 4 a) T)
theorem box0_facts4 (w : World) (a : Nat → Int) (T : TypeId) : RowAt (box04 w a T) w.heap.size 4 T a ∧ Below w.heap.size w (box04 w a T) := ⟨RowAt.newAt rfl rfl, (Below.refl _ _).alloc (Nat.le_refl _) _⟩
theorem pair_first4 (w : World) (E : TypeId) : RowAt ((w.alloc (.cells (vec 4 nul) E)).alloc (.cells (vec 4 nul) E)) w.heap.size 4 E nul := (RowAt.newAt rfl rfl : RowAt _ _ 4 E nul).alloc _
theorem pair_second4 (w : World) (a : Nat → Int) (E : TypeId) : RowAt (((w.alloc (.cells (vec 4 nul) E)).alloc (.cells (vec 4 nul) E)).setRow w.heap.size (vec 4 a)) (w.heap.size + 1) 4 E nul :=
  (RowAt.newAt rfl (by simp) : RowAt _ _ 4 E nul).rowOther _ _ (by omega)
def two4 (w : World) (a b : Nat → Int) (E : TypeId) : World := (((w.alloc (.cells (vec 4 nul) E)).alloc (.cells (vec 4 nul) E)).setRow w.heap.size (vec 4 a)).setRow (w.heap.size + 1) (vec 4 b)
theorem two_first4 (w : World) (a b : Nat → Int) (E : TypeId) : RowAt (two4 w a b E) w.heap.size 4 E a := (((RowAt.newAt rfl rfl : RowAt _ _ 4 E nul).alloc _).setRow).rowOther _ _ (by omega)
theorem two_second4 (w : World) (a b : Nat → Int) (E : TypeId) : RowAt (two4 w a b E) (w.heap.size + 1) 4 E b := ((RowAt.newAt rfl (by simp) : RowAt _ _ 4 E nul).rowOther _ _ (by omega)).setRow
theorem two_keep4 {w : World} {g n : Nat} {T : TypeId} {f : Nat → Int} (h : RowAt w g n T f) (a b : Nat → Int) (E : TypeId) : RowAt (two4 w a b E) g n T f :=
  have := h.lt
  (((h.alloc _).alloc _).rowOther _ _ (by omega)).rowOther _ _ (by omega)
theorem two_below4 {w W : World} (h : Below w.heap.size w W) (a b : Nat → Int) (E : TypeId) : Below w.heap.size w (two4 W a b E) :=
  have := h.size
  below_setRow (below_setRow ((h.alloc this _).alloc (by simp; omega) _) this _) (by omega) _
def sole4 (w : World) (a : Nat → Int) (E : TypeId) : World := (w.alloc (.cells (vec 4 nul) E)).setRow w.heap.size (vec 4 a)
theorem sole_first4 (w : World) (a : Nat → Int) (E : TypeId) : RowAt (sole4 w a E) w.heap.size 4 E a := (RowAt.newAt rfl rfl : RowAt _ _ 4 E nul).setRow
theorem sole_keep4 {w : World} {g n : Nat} {T : TypeId} {f : Nat → Int} (h : RowAt w g n T f) (a : Nat → Int) (E : TypeId) : RowAt (sole4 w a E) g n T f :=
  have := h.lt
  (h.alloc _).rowOther _ _ (by omega)
theorem sole_below4 {w W : World} (h : Below w.heap.size w W) (a : Nat → Int) (E : TypeId) : Below w.heap.size w (sole4 W a E) :=
  have := h.size
  below_setRow (h.alloc this _) this _
theorem radicalOf_yes (a : Nat → Int) (h : okf a = true) (w : World) :
    Calls Try.prog 108 #[p4 a] w fun e w' => e = .returned (.tuple #[p4 a, .bool true]) ∧ Below w.heap.size w w' := by
  rw [← ans_yes4 h]; exact radicalOf_at a w
theorem radicalOf_no (a : Nat → Int) (h : okf a = false) (w : World) :
    Calls Try.prog 108 #[p4 a] w fun e w' => e = .returned (.tuple #[p4 nul, .bool false]) ∧ Below w.heap.size w w' := by
  rw [← ans_bad4 h]; exact radicalOf_at a w
theorem told_yes4 (a : Nat → Int) (h : okf a = true) (w : World) :
    Calls Try.prog 95 #[p4 a] w fun e w' => e = .returned (.tuple #[p4 a, .bool true]) ∧ Below w.heap.size w w' := by
  rw [← ans_yes4 h]; exact rtold_at a w
theorem told_no4 (a : Nat → Int) (h : okf a = false) (w : World) :
    Calls Try.prog 95 #[p4 a] w fun e w' => e = .returned (.tuple #[p4 nul, .bool false]) ∧ Below w.heap.size w w' := by
  rw [← ans_bad4 h]; exact rtold_at a w

/-- What exactOf's two4 answers are. -/
theorem radicalOf_two (a : Nat → Int) (w : World) :
    Calls Try.prog 108 #[p4 a] w fun e w' => e = .returned (.tuple #[p4 (if okf a then a else nul), .bool (okf a)]) ∧ Below w.heap.size w w' := by
  cases h : okf a
  · exact radicalOf_no a h w
  · exact radicalOf_yes a h w
theorem told_two4 (a : Nat → Int) (w : World) :
    Calls Try.prog 95 #[p4 a] w fun e w' => e = .returned (.tuple #[p4 (if okf a then a else nul), .bool (okf a)]) ∧ Below w.heap.size w w' := by
  cases h : okf a
  · exact told_no4 a h w
  · exact told_yes4 a h w

theorem told_some4 (c : Nat → Int) : ∃ c' v', (∀ w, Calls Try.prog 95 #[.agg (vec 4 c)] w fun e w' => e = .returned (.tuple #[.agg (vec 4 c'), .bool v']) ∧ Below w.heap.size w w') ∧ tls true c = .tuple #[.agg (vec 4 c'), .bool v'] :=
  ⟨if okf c then c else nul, okf c, told_two4 c, by cases h : okf c <;> simp [tls, h]⟩
/-- Four times a product. -/
def stm (a b : Nat → Int) : Nat → Int := f4 (a 0 * b 0 + 2 * a 1 * b 1 + 3 * a 2 * b 2 + 6 * a 3 * b 3) (a 0 * b 1 + a 1 * b 0 + 3 * (a 2 * b 3 + a 3 * b 2)) (a 0 * b 2 + a 2 * b 0 + 2 * (a 1 * b 3 + a 3 * b 1)) (a 0 * b 3 + a 3 * b 0 + a 1 * b 2 + a 2 * b 1)
theorem rtimes_at (a b : Nat → Int) (ha : okf a = true) (hb : okf b = true) (w : World) : Calls Try.prog 208 #[p4 a, p4 b] w fun e w' => e = .returned (p4 (stm a b)) ∧ Below w.heap.size w w' := by
  obtain ⟨h0, h1, h2, h3⟩ := okf_in ha
  obtain ⟨k0, k1, k2, k3⟩ := okf_in hb
  exact rtimes_any (a 0) (a 1) (a 2) (a 3) (b 0) (b 1) (b 2) (b 3) h0 h1 h2 h3 k0 k1 k2 k3 w
theorem rplus_at (a b : Nat → Int) (ha : okf a = true) (hb : okf b = true) (w : World) : Calls Try.prog 207 #[p4 a, p4 b] w fun e w' => e = .returned (p4 (add a b)) ∧ Below w.heap.size w w' := by
  obtain ⟨h0, h1, h2, h3⟩ := okf_in ha
  obtain ⟨k0, k1, k2, k3⟩ := okf_in hb
  exact rplus_any (a 0) (a 1) (a 2) (a 3) (b 0) (b 1) (b 2) (b 3) (by omega) (by omega) (by omega) (by omega) (by omega) (by omega) (by omega) (by omega) w
end Go.Proofs.Ytdgbpdeimckbfaa
/- Signs, second part: greatest whole numbers, sizes. -/
namespace Go.Proofs.Ytdgbpdeimckbfaa
set_option linter.unusedVariables false
set_option linter.unusedSimpArgs false

theorem p4_int {n : Int} (h : 0 < n) : P4 n 0 0 0 := by
  have h2 : 0 < n * n := Int.mul_pos h h
  refine .inl ⟨.inl ⟨h, ?_⟩, .inl ⟨?_, ?_⟩⟩
  · show 0 < n * n - 2 * 0 * 0; omega
  · show 0 < (n * n + 2 * 0 * 0) - ((3 * 0 + 2 * 0 * 0) * 0 + 2 * (3 * 0 + 0 * 0) * 0); omega
  · show 0 < ((n * n + 2 * 0 * 0) - ((3 * 0 + 2 * 0 * 0) * 0 + 2 * (3 * 0 + 0 * 0) * 0)) * ((n * n + 2 * 0 * 0) - ((3 * 0 + 2 * 0 * 0) * 0 + 2 * (3 * 0 + 0 * 0) * 0)) - 2 * ((n * 0 + 0 * n) - ((3 * 0 + 2 * 0 * 0) * 0 + (3 * 0 + 0 * 0) * 0)) * ((n * 0 + 0 * n) - ((3 * 0 + 2 * 0 * 0) * 0 + (3 * 0 + 0 * 0) * 0))
    have h3 := Int.mul_pos h2 h2
    simp
    exact h3
theorem p4_one {p q : Half} (h1 : PH p) (h2 : PH (p * p - three * q * q)) : P4 p.x p.y q.x q.y := .inl ⟨h1, h2⟩
theorem p4_lin2 {n b : Int} (h : 0 < n) (hb : 2 * b * b < n * n) : P4 n b 0 0 := by
  have h1 : PH ⟨n, b⟩ := .inl ⟨h, by show 0 < n * n - 2 * b * b; omega⟩
  refine p4_one (p := ⟨n, b⟩) (q := 0) h1 ?_
  have h2 := Two.p_mul h1 h1
  rwa [show (⟨n, b⟩ * ⟨n, b⟩ : Half) = ⟨n, b⟩ * ⟨n, b⟩ - three * 0 * 0 by apply Half.ext <;> simp only [Half.subx, Half.suby, Half.mulx, Half.muly, Half.zx, Half.zy] <;> grind] at h2
theorem ph_int {n : Int} (h : 0 < n) : PH ⟨n, 0⟩ := .inl ⟨h, by show 0 < n * n - 2 * 0 * 0; have := Int.mul_pos h h; omega⟩
theorem p4_lin3 {n c : Int} (h : 0 < n) (hc : 3 * c * c < n * n) : P4 n 0 c 0 := by
  refine p4_one (p := ⟨n, 0⟩) (q := ⟨c, 0⟩) (ph_int h) ?_
  have h2 := ph_int (n := n * n - 3 * c * c) (by omega)
  rwa [show (⟨n * n - 3 * c * c, 0⟩ : Half) = ⟨n, 0⟩ * ⟨n, 0⟩ - three * ⟨c, 0⟩ * ⟨c, 0⟩ by apply Half.ext <;> simp only [Half.subx, Half.suby, Half.mulx, Half.muly, tx, ty] <;> grind] at h2
theorem p4_lin6 {n e : Int} (h : 0 < n) (he : 6 * e * e < n * n) : P4 n 0 0 e := by
  refine p4_one (p := ⟨n, 0⟩) (q := ⟨0, e⟩) (ph_int h) ?_
  have h2 := ph_int (n := n * n - 6 * e * e) (by omega)
  rwa [show (⟨n * n - 6 * e * e, 0⟩ : Half) = ⟨n, 0⟩ * ⟨n, 0⟩ - three * ⟨0, e⟩ * ⟨0, e⟩ by apply Half.ext <;> simp only [Half.subx, Half.suby, Half.mulx, Half.muly, tx, ty] <;> grind] at h2
theorem sq_le {x : Int} (X : Nat) (h : -(X : Int) ≤ x ∧ x ≤ X) : 0 ≤ x * x ∧ x * x ≤ ((X * X : Nat) : Int) := by
  refine ⟨sq_nonneg x, ?_⟩
  have h1 : x.natAbs ≤ X := by omega
  have h3 : x.natAbs * x.natAbs ≤ X * X := Nat.mul_le_mul h1 h1
  have h4 : ((x.natAbs * x.natAbs : Nat) : Int) = x * x := by
    rcases Int.natAbs_eq x with e | e
    · rw [Int.natCast_mul, ← e]
    · conv => rhs; rw [e]
      rw [Int.neg_mul_neg, Int.natCast_mul]
  omega
theorem far {a b c e : Int} (ha : -10000000 ≤ a ∧ a ≤ 10000000) (hb : -10000000 ≤ b ∧ b ≤ 10000000) (hc : -10000000 ≤ c ∧ c ≤ 10000000) (he : -10000000 ≤ e ∧ e ≤ 10000000) : P4 (a + 80000000) b c e := by
  have h1 := sq_le 10000000 hb; have h2 := sq_le 10000000 hc; have h3 := sq_le 10000000 he
  simp only [Nat.reduceMul] at h1 h2 h3
  have k1 : P4 20000000 b 0 0 := p4_lin2 (by decide) (by rw [Int.mul_assoc]; omega)
  have k2 : P4 20000000 0 c 0 := p4_lin3 (by decide) (by rw [Int.mul_assoc]; omega)
  have k3 : P4 25000000 0 0 e := p4_lin6 (by decide) (by rw [Int.mul_assoc]; omega)
  have k4 : P4 (a + 15000000) 0 0 0 := p4_int (by omega)
  have := p4_add (p4_add k1 k2) (p4_add k3 k4)
  rwa [show (20000000 : Int) + 20000000 + (25000000 + (a + 15000000)) = a + 80000000 by omega, show b + 0 + (0 + 0) = b by omega, show 0 + c + (0 + 0) = c by omega, show 0 + 0 + (e + 0) = e by omega] at this
theorem sg4_neg1 {a b c e : Int} : sg4 a b c e = -1 ↔ P4 (-a) (-b) (-c) (-e) := by
  rw [← sg4_pos, sg4_neg]; omega
theorem far_low {a b c e : Int} (ha : -10000000 ≤ a ∧ a ≤ 10000000) (hb : -10000000 ≤ b ∧ b ≤ 10000000) (hc : -10000000 ≤ c ∧ c ≤ 10000000) (he : -10000000 ≤ e ∧ e ≤ 10000000) : 0 ≤ sg4 (a - 4 * -20000000) b c e := by
  have := sg4_pos.2 (far ha hb hc he)
  rw [show a - 4 * -20000000 = a + 80000000 by omega]; omega
theorem far_high {a b c e : Int} (ha : -10000000 ≤ a ∧ a ≤ 10000000) (hb : -10000000 ≤ b ∧ b ≤ 10000000) (hc : -10000000 ≤ c ∧ c ≤ 10000000) (he : -10000000 ≤ e ∧ e ≤ 10000000) : sg4 (a - 4 * 20000000) b c e < 0 := by
  have := far (a := -a) (b := -b) (c := -c) (e := -e) (by omega) (by omega) (by omega) (by omega)
  rw [show -a + 80000000 = -(a - 4 * 20000000) by omega] at this
  have := sg4_neg1.2 this; omega
/-- n is the greatest whole number that is at most the surd. -/
def WhN (a b c e n : Int) : Prop := 0 ≤ sg4 (a - 4 * n) b c e ∧ sg4 (a - 4 * (n + 1)) b c e < 0
theorem wh_less {a b c e n m : Int} (h1 : 0 ≤ sg4 (a - 4 * n) b c e) (h2 : sg4 (a - 4 * (m + 1)) b c e < 0) : n ≤ m := by
  have h3 : P4 (-(a - 4 * (m + 1))) (-b) (-c) (-e) := sg4_neg1.1 (by have := sg4_range (a - 4 * (m + 1)) b c e; omega)
  rcases is4 (a - 4 * n) b c e with ⟨_, k⟩ | ⟨k, _⟩ | ⟨_, k1, rfl, rfl, rfl⟩
  · have h := p4_add h3 k
    rw [show -(a - 4 * (m + 1)) + (a - 4 * n) = 4 * (m + 1 - n) by omega, show -b + b = 0 by omega, show -c + c = 0 by omega, show -e + e = 0 by omega] at h
    by_cases g : 0 < m + 1 - n
    · omega
    · exfalso
      by_cases g2 : m + 1 - n = 0
      · rw [g2] at h; exact p4_zero h
      · have := p4_int (n := -(4 * (m + 1 - n))) (by omega)
        exact p4_not h this
  · omega
  · by_cases g : 0 < m + 1 - n
    · omega
    · exfalso
      rw [show -(a - 4 * (m + 1)) = 4 * (m + 1 - n) by omega] at h3
      by_cases g2 : m + 1 - n = 0
      · rw [g2] at h3; exact p4_zero h3
      · have := p4_int (n := -(4 * (m + 1 - n))) (by omega)
        exact p4_not h3 this
theorem wh_one {a b c e n m : Int} (h1 : WhN a b c e n) (h2 : WhN a b c e m) : n = m := by
  have := wh_less h1.1 h2.2; have := wh_less h2.1 h1.2; omega
theorem wh_from {a b c e : Int} : ∀ (k : Nat) (l : Int), 0 ≤ sg4 (a - 4 * l) b c e → sg4 (a - 4 * (l + k + 1)) b c e < 0 → ∃ n, WhN a b c e n
  | 0, l, h1, h2 => ⟨l, h1, by rwa [show l + ((0 : Nat) : Int) + 1 = l + 1 by omega] at h2⟩
  | k + 1, l, h1, h2 => by
    by_cases h : sg4 (a - 4 * (l + 1)) b c e < 0
    · exact ⟨l, h1, h⟩
    · exact wh_from k (l + 1) (by omega) (by rwa [show l + ((k + 1 : Nat) : Int) + 1 = l + 1 + (k : Int) + 1 by omega] at h2)
theorem wh_some {a b c e : Int} (ha : -10000000 ≤ a ∧ a ≤ 10000000) (hb : -10000000 ≤ b ∧ b ≤ 10000000) (hc : -10000000 ≤ c ∧ c ≤ 10000000) (he : -10000000 ≤ e ∧ e ≤ 10000000) : ∃ n, WhN a b c e n :=
  wh_from 39999999 (-20000000) (far_low ha hb hc he) (far_high ha hb hc he)
end Go.Proofs.Ytdgbpdeimckbfaa
/- impl's functions of surds, second part: signs, comparisons, whole numbers. -/
namespace Go.Proofs.Ytdgbpdeimckbfaa
set_option maxRecDepth 20000
open Go.ChangeShapes Go.WideShapes Go.ChangeAt Go.RowKit
set_option linter.unusedVariables false
set_option linter.unusedSimpArgs false

theorem below_step {w W : World} (h : Below w.heap.size w W) (o : Obj) : Below w.heap.size w (W.alloc o) := h.alloc h.size o
theorem radicalOf_t {a b c d : Int} (h : okr a b c d = true) (w : World) : Calls Try.prog 108 #[.agg #[.int .i64 a, .int .i64 b, .int .i64 c, .int .i64 d]] w fun e w' => e = .returned (.tuple #[.agg #[.int .i64 a, .int .i64 b, .int .i64 c, .int .i64 d], .bool true]) ∧ Below w.heap.size w w' := by
  have := radicalOf_any a b c d w
  rw [tell_t h] at this
  exact this
theorem radicalOf_f {a b c d : Int} (h : okr a b c d = false) (w : World) : Calls Try.prog 108 #[.agg #[.int .i64 a, .int .i64 b, .int .i64 c, .int .i64 d]] w fun e w' => e = .returned (.tuple #[.agg #[.int .i64 0, .int .i64 0, .int .i64 0, .int .i64 0], .bool false]) ∧ Below w.heap.size w w' := by
  have := radicalOf_any a b c d w
  rw [tell_f h] at this
  exact this
theorem SurdSign_any (a b c d : Int) (w : World) : Calls Try.prog 51 #[sv a b c d] w fun e w' => e = .returned (.tuple #[.int .i64 (if okr a b c d then sg4 a b c d else 0), .bool (okr a b c d)]) ∧ Below w.heap.size w w' := by
  unfold sv
  cases hv : okr a b c d
  · have R := fun w => radicalOf_f hv w
    clear hv
    go_enter Try.func51, Try.ntmps51
    go_wp2_with (go_at_call 108; refine (R _).mono ?_; rintro e w2 ⟨rfl, hb2⟩)
    go_ret2
    exact ⟨rfl, below_step (below_next (below_one _ _) hb2) _⟩
  · obtain ⟨ha, hb, hc, hd⟩ := okr_in hv
    have R := fun w => radicalOf_t hv w
    have S := fun w => rsign_any a b c d (by omega) (by omega) (by omega) (by omega) w
    unfold sv at S
    generalize sg4 a b c d = z at *
    try rw [if_pos rfl]
    clear hv ha hb hc hd
    go_enter Try.func51, Try.ntmps51
    go_wp2_with (first | (go_at_call 108; refine (R _).mono ?_; rintro e w2 ⟨rfl, hb2⟩) | (go_at_call 109; refine (S _).mono ?_; rintro e w3 ⟨rfl, hb3⟩))
    go_ret2
    exact ⟨rfl, below_next (below_step (below_next (below_one _ _) hb2) _) hb3⟩
/-- The sign of a surd; of the difference of two. -/
def sgf (a : Nat → Int) : Int := sg4 (a 0) (a 1) (a 2) (a 3)
/-- One point and a surd's variable. -/
def boxP (w : World) (a : Nat → Int) (T O : TypeId) : World := (w.alloc (.cells (vec 8 a) T)).alloc (.cells (vec 4 nul) O)
theorem boxP_facts (w : World) (a : Nat → Int) (T O : TypeId) : RowAt (boxP w a T O) w.heap.size 8 T a ∧ RowAt (boxP w a T O) (w.heap.size + 1) 4 O nul ∧ Below w.heap.size w (boxP w a T O) :=
  ⟨(RowAt.newAt rfl rfl).alloc _, RowAt.newAt rfl (by simp), ((Below.refl _ _).alloc (Nat.le_refl _) _).alloc (by simp) _⟩
/-- Four times the real part, the imaginary part. -/
def rea (a : Nat → Int) : Nat → Int := f4 (4 * a 0 + 2 * a 4) (a 1 + 2 * a 3 - a 5 + a 7) (2 * a 2) (a 1 + a 5 - a 7)
def ima (a : Nat → Int) : Nat → Int := f4 (2 * a 2 + 4 * a 6) (0 - a 1 + 2 * a 3 + a 5 + a 7) (2 * a 4) (a 1 + a 5 + a 7)
theorem ima_rea (a : Nat → Int) : ima a = rea (trn a 18) := by
  unfold ima rea
  congr 1 <;> simp [trn, red, tpow] <;> omega
set_option maxHeartbeats 1000000 in
theorem realPart_any (a : Nat → Int) (ha : ∀ j, j < 8 → -1000000000000 ≤ a j ∧ a j ≤ 1000000000000) (w : World) : Calls Try.prog 167 #[pt a] w fun e w' => e = .returned (p4 (rea a)) ∧ Below w.heap.size w w' := by
  have h0 := ha 0 (by omega); have h1 := ha 1 (by omega); have h2 := ha 2 (by omega); have h3 := ha 3 (by omega); have h4 := ha 4 (by omega); have h5 := ha 5 (by omega); have h6 := ha 6 (by omega); have h7 := ha 7 (by omega)
  clear ha
  change Calls Try.prog 167 #[.agg #[.int .i64 (a 0), .int .i64 (a 1), .int .i64 (a 2), .int .i64 (a 3), .int .i64 (a 4), .int .i64 (a 5), .int .i64 (a 6), .int .i64 (a 7)]] w fun e w' => e = .returned (.agg #[.int .i64 (4 * a 0 + 2 * a 4), .int .i64 (a 1 + 2 * a 3 - a 5 + a 7), .int .i64 (2 * a 2), .int .i64 (a 1 + a 5 - a 7)]) ∧ Below w.heap.size w w'
  go_enter Try.func167, Try.ntmps167
  go_wp2
  simp [bodyPost, results, Try.results167, go_sem]
  exact below_two _ _ _
end Go.Proofs.Ytdgbpdeimckbfaa
/- Sizes of exact points: sums of two squares. -/
namespace Go.Proofs.Ytdgbpdeimckbfaa
set_option maxRecDepth 20000
set_option linter.unusedVariables false
set_option linter.unusedSimpArgs false

theorem four_cases {P : Nat → Prop} (h0 : P 0) (h1 : P 1) (h2 : P 2) (h3 : P 3) : ∀ j, j < 4 → P j := fun j hj => by
  rcases (show j = 0 ∨ j = 1 ∨ j = 2 ∨ j = 3 by omega) with rfl | rfl | rfl | rfl <;> assumption
/-- Four times the square of the size. -/
def nrm (a : Nat → Int) : Nat → Int := rea (prd a (mir a))
set_option maxHeartbeats 4000000 in
theorem nrm_parts (a : Nat → Int) : ∀ j, j < 4 → stm (rea a) (rea a) j + stm (ima a) (ima a) j = 4 * nrm a j := by
  refine four_cases ?_ ?_ ?_ ?_ <;> simp [nrm, stm, rea, ima, f4, prd, red, outer, inner_at, mir] <;> grind
set_option maxHeartbeats 4000000 in
theorem nrm_stp (a : Nat → Int) : ∀ j, j < 4 → nrm (stp a) j = nrm a j := by
  refine four_cases ?_ ?_ ?_ ?_ <;> simp [nrm, rea, f4, prd, red, outer, inner_at, mir, stp] <;> grind
theorem rea_same {a b : Nat → Int} (h : Eight a b) : rea a = rea b := by
  unfold rea
  rw [h 0 (by omega), h 1 (by omega), h 2 (by omega), h 3 (by omega), h 4 (by omega), h 5 (by omega), h 7 (by omega)]
theorem rea_ext {a b : Nat → Int} (h : ∀ j, j < 4 → rea a j = rea b j) : rea a = rea b := by
  have e : ∀ c : Nat → Int, rea c = f4 (rea c 0) (rea c 1) (rea c 2) (rea c 3) := fun c => rfl
  rw [e a, e b, h 0 (by omega), h 1 (by omega), h 2 (by omega), h 3 (by omega)]
theorem mir_same' {a b : Nat → Int} (h : Eight a b) : Eight (mir a) (mir b) := by
  have h0 := h 0 (by omega); have h1 := h 1 (by omega); have h2 := h 2 (by omega); have h3 := h 3 (by omega); have h4 := h 4 (by omega); have h5 := h 5 (by omega); have h6 := h 6 (by omega); have h7 := h 7 (by omega)
  refine eight_cases ?_ ?_ ?_ ?_ ?_ ?_ ?_ ?_ <;> simp [mir, *]
theorem nrm_same {a b : Nat → Int} (h : Eight a b) : nrm a = nrm b := by
  unfold nrm
  refine rea_same fun j hj => ?_
  exact (prd_same (mir_same' h) j hj).trans ((prd_comm (mir b) a j hj).trans ((prd_same h j hj).trans (prd_comm b (mir b) j hj)))
theorem nrm_stps (a : Nat → Int) : ∀ n, nrm (stps n a) = nrm a
  | 0 => rfl
  | n + 1 => by
    have h := nrm_stps a n
    rw [show stps (n + 1) a = stp (stps n a) from rfl]
    exact (rea_ext (a := prd (stp (stps n a)) (mir (stp (stps n a)))) (b := prd (stps n a) (mir (stps n a))) (nrm_stp (stps n a))).trans h
theorem nrm_trn (a : Nat → Int) (t : Nat) (ht : t ≤ 23) : nrm (trn a t) = nrm a := by
  rw [← nrm_stps a t]
  exact (nrm_same (trn_steps a t ht)).symm
theorem nrm_mir (a : Nat → Int) : nrm (mir a) = nrm a := by
  unfold nrm
  exact rea_same fun j hj => (prd_same (mir_mir a) j hj).trans (prd_comm a (mir a) j hj)
theorem p4_four {a b c e : Int} (h : P4 (4 * a) (4 * b) (4 * c) (4 * e)) : P4 a b c e := by
  rcases p4_tri a b c e with ⟨rfl, rfl, rfl, rfl⟩ | k | k
  · exact (p4_zero h).elim
  · exact k
  · exfalso
    have k2 := p4_add (p4_add k k) (p4_add k k)
    refine p4_not h ?_
    rwa [show -a + -a + (-a + -a) = -(4 * a) by omega, show -b + -b + (-b + -b) = -(4 * b) by omega, show -c + -c + (-c + -c) = -(4 * c) by omega, show -e + -e + (-e + -e) = -(4 * e) by omega] at k2
theorem sgf_sq (x : Nat → Int) : sgf (stm x x) = sgf x * sgf x := sg4_mul _ _ _ _ _ _ _ _
theorem sgf_nil {x : Nat → Int} (h : sgf x = 0) : ∀ j, j < 4 → x j = 0 := by
  obtain ⟨h0, h1, h2, h3⟩ := sg4_zero.1 h
  exact four_cases h0 h1 h2 h3
theorem sgf_three (a : Nat → Int) : sgf a = 1 ∨ sgf a = -1 ∨ sgf a = 0 := sg4_range _ _ _ _
/-- Squares are 0 or greater. -/
theorem sq_pos (x : Nat → Int) : (∀ j, j < 4 → x j = 0) ∨ P4 (stm x x 0) (stm x x 1) (stm x x 2) (stm x x 3) := by
  rcases sgf_three x with h | h | h
  · exact .inr (sg4_pos.1 (show sgf (stm x x) = 1 by rw [sgf_sq, h]; rfl))
  · exact .inr (sg4_pos.1 (show sgf (stm x x) = 1 by rw [sgf_sq, h]; rfl))
  · exact .inl (sgf_nil h)
theorem stm_nil {x : Nat → Int} (h : ∀ j, j < 4 → x j = 0) : ∀ j, j < 4 → stm x x j = 0 := by
  refine four_cases ?_ ?_ ?_ ?_ <;> simp [stm, f4, h 0 (by omega), h 1 (by omega), h 2 (by omega), h 3 (by omega)]
theorem parts_nil {a : Nat → Int} (h : ∀ j, j < 4 → rea a j = 0) (k : ∀ j, j < 4 → ima a j = 0) : Eight a nul := by
  have h0 := h 0 (by omega); have h1 := h 1 (by omega); have h2 := h 2 (by omega); have h3 := h 3 (by omega)
  have k0 := k 0 (by omega); have k1 := k 1 (by omega); have k2 := k 2 (by omega); have k3 := k 3 (by omega)
  simp [rea, f4] at h0 h1 h2 h3
  simp [ima, f4] at k0 k1 k2 k3
  refine eight_cases ?_ ?_ ?_ ?_ ?_ ?_ ?_ ?_ <;> simp only [nul] <;> omega
theorem nul_parts {a : Nat → Int} (h : Eight a nul) : (∀ j, j < 4 → rea a j = 0) ∧ (∀ j, j < 4 → ima a j = 0) := by
  have h0 := h 0 (by omega); have h1 := h 1 (by omega); have h2 := h 2 (by omega); have h3 := h 3 (by omega); have h4 := h 4 (by omega); have h5 := h 5 (by omega); have h6 := h 6 (by omega); have h7 := h 7 (by omega)
  simp only [nul] at h0 h1 h2 h3 h4 h5 h6 h7
  constructor <;> refine four_cases ?_ ?_ ?_ ?_ <;> simp [rea, ima, f4] <;> omega
/-- The size of a point is greater than 0, but 0's. -/
theorem nrm_sign (a : Nat → Int) : (Eight a nul ∧ sgf (nrm a) = 0) ∨ (¬ Eight a nul ∧ sgf (nrm a) = 1) := by
  have hp := nrm_parts a
  have p0 := hp 0 (by omega); have p1 := hp 1 (by omega); have p2 := hp 2 (by omega); have p3 := hp 3 (by omega)
  rcases sq_pos (rea a) with hx | hx <;> rcases sq_pos (ima a) with hy | hy
  · refine .inl ⟨parts_nil hx hy, ?_⟩
    have x := stm_nil hx; have y := stm_nil hy
    have x0 := x 0 (by omega); have x1 := x 1 (by omega); have x2 := x 2 (by omega); have x3 := x 3 (by omega)
    have y0 := y 0 (by omega); have y1 := y 1 (by omega); have y2 := y 2 (by omega); have y3 := y 3 (by omega)
    exact sg4_zero.2 ⟨by omega, by omega, by omega, by omega⟩
  · refine .inr ⟨fun h => ?_, ?_⟩
    · have y := stm_nil (nul_parts h).2
      rw [y 0 (by omega), y 1 (by omega), y 2 (by omega), y 3 (by omega)] at hy
      exact p4_zero hy
    · have x := stm_nil hx
      rw [x 0 (by omega), Int.zero_add] at p0; rw [x 1 (by omega), Int.zero_add] at p1; rw [x 2 (by omega), Int.zero_add] at p2; rw [x 3 (by omega), Int.zero_add] at p3
      rw [p0, p1, p2, p3] at hy
      exact sg4_pos.2 (p4_four hy)
  · refine .inr ⟨fun h => ?_, ?_⟩
    · have x := stm_nil (nul_parts h).1
      rw [x 0 (by omega), x 1 (by omega), x 2 (by omega), x 3 (by omega)] at hx
      exact p4_zero hx
    · have y := stm_nil hy
      rw [y 0 (by omega), Int.add_zero] at p0; rw [y 1 (by omega), Int.add_zero] at p1; rw [y 2 (by omega), Int.add_zero] at p2; rw [y 3 (by omega), Int.add_zero] at p3
      rw [p0, p1, p2, p3] at hx
      exact sg4_pos.2 (p4_four hx)
  · refine .inr ⟨fun h => ?_, ?_⟩
    · have x := stm_nil (nul_parts h).1
      rw [x 0 (by omega), x 1 (by omega), x 2 (by omega), x 3 (by omega)] at hx
      exact p4_zero hx
    · have h := p4_add hx hy
      rw [p0, p1, p2, p3] at h
      exact sg4_pos.2 (p4_four h)
end Go.Proofs.Ytdgbpdeimckbfaa
/- Contracts of spec's signs. -/
namespace Go.Proofs.Ytdgbpdeimckbfaa
set_option maxRecDepth 20000
open Go.ChangeShapes Go.WideShapes Go.ChangeAt Go.RowKit
set_option linter.unusedVariables false
set_option linter.unusedSimpArgs false

theorem ret_uu {a b c d : Int} (h : a = b) (h' : c = d) : Ending.returned (.tuple #[.int .u64 a, .int .u64 c]) = .returned (.tuple #[.int .u64 b, .int .u64 d]) := by rw [h, h']
theorem or_even (a r : Int) (h0 : 0 ≤ a) (h1 : a < 4611686018427387904) (r0 : 0 ≤ r) (r1 : r ≤ 1) : bits .or .u64 (a * 2) r = a * 2 + r := by
  obtain ⟨n, rfl⟩ := Int.eq_ofNat_of_zero_le h0
  obtain ⟨m, rfl⟩ := Int.eq_ofNat_of_zero_le r0
  have h := bits_or_u64_nat (n * 2) m (by omega) (by omega)
  have e : (n * 2) ||| m = n * 2 + m := by
    have := Nat.shiftLeft_add_eq_or_of_lt (i := 1) (b := m) (by omega) n
    rw [Nat.shiftLeft_eq] at this
    simpa using this.symm
  rw [e] at h
  have c1 : ((n * 2 : Nat) : Int) = (n : Int) * 2 := by omega
  have c2 : ((n * 2 + m : Nat) : Int) = (n : Int) * 2 + m := by omega
  rwa [c1, c2] at h
theorem sg2_same (a b : Int) (s t r : Int) (ha : sg1 a = s) (hb : sg1 b = t) (hst : s ≠ -t) (h : sg1 (s + t) = r) : sg2 a b = r := by
  rw [sg2_joined, ha, hb, joined, if_neg hst, h]
theorem sg2_over (a b : Int) (s t u : Int) (ha : sg1 a = s) (hb : sg1 b = t) (hst : s = -t) (h : sg1 (a * a - 2 * b * b) = u) : sg2 a b = s * u := by
  rw [sg2_joined, ha, hb, h, joined, if_pos hst]
end Go.Proofs.Ytdgbpdeimckbfaa
