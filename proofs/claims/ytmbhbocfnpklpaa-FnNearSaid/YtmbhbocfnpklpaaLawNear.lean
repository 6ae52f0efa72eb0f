/-
  The walk of the law FnNear.
-/
import Derived.Test.YtmbhbocfnpklpaaWideP
import Derived.Test.YtmbhbocfnpklpaaWideH
import Derived.Test.YtmbhbocfnpklpaaLawCycBase
namespace Go.Proofs.Ytmbhbocfnpklpaa
set_option maxRecDepth 20000
open Go.ChangeShapes Go.WideShapes Go.ChangeAt Go.RowKit
set_option linter.unusedVariables false
set_option linter.unusedSimpArgs false

/-- A part that is drawn: a small number, a NaN, the infinity. -/
def Part (x : Nat) : Prop := (∃ v : Int, ValD x v ∧ -25961484292674138142652481646100480 ≤ v ∧ v ≤ 25961484292674138142652481646100480) ∨ IsN x ∨ x = 9218868437227405312
theorem part_int {n : Int} (h0 : -20 ≤ n) (h1 : n ≤ 20) : Part (floatOfInt .f64 n) := by
  have h2 : (2 : Int) ^ 110 = 1298074214633706907132624082305024 := by decide
  refine Or.inl ⟨n * 2 ^ 110, int_val stdD (Nat.lt_of_le_of_lt (show n.natAbs ≤ 20 by omega) (by decide)) (Nat.lt_of_le_of_lt (show n.natAbs ≤ 20 by omega) (by decide)), ?_, ?_⟩ <;> rw [h2] <;> omega
theorem half_val : ValD 4602678819172646912 649037107316853453566312041152512 := by
  exact const_val (f := Ieee.double) false 4503599627370496 57 (-53) (by decide) (by decide +kernel)
theorem minus_val : ValD 9223372036854775808 0 :=
  ⟨true, 0, 0, by rw [show (9223372036854775808 : Nat) = Ieee.double.word true 0 by decide, read_zeroN stdD, show (1074 : Nat) = tD + 110 by rw [tD_eq]]; simp, by rw [Nat.zero_mul, sgnd_zero, Int.zero_mul]⟩
theorem wk_part {x y : Nat} (h : WK x y) : Part x ∧ Part y := by
  have p1 := part_int (n := 1) (by decide) (by decide)
  have p2 := part_int (n := 2) (by decide) (by decide)
  rw [one_two.1] at p1
  rw [one_two.2] at p2
  rcases h with ⟨hx, rfl⟩ | ⟨rfl, rfl⟩ | ⟨rfl, rfl⟩ | ⟨rfl, rfl⟩ | ⟨i, j, i0, i1, j0, j1, rfl, rfl⟩
  · exact ⟨Or.inr (Or.inl hx), p1⟩
  · exact ⟨p1, Or.inr (Or.inr rfl)⟩
  · exact ⟨Or.inl ⟨0, minus_val, by decide, by decide⟩, p2⟩
  · exact ⟨Or.inl ⟨_, half_val, by decide, by decide⟩, p1⟩
  · exact ⟨part_int i0 i1, part_int j0 j1⟩
/-- A bound, its opposite, and the bound and one. -/
def Bd (m n k : Nat) (M : Int) : Prop := (ValD m M ∧ Op.negFloat .f64 m = n ∧ ValD n (-M)) ∧ (floatBits .add .f64 m 4607182418800017408 = some k ∧ ValD k (M + 1298074214633706907132624082305024)) ∧
  FloatKind.f64.format.order 9218868437227405312 m = some .gt ∧ FloatKind.f64.format.order 18442240474082181120 n = some .lt
theorem one_val : ValD 4607182418800017408 1298074214633706907132624082305024 := by
  exact const_val (f := Ieee.double) false 4503599627370496 58 (-52) (by decide) (by decide +kernel)
theorem ms_bd {m : Nat} (h : Ms m) : ∃ n k M, Bd m n k M := by
  rcases h with rfl | rfl | rfl | rfl | rfl
  · exact ⟨9223372036854775808, 4607182418800017408, 0, ⟨zero_val stdD, by decide +kernel, minus_val⟩, ⟨by decide +kernel, one_val⟩, by decide +kernel, by decide +kernel⟩
  · refine ⟨13830554455654793216, 4611686018427387904, 1298074214633706907132624082305024, ⟨one_val, by decide +kernel, ?_⟩, ⟨by decide +kernel, ?_⟩, by decide +kernel, by decide +kernel⟩
    · exact const_val (f := Ieee.double) true 4503599627370496 58 (-52) (by decide) (by decide +kernel)
    · exact const_val (f := Ieee.double) false 4503599627370496 59 (-51) (by decide) (by decide +kernel)
  · refine ⟨13860109328209412096, 4636807660098813952, 129807421463370690713262408230502400, ⟨?_, by decide +kernel, ?_⟩, ⟨by decide +kernel, ?_⟩, by decide +kernel, by decide +kernel⟩
    · exact const_val (f := Ieee.double) false 7036874417766400 64 (-46) (by decide) (by decide +kernel)
    · exact const_val (f := Ieee.double) true 7036874417766400 64 (-46) (by decide) (by decide +kernel)
    · exact const_val (f := Ieee.double) false 7107243161944064 64 (-46) (by decide) (by decide +kernel)
  · refine ⟨4607182418800017408, 0, -1298074214633706907132624082305024, ⟨?_, by decide +kernel, by rw [Int.neg_neg]; exact one_val⟩, ⟨by decide +kernel, by rw [show (-1298074214633706907132624082305024 + 1298074214633706907132624082305024 : Int) = 0 by decide]; exact zero_val stdD⟩, by decide +kernel, by decide +kernel⟩
    exact const_val (f := Ieee.double) true 4503599627370496 58 (-52) (by decide) (by decide +kernel)
  · refine ⟨13826050856027422720, 4609434218613702656, 649037107316853453566312041152512, ⟨half_val, by decide +kernel, ?_⟩, ⟨by decide +kernel, ?_⟩, by decide +kernel, by decide +kernel⟩
    · exact const_val (f := Ieee.double) true 4503599627370496 57 (-53) (by decide) (by decide +kernel)
    · exact const_val (f := Ieee.double) false 6755399441055744 58 (-52) (by decide) (by decide +kernel)
theorem leq_cmp (a b : Int) : leq (some (compare a b)) = decide (a ≤ b) := by
  rcases Int.lt_trichotomy a b with h | h | h
  · rw [Int.compare_eq_lt.2 h]; symm; simp [leq]; omega
  · rw [Int.compare_eq_eq.2 h]; symm; simp [leq]; omega
  · rw [Int.compare_eq_gt.2 h]; symm; simp [leq]; omega
theorem geq_cmp (a b : Int) : geq (some (compare a b)) = decide (b ≤ a) := by
  rcases Int.lt_trichotomy a b with h | h | h
  · rw [Int.compare_eq_lt.2 h]; symm; simp [geq]; omega
  · rw [Int.compare_eq_eq.2 h]; symm; simp [geq]; omega
  · rw [Int.compare_eq_gt.2 h]; symm; simp [geq]; omega
theorem nb_fin {x x' : Nat} {u v : Int} (hx : ValD x u) (hy : ValD x' v) (h : -1606938044258990275541962092341162602522202993782792835301375 ≤ u - v ∧ u - v ≤ 1606938044258990275541962092341162602522202993782792835301375) {m : Nat} {M : Int} (hm : ValD m M) :
    nb x x' m = decide (((rnd 52 (u - v)).natAbs : Int) ≤ M) := by
  obtain ⟨d, hd, vd⟩ := sub_val stdD hx hy h
  unfold nb
  have hd' : floatBits .sub .f64 x x' = some d := hd
  rw [hd']
  show leq (FloatKind.f64.format.order (mgn d) m) = _
  rw [show FloatKind.f64.format = Ieee.double from rfl, order_val (mgn_val vd) hm, leq_cmp]
theorem sp_fin {x x' : Nat} {u v : Int} (hx : ValD x u) (hy : ValD x' v) (h : -1606938044258990275541962092341162602522202993782792835301375 ≤ u - v ∧ u - v ≤ 1606938044258990275541962092341162602522202993782792835301375) {m n : Nat} {M : Int} (hm : ValD m M) (hn : ValD n (-M)) {d : Nat} (hd : DiffOf x x' d) :
    (leq (FloatKind.f64.format.order d m) && geq (FloatKind.f64.format.order d n)) = decide (((rnd 52 (u - v)).natAbs : Int) ≤ M) := by
  obtain ⟨e, he, ve⟩ := sub_val stdD hx hy h
  have he' : floatBits .sub .f64 x x' = some e := he
  rcases hd with h1 | ⟨h1, -⟩
  · rw [he'] at h1
    cases h1
    rw [show FloatKind.f64.format = Ieee.double from rfl, order_val ve hm, order_val ve hn, leq_cmp, geq_cmp]
    generalize rnd 52 (u - v) = r
    rw [← Bool.decide_and, decide_eq_decide]
    omega
  · rw [he'] at h1; cases h1
/-- What is known of a pair of parts. -/
theorem part_pair {x x' : Nat} (hx : Part x) (hy : Part x') : (NN x ∧ NN x' ∧ ∃ r : Int, (∀ m M, ValD m M → nb x x' m = decide ((r.natAbs : Int) ≤ M) ∧ nb x' x m = decide ((r.natAbs : Int) ≤ M)) ∧
      (∀ d, DiffOf x x' d → ∀ m n M, ValD m M → ValD n (-M) → (leq (FloatKind.f64.format.order d m) && geq (FloatKind.f64.format.order d n)) = decide ((r.natAbs : Int) ≤ M))) ∨
    (∀ m n k M, Bd m n k M → nb x x' m = false ∧ ∀ d, DiffOf x x' d → (leq (FloatKind.f64.format.order d m) && geq (FloatKind.f64.format.order d n)) = false) := by
  have ri : Ieee.double.read 9218868437227405312 = .infinity false := by decide +kernel
  have gone : floatBits .sub .f64 x x' = none → ∀ m n k M, Bd m n k M → nb x x' m = false ∧ ∀ d, DiffOf x x' d → (leq (FloatKind.f64.format.order d m) && geq (FloatKind.f64.format.order d n)) = false := by
    intro h m n k M hb
    refine ⟨by unfold nb; rw [h], fun d hd => ?_⟩
    rcases hd with h1 | ⟨-, hn⟩
    · rw [h] at h1; cases h1
    · rw [(nan_order hn m).1]; rfl
  have nanL : IsN x → floatBits .sub .f64 x x' = none := by
    intro h
    unfold IsN at h
    show ((Ieee.double.read x).sum (Ieee.double.read x').opposite).map Ieee.double.write = none
    generalize Ieee.double.read x = a at *
    generalize (Ieee.double.read x').opposite = b
    cases a with
    | number s m e => cases h
    | infinity s => cases h
    | nan s t => cases b <;> rfl
  have nanR : IsN x' → floatBits .sub .f64 x x' = none := by
    intro h
    unfold IsN at h
    show ((Ieee.double.read x).sum (Ieee.double.read x').opposite).map Ieee.double.write = none
    generalize Ieee.double.read x = a at *
    generalize Ieee.double.read x' = b at *
    cases b with
    | number s m e => cases h
    | infinity s => cases h
    | nan s t => cases a <;> rfl
  have out : ∀ d, floatBits .sub .f64 x x' = some d → (d = 9218868437227405312 ∨ d = 18442240474082181120) → ∀ m n k M, Bd m n k M → nb x x' m = false ∧ ∀ d, DiffOf x x' d → (leq (FloatKind.f64.format.order d m) && geq (FloatKind.f64.format.order d n)) = false := by
    intro d hd hor m n k M hb
    have hm : mgn d = 9218868437227405312 := by rcases hor with rfl | rfl <;> decide
    refine ⟨?_, fun d' hd' => ?_⟩
    · unfold nb
      rw [hd]
      show leq (FloatKind.f64.format.order (mgn d) m) = false
      rw [hm, hb.2.2.1]; rfl
    · have e : d' = d := by
        rcases hd' with h1 | ⟨h1, -⟩
        · rw [hd] at h1; cases h1; rfl
        · rw [hd] at h1; cases h1
      subst e
      rcases hor with rfl | rfl
      · rw [hb.2.2.1]; rfl
      · rw [hb.2.2.2]; exact Bool.and_false _
  rcases hx with ⟨u, vu, u0, u1⟩ | hx | rfl
  · rcases hy with ⟨v, vv, v0, v1⟩ | hy | rfl
    · left
      refine ⟨nn_val vu, nn_val vv, rnd 52 (u - v), fun m M hm => ⟨nb_fin vu vv (by omega) hm, ?_⟩, fun d hd m n M hm hn => sp_fin vu vv (by omega) hm hn hd⟩
      rw [nb_fin vv vu (by omega) hm, show v - u = -(u - v) by omega, rnd_neg, Int.natAbs_neg]
    · exact Or.inr (gone (nanR hy))
    · obtain ⟨s, m, b, r, -⟩ := vu
      refine Or.inr (out 18442240474082181120 ?_ (Or.inr rfl))
      show ((Ieee.double.read x).sum (Ieee.double.read 9218868437227405312).opposite).map Ieee.double.write = some 18442240474082181120
      rw [r, ri]
      show some (Ieee.double.write (.infinity true)) = _
      decide +kernel
  · exact Or.inr (gone (nanL hx))
  · rcases hy with ⟨v, vv, v0, v1⟩ | hy | rfl
    · obtain ⟨s, m, b, r, -⟩ := vv
      refine Or.inr (out 9218868437227405312 ?_ (Or.inl rfl))
      show ((Ieee.double.read 9218868437227405312).sum (Ieee.double.read x').opposite).map Ieee.double.write = some 9218868437227405312
      rw [r, ri]
      show some (Ieee.double.write (.infinity false)) = _
      decide +kernel
    · exact Or.inr (gone (nanR hy))
    · refine Or.inr (gone ?_)
      show ((Ieee.double.read 9218868437227405312).sum (Ieee.double.read 9218868437227405312).opposite).map Ieee.double.write = none
      rw [ri]; rfl

set_option maxHeartbeats 4000000 in
theorem lawFnNear_walk (v : Value) (w : World) (h : CodeAt w v) : Calls Try.prog 9 #[v] w (Fine w) := by
  have D := Lib.hid (drawPointsNear v w h)
  obtain ⟨pa, pn, pc, rfl, hpn⟩ := code_length h
  clear h
  by_cases hbig : 1048576 < pn
  · have hb : (1048576 : Int) < (pn : Int) := by omega
    go_enter Try.func9, Try.ntmps9
    go_wp2_with fail
    go_ret
    exact fine_same ⟨rfl, rfl⟩
  have hb : ¬ (1048576 : Int) < (pn : Int) := by omega
  go_enter Try.func9, Try.ntmps9
  go_wp2_with fail
  refine D.out.mono ?_; rintro e w1 ⟨x, y, x', y', m, rfl, k1, k2, hm, hL⟩
  clear D hb hbig
  obtain ⟨n, k, M, hB⟩ := ms_bd hm
  have hB0 := hB
  obtain ⟨⟨vm, nm, vn⟩, ⟨am, vk⟩, -, -⟩ := hB0
  have px := part_pair (wk_part k1).1 (wk_part k2).1
  have py := part_pair (wk_part k1).2 (wk_part k2).2
  have IM := fun w => PointsNear_all x y x' y' m w
  have hx : ∀ d, DiffOf x x' d → (leq (FloatKind.f64.format.order d m) && geq (FloatKind.f64.format.order d n)) = nb x x' m := by
    rcases px with ⟨-, -, r, q1, q2⟩ | q
    · intro d hd; rw [q2 d hd m n M vm vn, (q1 m M vm).1]
    · intro d hd; rw [(q m n k M hB).2 d hd, (q m n k M hB).1]
  have hy : ∀ d, DiffOf y y' d → (leq (FloatKind.f64.format.order d m) && geq (FloatKind.f64.format.order d n)) = nb y y' m := by
    rcases py with ⟨-, -, r, q1, q2⟩ | q
    · intro d hd; rw [q2 d hd m n M vm vn, (q1 m M vm).1]
    · intro d hd; rw [(q m n k M hB).2 d hd, (q m n k M hB).1]
  have SP := fun w => specPointsNear_all nm hx hy w
  have more : (nb x x' m && nb y y' m) = true → ((nb x' x m && nb y' y m) = true ∧ (nb x x' k && nb y y' k) = true) ∧ (NN x ∧ NN y) ∧ NN x' ∧ NN y' := by
    intro ht
    rw [Bool.and_eq_true] at ht
    rcases px with ⟨n1, n2, r, q1, -⟩ | q
    · rcases py with ⟨n3, n4, s, q3, -⟩ | q
      · obtain ⟨t1, t2⟩ := ht
        have t1' := t1
        have t2' := t2
        rw [(q1 m M vm).1, decide_eq_true_eq] at t1'
        rw [(q3 m M vm).1, decide_eq_true_eq] at t2'
        refine ⟨⟨?_, ?_⟩, ⟨n1, n3⟩, n2, n4⟩
        · rw [(q1 m M vm).2, ← (q1 m M vm).1, (q3 m M vm).2, ← (q3 m M vm).1, t1, t2]; rfl
        · rw [(q1 k _ vk).1, (q3 k _ vk).1, Bool.and_eq_true, decide_eq_true_eq, decide_eq_true_eq]
          omega
      · rw [(q m n k M hB).1] at ht; exact absurd ht.2 (by decide)
    · rw [(q m n k M hB).1] at ht; exact absurd ht.1 (by decide)
  clear px py hx hy hB vm nm vn vk k1 k2 hm
  have IN := fun w => PointsNear_all x' y' x y m w
  have IK := fun w => PointsNear_all x y x' y' k w
  have RK : ∀ t w, (binOp .add t (.float .f64 m) (.float .f64 4607182418800017408)).run Try.prog w = .ok (.float .f64 k) w := fun t w => run_float_arith w .add t .f64 _ _ _ am
  clear am
  generalize (nb x x' m && nb y y' m) = v at *
  have HL := Lib.hid hL
  clear hL
  cases v
  · clear more IN IK RK
    unfold cw at *
    go_wp2_with fail
    refine (IM _).mono ?_; rintro e w2 ⟨rfl, hb2⟩
    have HL2 := Lib.hid (below_next HL.out hb2)
    clear hb2 IM HL
    go_wp2_with fail
    refine (SP _).mono ?_; rintro e w3 ⟨rfl, hb3⟩
    have HL3 := Lib.hid (below_next HL2.out hb3)
    clear hb3 SP HL2
    go_wp2_with fail
    go_ret
    exact ⟨rfl, HL3.out⟩
  · obtain ⟨⟨m1, m2⟩, ⟨n1, n2⟩, n3, n4⟩ := more rfl
    rw [m1] at IN
    rw [m2] at IK
    have CE1 : ∀ t w, (binOp .eql t (.complex .f64 x y) (.complex .f64 x y)).run Try.prog w = .ok (.bool true) w := fun t w => run_ceq (ord_self n1) (ord_self n2) t w
    have CE2 : ∀ t w, (binOp .eql t (.complex .f64 x' y') (.complex .f64 x' y')).run Try.prog w = .ok (.bool true) w := fun t w => run_ceq (ord_self n3) (ord_self n4) t w
    clear more m1 m2 n1 n2 n3 n4
    unfold cw at *
    go_wp2_with fail
    refine (IM _).mono ?_; rintro e w2 ⟨rfl, hb2⟩
    have HL2 := Lib.hid (below_next HL.out hb2)
    clear hb2 IM HL
    go_wp2_with fail
    refine (SP _).mono ?_; rintro e w3 ⟨rfl, hb3⟩
    have HL3 := Lib.hid (below_next HL2.out hb3)
    clear hb3 SP HL2
    go_wp2_with fail
    refine (IN _).mono ?_; rintro e w4 ⟨rfl, hb4⟩
    have HL4 := Lib.hid (below_next HL3.out hb4)
    clear hb4 IN HL3
    go_wp2_with (rw [RK])
    refine (IK _).mono ?_; rintro e w5 ⟨rfl, hb5⟩
    have HL5 := Lib.hid (below_next HL4.out hb5)
    clear hb5 IK HL4
    go_wp2_with (first | rw [CE1] | rw [CE2])
    go_ret
    exact ⟨rfl, HL5.out⟩
end Go.Proofs.Ytmbhbocfnpklpaa
