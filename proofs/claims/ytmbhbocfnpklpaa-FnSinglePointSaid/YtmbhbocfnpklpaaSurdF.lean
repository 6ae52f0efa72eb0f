/-
  impl's functions of surds, second part: signs, comparisons, whole numbers.
-/
import Derived.Test.YtmbhbocfnpklpaaSurdE
import Derived.Test.YtmbhbocfnpklpaaSurdMathB
namespace Go.Proofs.Ytmbhbocfnpklpaa
set_option maxRecDepth 20000
open Go.ChangeShapes Go.WideShapes Go.ChangeAt Go.RowKit
set_option linter.unusedVariables false
set_option linter.unusedSimpArgs false

theorem below_step {w W : World} (h : Below w.heap.size w W) (o : Obj) : Below w.heap.size w (W.alloc o) := h.alloc h.size o
/-- The sign of a surd; of the difference of two. -/
def sgf (a : Nat → Int) : Int := sg4 (a 0) (a 1) (a 2) (a 3)
/-- One point and a surd's variable. -/
def boxP (w : World) (a : Nat → Int) (T O : TypeId) : World := (w.alloc (.cells (vec 8 a) T)).alloc (.cells (vec 4 nul) O)
theorem boxP_facts (w : World) (a : Nat → Int) (T O : TypeId) : RowAt (boxP w a T O) w.heap.size 8 T a ∧ RowAt (boxP w a T O) (w.heap.size + 1) 4 O nul ∧ Below w.heap.size w (boxP w a T O) :=
  ⟨(RowAt.newAt rfl rfl).alloc _, RowAt.newAt rfl (by simp), ((Below.refl _ _).alloc (Nat.le_refl _) _).alloc (by simp) _⟩
/-- Four times the real part, the imaginary part. -/
def rea (a : Nat → Int) : Nat → Int := f4 (4 * a 0 + 2 * a 4) (a 1 + 2 * a 3 - a 5 + a 7) (2 * a 2) (a 1 + a 5 - a 7)
def ima (a : Nat → Int) : Nat → Int := f4 (2 * a 2 + 4 * a 6) (0 - a 1 + 2 * a 3 + a 5 + a 7) (2 * a 4) (a 1 + a 5 + a 7)
theorem ima_rea (a : Nat → Int) : ima a = rea (trn a 18) := by
  unfold ima rea
  congr 1 <;> simp [trn, red, tpow] <;> omega
set_option maxHeartbeats 1000000 in
theorem realPart_any (a : Nat → Int) (ha : ∀ j, j < 8 → -1000000000000 ≤ a j ∧ a j ≤ 1000000000000) (w : World) : Calls Try.prog 58 #[pt a] w fun e w' => e = .returned (p4 (rea a)) ∧ Below w.heap.size w w' := by
  have h0 := ha 0 (by omega); have h1 := ha 1 (by omega); have h2 := ha 2 (by omega); have h3 := ha 3 (by omega); have h4 := ha 4 (by omega); have h5 := ha 5 (by omega); have h6 := ha 6 (by omega); have h7 := ha 7 (by omega)
  clear ha
  change Calls Try.prog 58 #[.agg #[.int .i64 (a 0), .int .i64 (a 1), .int .i64 (a 2), .int .i64 (a 3), .int .i64 (a 4), .int .i64 (a 5), .int .i64 (a 6), .int .i64 (a 7)]] w fun e w' => e = .returned (.agg #[.int .i64 (4 * a 0 + 2 * a 4), .int .i64 (a 1 + 2 * a 3 - a 5 + a 7), .int .i64 (2 * a 2), .int .i64 (a 1 + a 5 - a 7)]) ∧ Below w.heap.size w w'
  go_enter Try.func58, Try.ntmps58
  go_wp2
  simp [bodyPost, results, Try.results58, go_sem]
  exact below_two _ _ _
theorem imaginaryPart_any (a : Nat → Int) (ha : InR a) (w : World) : Calls Try.prog 60 #[pt a] w fun e w' => e = .returned (p4 (ima a)) ∧ Below w.heap.size w w' := by
  have T := fun w => turned_any a 18 (by omega) ha w
  have B := trn_bound (B := 1000000) (by omega) ha 18
  have M := fun w => realPart_any (trn a 18) (fun j _ => by have b0 := B j; have b1 := B (j + 4); have b2 := B (j + 8); have b3 := B (j + 12); have b4 := B (j + 16); have b5 := B (j + 20); simp only [trn, red]; split <;> omega) w
  rw [← ima_rea] at M
  generalize trn a 18 = b at *
  have sa := vec_size 8 a
  generalize ima a = c at *
  clear B
  unfold pt p4 at *
  go_enter Try.func60, Try.ntmps60
  go_upto_region 1 with fail
  show Code.wp _ _ _ _ (boxP w a 68 76)
  obtain ⟨hA, hO, hL⟩ := boxP_facts w a 68 76
  generalize boxP w a 68 76 = W at *
  go_wp2_with (refine load_row rfl rfl rfl hA Try.underlying68 rfl info_exact ?_)
  refine (T _).mono ?_; rintro e w2 ⟨rfl, hb2⟩
  have hO2 := hO.below hb2
  have hL2 := below_next hL hb2
  clear hA hO hL hb2 T
  go_wp2_with fail
  refine (M _).mono ?_; rintro e w3 ⟨rfl, hb3⟩
  have hO3 := hO2.below hb3
  have hL3 := below_next hL2 hb3
  clear hO2 hL2 hb3 M
  go_wp2_with (refine store_row rfl rfl rfl rfl hO3 info_radical ?_)
  refine bodyPost_ret (results_row rfl rfl hO3.setRow Try.underlying76 rfl info_radical) rfl ?_
  exact ⟨rfl, below_setRow hL3 (by omega) _⟩
theorem SurdRe_no (a : Nat → Int)  (va : okc a = false) (w : World) :
    Calls Try.prog 28 #[pt a] w fun e w' => e = .returned (tls false (rea a)) ∧ Below w.heap.size w w' := by
    have sa := vec_size 8 a
    rw [ans_no4]
    have P : ∀ w, Calls Try.prog 54 #[pt a] w fun e w' => e = .returned (.tuple #[pt nul, .bool false]) ∧ Below w.heap.size w w' := fun w => exactOf_no a va w
    unfold pt at *
    go_enter Try.func28, Try.ntmps28
    go_upto_region 1 with fail
    show Code.wp _ _ _ _ (boxP w a 30 43)
    obtain ⟨hA, hO, hL⟩ := boxP_facts w a 30 43
    generalize boxP w a 30 43 = W at *
    go_wp2_with (refine load_row rfl rfl rfl hA Try.underlying30 rfl info_cyc ?_)
    refine (P _).mono ?_; rintro e w2 ⟨rfl, hb2⟩
    have hO2 := hO.below hb2
    have hL2 := below_next hL hb2
    clear hA hO hL hb2 P
    go_upto_region 2 with (refine store_row rfl rfl rfl rfl (RowAt.newAt zero8 rfl) info_exact ?_)
    show Code.wp _ _ _ _ (sole w2 nul 68)
    have hA3 := sole_first w2 nul 68
    have hO3 := sole_keep hO2 nul 68
    have hL3 := sole_below hL2 nul 68
    clear hO2 hL2
    generalize sole w2 nul 68 = W3 at *
    go_wp2_with (refine store_row rfl rfl rfl (show _ = Value.agg (vec 4 nul) from rfl) hO3 info_surd ?_)
    refine bodyPost_ret (results_row_tmp rfl rfl hO3.setRow Try.underlying43 rfl info_surd) rfl ?_
    exact ⟨rfl, below_setRow hL3 (by omega) _⟩

theorem SurdRe_yes (a : Nat → Int)  (va : okc a = true) (w : World) :
    Calls Try.prog 28 #[pt a] w fun e w' => e = .returned (tls true (rea a)) ∧ Below w.heap.size w w' := by
    obtain ⟨c', v', T, eT⟩ := told_some4 (rea a)
    rw [eT]
    have sa := vec_size 8 a
    have P : ∀ w, Calls Try.prog 54 #[pt a] w fun e w' => e = .returned (.tuple #[pt a, .bool true]) ∧ Below w.heap.size w w' := fun w => exactOf_yes a va w
    have ia := okc_inR va
    have M := fun w => realPart_any a (fun j hj => by have := ia j hj; omega) w
    unfold pt at *
    go_enter Try.func28, Try.ntmps28
    go_upto_region 1 with fail
    show Code.wp _ _ _ _ (boxP w a 30 43)
    obtain ⟨hA, hO, hL⟩ := boxP_facts w a 30 43
    generalize boxP w a 30 43 = W at *
    go_wp2_with (refine load_row rfl rfl rfl hA Try.underlying30 rfl info_cyc ?_)
    refine (P _).mono ?_; rintro e w2 ⟨rfl, hb2⟩
    have hO2 := hO.below hb2
    have hL2 := below_next hL hb2
    clear hA hO hL hb2 P
    go_upto_region 2 with (refine store_row rfl rfl rfl rfl (RowAt.newAt zero8 rfl) info_exact ?_)
    show Code.wp _ _ _ _ (sole w2 a 68)
    have hA3 := sole_first w2 a 68
    have hO3 := sole_keep hO2 a 68
    have hL3 := sole_below hL2 a 68
    clear hO2 hL2
    generalize sole w2 a 68 = W3 at *
    go_wp2_with (refine load_row rfl rfl rfl hA3 Try.underlying68 rfl info_exact ?_)
    refine (M _).mono ?_; rintro e w4 ⟨rfl, hb4⟩
    have hO4 := hO3.below hb4
    have hL4 := below_next hL3 hb4
    clear hA3 hO3 hL3 hb4 M
    go_wp2_with fail
    refine (T _).mono ?_; rintro e w5 ⟨rfl, hb5⟩
    have hO5 := hO4.below hb5
    have hL5 := below_next hL4 hb5
    clear hO4 hL4 hb5
    go_wp2_with (refine store_row rfl rfl rfl rfl hO5 info_surd ?_)
    refine bodyPost_ret (results_row_tmp rfl rfl hO5.setRow Try.underlying43 rfl info_surd) rfl ?_
    exact ⟨rfl, below_setRow hL5 (by omega) _⟩

theorem SurdIm_no (a : Nat → Int)  (va : okc a = false) (w : World) :
    Calls Try.prog 29 #[pt a] w fun e w' => e = .returned (tls false (ima a)) ∧ Below w.heap.size w w' := by
    have sa := vec_size 8 a
    rw [ans_no4]
    have P : ∀ w, Calls Try.prog 54 #[pt a] w fun e w' => e = .returned (.tuple #[pt nul, .bool false]) ∧ Below w.heap.size w w' := fun w => exactOf_no a va w
    unfold pt at *
    go_enter Try.func29, Try.ntmps29
    go_upto_region 1 with fail
    show Code.wp _ _ _ _ (boxP w a 30 43)
    obtain ⟨hA, hO, hL⟩ := boxP_facts w a 30 43
    generalize boxP w a 30 43 = W at *
    go_wp2_with (refine load_row rfl rfl rfl hA Try.underlying30 rfl info_cyc ?_)
    refine (P _).mono ?_; rintro e w2 ⟨rfl, hb2⟩
    have hO2 := hO.below hb2
    have hL2 := below_next hL hb2
    clear hA hO hL hb2 P
    go_upto_region 2 with (refine store_row rfl rfl rfl rfl (RowAt.newAt zero8 rfl) info_exact ?_)
    show Code.wp _ _ _ _ (sole w2 nul 68)
    have hA3 := sole_first w2 nul 68
    have hO3 := sole_keep hO2 nul 68
    have hL3 := sole_below hL2 nul 68
    clear hO2 hL2
    generalize sole w2 nul 68 = W3 at *
    go_wp2_with (refine store_row rfl rfl rfl (show _ = Value.agg (vec 4 nul) from rfl) hO3 info_surd ?_)
    refine bodyPost_ret (results_row_tmp rfl rfl hO3.setRow Try.underlying43 rfl info_surd) rfl ?_
    exact ⟨rfl, below_setRow hL3 (by omega) _⟩

theorem SurdIm_yes (a : Nat → Int)  (va : okc a = true) (w : World) :
    Calls Try.prog 29 #[pt a] w fun e w' => e = .returned (tls true (ima a)) ∧ Below w.heap.size w w' := by
    obtain ⟨c', v', T, eT⟩ := told_some4 (ima a)
    rw [eT]
    have sa := vec_size 8 a
    have P : ∀ w, Calls Try.prog 54 #[pt a] w fun e w' => e = .returned (.tuple #[pt a, .bool true]) ∧ Below w.heap.size w w' := fun w => exactOf_yes a va w
    have ia := okc_inR va
    have M := fun w => imaginaryPart_any a ia w
    unfold pt at *
    go_enter Try.func29, Try.ntmps29
    go_upto_region 1 with fail
    show Code.wp _ _ _ _ (boxP w a 30 43)
    obtain ⟨hA, hO, hL⟩ := boxP_facts w a 30 43
    generalize boxP w a 30 43 = W at *
    go_wp2_with (refine load_row rfl rfl rfl hA Try.underlying30 rfl info_cyc ?_)
    refine (P _).mono ?_; rintro e w2 ⟨rfl, hb2⟩
    have hO2 := hO.below hb2
    have hL2 := below_next hL hb2
    clear hA hO hL hb2 P
    go_upto_region 2 with (refine store_row rfl rfl rfl rfl (RowAt.newAt zero8 rfl) info_exact ?_)
    show Code.wp _ _ _ _ (sole w2 a 68)
    have hA3 := sole_first w2 a 68
    have hO3 := sole_keep hO2 a 68
    have hL3 := sole_below hL2 a 68
    clear hO2 hL2
    generalize sole w2 a 68 = W3 at *
    go_wp2_with (refine load_row rfl rfl rfl hA3 Try.underlying68 rfl info_exact ?_)
    refine (M _).mono ?_; rintro e w4 ⟨rfl, hb4⟩
    have hO4 := hO3.below hb4
    have hL4 := below_next hL3 hb4
    clear hA3 hO3 hL3 hb4 M
    go_wp2_with fail
    refine (T _).mono ?_; rintro e w5 ⟨rfl, hb5⟩
    have hO5 := hO4.below hb5
    have hL5 := below_next hL4 hb5
    clear hO4 hL4 hb5
    go_wp2_with (refine store_row rfl rfl rfl rfl hO5 info_surd ?_)
    refine bodyPost_ret (results_row_tmp rfl rfl hO5.setRow Try.underlying43 rfl info_surd) rfl ?_
    exact ⟨rfl, below_setRow hL5 (by omega) _⟩

end Go.Proofs.Ytmbhbocfnpklpaa
