/-
  impl's functions of surds, second part: signs, comparisons, whole numbers.
-/
import Derived.Test.YtcdlenphgenejaaSurdE
import Derived.Test.YtcdlenphgenejaaSurdMathB
namespace Go.Proofs.Ytcdlenphgenejaa
set_option maxRecDepth 20000
open Go.ChangeShapes Go.WideShapes Go.ChangeAt Go.RowKit
set_option linter.unusedVariables false
set_option linter.unusedSimpArgs false

theorem below_step {w W : World} (h : Below w.heap.size w W) (o : Obj) : Below w.heap.size w (W.alloc o) := h.alloc h.size o
theorem radicalOf_t {a b c d : Int} (h : okr a b c d = true) (w : World) : Calls Try.prog 51 #[.agg #[.int .i64 a, .int .i64 b, .int .i64 c, .int .i64 d]] w fun e w' => e = .returned (.tuple #[.agg #[.int .i64 a, .int .i64 b, .int .i64 c, .int .i64 d], .bool true]) ∧ Below w.heap.size w w' := by
  have := radicalOf_any a b c d w
  rw [tell_t h] at this
  exact this
theorem radicalOf_f {a b c d : Int} (h : okr a b c d = false) (w : World) : Calls Try.prog 51 #[.agg #[.int .i64 a, .int .i64 b, .int .i64 c, .int .i64 d]] w fun e w' => e = .returned (.tuple #[.agg #[.int .i64 0, .int .i64 0, .int .i64 0, .int .i64 0], .bool false]) ∧ Below w.heap.size w w' := by
  have := radicalOf_any a b c d w
  rw [tell_f h] at this
  exact this
theorem SurdValid_any (a b c d : Int) (w : World) : Calls Try.prog 16 #[sv a b c d] w fun e w' => e = .returned (.bool (okr a b c d)) ∧ Below w.heap.size w w' := by
  unfold sv
  cases hv : okr a b c d
  · have R := fun w => radicalOf_f hv w
    clear hv
    go_enter Try.func16, Try.ntmps16
    go_wp2_with (go_at_call 51; refine (R _).mono ?_; rintro e w2 ⟨rfl, hb2⟩)
    go_ret
    exact ⟨rfl, below_step (below_next (below_one _ _) hb2) _⟩
  · obtain ⟨ha, hb, hc, hd⟩ := okr_in hv
    have R := fun w => radicalOf_t hv w
    try rw [if_pos rfl]
    clear hv ha hb hc hd
    go_enter Try.func16, Try.ntmps16
    go_wp2_with (first | (go_at_call 51; refine (R _).mono ?_; rintro e w2 ⟨rfl, hb2⟩))
    go_ret
    exact ⟨rfl, below_step (below_next (below_one _ _) hb2) _⟩
theorem SurdSign_any (a b c d : Int) (w : World) : Calls Try.prog 18 #[sv a b c d] w fun e w' => e = .returned (.tuple #[.int .i64 (if okr a b c d then sg4 a b c d else 0), .bool (okr a b c d)]) ∧ Below w.heap.size w w' := by
  unfold sv
  cases hv : okr a b c d
  · have R := fun w => radicalOf_f hv w
    clear hv
    go_enter Try.func18, Try.ntmps18
    go_wp2_with (go_at_call 51; refine (R _).mono ?_; rintro e w2 ⟨rfl, hb2⟩)
    go_ret2
    exact ⟨rfl, below_step (below_next (below_one _ _) hb2) _⟩
  · obtain ⟨ha, hb, hc, hd⟩ := okr_in hv
    have R := fun w => radicalOf_t hv w
    have S := fun w => rsign_any a b c d (by omega) (by omega) (by omega) (by omega) w
    unfold sv at S
    generalize sg4 a b c d = z at *
    try rw [if_pos rfl]
    clear hv ha hb hc hd
    go_enter Try.func18, Try.ntmps18
    go_wp2_with (first | (go_at_call 51; refine (R _).mono ?_; rintro e w2 ⟨rfl, hb2⟩) | (go_at_call 53; refine (S _).mono ?_; rintro e w3 ⟨rfl, hb3⟩))
    go_ret2
    exact ⟨rfl, below_next (below_step (below_next (below_one _ _) hb2) _) hb3⟩
set_option maxHeartbeats 1000000 in
theorem whole_any (a b c d n : Int) (ha : -10000000 ≤ a ∧ a ≤ 10000000) (hb : -10000000 ≤ b ∧ b ≤ 10000000) (hc : -10000000 ≤ c ∧ c ≤ 10000000) (hd : -10000000 ≤ d ∧ d ≤ 10000000) (hn : Wh a b c d n) (w : World) :
    Calls Try.prog 78 #[sv a b c d] w fun e w' => e = .returned (.int .i64 n) ∧ Below w.heap.size w w' := by
  have C : ∀ (m : Int) (w : World), -20000000 ≤ m ∧ m ≤ 20000000 → Calls Try.prog 72 #[.agg (vec 4 (f4 a b c d)), .agg #[.int .i64 (4 * m), .int .i64 0, .int .i64 0, .int .i64 0]] w fun e w' => e = .returned (.int .i64 (sg4 (a - 4 * m) b c d)) ∧ Below w.heap.size w w' := fun m w h => by
    have := rcompare_any a b c d (4 * m) 0 0 0 ha hb hc hd (by omega) (by omega) (by omega) (by omega) w
    rw [Int.sub_zero, Int.sub_zero, Int.sub_zero] at this
    exact this
  have lo := far_low ha hb hc hd
  have hi := far_high ha hb hc hd
  have HN := Lib.hid hn; have LO := Lib.hid lo; have HI := Lib.hid hi
  clear hn lo hi ha hb hc hd
  unfold sv
  go_enter Try.func78, Try.ntmps78
  go_wp2_with fail
  go_loopw [3, 4] (fun s3 s4 wr => ∃ x y : Int, s3 = .int .i64 x ∧ s4 = .int .i64 y ∧ -20000000 ≤ x ∧ x < y ∧ y ≤ 20000000 ∧ 0 ≤ sg4 (a - 4 * x) b c d ∧ sg4 (a - 4 * y) b c d < 0 ∧ RowAt wr w.heap.size 4 57 (f4 a b c d) ∧ Below w.heap.size w wr) (fun s3 s4 _ => (intOf s4 - intOf s3).toNat)
  case atStart => exact ⟨_, _, rfl, rfl, by omega, by omega, by omega, LO.out, HI.out, RowAt.newAt rfl rfl, below_one _ _⟩
  case round =>
    obtain ⟨x, y, rfl, rfl, hx, hxy, hy, h1, h2, hA, hL⟩ := hrel
    have H1 := Lib.hid h1; have H2 := Lib.hid h2; have HL := Lib.hid hL
    clear h1 h2 hL
    by_cases hg : 1 < y - x
    · have m1 : x < x + (y - x) / 2 := by omega
      have m2 : x + (y - x) / 2 < y := by omega
      have CM := fun w => C (x + (y - x) / 2) w (by omega)
      obtain ⟨z, hz⟩ : ∃ z, z = sg4 (a - 4 * (x + (y - x) / 2)) b c d := ⟨_, rfl⟩
      rw [← hz] at CM
      have HZ := Lib.hid hz; clear hz
      by_cases hs : z < 0
      · go_wp2_with (first | (refine load_row rfl rfl rfl hA Try.underlying57 rfl info_radical ?_) | (refine (CM _).mono ?_; rintro e w2 ⟨rfl, hb2⟩))
        go_roundw
        case rel => exact ⟨_, _, rfl, rfl, by omega, by omega, by omega, H1.out, by rw [← HZ.out]; exact hs, hA.below hb2, below_next HL.out hb2⟩
        case measure => simp [intOf]; omega
      · go_wp2_with (first | (refine load_row rfl rfl rfl hA Try.underlying57 rfl info_radical ?_) | (refine (CM _).mono ?_; rintro e w2 ⟨rfl, hb2⟩))
        go_roundw
        case rel => exact ⟨_, _, rfl, rfl, by omega, by omega, by omega, by rw [← HZ.out]; omega, H2.out, hA.below hb2, below_next HL.out hb2⟩
        case measure => simp [intOf]; omega
    · have e : y = x + 1 := by omega
      subst e
      have hw : x = n := wh_one ⟨H1.out, H2.out⟩ HN.out
      subst hw
      go_wp2_with fail
      go_ret
      exact ⟨rfl, HL.out⟩
theorem radicalPair_t {a b : Nat → Int} (h : (okf a && okf b) = true) (w : World) : Calls Try.prog 54 #[.agg (vec 4 a), .agg (vec 4 b)] w fun e w' => e = .returned (.tuple #[.agg (vec 4 a), .agg (vec 4 b), .bool true]) ∧ Below w.heap.size w w' := by
  have := radicalPair_at a b w
  rw [h] at this
  exact this
theorem radicalPair_f {a b : Nat → Int} (h : (okf a && okf b) = false) (w : World) : Calls Try.prog 54 #[.agg (vec 4 a), .agg (vec 4 b)] w fun e w' => e = .returned (.tuple #[.agg (vec 4 nul), .agg (vec 4 nul), .bool false]) ∧ Below w.heap.size w w' := by
  have := radicalPair_at a b w
  rw [h] at this
  exact this
/-- The sign of a surd; of the difference of two. -/
def sgf (a : Nat → Int) : Int := sg4 (a 0) (a 1) (a 2) (a 3)
theorem SurdCompare_any (a b : Nat → Int) (w : World) : Calls Try.prog 31 #[p4 a, p4 b] w fun e w' => e = .returned (.tuple #[.int .i64 (if okf a && okf b then sgf (sub a b) else 0), .bool (okf a && okf b)]) ∧ Below w.heap.size w w' := by
  cases hv : okf a && okf b
  · have R : ∀ w, Calls Try.prog 54 #[.agg #[.int .i64 (a 0), .int .i64 (a 1), .int .i64 (a 2), .int .i64 (a 3)], .agg #[.int .i64 (b 0), .int .i64 (b 1), .int .i64 (b 2), .int .i64 (b 3)]] w fun e w' => e = .returned (.tuple #[.agg #[.int .i64 0, .int .i64 0, .int .i64 0, .int .i64 0], .agg #[.int .i64 0, .int .i64 0, .int .i64 0, .int .i64 0], .bool false]) ∧ Below w.heap.size w w' := fun w => radicalPair_f hv w
    try rw [if_neg (by decide)]
    clear hv
    change Calls Try.prog 31 #[.agg #[.int .i64 (a 0), .int .i64 (a 1), .int .i64 (a 2), .int .i64 (a 3)], .agg #[.int .i64 (b 0), .int .i64 (b 1), .int .i64 (b 2), .int .i64 (b 3)]] w _
    go_enter Try.func31, Try.ntmps31
    go_wp2_with (go_at_call 54; refine (R _).mono ?_; rintro e w2 ⟨rfl, hb2⟩)
    go_ret2
    exact ⟨rfl, below_step (below_step (below_next (below_two _ _ _) hb2) _) _⟩
  · have R := fun w => radicalPair_t hv w
    simp only [Bool.and_eq_true] at hv
    obtain ⟨ha0, ha1, ha2, ha3⟩ := okf_in hv.1
    obtain ⟨hb0, hb1, hb2, hb3⟩ := okf_in hv.2
    have S : ∀ w, Calls Try.prog 72 #[.agg #[.int .i64 (a 0), .int .i64 (a 1), .int .i64 (a 2), .int .i64 (a 3)], .agg #[.int .i64 (b 0), .int .i64 (b 1), .int .i64 (b 2), .int .i64 (b 3)]] w fun e w' => e = .returned (.int .i64 (sgf (sub a b))) ∧ Below w.heap.size w w' := fun w =>
      rcompare_any (a 0) (a 1) (a 2) (a 3) (b 0) (b 1) (b 2) (b 3) ha0 ha1 ha2 ha3 (by omega) (by omega) (by omega) (by omega) w
    rw [if_pos rfl]
    generalize sgf (sub a b) = z at *
    clear hv ha0 ha1 ha2 ha3 hb0 hb1 hb2 hb3
    change ∀ w, Calls Try.prog 54 #[.agg #[.int .i64 (a 0), .int .i64 (a 1), .int .i64 (a 2), .int .i64 (a 3)], .agg #[.int .i64 (b 0), .int .i64 (b 1), .int .i64 (b 2), .int .i64 (b 3)]] w fun e w' => e = .returned (.tuple #[.agg #[.int .i64 (a 0), .int .i64 (a 1), .int .i64 (a 2), .int .i64 (a 3)], .agg #[.int .i64 (b 0), .int .i64 (b 1), .int .i64 (b 2), .int .i64 (b 3)], .bool true]) ∧ Below w.heap.size w w' at R
    change Calls Try.prog 31 #[.agg #[.int .i64 (a 0), .int .i64 (a 1), .int .i64 (a 2), .int .i64 (a 3)], .agg #[.int .i64 (b 0), .int .i64 (b 1), .int .i64 (b 2), .int .i64 (b 3)]] w _
    go_enter Try.func31, Try.ntmps31
    go_wp2_with (first | (go_at_call 54; refine (R _).mono ?_; rintro e w2 ⟨rfl, hb2⟩) | (go_at_call 72; refine (S _).mono ?_; rintro e w3 ⟨rfl, hb3⟩))
    go_ret2
    exact ⟨rfl, below_next (below_step (below_step (below_next (below_two _ _ _) hb2) _) _) hb3⟩
theorem SurdWhole_any (a b c d : Int) (n : Int) (hn : okr a b c d = true → Wh a b c d n) (w : World) : Calls Try.prog 44 #[sv a b c d] w fun e w' => e = .returned (.tuple #[.int .i64 (if okr a b c d then n else 0), .bool (okr a b c d)]) ∧ Below w.heap.size w w' := by
  unfold sv
  cases hv : okr a b c d
  · have R := fun w => radicalOf_f hv w
    clear hv
    go_enter Try.func44, Try.ntmps44
    go_wp2_with (go_at_call 51; refine (R _).mono ?_; rintro e w2 ⟨rfl, hb2⟩)
    go_ret2
    exact ⟨rfl, below_step (below_next (below_one _ _) hb2) _⟩
  · obtain ⟨ha, hb, hc, hd⟩ := okr_in hv
    have R := fun w => radicalOf_t hv w
    have S := fun w => whole_any a b c d n ha hb hc hd (hn hv) w
    unfold sv at S
    clear hn
    try rw [if_pos rfl]
    clear hv ha hb hc hd
    go_enter Try.func44, Try.ntmps44
    go_wp2_with (first | (go_at_call 51; refine (R _).mono ?_; rintro e w2 ⟨rfl, hb2⟩) | (go_at_call 78; refine (S _).mono ?_; rintro e w3 ⟨rfl, hb3⟩))
    go_ret2
    exact ⟨rfl, below_next (below_step (below_next (below_one _ _) hb2) _) hb3⟩
/-- One point and a surd's variable. -/
def boxP (w : World) (a : Nat → Int) (T O : TypeId) : World := (w.alloc (.cells (vec 8 a) T)).alloc (.cells (vec 4 nul) O)
theorem boxP_facts (w : World) (a : Nat → Int) (T O : TypeId) : RowAt (boxP w a T O) w.heap.size 8 T a ∧ RowAt (boxP w a T O) (w.heap.size + 1) 4 O nul ∧ Below w.heap.size w (boxP w a T O) :=
  ⟨(RowAt.newAt rfl rfl).alloc _, RowAt.newAt rfl (by simp), ((Below.refl _ _).alloc (Nat.le_refl _) _).alloc (by simp) _⟩
/-- Four times the real part, the imaginary part. -/
def rea (a : Nat → Int) : Nat → Int := f4 (4 * a 0 + 2 * a 4) (a 1 + 2 * a 3 - a 5 + a 7) (2 * a 2) (a 1 + a 5 - a 7)
def ima (a : Nat → Int) : Nat → Int := f4 (2 * a 2 + 4 * a 6) (0 - a 1 + 2 * a 3 + a 5 + a 7) (2 * a 4) (a 1 + a 5 + a 7)
theorem ima_rea (a : Nat → Int) : ima a = rea (trn a 18) := by
  unfold ima rea
  congr 1 <;> simp [trn, red, tpow] <;> omega
set_option maxHeartbeats 1000000 in
theorem realPart_any (a : Nat → Int) (ha : ∀ j, j < 8 → -1000000000000 ≤ a j ∧ a j ≤ 1000000000000) (w : World) : Calls Try.prog 59 #[pt a] w fun e w' => e = .returned (p4 (rea a)) ∧ Below w.heap.size w w' := by
  have h0 := ha 0 (by omega); have h1 := ha 1 (by omega); have h2 := ha 2 (by omega); have h3 := ha 3 (by omega); have h4 := ha 4 (by omega); have h5 := ha 5 (by omega); have h6 := ha 6 (by omega); have h7 := ha 7 (by omega)
  clear ha
  change Calls Try.prog 59 #[.agg #[.int .i64 (a 0), .int .i64 (a 1), .int .i64 (a 2), .int .i64 (a 3), .int .i64 (a 4), .int .i64 (a 5), .int .i64 (a 6), .int .i64 (a 7)]] w fun e w' => e = .returned (.agg #[.int .i64 (4 * a 0 + 2 * a 4), .int .i64 (a 1 + 2 * a 3 - a 5 + a 7), .int .i64 (2 * a 2), .int .i64 (a 1 + a 5 - a 7)]) ∧ Below w.heap.size w w'
  go_enter Try.func59, Try.ntmps59
  go_wp2
  simp [bodyPost, results, Try.results59, go_sem]
  exact below_two _ _ _
theorem imaginaryPart_any (a : Nat → Int) (ha : InR a) (w : World) : Calls Try.prog 67 #[pt a] w fun e w' => e = .returned (p4 (ima a)) ∧ Below w.heap.size w w' := by
  have T := fun w => turned_any a 18 (by omega) ha w
  have B := trn_bound (B := 1000000) (by omega) ha 18
  have M := fun w => realPart_any (trn a 18) (fun j _ => by have b0 := B j; have b1 := B (j + 4); have b2 := B (j + 8); have b3 := B (j + 12); have b4 := B (j + 16); have b5 := B (j + 20); simp only [trn, red]; split <;> omega) w
  rw [← ima_rea] at M
  generalize trn a 18 = b at *
  have sa := vec_size 8 a
  generalize ima a = c at *
  clear B
  unfold pt p4 at *
  go_enter Try.func67, Try.ntmps67
  go_upto_region 1 with fail
  show Code.wp _ _ _ _ (boxP w a 68 57)
  obtain ⟨hA, hO, hL⟩ := boxP_facts w a 68 57
  generalize boxP w a 68 57 = W at *
  go_wp2_with (refine load_row rfl rfl rfl hA Try.underlying68 rfl info_exact ?_)
  refine (T _).mono ?_; rintro e w2 ⟨rfl, hb2⟩
  have hO2 := hO.below hb2
  have hL2 := below_next hL hb2
  clear hA hO hL hb2 T
  go_wp2_with fail
  refine (M _).mono ?_; rintro e w3 ⟨rfl, hb3⟩
  have hO3 := hO2.below hb3
  have hL3 := below_next hL2 hb3
  clear hO2 hL2 hb3 M
  go_wp2_with (refine store_row rfl rfl rfl rfl hO3 info_radical ?_)
  refine bodyPost_ret (results_row rfl rfl hO3.setRow Try.underlying57 rfl info_radical) rfl ?_
  exact ⟨rfl, below_setRow hL3 (by omega) _⟩
theorem SurdRe_no (a : Nat → Int)  (va : okc a = false) (w : World) :
    Calls Try.prog 21 #[pt a] w fun e w' => e = .returned (tls false (rea a)) ∧ Below w.heap.size w w' := by
    have sa := vec_size 8 a
    rw [ans_no4]
    have P : ∀ w, Calls Try.prog 58 #[pt a] w fun e w' => e = .returned (.tuple #[pt nul, .bool false]) ∧ Below w.heap.size w w' := fun w => exactOf_no a va w
    unfold pt at *
    go_enter Try.func21, Try.ntmps21
    go_upto_region 1 with fail
    show Code.wp _ _ _ _ (boxP w a 34 24)
    obtain ⟨hA, hO, hL⟩ := boxP_facts w a 34 24
    generalize boxP w a 34 24 = W at *
    go_wp2_with (refine load_row rfl rfl rfl hA Try.underlying34 rfl info_cyc ?_)
    refine (P _).mono ?_; rintro e w2 ⟨rfl, hb2⟩
    have hO2 := hO.below hb2
    have hL2 := below_next hL hb2
    clear hA hO hL hb2 P
    go_upto_region 2 with (refine store_row rfl rfl rfl rfl (RowAt.newAt zero8 rfl) info_exact ?_)
    show Code.wp _ _ _ _ (sole w2 nul 68)
    have hA3 := sole_first w2 nul 68
    have hO3 := sole_keep hO2 nul 68
    have hL3 := sole_below hL2 nul 68
    clear hO2 hL2
    generalize sole w2 nul 68 = W3 at *
    go_wp2_with (refine store_row rfl rfl rfl (show _ = Value.agg (vec 4 nul) from rfl) hO3 info_surd ?_)
    refine bodyPost_ret (results_row_tmp rfl rfl hO3.setRow Try.underlying24 rfl info_surd) rfl ?_
    exact ⟨rfl, below_setRow hL3 (by omega) _⟩

theorem SurdRe_yes (a : Nat → Int)  (va : okc a = true) (w : World) :
    Calls Try.prog 21 #[pt a] w fun e w' => e = .returned (tls true (rea a)) ∧ Below w.heap.size w w' := by
    obtain ⟨c', v', T, eT⟩ := told_some4 (rea a)
    rw [eT]
    have sa := vec_size 8 a
    have P : ∀ w, Calls Try.prog 58 #[pt a] w fun e w' => e = .returned (.tuple #[pt a, .bool true]) ∧ Below w.heap.size w w' := fun w => exactOf_yes a va w
    have ia := okc_inR va
    have M := fun w => realPart_any a (fun j hj => by have := ia j hj; omega) w
    unfold pt at *
    go_enter Try.func21, Try.ntmps21
    go_upto_region 1 with fail
    show Code.wp _ _ _ _ (boxP w a 34 24)
    obtain ⟨hA, hO, hL⟩ := boxP_facts w a 34 24
    generalize boxP w a 34 24 = W at *
    go_wp2_with (refine load_row rfl rfl rfl hA Try.underlying34 rfl info_cyc ?_)
    refine (P _).mono ?_; rintro e w2 ⟨rfl, hb2⟩
    have hO2 := hO.below hb2
    have hL2 := below_next hL hb2
    clear hA hO hL hb2 P
    go_upto_region 2 with (refine store_row rfl rfl rfl rfl (RowAt.newAt zero8 rfl) info_exact ?_)
    show Code.wp _ _ _ _ (sole w2 a 68)
    have hA3 := sole_first w2 a 68
    have hO3 := sole_keep hO2 a 68
    have hL3 := sole_below hL2 a 68
    clear hO2 hL2
    generalize sole w2 a 68 = W3 at *
    go_wp2_with (refine load_row rfl rfl rfl hA3 Try.underlying68 rfl info_exact ?_)
    refine (M _).mono ?_; rintro e w4 ⟨rfl, hb4⟩
    have hO4 := hO3.below hb4
    have hL4 := below_next hL3 hb4
    clear hA3 hO3 hL3 hb4 M
    go_wp2_with fail
    refine (T _).mono ?_; rintro e w5 ⟨rfl, hb5⟩
    have hO5 := hO4.below hb5
    have hL5 := below_next hL4 hb5
    clear hO4 hL4 hb5
    go_wp2_with (refine store_row rfl rfl rfl rfl hO5 info_surd ?_)
    refine bodyPost_ret (results_row_tmp rfl rfl hO5.setRow Try.underlying24 rfl info_surd) rfl ?_
    exact ⟨rfl, below_setRow hL5 (by omega) _⟩

theorem SurdIm_no (a : Nat → Int)  (va : okc a = false) (w : World) :
    Calls Try.prog 25 #[pt a] w fun e w' => e = .returned (tls false (ima a)) ∧ Below w.heap.size w w' := by
    have sa := vec_size 8 a
    rw [ans_no4]
    have P : ∀ w, Calls Try.prog 58 #[pt a] w fun e w' => e = .returned (.tuple #[pt nul, .bool false]) ∧ Below w.heap.size w w' := fun w => exactOf_no a va w
    unfold pt at *
    go_enter Try.func25, Try.ntmps25
    go_upto_region 1 with fail
    show Code.wp _ _ _ _ (boxP w a 34 24)
    obtain ⟨hA, hO, hL⟩ := boxP_facts w a 34 24
    generalize boxP w a 34 24 = W at *
    go_wp2_with (refine load_row rfl rfl rfl hA Try.underlying34 rfl info_cyc ?_)
    refine (P _).mono ?_; rintro e w2 ⟨rfl, hb2⟩
    have hO2 := hO.below hb2
    have hL2 := below_next hL hb2
    clear hA hO hL hb2 P
    go_upto_region 2 with (refine store_row rfl rfl rfl rfl (RowAt.newAt zero8 rfl) info_exact ?_)
    show Code.wp _ _ _ _ (sole w2 nul 68)
    have hA3 := sole_first w2 nul 68
    have hO3 := sole_keep hO2 nul 68
    have hL3 := sole_below hL2 nul 68
    clear hO2 hL2
    generalize sole w2 nul 68 = W3 at *
    go_wp2_with (refine store_row rfl rfl rfl (show _ = Value.agg (vec 4 nul) from rfl) hO3 info_surd ?_)
    refine bodyPost_ret (results_row_tmp rfl rfl hO3.setRow Try.underlying24 rfl info_surd) rfl ?_
    exact ⟨rfl, below_setRow hL3 (by omega) _⟩

theorem SurdIm_yes (a : Nat → Int)  (va : okc a = true) (w : World) :
    Calls Try.prog 25 #[pt a] w fun e w' => e = .returned (tls true (ima a)) ∧ Below w.heap.size w w' := by
    obtain ⟨c', v', T, eT⟩ := told_some4 (ima a)
    rw [eT]
    have sa := vec_size 8 a
    have P : ∀ w, Calls Try.prog 58 #[pt a] w fun e w' => e = .returned (.tuple #[pt a, .bool true]) ∧ Below w.heap.size w w' := fun w => exactOf_yes a va w
    have ia := okc_inR va
    have M := fun w => imaginaryPart_any a ia w
    unfold pt at *
    go_enter Try.func25, Try.ntmps25
    go_upto_region 1 with fail
    show Code.wp _ _ _ _ (boxP w a 34 24)
    obtain ⟨hA, hO, hL⟩ := boxP_facts w a 34 24
    generalize boxP w a 34 24 = W at *
    go_wp2_with (refine load_row rfl rfl rfl hA Try.underlying34 rfl info_cyc ?_)
    refine (P _).mono ?_; rintro e w2 ⟨rfl, hb2⟩
    have hO2 := hO.below hb2
    have hL2 := below_next hL hb2
    clear hA hO hL hb2 P
    go_upto_region 2 with (refine store_row rfl rfl rfl rfl (RowAt.newAt zero8 rfl) info_exact ?_)
    show Code.wp _ _ _ _ (sole w2 a 68)
    have hA3 := sole_first w2 a 68
    have hO3 := sole_keep hO2 a 68
    have hL3 := sole_below hL2 a 68
    clear hO2 hL2
    generalize sole w2 a 68 = W3 at *
    go_wp2_with (refine load_row rfl rfl rfl hA3 Try.underlying68 rfl info_exact ?_)
    refine (M _).mono ?_; rintro e w4 ⟨rfl, hb4⟩
    have hO4 := hO3.below hb4
    have hL4 := below_next hL3 hb4
    clear hA3 hO3 hL3 hb4 M
    go_wp2_with fail
    refine (T _).mono ?_; rintro e w5 ⟨rfl, hb5⟩
    have hO5 := hO4.below hb5
    have hL5 := below_next hL4 hb5
    clear hO4 hL4 hb5
    go_wp2_with (refine store_row rfl rfl rfl rfl hO5 info_surd ?_)
    refine bodyPost_ret (results_row_tmp rfl rfl hO5.setRow Try.underlying24 rfl info_surd) rfl ?_
    exact ⟨rfl, below_setRow hL5 (by omega) _⟩

end Go.Proofs.Ytcdlenphgenejaa
