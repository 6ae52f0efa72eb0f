/-
  What impl's functions of exact points answer.
-/
import Derived.Test.YtjfljelpjgkmjaaCycE
namespace Go.Proofs.Ytjfljelpjgkmjaa
set_option maxRecDepth 20000
open Go.ChangeShapes Go.WideShapes Go.ChangeAt Go.RowKit
set_option linter.unusedVariables false
set_option linter.unusedSimpArgs false

theorem told_some (c : Nat → Int) : ∃ c' v', (∀ w, Calls Try.prog 62 #[.agg (vec 8 c)] w fun e w' => e = .returned (.tuple #[.agg (vec 8 c'), .bool v']) ∧ Below w.heap.size w w') ∧ ans true c = .tuple #[.agg (vec 8 c'), .bool v'] :=
  ⟨if okc c then c else nul, okc c, told_two c, rfl⟩
theorem ret_bool' {a b : Bool} (h : a = b) : Ending.returned (.bool a) = .returned (.bool b) := by rw [h]

set_option maxHeartbeats 1000000 in
theorem CycAdd_any (a b : Nat → Int) (w : World) :
    Calls Try.prog 28 #[pt a, pt b] w fun e w' => e = .returned (ans (okc a && okc b) (add a b)) ∧ Below w.heap.size w w' := by
  have sa := vec_size 8 a
  have sb := vec_size 8 b
  cases hv : okc a && okc b
  · rw [ans_no]
    have P : ∀ w, Calls Try.prog 63 #[pt a, pt b] w fun e w' => e = .returned (.tuple #[pt nul, pt nul, .bool false]) ∧ Below w.heap.size w w' := fun w => by
      have := exactPair_at a b w
      rw [hv] at this
      exact this
    unfold pt at *
    clear hv
    go_enter Try.func28, Try.ntmps28
    go_upto_region 1 with fail
    show Code.wp _ _ _ _ (box2 w a b 25 25)
    obtain ⟨hA, hB, hO, hL⟩ := box2_facts w a b 25 25
    generalize box2 w a b 25 25 = W at *
    go_wp2_with (first | (refine load_row rfl rfl rfl hA Try.underlying25 rfl info_cyc ?_) | (refine load_row rfl rfl rfl hB Try.underlying25 rfl info_cyc ?_))
    refine (P _).mono ?_; rintro e w2 ⟨rfl, hb2⟩
    have hO2 := hO.below hb2
    have hL2 := below_next hL hb2
    clear hA hB hO hL hb2 P
    have hS6 := pair_first w2 54
    have hS7 := pair_second w2 nul 54
    go_upto_region 2 with (first | (refine store_row (g := w2.heap.size) rfl rfl rfl rfl hS6 info_exact ?_) | (refine store_row (g := w2.heap.size + 1) rfl rfl rfl rfl hS7 info_exact ?_))
    clear hS6 hS7
    show Code.wp _ _ _ _ (two w2 nul nul 54)
    have hA3 := two_first w2 nul nul 54
    have hB3 := two_second w2 nul nul 54
    have hO3 := two_keep hO2 nul nul 54
    have hL3 := two_below hL2 nul nul 54
    clear hO2 hL2
    generalize two w2 nul nul 54 = W3 at *
    go_wp2_with (refine store_row rfl rfl rfl (show _ = Value.agg (vec 8 nul) from rfl) hO3 info_cyc ?_)
    refine bodyPost_ret (results_row_tmp rfl rfl hO3.setRow Try.underlying25 rfl info_cyc) rfl ?_
    exact ⟨rfl, below_setRow hL3 (by omega) _⟩
  · obtain ⟨c', v', T, eT⟩ := told_some (add a b)
    rw [eT]
    have P : ∀ w, Calls Try.prog 63 #[pt a, pt b] w fun e w' => e = .returned (.tuple #[pt a, pt b, .bool true]) ∧ Below w.heap.size w w' := fun w => by
      have := exactPair_at a b w
      rw [hv] at this
      exact this
    obtain ⟨va, vb⟩ : okc a = true ∧ okc b = true := by simpa using hv
    have ia := okc_inR va
    have ib := okc_inR vb
    have M := fun w => plus_any a b (fun j hj => by have := ia j hj; omega) (fun j hj => by have := ib j hj; omega) w
    unfold pt at *
    clear hv
    go_enter Try.func28, Try.ntmps28
    go_upto_region 1 with fail
    show Code.wp _ _ _ _ (box2 w a b 25 25)
    obtain ⟨hA, hB, hO, hL⟩ := box2_facts w a b 25 25
    generalize box2 w a b 25 25 = W at *
    go_wp2_with (first | (refine load_row rfl rfl rfl hA Try.underlying25 rfl info_cyc ?_) | (refine load_row rfl rfl rfl hB Try.underlying25 rfl info_cyc ?_))
    refine (P _).mono ?_; rintro e w2 ⟨rfl, hb2⟩
    have hO2 := hO.below hb2
    have hL2 := below_next hL hb2
    clear hA hB hO hL hb2 P
    have hS6 := pair_first w2 54
    have hS7 := pair_second w2 a 54
    go_upto_region 2 with (first | (refine store_row (g := w2.heap.size) rfl rfl rfl rfl hS6 info_exact ?_) | (refine store_row (g := w2.heap.size + 1) rfl rfl rfl rfl hS7 info_exact ?_))
    clear hS6 hS7
    show Code.wp _ _ _ _ (two w2 a b 54)
    have hA3 := two_first w2 a b 54
    have hB3 := two_second w2 a b 54
    have hO3 := two_keep hO2 a b 54
    have hL3 := two_below hL2 a b 54
    clear hO2 hL2
    generalize two w2 a b 54 = W3 at *
    go_wp2_with (first | (refine load_row rfl rfl rfl hA3 Try.underlying54 rfl info_exact ?_) | (refine load_row rfl rfl rfl hB3 Try.underlying54 rfl info_exact ?_))
    refine (M _).mono ?_; rintro e w4 ⟨rfl, hb4⟩
    have hO4 := hO3.below hb4
    have hL4 := below_next hL3 hb4
    clear hA3 hB3 hO3 hL3 hb4 M
    go_wp2_with fail
    refine (T _).mono ?_; rintro e w5 ⟨rfl, hb5⟩
    have hO5 := hO4.below hb5
    have hL5 := below_next hL4 hb5
    clear hO4 hL4 hb5
    go_wp2_with (refine store_row rfl rfl rfl rfl hO5 info_cyc ?_)
    refine bodyPost_ret (results_row_tmp rfl rfl hO5.setRow Try.underlying25 rfl info_cyc) rfl ?_
    exact ⟨rfl, below_setRow hL5 (by omega) _⟩

set_option maxHeartbeats 1000000 in
theorem CycLess_any (a b : Nat → Int) (w : World) :
    Calls Try.prog 37 #[pt a, pt b] w fun e w' => e = .returned (ans (okc a && okc b) (sub a b)) ∧ Below w.heap.size w w' := by
  have sa := vec_size 8 a
  have sb := vec_size 8 b
  cases hv : okc a && okc b
  · rw [ans_no]
    have P : ∀ w, Calls Try.prog 63 #[pt a, pt b] w fun e w' => e = .returned (.tuple #[pt nul, pt nul, .bool false]) ∧ Below w.heap.size w w' := fun w => by
      have := exactPair_at a b w
      rw [hv] at this
      exact this
    unfold pt at *
    clear hv
    go_enter Try.func37, Try.ntmps37
    go_upto_region 1 with fail
    show Code.wp _ _ _ _ (box2 w a b 25 25)
    obtain ⟨hA, hB, hO, hL⟩ := box2_facts w a b 25 25
    generalize box2 w a b 25 25 = W at *
    go_wp2_with (first | (refine load_row rfl rfl rfl hA Try.underlying25 rfl info_cyc ?_) | (refine load_row rfl rfl rfl hB Try.underlying25 rfl info_cyc ?_))
    refine (P _).mono ?_; rintro e w2 ⟨rfl, hb2⟩
    have hO2 := hO.below hb2
    have hL2 := below_next hL hb2
    clear hA hB hO hL hb2 P
    have hS6 := pair_first w2 54
    have hS7 := pair_second w2 nul 54
    go_upto_region 2 with (first | (refine store_row (g := w2.heap.size) rfl rfl rfl rfl hS6 info_exact ?_) | (refine store_row (g := w2.heap.size + 1) rfl rfl rfl rfl hS7 info_exact ?_))
    clear hS6 hS7
    show Code.wp _ _ _ _ (two w2 nul nul 54)
    have hA3 := two_first w2 nul nul 54
    have hB3 := two_second w2 nul nul 54
    have hO3 := two_keep hO2 nul nul 54
    have hL3 := two_below hL2 nul nul 54
    clear hO2 hL2
    generalize two w2 nul nul 54 = W3 at *
    go_wp2_with (refine store_row rfl rfl rfl (show _ = Value.agg (vec 8 nul) from rfl) hO3 info_cyc ?_)
    refine bodyPost_ret (results_row_tmp rfl rfl hO3.setRow Try.underlying25 rfl info_cyc) rfl ?_
    exact ⟨rfl, below_setRow hL3 (by omega) _⟩
  · obtain ⟨c', v', T, eT⟩ := told_some (sub a b)
    rw [eT]
    have P : ∀ w, Calls Try.prog 63 #[pt a, pt b] w fun e w' => e = .returned (.tuple #[pt a, pt b, .bool true]) ∧ Below w.heap.size w w' := fun w => by
      have := exactPair_at a b w
      rw [hv] at this
      exact this
    obtain ⟨va, vb⟩ : okc a = true ∧ okc b = true := by simpa using hv
    have ia := okc_inR va
    have ib := okc_inR vb
    have M := fun w => less_any a b ia ib w
    unfold pt at *
    clear hv
    go_enter Try.func37, Try.ntmps37
    go_upto_region 1 with fail
    show Code.wp _ _ _ _ (box2 w a b 25 25)
    obtain ⟨hA, hB, hO, hL⟩ := box2_facts w a b 25 25
    generalize box2 w a b 25 25 = W at *
    go_wp2_with (first | (refine load_row rfl rfl rfl hA Try.underlying25 rfl info_cyc ?_) | (refine load_row rfl rfl rfl hB Try.underlying25 rfl info_cyc ?_))
    refine (P _).mono ?_; rintro e w2 ⟨rfl, hb2⟩
    have hO2 := hO.below hb2
    have hL2 := below_next hL hb2
    clear hA hB hO hL hb2 P
    have hS6 := pair_first w2 54
    have hS7 := pair_second w2 a 54
    go_upto_region 2 with (first | (refine store_row (g := w2.heap.size) rfl rfl rfl rfl hS6 info_exact ?_) | (refine store_row (g := w2.heap.size + 1) rfl rfl rfl rfl hS7 info_exact ?_))
    clear hS6 hS7
    show Code.wp _ _ _ _ (two w2 a b 54)
    have hA3 := two_first w2 a b 54
    have hB3 := two_second w2 a b 54
    have hO3 := two_keep hO2 a b 54
    have hL3 := two_below hL2 a b 54
    clear hO2 hL2
    generalize two w2 a b 54 = W3 at *
    go_wp2_with (first | (refine load_row rfl rfl rfl hA3 Try.underlying54 rfl info_exact ?_) | (refine load_row rfl rfl rfl hB3 Try.underlying54 rfl info_exact ?_))
    refine (M _).mono ?_; rintro e w4 ⟨rfl, hb4⟩
    have hO4 := hO3.below hb4
    have hL4 := below_next hL3 hb4
    clear hA3 hB3 hO3 hL3 hb4 M
    go_wp2_with fail
    refine (T _).mono ?_; rintro e w5 ⟨rfl, hb5⟩
    have hO5 := hO4.below hb5
    have hL5 := below_next hL4 hb5
    clear hO4 hL4 hb5
    go_wp2_with (refine store_row rfl rfl rfl rfl hO5 info_cyc ?_)
    refine bodyPost_ret (results_row_tmp rfl rfl hO5.setRow Try.underlying25 rfl info_cyc) rfl ?_
    exact ⟨rfl, below_setRow hL5 (by omega) _⟩

set_option maxHeartbeats 1000000 in
theorem CycTimes_any (a b : Nat → Int) (w : World) :
    Calls Try.prog 33 #[pt a, pt b] w fun e w' => e = .returned (ans (okc a && okc b) (prd a b)) ∧ Below w.heap.size w w' := by
  have sa := vec_size 8 a
  have sb := vec_size 8 b
  cases hv : okc a && okc b
  · rw [ans_no]
    have P : ∀ w, Calls Try.prog 63 #[pt a, pt b] w fun e w' => e = .returned (.tuple #[pt nul, pt nul, .bool false]) ∧ Below w.heap.size w w' := fun w => by
      have := exactPair_at a b w
      rw [hv] at this
      exact this
    unfold pt at *
    clear hv
    go_enter Try.func33, Try.ntmps33
    go_upto_region 1 with fail
    show Code.wp _ _ _ _ (box2 w a b 25 25)
    obtain ⟨hA, hB, hO, hL⟩ := box2_facts w a b 25 25
    generalize box2 w a b 25 25 = W at *
    go_wp2_with (first | (refine load_row rfl rfl rfl hA Try.underlying25 rfl info_cyc ?_) | (refine load_row rfl rfl rfl hB Try.underlying25 rfl info_cyc ?_))
    refine (P _).mono ?_; rintro e w2 ⟨rfl, hb2⟩
    have hO2 := hO.below hb2
    have hL2 := below_next hL hb2
    clear hA hB hO hL hb2 P
    have hS6 := pair_first w2 54
    have hS7 := pair_second w2 nul 54
    go_upto_region 2 with (first | (refine store_row (g := w2.heap.size) rfl rfl rfl rfl hS6 info_exact ?_) | (refine store_row (g := w2.heap.size + 1) rfl rfl rfl rfl hS7 info_exact ?_))
    clear hS6 hS7
    show Code.wp _ _ _ _ (two w2 nul nul 54)
    have hA3 := two_first w2 nul nul 54
    have hB3 := two_second w2 nul nul 54
    have hO3 := two_keep hO2 nul nul 54
    have hL3 := two_below hL2 nul nul 54
    clear hO2 hL2
    generalize two w2 nul nul 54 = W3 at *
    go_wp2_with (refine store_row rfl rfl rfl (show _ = Value.agg (vec 8 nul) from rfl) hO3 info_cyc ?_)
    refine bodyPost_ret (results_row_tmp rfl rfl hO3.setRow Try.underlying25 rfl info_cyc) rfl ?_
    exact ⟨rfl, below_setRow hL3 (by omega) _⟩
  · obtain ⟨c', v', T, eT⟩ := told_some (prd a b)
    rw [eT]
    have P : ∀ w, Calls Try.prog 63 #[pt a, pt b] w fun e w' => e = .returned (.tuple #[pt a, pt b, .bool true]) ∧ Below w.heap.size w w' := fun w => by
      have := exactPair_at a b w
      rw [hv] at this
      exact this
    obtain ⟨va, vb⟩ : okc a = true ∧ okc b = true := by simpa using hv
    have ia := okc_inR va
    have ib := okc_inR vb
    have M := fun w => times_any a b ia ib w
    unfold pt at *
    clear hv
    go_enter Try.func33, Try.ntmps33
    go_upto_region 1 with fail
    show Code.wp _ _ _ _ (box2 w a b 25 25)
    obtain ⟨hA, hB, hO, hL⟩ := box2_facts w a b 25 25
    generalize box2 w a b 25 25 = W at *
    go_wp2_with (first | (refine load_row rfl rfl rfl hA Try.underlying25 rfl info_cyc ?_) | (refine load_row rfl rfl rfl hB Try.underlying25 rfl info_cyc ?_))
    refine (P _).mono ?_; rintro e w2 ⟨rfl, hb2⟩
    have hO2 := hO.below hb2
    have hL2 := below_next hL hb2
    clear hA hB hO hL hb2 P
    have hS6 := pair_first w2 54
    have hS7 := pair_second w2 a 54
    go_upto_region 2 with (first | (refine store_row (g := w2.heap.size) rfl rfl rfl rfl hS6 info_exact ?_) | (refine store_row (g := w2.heap.size + 1) rfl rfl rfl rfl hS7 info_exact ?_))
    clear hS6 hS7
    show Code.wp _ _ _ _ (two w2 a b 54)
    have hA3 := two_first w2 a b 54
    have hB3 := two_second w2 a b 54
    have hO3 := two_keep hO2 a b 54
    have hL3 := two_below hL2 a b 54
    clear hO2 hL2
    generalize two w2 a b 54 = W3 at *
    go_wp2_with (first | (refine load_row rfl rfl rfl hA3 Try.underlying54 rfl info_exact ?_) | (refine load_row rfl rfl rfl hB3 Try.underlying54 rfl info_exact ?_))
    refine (M _).mono ?_; rintro e w4 ⟨rfl, hb4⟩
    have hO4 := hO3.below hb4
    have hL4 := below_next hL3 hb4
    clear hA3 hB3 hO3 hL3 hb4 M
    go_wp2_with fail
    refine (T _).mono ?_; rintro e w5 ⟨rfl, hb5⟩
    have hO5 := hO4.below hb5
    have hL5 := below_next hL4 hb5
    clear hO4 hL4 hb5
    go_wp2_with (refine store_row rfl rfl rfl rfl hO5 info_cyc ?_)
    refine bodyPost_ret (results_row_tmp rfl rfl hO5.setRow Try.underlying25 rfl info_cyc) rfl ?_
    exact ⟨rfl, below_setRow hL5 (by omega) _⟩

theorem CycMirror_no (a : Nat → Int)  (va : okc a = false) (w : World) :
    Calls Try.prog 32 #[pt a] w fun e w' => e = .returned (ans false (mir a)) ∧ Below w.heap.size w w' := by
    have sa := vec_size 8 a
    rw [ans_no]
    have P : ∀ w, Calls Try.prog 58 #[pt a] w fun e w' => e = .returned (.tuple #[pt nul, .bool false]) ∧ Below w.heap.size w w' := fun w => exactOf_no a va w
    unfold pt at *
    go_enter Try.func32, Try.ntmps32
    go_upto_region 1 with fail
    show Code.wp _ _ _ _ (box1 w a 25 25)
    obtain ⟨hA, hO, hL⟩ := box1_facts w a 25 25
    generalize box1 w a 25 25 = W at *
    go_wp2_with (refine load_row rfl rfl rfl hA Try.underlying25 rfl info_cyc ?_)
    refine (P _).mono ?_; rintro e w2 ⟨rfl, hb2⟩
    have hO2 := hO.below hb2
    have hL2 := below_next hL hb2
    clear hA hO hL hb2 P
    go_upto_region 2 with (refine store_row rfl rfl rfl rfl (RowAt.newAt zero8 rfl) info_exact ?_)
    show Code.wp _ _ _ _ (sole w2 nul 54)
    have hA3 := sole_first w2 nul 54
    have hO3 := sole_keep hO2 nul 54
    have hL3 := sole_below hL2 nul 54
    clear hO2 hL2
    generalize sole w2 nul 54 = W3 at *
    go_wp2_with (refine store_row rfl rfl rfl (show _ = Value.agg (vec 8 nul) from rfl) hO3 info_cyc ?_)
    refine bodyPost_ret (results_row_tmp rfl rfl hO3.setRow Try.underlying25 rfl info_cyc) rfl ?_
    exact ⟨rfl, below_setRow hL3 (by omega) _⟩

theorem CycMirror_yes (a : Nat → Int)  (va : okc a = true) (w : World) :
    Calls Try.prog 32 #[pt a] w fun e w' => e = .returned (ans true (mir a)) ∧ Below w.heap.size w w' := by
    obtain ⟨c', v', T, eT⟩ := told_some (mir a)
    rw [eT]
    have sa := vec_size 8 a
    have P : ∀ w, Calls Try.prog 58 #[pt a] w fun e w' => e = .returned (.tuple #[pt a, .bool true]) ∧ Below w.heap.size w w' := fun w => exactOf_yes a va w
    have ia := okc_inR va
    have M := fun w => mirrored_any a ia w
    unfold pt at *
    go_enter Try.func32, Try.ntmps32
    go_upto_region 1 with fail
    show Code.wp _ _ _ _ (box1 w a 25 25)
    obtain ⟨hA, hO, hL⟩ := box1_facts w a 25 25
    generalize box1 w a 25 25 = W at *
    go_wp2_with (refine load_row rfl rfl rfl hA Try.underlying25 rfl info_cyc ?_)
    refine (P _).mono ?_; rintro e w2 ⟨rfl, hb2⟩
    have hO2 := hO.below hb2
    have hL2 := below_next hL hb2
    clear hA hO hL hb2 P
    go_upto_region 2 with (refine store_row rfl rfl rfl rfl (RowAt.newAt zero8 rfl) info_exact ?_)
    show Code.wp _ _ _ _ (sole w2 a 54)
    have hA3 := sole_first w2 a 54
    have hO3 := sole_keep hO2 a 54
    have hL3 := sole_below hL2 a 54
    clear hO2 hL2
    generalize sole w2 a 54 = W3 at *
    go_wp2_with (refine load_row rfl rfl rfl hA3 Try.underlying54 rfl info_exact ?_)
    refine (M _).mono ?_; rintro e w4 ⟨rfl, hb4⟩
    have hO4 := hO3.below hb4
    have hL4 := below_next hL3 hb4
    clear hA3 hO3 hL3 hb4 M
    go_wp2_with fail
    refine (T _).mono ?_; rintro e w5 ⟨rfl, hb5⟩
    have hO5 := hO4.below hb5
    have hL5 := below_next hL4 hb5
    clear hO4 hL4 hb5
    go_wp2_with (refine store_row rfl rfl rfl rfl hO5 info_cyc ?_)
    refine bodyPost_ret (results_row_tmp rfl rfl hO5.setRow Try.underlying25 rfl info_cyc) rfl ?_
    exact ⟨rfl, below_setRow hL5 (by omega) _⟩

theorem CycTurned_no1 (a : Nat → Int) (t : Int) (va : okc a = false) (w : World) :
    Calls Try.prog 34 #[pt a, .int .i64 t] w fun e w' => e = .returned (ans false (trn a t.toNat)) ∧ Below w.heap.size w w' := by
    have sa := vec_size 8 a
    rw [ans_no]
    have P : ∀ w, Calls Try.prog 58 #[pt a] w fun e w' => e = .returned (.tuple #[pt nul, .bool false]) ∧ Below w.heap.size w w' := fun w => exactOf_no a va w
    unfold pt at *
    go_enter Try.func34, Try.ntmps34
    go_upto_region 1 with fail
    show Code.wp _ _ _ _ (box1 w a 25 25)
    obtain ⟨hA, hO, hL⟩ := box1_facts w a 25 25
    generalize box1 w a 25 25 = W at *
    go_wp2_with (refine load_row rfl rfl rfl hA Try.underlying25 rfl info_cyc ?_)
    refine (P _).mono ?_; rintro e w2 ⟨rfl, hb2⟩
    have hO2 := hO.below hb2
    have hL2 := below_next hL hb2
    clear hA hO hL hb2 P
    go_upto_region 2 with (refine store_row rfl rfl rfl rfl (RowAt.newAt zero8 rfl) info_exact ?_)
    show Code.wp _ _ _ _ (sole w2 nul 54)
    have hA3 := sole_first w2 nul 54
    have hO3 := sole_keep hO2 nul 54
    have hL3 := sole_below hL2 nul 54
    clear hO2 hL2
    generalize sole w2 nul 54 = W3 at *
    go_wp2_with (refine store_row rfl rfl rfl (show _ = Value.agg (vec 8 nul) from rfl) hO3 info_cyc ?_)
    refine bodyPost_ret (results_row_tmp rfl rfl hO3.setRow Try.underlying25 rfl info_cyc) rfl ?_
    exact ⟨rfl, below_setRow hL3 (by omega) _⟩

theorem CycTurned_no2 (a : Nat → Int) (t : Int) (va : okc a = true) (ht : t < 0 ∨ 23 < t) (w : World) :
    Calls Try.prog 34 #[pt a, .int .i64 t] w fun e w' => e = .returned (ans false (trn a t.toNat)) ∧ Below w.heap.size w w' := by
    have sa := vec_size 8 a
    rw [ans_no]
    have P : ∀ w, Calls Try.prog 58 #[pt a] w fun e w' => e = .returned (.tuple #[pt a, .bool true]) ∧ Below w.heap.size w w' := fun w => exactOf_yes a va w
    have G := fun w => isTurn_no t ht w
    unfold pt at *
    go_enter Try.func34, Try.ntmps34
    go_upto_region 1 with fail
    show Code.wp _ _ _ _ (box1 w a 25 25)
    obtain ⟨hA, hO, hL⟩ := box1_facts w a 25 25
    generalize box1 w a 25 25 = W at *
    go_wp2_with (refine load_row rfl rfl rfl hA Try.underlying25 rfl info_cyc ?_)
    refine (P _).mono ?_; rintro e w2 ⟨rfl, hb2⟩
    have hO2 := hO.below hb2
    have hL2 := below_next hL hb2
    clear hA hO hL hb2 P
    go_upto_region 2 with (refine store_row rfl rfl rfl rfl (RowAt.newAt zero8 rfl) info_exact ?_)
    show Code.wp _ _ _ _ (sole w2 a 54)
    have hA3 := sole_first w2 a 54
    have hO3 := sole_keep hO2 a 54
    have hL3 := sole_below hL2 a 54
    clear hO2 hL2
    generalize sole w2 a 54 = W3 at *
    go_wp2_with fail
    refine (G _).mono ?_; rintro e w' ⟨rfl, rfl⟩
    clear G
    go_wp2_with (refine store_row rfl rfl rfl (show _ = Value.agg (vec 8 nul) from rfl) hO3 info_cyc ?_)
    refine bodyPost_ret (results_row_tmp rfl rfl hO3.setRow Try.underlying25 rfl info_cyc) rfl ?_
    exact ⟨rfl, below_setRow hL3 (by omega) _⟩

theorem CycTurned_yes (a : Nat → Int) (t : Nat) (va : okc a = true) (ht : t ≤ 23) (w : World) :
    Calls Try.prog 34 #[pt a, .int .i64 t] w fun e w' => e = .returned (ans true (trn a t)) ∧ Below w.heap.size w w' := by
    obtain ⟨c', v', T, eT⟩ := told_some (trn a t)
    rw [eT]
    have sa := vec_size 8 a
    have P : ∀ w, Calls Try.prog 58 #[pt a] w fun e w' => e = .returned (.tuple #[pt a, .bool true]) ∧ Below w.heap.size w w' := fun w => exactOf_yes a va w
    have ia := okc_inR va
    have M := fun w => turned_any a t ht ia w
    have G := fun w => isTurn_yes (t : Int) (by omega) (by omega) w
    unfold pt at *
    go_enter Try.func34, Try.ntmps34
    go_upto_region 1 with fail
    show Code.wp _ _ _ _ (box1 w a 25 25)
    obtain ⟨hA, hO, hL⟩ := box1_facts w a 25 25
    generalize box1 w a 25 25 = W at *
    go_wp2_with (refine load_row rfl rfl rfl hA Try.underlying25 rfl info_cyc ?_)
    refine (P _).mono ?_; rintro e w2 ⟨rfl, hb2⟩
    have hO2 := hO.below hb2
    have hL2 := below_next hL hb2
    clear hA hO hL hb2 P
    go_upto_region 2 with (refine store_row rfl rfl rfl rfl (RowAt.newAt zero8 rfl) info_exact ?_)
    show Code.wp _ _ _ _ (sole w2 a 54)
    have hA3 := sole_first w2 a 54
    have hO3 := sole_keep hO2 a 54
    have hL3 := sole_below hL2 a 54
    clear hO2 hL2
    generalize sole w2 a 54 = W3 at *
    go_wp2_with fail
    refine (G _).mono ?_; rintro e w' ⟨rfl, rfl⟩
    clear G
    go_wp2_with (refine load_row rfl rfl rfl hA3 Try.underlying54 rfl info_exact ?_)
    refine (M _).mono ?_; rintro e w4 ⟨rfl, hb4⟩
    have hO4 := hO3.below hb4
    have hL4 := below_next hL3 hb4
    clear hA3 hO3 hL3 hb4 M
    go_wp2_with fail
    refine (T _).mono ?_; rintro e w5 ⟨rfl, hb5⟩
    have hO5 := hO4.below hb5
    have hL5 := below_next hL4 hb5
    clear hO4 hL4 hb5
    go_wp2_with (refine store_row rfl rfl rfl rfl hO5 info_cyc ?_)
    refine bodyPost_ret (results_row_tmp rfl rfl hO5.setRow Try.underlying25 rfl info_cyc) rfl ?_
    exact ⟨rfl, below_setRow hL5 (by omega) _⟩

theorem CycScale_no1 (a : Nat → Int) (n : Int) (va : okc a = false) (w : World) :
    Calls Try.prog 27 #[pt a, .int .i64 n] w fun e w' => e = .returned (ans false (scl n a)) ∧ Below w.heap.size w w' := by
    have sa := vec_size 8 a
    rw [ans_no]
    have P : ∀ w, Calls Try.prog 58 #[pt a] w fun e w' => e = .returned (.tuple #[pt nul, .bool false]) ∧ Below w.heap.size w w' := fun w => exactOf_no a va w
    unfold pt at *
    go_enter Try.func27, Try.ntmps27
    go_upto_region 1 with fail
    show Code.wp _ _ _ _ (box1 w a 25 25)
    obtain ⟨hA, hO, hL⟩ := box1_facts w a 25 25
    generalize box1 w a 25 25 = W at *
    go_wp2_with (refine load_row rfl rfl rfl hA Try.underlying25 rfl info_cyc ?_)
    refine (P _).mono ?_; rintro e w2 ⟨rfl, hb2⟩
    have hO2 := hO.below hb2
    have hL2 := below_next hL hb2
    clear hA hO hL hb2 P
    go_upto_region 2 with (refine store_row rfl rfl rfl rfl (RowAt.newAt zero8 rfl) info_exact ?_)
    show Code.wp _ _ _ _ (sole w2 nul 54)
    have hA3 := sole_first w2 nul 54
    have hO3 := sole_keep hO2 nul 54
    have hL3 := sole_below hL2 nul 54
    clear hO2 hL2
    generalize sole w2 nul 54 = W3 at *
    go_wp2_with (refine store_row rfl rfl rfl (show _ = Value.agg (vec 8 nul) from rfl) hO3 info_cyc ?_)
    refine bodyPost_ret (results_row_tmp rfl rfl hO3.setRow Try.underlying25 rfl info_cyc) rfl ?_
    exact ⟨rfl, below_setRow hL3 (by omega) _⟩

theorem CycScale_no2 (a : Nat → Int) (n : Int) (va : okc a = true) (hn : ¬ (-1000000 ≤ n ∧ n ≤ 1000000)) (w : World) :
    Calls Try.prog 27 #[pt a, .int .i64 n] w fun e w' => e = .returned (ans false (scl n a)) ∧ Below w.heap.size w w' := by
    have sa := vec_size 8 a
    rw [ans_no]
    have P : ∀ w, Calls Try.prog 58 #[pt a] w fun e w' => e = .returned (.tuple #[pt a, .bool true]) ∧ Below w.heap.size w w' := fun w => exactOf_yes a va w
    have G := fun w => coefIn_no n hn w
    unfold pt at *
    go_enter Try.func27, Try.ntmps27
    go_upto_region 1 with fail
    show Code.wp _ _ _ _ (box1 w a 25 25)
    obtain ⟨hA, hO, hL⟩ := box1_facts w a 25 25
    generalize box1 w a 25 25 = W at *
    go_wp2_with (refine load_row rfl rfl rfl hA Try.underlying25 rfl info_cyc ?_)
    refine (P _).mono ?_; rintro e w2 ⟨rfl, hb2⟩
    have hO2 := hO.below hb2
    have hL2 := below_next hL hb2
    clear hA hO hL hb2 P
    go_upto_region 2 with (refine store_row rfl rfl rfl rfl (RowAt.newAt zero8 rfl) info_exact ?_)
    show Code.wp _ _ _ _ (sole w2 a 54)
    have hA3 := sole_first w2 a 54
    have hO3 := sole_keep hO2 a 54
    have hL3 := sole_below hL2 a 54
    clear hO2 hL2
    generalize sole w2 a 54 = W3 at *
    go_wp2_with fail
    refine (G _).mono ?_; rintro e w' ⟨rfl, rfl⟩
    clear G
    go_wp2_with (refine store_row rfl rfl rfl (show _ = Value.agg (vec 8 nul) from rfl) hO3 info_cyc ?_)
    refine bodyPost_ret (results_row_tmp rfl rfl hO3.setRow Try.underlying25 rfl info_cyc) rfl ?_
    exact ⟨rfl, below_setRow hL3 (by omega) _⟩

theorem CycScale_yes (a : Nat → Int) (n : Int) (va : okc a = true) (hn : -1000000 ≤ n ∧ n ≤ 1000000) (w : World) :
    Calls Try.prog 27 #[pt a, .int .i64 n] w fun e w' => e = .returned (ans true (scl n a)) ∧ Below w.heap.size w w' := by
    obtain ⟨c', v', T, eT⟩ := told_some (scl n a)
    rw [eT]
    have sa := vec_size 8 a
    have P : ∀ w, Calls Try.prog 58 #[pt a] w fun e w' => e = .returned (.tuple #[pt a, .bool true]) ∧ Below w.heap.size w w' := fun w => exactOf_yes a va w
    have ia := okc_inR va
    have M := fun w => scaled_any a n (fun j hj => by have := prod_bound (ia j hj) hn; simp only [tms]; omega) w
    have G := fun w => coefIn_yes n hn.1 hn.2 w
    unfold pt at *
    go_enter Try.func27, Try.ntmps27
    go_upto_region 1 with fail
    show Code.wp _ _ _ _ (box1 w a 25 25)
    obtain ⟨hA, hO, hL⟩ := box1_facts w a 25 25
    generalize box1 w a 25 25 = W at *
    go_wp2_with (refine load_row rfl rfl rfl hA Try.underlying25 rfl info_cyc ?_)
    refine (P _).mono ?_; rintro e w2 ⟨rfl, hb2⟩
    have hO2 := hO.below hb2
    have hL2 := below_next hL hb2
    clear hA hO hL hb2 P
    go_upto_region 2 with (refine store_row rfl rfl rfl rfl (RowAt.newAt zero8 rfl) info_exact ?_)
    show Code.wp _ _ _ _ (sole w2 a 54)
    have hA3 := sole_first w2 a 54
    have hO3 := sole_keep hO2 a 54
    have hL3 := sole_below hL2 a 54
    clear hO2 hL2
    generalize sole w2 a 54 = W3 at *
    go_wp2_with fail
    refine (G _).mono ?_; rintro e w' ⟨rfl, rfl⟩
    clear G
    go_wp2_with (refine load_row rfl rfl rfl hA3 Try.underlying54 rfl info_exact ?_)
    refine (M _).mono ?_; rintro e w4 ⟨rfl, hb4⟩
    have hO4 := hO3.below hb4
    have hL4 := below_next hL3 hb4
    clear hA3 hO3 hL3 hb4 M
    go_wp2_with fail
    refine (T _).mono ?_; rintro e w5 ⟨rfl, hb5⟩
    have hO5 := hO4.below hb5
    have hL5 := below_next hL4 hb5
    clear hO4 hL4 hb5
    go_wp2_with (refine store_row rfl rfl rfl rfl hO5 info_cyc ?_)
    refine bodyPost_ret (results_row_tmp rfl rfl hO5.setRow Try.underlying25 rfl info_cyc) rfl ?_
    exact ⟨rfl, below_setRow hL5 (by omega) _⟩

theorem CycValid_any (a : Nat → Int) (w : World) :
    Calls Try.prog 25 #[pt a] w fun e w' => e = .returned (.bool (okc a)) ∧ Below w.heap.size w w' := by
  have sa := vec_size 8 a
  have P := fun w => exactOf_two a w
  generalize (if okc a then a else nul) = a' at *
  generalize okc a = v at *
  unfold pt at *
  go_enter Try.func25, Try.ntmps25
  go_upto_region 1 with fail
  show Code.wp _ _ _ _ (box0 w a 25)
  obtain ⟨hA, hL⟩ := box0_facts w a 25
  generalize box0 w a 25 = W at *
  go_wp2_with (refine load_row rfl rfl rfl hA Try.underlying25 rfl info_cyc ?_)
  refine (P _).mono ?_; rintro e w2 ⟨rfl, hb2⟩
  have hL2 := below_next hL hb2
  clear hA hL hb2 P
  go_upto_region 2 with (refine store_row rfl rfl rfl rfl (RowAt.newAt zero8 rfl) info_exact ?_)
  show Code.wp _ _ _ _ (sole w2 a' 54)
  have hL3 := sole_below hL2 a' 54
  generalize sole w2 a' 54 = W3 at *
  go_wp2_with fail
  go_ret
  exact ⟨rfl, hL3⟩
theorem CycReal_no (a : Nat → Int) (va : okc a = false) (w : World) :
    Calls Try.prog 46 #[pt a] w fun e w' => e = .returned (.bool false) ∧ Below w.heap.size w w' := by
  have sa := vec_size 8 a
  have P := fun w => exactOf_no a va w
  unfold pt at *
  go_enter Try.func46, Try.ntmps46
  go_upto_region 1 with fail
  show Code.wp _ _ _ _ (box0 w a 25)
  obtain ⟨hA, hL⟩ := box0_facts w a 25
  generalize box0 w a 25 = W at *
  go_wp2_with (refine load_row rfl rfl rfl hA Try.underlying25 rfl info_cyc ?_)
  refine (P _).mono ?_; rintro e w2 ⟨rfl, hb2⟩
  have hL2 := below_next hL hb2
  clear hA hL hb2 P
  go_upto_region 2 with (refine store_row rfl rfl rfl rfl (RowAt.newAt zero8 rfl) info_exact ?_)
  show Code.wp _ _ _ _ (sole w2 nul 54)
  have hL3 := sole_below hL2 nul 54
  generalize sole w2 nul 54 = W3 at *
  go_wp2_with fail
  go_ret
  exact ⟨rfl, hL3⟩
theorem CycReal_yes (a : Nat → Int) (va : okc a = true) (w : World) :
    Calls Try.prog 46 #[pt a] w fun e w' => e = .returned (.bool (rl a)) ∧ Below w.heap.size w w' := by
  have sa := vec_size 8 a
  have P := fun w => exactOf_yes a va w
  have M := fun w => isReal_any a (okc_inR va) w
  unfold pt at *
  go_enter Try.func46, Try.ntmps46
  go_upto_region 1 with fail
  show Code.wp _ _ _ _ (box0 w a 25)
  obtain ⟨hA, hL⟩ := box0_facts w a 25
  generalize box0 w a 25 = W at *
  go_wp2_with (refine load_row rfl rfl rfl hA Try.underlying25 rfl info_cyc ?_)
  refine (P _).mono ?_; rintro e w2 ⟨rfl, hb2⟩
  have hL2 := below_next hL hb2
  clear hA hL hb2 P
  go_upto_region 2 with (refine store_row rfl rfl rfl rfl (RowAt.newAt zero8 rfl) info_exact ?_)
  show Code.wp _ _ _ _ (sole w2 a 54)
  have hA3 := sole_first w2 a 54
  have hL3 := sole_below hL2 a 54
  generalize sole w2 a 54 = W3 at *
  have p0 := hA3.cell (k := 0) (by omega)
  have p1 := hA3.cell (k := 1) (by omega)
  have p2 := hA3.cell (k := 2) (by omega)
  have p3 := hA3.cell (k := 3) (by omega)
  have p4 := hA3.cell (k := 4) (by omega)
  have p5 := hA3.cell (k := 5) (by omega)
  have p6 := hA3.cell (k := 6) (by omega)
  have p7 := hA3.cell (k := 7) (by omega)
  go_wp2_with fail
  refine (M _).mono ?_; rintro e w4 ⟨rfl, hb4⟩
  have hL4 := below_next hL3 hb4
  clear hA3 hL3 hb4 M p0 p1 p2 p3 p4 p5 p6 p7
  go_wp2_with fail
  go_ret
  exact ⟨rfl, hL4⟩
theorem CycRoot_no (t : Int) (ht : t < 0 ∨ 23 < t) (w : World) :
    Calls Try.prog 30 #[.int .i64 t] w fun e w' => e = .returned (ans false nul) ∧ Below w.heap.size w w' := by
  rw [ans_no]
  have G := fun w => isTurn_no t ht w
  go_enter Try.func30, Try.ntmps30
  go_wp2_with fail
  refine (G _).mono ?_; rintro e w' ⟨rfl, rfl⟩
  go_wp2_with (refine store_row rfl rfl rfl (show _ = Value.agg (vec 8 nul) from rfl) (RowAt.newAt zero8 rfl) info_cyc ?_)
  refine bodyPost_ret (results_row_tmp rfl rfl (RowAt.newAt zero8 rfl).setRow Try.underlying25 rfl info_cyc) rfl ?_
  exact ⟨rfl, below_setRow ((Below.refl _ _).alloc (Nat.le_refl _) _) (Nat.le_refl _) _⟩
theorem CycRoot_yes (t : Nat) (ht : t ≤ 23) (w : World) :
    Calls Try.prog 30 #[.int .i64 t] w fun e w' => e = .returned (ans true (trn one t)) ∧ Below w.heap.size w w' := by
  obtain ⟨c', v', T, eT⟩ := told_some (trn one t)
  rw [eT]
  have G := fun w => isTurn_yes (t : Int) (by omega) (by omega) w
  have M := fun w => exactRoot_any t ht w
  have hO : RowAt (w.alloc (.cells (vec 8 nul) 25)) w.heap.size 8 25 nul := RowAt.newAt rfl rfl
  have hL : Below w.heap.size w (w.alloc (.cells (vec 8 nul) 25)) := (Below.refl _ _).alloc (Nat.le_refl _) _
  unfold pt at *
  go_enter Try.func30, Try.ntmps30
  go_upto_region 1 with fail
  show Code.wp _ _ _ _ (w.alloc (.cells (vec 8 nul) 25))
  generalize w.alloc (.cells (vec 8 nul) 25) = W3 at *
  go_wp2_with fail
  refine (G _).mono ?_; rintro e w' ⟨rfl, rfl⟩
  go_wp2_with fail
  refine (M _).mono ?_; rintro e w4 ⟨rfl, hb4⟩
  have hO4 := hO.below hb4
  have hL4 := below_next hL hb4
  clear hO hL hb4 M G
  go_wp2_with fail
  refine (T _).mono ?_; rintro e w5 ⟨rfl, hb5⟩
  have hO5 := hO4.below hb5
  have hL5 := below_next hL4 hb5
  clear hO4 hL4 hb5
  go_wp2_with (refine store_row rfl rfl rfl rfl hO5 info_cyc ?_)
  refine bodyPost_ret (results_row_tmp rfl rfl hO5.setRow Try.underlying25 rfl info_cyc) rfl ?_
  exact ⟨rfl, below_setRow hL5 (by omega) _⟩
theorem CycGauss_any (re im : Int) (w : World) :
    Calls Try.prog 50 #[.int .i64 re, .int .i64 im] w fun e w' => e = .returned (ans true (gau re im)) ∧ Below w.heap.size w w' := by
  obtain ⟨c', v', T, eT⟩ := told_some (gau re im)
  rw [eT]
  have hO : RowAt ((w.alloc (.cells (vec 8 nul) 25)).alloc (.cells (vec 8 nul) 54)) w.heap.size 8 25 nul := (RowAt.newAt rfl rfl).alloc _
  have hE : RowAt ((w.alloc (.cells (vec 8 nul) 25)).alloc (.cells (vec 8 nul) 54)) (w.heap.size + 1) 8 54 nul := RowAt.newAt rfl (by simp)
  have hL : Below w.heap.size w ((w.alloc (.cells (vec 8 nul) 25)).alloc (.cells (vec 8 nul) 54)) := ((Below.refl _ _).alloc (Nat.le_refl _) _).alloc (by simp) _
  go_enter Try.func50, Try.ntmps50
  go_upto_region 2 with fail
  show Code.wp _ _ _ _ ((w.alloc (.cells (vec 8 nul) 25)).alloc (.cells (vec 8 nul) 54))
  generalize (w.alloc (.cells (vec 8 nul) 25)).alloc (.cells (vec 8 nul) 54) = W3 at *
  have c0 := hE.cell (k := 0) (by omega)
  have f0 := hE.free 0
  have c6 := (hE.set (k := 0) (by omega) re).cell (k := 6) (by omega)
  have f6 := (hE.set (k := 0) (by omega) re).free 6
  have hE3 : RowAt ((W3.setCell ⟨w.heap.size + 1, 0, none⟩ (.int .i64 re)).setCell ⟨w.heap.size + 1, 6, none⟩ (.int .i64 im)) (w.heap.size + 1) 8 54 (gau re im) :=
    ((hE.set (k := 0) (by omega) re).set (k := 6) (by omega) im).same (fun j _ => by simp only [upd, gau, nul]; split <;> split <;> first | rfl | omega)
  have hO3 := (hO.other ⟨w.heap.size + 1, 0, none⟩ (.int .i64 re) (by simp)).other ⟨w.heap.size + 1, 6, none⟩ (.int .i64 im) (by simp)
  have hL3 := (hL.setCell (p := ⟨w.heap.size + 1, 0, none⟩) (by simp) (.int .i64 re)).setCell (p := ⟨w.heap.size + 1, 6, none⟩) (by simp) (.int .i64 im)
  have HE := Lib.hid hE3
  have HO := Lib.hid hO3
  have HL := Lib.hid hL3
  clear hO hE hL hE3 hO3 hL3
  go_wp2_with (refine load_row rfl rfl rfl HE.out Try.underlying54 rfl info_exact ?_)
  have hO4 := HO.out
  have hL4 := HL.out
  clear HE HO HL c0 f0 c6 f6
  generalize (W3.setCell ⟨w.heap.size + 1, 0, none⟩ (.int .i64 re)).setCell ⟨w.heap.size + 1, 6, none⟩ (.int .i64 im) = W4 at *
  refine (T _).mono ?_; rintro e w5 ⟨rfl, hb5⟩
  have hO5 := hO4.below hb5
  have hL5 := below_next hL4 hb5
  clear hO4 hL4 hb5
  go_wp2_with (refine store_row rfl rfl rfl rfl hO5 info_cyc ?_)
  refine bodyPost_ret (results_row_tmp rfl rfl hO5.setRow Try.underlying25 rfl info_cyc) rfl ?_
  exact ⟨rfl, below_setRow hL5 (by omega) _⟩
end Go.Proofs.Ytjfljelpjgkmjaa
