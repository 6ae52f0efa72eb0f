/-
  What impl's functions of exact points answer.
-/
import Derived.Test.YteicmnoafoekcaaCycE
namespace Go.Proofs.Yteicmnoafoekcaa
set_option maxRecDepth 20000
open Go.ChangeShapes Go.WideShapes Go.ChangeAt Go.RowKit
set_option linter.unusedVariables false
set_option linter.unusedSimpArgs false

theorem told_some (c : Nat → Int) : ∃ c' v', (∀ w, Calls Try.prog 64 #[.agg (vec 8 c)] w fun e w' => e = .returned (.tuple #[.agg (vec 8 c'), .bool v']) ∧ Below w.heap.size w w') ∧ ans true c = .tuple #[.agg (vec 8 c'), .bool v'] :=
  ⟨if okc c then c else nul, okc c, told_two c, rfl⟩
theorem ret_bool' {a b : Bool} (h : a = b) : Ending.returned (.bool a) = .returned (.bool b) := by rw [h]

set_option maxHeartbeats 1000000 in
theorem CycAdd_any (a b : Nat → Int) (w : World) :
    Calls Try.prog 34 #[pt a, pt b] w fun e w' => e = .returned (ans (okc a && okc b) (add a b)) ∧ Below w.heap.size w w' := by
  have sa := vec_size 8 a
  have sb := vec_size 8 b
  cases hv : okc a && okc b
  · rw [ans_no]
    have P : ∀ w, Calls Try.prog 77 #[pt a, pt b] w fun e w' => e = .returned (.tuple #[pt nul, pt nul, .bool false]) ∧ Below w.heap.size w w' := fun w => by
      have := exactPair_at a b w
      rw [hv] at this
      exact this
    unfold pt at *
    clear hv
    go_enter Try.func34, Try.ntmps34
    go_upto_region 1 with fail
    show Code.wp _ _ _ _ (box2 w a b 32 32)
    obtain ⟨hA, hB, hO, hL⟩ := box2_facts w a b 32 32
    generalize box2 w a b 32 32 = W at *
    go_wp2_with (first | (refine load_row rfl rfl rfl hA Try.underlying32 rfl info_cyc ?_) | (refine load_row rfl rfl rfl hB Try.underlying32 rfl info_cyc ?_))
    refine (P _).mono ?_; rintro e w2 ⟨rfl, hb2⟩
    have hO2 := hO.below hb2
    have hL2 := below_next hL hb2
    clear hA hB hO hL hb2 P
    have hS6 := pair_first w2 66
    have hS7 := pair_second w2 nul 66
    go_upto_region 2 with (first | (refine store_row (g := w2.heap.size) rfl rfl rfl rfl hS6 info_exact ?_) | (refine store_row (g := w2.heap.size + 1) rfl rfl rfl rfl hS7 info_exact ?_))
    clear hS6 hS7
    show Code.wp _ _ _ _ (two w2 nul nul 66)
    have hA3 := two_first w2 nul nul 66
    have hB3 := two_second w2 nul nul 66
    have hO3 := two_keep hO2 nul nul 66
    have hL3 := two_below hL2 nul nul 66
    clear hO2 hL2
    generalize two w2 nul nul 66 = W3 at *
    go_wp2_with (refine store_row rfl rfl rfl (show _ = Value.agg (vec 8 nul) from rfl) hO3 info_cyc ?_)
    refine bodyPost_ret (results_row_tmp rfl rfl hO3.setRow Try.underlying32 rfl info_cyc) rfl ?_
    exact ⟨rfl, below_setRow hL3 (by omega) _⟩
  · obtain ⟨c', v', T, eT⟩ := told_some (add a b)
    rw [eT]
    have P : ∀ w, Calls Try.prog 77 #[pt a, pt b] w fun e w' => e = .returned (.tuple #[pt a, pt b, .bool true]) ∧ Below w.heap.size w w' := fun w => by
      have := exactPair_at a b w
      rw [hv] at this
      exact this
    obtain ⟨va, vb⟩ : okc a = true ∧ okc b = true := by simpa using hv
    have ia := okc_inR va
    have ib := okc_inR vb
    have M := fun w => plus_any a b (fun j hj => by have := ia j hj; omega) (fun j hj => by have := ib j hj; omega) w
    unfold pt at *
    clear hv
    go_enter Try.func34, Try.ntmps34
    go_upto_region 1 with fail
    show Code.wp _ _ _ _ (box2 w a b 32 32)
    obtain ⟨hA, hB, hO, hL⟩ := box2_facts w a b 32 32
    generalize box2 w a b 32 32 = W at *
    go_wp2_with (first | (refine load_row rfl rfl rfl hA Try.underlying32 rfl info_cyc ?_) | (refine load_row rfl rfl rfl hB Try.underlying32 rfl info_cyc ?_))
    refine (P _).mono ?_; rintro e w2 ⟨rfl, hb2⟩
    have hO2 := hO.below hb2
    have hL2 := below_next hL hb2
    clear hA hB hO hL hb2 P
    have hS6 := pair_first w2 66
    have hS7 := pair_second w2 a 66
    go_upto_region 2 with (first | (refine store_row (g := w2.heap.size) rfl rfl rfl rfl hS6 info_exact ?_) | (refine store_row (g := w2.heap.size + 1) rfl rfl rfl rfl hS7 info_exact ?_))
    clear hS6 hS7
    show Code.wp _ _ _ _ (two w2 a b 66)
    have hA3 := two_first w2 a b 66
    have hB3 := two_second w2 a b 66
    have hO3 := two_keep hO2 a b 66
    have hL3 := two_below hL2 a b 66
    clear hO2 hL2
    generalize two w2 a b 66 = W3 at *
    go_wp2_with (first | (refine load_row rfl rfl rfl hA3 Try.underlying66 rfl info_exact ?_) | (refine load_row rfl rfl rfl hB3 Try.underlying66 rfl info_exact ?_))
    refine (M _).mono ?_; rintro e w4 ⟨rfl, hb4⟩
    have hO4 := hO3.below hb4
    have hL4 := below_next hL3 hb4
    clear hA3 hB3 hO3 hL3 hb4 M
    go_wp2_with fail
    refine (T _).mono ?_; rintro e w5 ⟨rfl, hb5⟩
    have hO5 := hO4.below hb5
    have hL5 := below_next hL4 hb5
    clear hO4 hL4 hb5
    go_wp2_with (refine store_row rfl rfl rfl rfl hO5 info_cyc ?_)
    refine bodyPost_ret (results_row_tmp rfl rfl hO5.setRow Try.underlying32 rfl info_cyc) rfl ?_
    exact ⟨rfl, below_setRow hL5 (by omega) _⟩

set_option maxHeartbeats 1000000 in
theorem CycTimes_any (a b : Nat → Int) (w : World) :
    Calls Try.prog 38 #[pt a, pt b] w fun e w' => e = .returned (ans (okc a && okc b) (prd a b)) ∧ Below w.heap.size w w' := by
  have sa := vec_size 8 a
  have sb := vec_size 8 b
  cases hv : okc a && okc b
  · rw [ans_no]
    have P : ∀ w, Calls Try.prog 77 #[pt a, pt b] w fun e w' => e = .returned (.tuple #[pt nul, pt nul, .bool false]) ∧ Below w.heap.size w w' := fun w => by
      have := exactPair_at a b w
      rw [hv] at this
      exact this
    unfold pt at *
    clear hv
    go_enter Try.func38, Try.ntmps38
    go_upto_region 1 with fail
    show Code.wp _ _ _ _ (box2 w a b 32 32)
    obtain ⟨hA, hB, hO, hL⟩ := box2_facts w a b 32 32
    generalize box2 w a b 32 32 = W at *
    go_wp2_with (first | (refine load_row rfl rfl rfl hA Try.underlying32 rfl info_cyc ?_) | (refine load_row rfl rfl rfl hB Try.underlying32 rfl info_cyc ?_))
    refine (P _).mono ?_; rintro e w2 ⟨rfl, hb2⟩
    have hO2 := hO.below hb2
    have hL2 := below_next hL hb2
    clear hA hB hO hL hb2 P
    have hS6 := pair_first w2 66
    have hS7 := pair_second w2 nul 66
    go_upto_region 2 with (first | (refine store_row (g := w2.heap.size) rfl rfl rfl rfl hS6 info_exact ?_) | (refine store_row (g := w2.heap.size + 1) rfl rfl rfl rfl hS7 info_exact ?_))
    clear hS6 hS7
    show Code.wp _ _ _ _ (two w2 nul nul 66)
    have hA3 := two_first w2 nul nul 66
    have hB3 := two_second w2 nul nul 66
    have hO3 := two_keep hO2 nul nul 66
    have hL3 := two_below hL2 nul nul 66
    clear hO2 hL2
    generalize two w2 nul nul 66 = W3 at *
    go_wp2_with (refine store_row rfl rfl rfl (show _ = Value.agg (vec 8 nul) from rfl) hO3 info_cyc ?_)
    refine bodyPost_ret (results_row_tmp rfl rfl hO3.setRow Try.underlying32 rfl info_cyc) rfl ?_
    exact ⟨rfl, below_setRow hL3 (by omega) _⟩
  · obtain ⟨c', v', T, eT⟩ := told_some (prd a b)
    rw [eT]
    have P : ∀ w, Calls Try.prog 77 #[pt a, pt b] w fun e w' => e = .returned (.tuple #[pt a, pt b, .bool true]) ∧ Below w.heap.size w w' := fun w => by
      have := exactPair_at a b w
      rw [hv] at this
      exact this
    obtain ⟨va, vb⟩ : okc a = true ∧ okc b = true := by simpa using hv
    have ia := okc_inR va
    have ib := okc_inR vb
    have M := fun w => times_any a b ia ib w
    unfold pt at *
    clear hv
    go_enter Try.func38, Try.ntmps38
    go_upto_region 1 with fail
    show Code.wp _ _ _ _ (box2 w a b 32 32)
    obtain ⟨hA, hB, hO, hL⟩ := box2_facts w a b 32 32
    generalize box2 w a b 32 32 = W at *
    go_wp2_with (first | (refine load_row rfl rfl rfl hA Try.underlying32 rfl info_cyc ?_) | (refine load_row rfl rfl rfl hB Try.underlying32 rfl info_cyc ?_))
    refine (P _).mono ?_; rintro e w2 ⟨rfl, hb2⟩
    have hO2 := hO.below hb2
    have hL2 := below_next hL hb2
    clear hA hB hO hL hb2 P
    have hS6 := pair_first w2 66
    have hS7 := pair_second w2 a 66
    go_upto_region 2 with (first | (refine store_row (g := w2.heap.size) rfl rfl rfl rfl hS6 info_exact ?_) | (refine store_row (g := w2.heap.size + 1) rfl rfl rfl rfl hS7 info_exact ?_))
    clear hS6 hS7
    show Code.wp _ _ _ _ (two w2 a b 66)
    have hA3 := two_first w2 a b 66
    have hB3 := two_second w2 a b 66
    have hO3 := two_keep hO2 a b 66
    have hL3 := two_below hL2 a b 66
    clear hO2 hL2
    generalize two w2 a b 66 = W3 at *
    go_wp2_with (first | (refine load_row rfl rfl rfl hA3 Try.underlying66 rfl info_exact ?_) | (refine load_row rfl rfl rfl hB3 Try.underlying66 rfl info_exact ?_))
    refine (M _).mono ?_; rintro e w4 ⟨rfl, hb4⟩
    have hO4 := hO3.below hb4
    have hL4 := below_next hL3 hb4
    clear hA3 hB3 hO3 hL3 hb4 M
    go_wp2_with fail
    refine (T _).mono ?_; rintro e w5 ⟨rfl, hb5⟩
    have hO5 := hO4.below hb5
    have hL5 := below_next hL4 hb5
    clear hO4 hL4 hb5
    go_wp2_with (refine store_row rfl rfl rfl rfl hO5 info_cyc ?_)
    refine bodyPost_ret (results_row_tmp rfl rfl hO5.setRow Try.underlying32 rfl info_cyc) rfl ?_
    exact ⟨rfl, below_setRow hL5 (by omega) _⟩

theorem CycTurned_no1 (a : Nat → Int) (t : Int) (va : okc a = false) (w : World) :
    Calls Try.prog 30 #[pt a, .int .i64 t] w fun e w' => e = .returned (ans false (trn a t.toNat)) ∧ Below w.heap.size w w' := by
    have sa := vec_size 8 a
    rw [ans_no]
    have P : ∀ w, Calls Try.prog 72 #[pt a] w fun e w' => e = .returned (.tuple #[pt nul, .bool false]) ∧ Below w.heap.size w w' := fun w => exactOf_no a va w
    unfold pt at *
    go_enter Try.func30, Try.ntmps30
    go_upto_region 1 with fail
    show Code.wp _ _ _ _ (box1 w a 32 32)
    obtain ⟨hA, hO, hL⟩ := box1_facts w a 32 32
    generalize box1 w a 32 32 = W at *
    go_wp2_with (refine load_row rfl rfl rfl hA Try.underlying32 rfl info_cyc ?_)
    refine (P _).mono ?_; rintro e w2 ⟨rfl, hb2⟩
    have hO2 := hO.below hb2
    have hL2 := below_next hL hb2
    clear hA hO hL hb2 P
    go_upto_region 2 with (refine store_row rfl rfl rfl rfl (RowAt.newAt zero8 rfl) info_exact ?_)
    show Code.wp _ _ _ _ (sole w2 nul 66)
    have hA3 := sole_first w2 nul 66
    have hO3 := sole_keep hO2 nul 66
    have hL3 := sole_below hL2 nul 66
    clear hO2 hL2
    generalize sole w2 nul 66 = W3 at *
    go_wp2_with (refine store_row rfl rfl rfl (show _ = Value.agg (vec 8 nul) from rfl) hO3 info_cyc ?_)
    refine bodyPost_ret (results_row_tmp rfl rfl hO3.setRow Try.underlying32 rfl info_cyc) rfl ?_
    exact ⟨rfl, below_setRow hL3 (by omega) _⟩

theorem CycTurned_no2 (a : Nat → Int) (t : Int) (va : okc a = true) (ht : t < 0 ∨ 23 < t) (w : World) :
    Calls Try.prog 30 #[pt a, .int .i64 t] w fun e w' => e = .returned (ans false (trn a t.toNat)) ∧ Below w.heap.size w w' := by
    have sa := vec_size 8 a
    rw [ans_no]
    have P : ∀ w, Calls Try.prog 72 #[pt a] w fun e w' => e = .returned (.tuple #[pt a, .bool true]) ∧ Below w.heap.size w w' := fun w => exactOf_yes a va w
    have G := fun w => isTurn_no t ht w
    unfold pt at *
    go_enter Try.func30, Try.ntmps30
    go_upto_region 1 with fail
    show Code.wp _ _ _ _ (box1 w a 32 32)
    obtain ⟨hA, hO, hL⟩ := box1_facts w a 32 32
    generalize box1 w a 32 32 = W at *
    go_wp2_with (refine load_row rfl rfl rfl hA Try.underlying32 rfl info_cyc ?_)
    refine (P _).mono ?_; rintro e w2 ⟨rfl, hb2⟩
    have hO2 := hO.below hb2
    have hL2 := below_next hL hb2
    clear hA hO hL hb2 P
    go_upto_region 2 with (refine store_row rfl rfl rfl rfl (RowAt.newAt zero8 rfl) info_exact ?_)
    show Code.wp _ _ _ _ (sole w2 a 66)
    have hA3 := sole_first w2 a 66
    have hO3 := sole_keep hO2 a 66
    have hL3 := sole_below hL2 a 66
    clear hO2 hL2
    generalize sole w2 a 66 = W3 at *
    go_wp2_with fail
    refine (G _).mono ?_; rintro e w' ⟨rfl, rfl⟩
    clear G
    go_wp2_with (refine store_row rfl rfl rfl (show _ = Value.agg (vec 8 nul) from rfl) hO3 info_cyc ?_)
    refine bodyPost_ret (results_row_tmp rfl rfl hO3.setRow Try.underlying32 rfl info_cyc) rfl ?_
    exact ⟨rfl, below_setRow hL3 (by omega) _⟩

theorem CycTurned_yes (a : Nat → Int) (t : Nat) (va : okc a = true) (ht : t ≤ 23) (w : World) :
    Calls Try.prog 30 #[pt a, .int .i64 t] w fun e w' => e = .returned (ans true (trn a t)) ∧ Below w.heap.size w w' := by
    obtain ⟨c', v', T, eT⟩ := told_some (trn a t)
    rw [eT]
    have sa := vec_size 8 a
    have P : ∀ w, Calls Try.prog 72 #[pt a] w fun e w' => e = .returned (.tuple #[pt a, .bool true]) ∧ Below w.heap.size w w' := fun w => exactOf_yes a va w
    have ia := okc_inR va
    have M := fun w => turned_any a t ht ia w
    have G := fun w => isTurn_yes (t : Int) (by omega) (by omega) w
    unfold pt at *
    go_enter Try.func30, Try.ntmps30
    go_upto_region 1 with fail
    show Code.wp _ _ _ _ (box1 w a 32 32)
    obtain ⟨hA, hO, hL⟩ := box1_facts w a 32 32
    generalize box1 w a 32 32 = W at *
    go_wp2_with (refine load_row rfl rfl rfl hA Try.underlying32 rfl info_cyc ?_)
    refine (P _).mono ?_; rintro e w2 ⟨rfl, hb2⟩
    have hO2 := hO.below hb2
    have hL2 := below_next hL hb2
    clear hA hO hL hb2 P
    go_upto_region 2 with (refine store_row rfl rfl rfl rfl (RowAt.newAt zero8 rfl) info_exact ?_)
    show Code.wp _ _ _ _ (sole w2 a 66)
    have hA3 := sole_first w2 a 66
    have hO3 := sole_keep hO2 a 66
    have hL3 := sole_below hL2 a 66
    clear hO2 hL2
    generalize sole w2 a 66 = W3 at *
    go_wp2_with fail
    refine (G _).mono ?_; rintro e w' ⟨rfl, rfl⟩
    clear G
    go_wp2_with (refine load_row rfl rfl rfl hA3 Try.underlying66 rfl info_exact ?_)
    refine (M _).mono ?_; rintro e w4 ⟨rfl, hb4⟩
    have hO4 := hO3.below hb4
    have hL4 := below_next hL3 hb4
    clear hA3 hO3 hL3 hb4 M
    go_wp2_with fail
    refine (T _).mono ?_; rintro e w5 ⟨rfl, hb5⟩
    have hO5 := hO4.below hb5
    have hL5 := below_next hL4 hb5
    clear hO4 hL4 hb5
    go_wp2_with (refine store_row rfl rfl rfl rfl hO5 info_cyc ?_)
    refine bodyPost_ret (results_row_tmp rfl rfl hO5.setRow Try.underlying32 rfl info_cyc) rfl ?_
    exact ⟨rfl, below_setRow hL5 (by omega) _⟩

end Go.Proofs.Yteicmnoafoekcaa
