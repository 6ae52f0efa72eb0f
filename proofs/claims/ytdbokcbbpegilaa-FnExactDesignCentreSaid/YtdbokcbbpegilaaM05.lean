/-
  What impl's functions of exact points answer.
  The laws' helpers on exact points: copying and comparing; and what both sides answer.
  The exact laws of exact points of one point or of numbers: both sides answer alike, for every argument.
-/
import Derived.Test.YtdbokcbbpegilaaM04
import Derived.Test.YtdbokcbbpegilaaM03
import Derived.Deep.QuietTactic
import Derived.BigQuiet
/- What impl's functions of exact points answer. -/
namespace Go.Proofs.Ytdbokcbbpegilaa
set_option maxRecDepth 20000
open Go.ChangeShapes Go.WideShapes Go.ChangeAt Go.RowKit
set_option linter.unusedVariables false
set_option linter.unusedSimpArgs false

theorem told_some (c : Nat → Int) : ∃ c' v', (∀ w, Calls Try.prog 91 #[.agg (vec 8 c)] w fun e w' => e = .returned (.tuple #[.agg (vec 8 c'), .bool v']) ∧ Below w.heap.size w w') ∧ ans true c = .tuple #[.agg (vec 8 c'), .bool v'] :=
  ⟨if okc c then c else nul, okc c, told_two c, rfl⟩
theorem ret_bool' {a b : Bool} (h : a = b) : Ending.returned (.bool a) = .returned (.bool b) := by rw [h]

set_option maxHeartbeats 1000000 in
theorem CycAdd_any (a b : Nat → Int) (w : World) :
    Calls Try.prog 45 #[pt a, pt b] w fun e w' => e = .returned (ans (okc a && okc b) (add a b)) ∧ Below w.heap.size w w' := by
  have sa := vec_size 8 a
  have sb := vec_size 8 b
  cases hv : okc a && okc b
  · rw [ans_no]
    have P : ∀ w, Calls Try.prog 92 #[pt a, pt b] w fun e w' => e = .returned (.tuple #[pt nul, pt nul, .bool false]) ∧ Below w.heap.size w w' := fun w => by
      have := exactPair_at a b w
      rw [hv] at this
      exact this
    unfold pt at *
    clear hv
    go_enter Try.func45, Try.ntmps45
    go_upto_region 1 with fail
    show Code.wp _ _ _ _ (box2 w a b 41 41)
    obtain ⟨hA, hB, hO, hL⟩ := box2_facts w a b 41 41
    generalize box2 w a b 41 41 = W at *
    go_wp2_with (first | (refine load_row rfl rfl rfl hA Try.underlying41 rfl info_cyc ?_) | (refine load_row rfl rfl rfl hB Try.underlying41 rfl info_cyc ?_))
    refine (P _).mono ?_; rintro e w2 ⟨rfl, hb2⟩
    have hO2 := hO.below hb2
    have hL2 := below_next hL hb2
    clear hA hB hO hL hb2 P
    have hS6 := pair_first w2 70
    have hS7 := pair_second w2 nul 70
    go_upto_region 2 with (first | (refine store_row (g := w2.heap.size) rfl rfl rfl rfl hS6 info_exact ?_) | (refine store_row (g := w2.heap.size + 1) rfl rfl rfl rfl hS7 info_exact ?_))
    clear hS6 hS7
    show Code.wp _ _ _ _ (two w2 nul nul 70)
    have hA3 := two_first w2 nul nul 70
    have hB3 := two_second w2 nul nul 70
    have hO3 := two_keep hO2 nul nul 70
    have hL3 := two_below hL2 nul nul 70
    clear hO2 hL2
    generalize two w2 nul nul 70 = W3 at *
    go_wp2_with (refine store_row rfl rfl rfl (show _ = Value.agg (vec 8 nul) from rfl) hO3 info_cyc ?_)
    refine bodyPost_ret (results_row_tmp rfl rfl hO3.setRow Try.underlying41 rfl info_cyc) rfl ?_
    exact ⟨rfl, below_setRow hL3 (by omega) _⟩
  · obtain ⟨c', v', T, eT⟩ := told_some (add a b)
    rw [eT]
    have P : ∀ w, Calls Try.prog 92 #[pt a, pt b] w fun e w' => e = .returned (.tuple #[pt a, pt b, .bool true]) ∧ Below w.heap.size w w' := fun w => by
      have := exactPair_at a b w
      rw [hv] at this
      exact this
    obtain ⟨va, vb⟩ : okc a = true ∧ okc b = true := by simpa using hv
    have ia := okc_inR va
    have ib := okc_inR vb
    have M := fun w => plus_any a b (fun j hj => by have := ia j hj; omega) (fun j hj => by have := ib j hj; omega) w
    unfold pt at *
    clear hv
    go_enter Try.func45, Try.ntmps45
    go_upto_region 1 with fail
    show Code.wp _ _ _ _ (box2 w a b 41 41)
    obtain ⟨hA, hB, hO, hL⟩ := box2_facts w a b 41 41
    generalize box2 w a b 41 41 = W at *
    go_wp2_with (first | (refine load_row rfl rfl rfl hA Try.underlying41 rfl info_cyc ?_) | (refine load_row rfl rfl rfl hB Try.underlying41 rfl info_cyc ?_))
    refine (P _).mono ?_; rintro e w2 ⟨rfl, hb2⟩
    have hO2 := hO.below hb2
    have hL2 := below_next hL hb2
    clear hA hB hO hL hb2 P
    have hS6 := pair_first w2 70
    have hS7 := pair_second w2 a 70
    go_upto_region 2 with (first | (refine store_row (g := w2.heap.size) rfl rfl rfl rfl hS6 info_exact ?_) | (refine store_row (g := w2.heap.size + 1) rfl rfl rfl rfl hS7 info_exact ?_))
    clear hS6 hS7
    show Code.wp _ _ _ _ (two w2 a b 70)
    have hA3 := two_first w2 a b 70
    have hB3 := two_second w2 a b 70
    have hO3 := two_keep hO2 a b 70
    have hL3 := two_below hL2 a b 70
    clear hO2 hL2
    generalize two w2 a b 70 = W3 at *
    go_wp2_with (first | (refine load_row rfl rfl rfl hA3 Try.underlying70 rfl info_exact ?_) | (refine load_row rfl rfl rfl hB3 Try.underlying70 rfl info_exact ?_))
    refine (M _).mono ?_; rintro e w4 ⟨rfl, hb4⟩
    have hO4 := hO3.below hb4
    have hL4 := below_next hL3 hb4
    clear hA3 hB3 hO3 hL3 hb4 M
    go_wp2_with fail
    refine (T _).mono ?_; rintro e w5 ⟨rfl, hb5⟩
    have hO5 := hO4.below hb5
    have hL5 := below_next hL4 hb5
    clear hO4 hL4 hb5
    go_wp2_with (refine store_row rfl rfl rfl rfl hO5 info_cyc ?_)
    refine bodyPost_ret (results_row_tmp rfl rfl hO5.setRow Try.underlying41 rfl info_cyc) rfl ?_
    exact ⟨rfl, below_setRow hL5 (by omega) _⟩

theorem CycTurned_no1 (a : Nat → Int) (t : Int) (va : okc a = false) (w : World) :
    Calls Try.prog 84 #[pt a, .int .i64 t] w fun e w' => e = .returned (ans false (trn a t.toNat)) ∧ Below w.heap.size w w' := by
    have sa := vec_size 8 a
    rw [ans_no]
    have P : ∀ w, Calls Try.prog 93 #[pt a] w fun e w' => e = .returned (.tuple #[pt nul, .bool false]) ∧ Below w.heap.size w w' := fun w => exactOf_no a va w
    unfold pt at *
    go_enter Try.func84, Try.ntmps84
    go_upto_region 1 with fail
    show Code.wp _ _ _ _ (box1 w a 41 41)
    obtain ⟨hA, hO, hL⟩ := box1_facts w a 41 41
    generalize box1 w a 41 41 = W at *
    go_wp2_with (refine load_row rfl rfl rfl hA Try.underlying41 rfl info_cyc ?_)
    refine (P _).mono ?_; rintro e w2 ⟨rfl, hb2⟩
    have hO2 := hO.below hb2
    have hL2 := below_next hL hb2
    clear hA hO hL hb2 P
    go_upto_region 2 with (refine store_row rfl rfl rfl rfl (RowAt.newAt zero8 rfl) info_exact ?_)
    show Code.wp _ _ _ _ (sole w2 nul 70)
    have hA3 := sole_first w2 nul 70
    have hO3 := sole_keep hO2 nul 70
    have hL3 := sole_below hL2 nul 70
    clear hO2 hL2
    generalize sole w2 nul 70 = W3 at *
    go_wp2_with (refine store_row rfl rfl rfl (show _ = Value.agg (vec 8 nul) from rfl) hO3 info_cyc ?_)
    refine bodyPost_ret (results_row_tmp rfl rfl hO3.setRow Try.underlying41 rfl info_cyc) rfl ?_
    exact ⟨rfl, below_setRow hL3 (by omega) _⟩

theorem CycTurned_no2 (a : Nat → Int) (t : Int) (va : okc a = true) (ht : t < 0 ∨ 23 < t) (w : World) :
    Calls Try.prog 84 #[pt a, .int .i64 t] w fun e w' => e = .returned (ans false (trn a t.toNat)) ∧ Below w.heap.size w w' := by
    have sa := vec_size 8 a
    rw [ans_no]
    have P : ∀ w, Calls Try.prog 93 #[pt a] w fun e w' => e = .returned (.tuple #[pt a, .bool true]) ∧ Below w.heap.size w w' := fun w => exactOf_yes a va w
    have G := fun w => isTurn_no t ht w
    unfold pt at *
    go_enter Try.func84, Try.ntmps84
    go_upto_region 1 with fail
    show Code.wp _ _ _ _ (box1 w a 41 41)
    obtain ⟨hA, hO, hL⟩ := box1_facts w a 41 41
    generalize box1 w a 41 41 = W at *
    go_wp2_with (refine load_row rfl rfl rfl hA Try.underlying41 rfl info_cyc ?_)
    refine (P _).mono ?_; rintro e w2 ⟨rfl, hb2⟩
    have hO2 := hO.below hb2
    have hL2 := below_next hL hb2
    clear hA hO hL hb2 P
    go_upto_region 2 with (refine store_row rfl rfl rfl rfl (RowAt.newAt zero8 rfl) info_exact ?_)
    show Code.wp _ _ _ _ (sole w2 a 70)
    have hA3 := sole_first w2 a 70
    have hO3 := sole_keep hO2 a 70
    have hL3 := sole_below hL2 a 70
    clear hO2 hL2
    generalize sole w2 a 70 = W3 at *
    go_wp2_with fail
    refine (G _).mono ?_; rintro e w' ⟨rfl, rfl⟩
    clear G
    go_wp2_with (refine store_row rfl rfl rfl (show _ = Value.agg (vec 8 nul) from rfl) hO3 info_cyc ?_)
    refine bodyPost_ret (results_row_tmp rfl rfl hO3.setRow Try.underlying41 rfl info_cyc) rfl ?_
    exact ⟨rfl, below_setRow hL3 (by omega) _⟩

theorem CycTurned_yes (a : Nat → Int) (t : Nat) (va : okc a = true) (ht : t ≤ 23) (w : World) :
    Calls Try.prog 84 #[pt a, .int .i64 t] w fun e w' => e = .returned (ans true (trn a t)) ∧ Below w.heap.size w w' := by
    obtain ⟨c', v', T, eT⟩ := told_some (trn a t)
    rw [eT]
    have sa := vec_size 8 a
    have P : ∀ w, Calls Try.prog 93 #[pt a] w fun e w' => e = .returned (.tuple #[pt a, .bool true]) ∧ Below w.heap.size w w' := fun w => exactOf_yes a va w
    have ia := okc_inR va
    have M := fun w => turned_any a t ht ia w
    have G := fun w => isTurn_yes (t : Int) (by omega) (by omega) w
    unfold pt at *
    go_enter Try.func84, Try.ntmps84
    go_upto_region 1 with fail
    show Code.wp _ _ _ _ (box1 w a 41 41)
    obtain ⟨hA, hO, hL⟩ := box1_facts w a 41 41
    generalize box1 w a 41 41 = W at *
    go_wp2_with (refine load_row rfl rfl rfl hA Try.underlying41 rfl info_cyc ?_)
    refine (P _).mono ?_; rintro e w2 ⟨rfl, hb2⟩
    have hO2 := hO.below hb2
    have hL2 := below_next hL hb2
    clear hA hO hL hb2 P
    go_upto_region 2 with (refine store_row rfl rfl rfl rfl (RowAt.newAt zero8 rfl) info_exact ?_)
    show Code.wp _ _ _ _ (sole w2 a 70)
    have hA3 := sole_first w2 a 70
    have hO3 := sole_keep hO2 a 70
    have hL3 := sole_below hL2 a 70
    clear hO2 hL2
    generalize sole w2 a 70 = W3 at *
    go_wp2_with fail
    refine (G _).mono ?_; rintro e w' ⟨rfl, rfl⟩
    clear G
    go_wp2_with (refine load_row rfl rfl rfl hA3 Try.underlying70 rfl info_exact ?_)
    refine (M _).mono ?_; rintro e w4 ⟨rfl, hb4⟩
    have hO4 := hO3.below hb4
    have hL4 := below_next hL3 hb4
    clear hA3 hO3 hL3 hb4 M
    go_wp2_with fail
    refine (T _).mono ?_; rintro e w5 ⟨rfl, hb5⟩
    have hO5 := hO4.below hb5
    have hL5 := below_next hL4 hb5
    clear hO4 hL4 hb5
    go_wp2_with (refine store_row rfl rfl rfl rfl hO5 info_cyc ?_)
    refine bodyPost_ret (results_row_tmp rfl rfl hO5.setRow Try.underlying41 rfl info_cyc) rfl ?_
    exact ⟨rfl, below_setRow hL5 (by omega) _⟩

theorem CycScale_no1 (a : Nat → Int) (n : Int) (va : okc a = false) (w : World) :
    Calls Try.prog 46 #[pt a, .int .i64 n] w fun e w' => e = .returned (ans false (scl n a)) ∧ Below w.heap.size w w' := by
    have sa := vec_size 8 a
    rw [ans_no]
    have P : ∀ w, Calls Try.prog 93 #[pt a] w fun e w' => e = .returned (.tuple #[pt nul, .bool false]) ∧ Below w.heap.size w w' := fun w => exactOf_no a va w
    unfold pt at *
    go_enter Try.func46, Try.ntmps46
    go_upto_region 1 with fail
    show Code.wp _ _ _ _ (box1 w a 41 41)
    obtain ⟨hA, hO, hL⟩ := box1_facts w a 41 41
    generalize box1 w a 41 41 = W at *
    go_wp2_with (refine load_row rfl rfl rfl hA Try.underlying41 rfl info_cyc ?_)
    refine (P _).mono ?_; rintro e w2 ⟨rfl, hb2⟩
    have hO2 := hO.below hb2
    have hL2 := below_next hL hb2
    clear hA hO hL hb2 P
    go_upto_region 2 with (refine store_row rfl rfl rfl rfl (RowAt.newAt zero8 rfl) info_exact ?_)
    show Code.wp _ _ _ _ (sole w2 nul 70)
    have hA3 := sole_first w2 nul 70
    have hO3 := sole_keep hO2 nul 70
    have hL3 := sole_below hL2 nul 70
    clear hO2 hL2
    generalize sole w2 nul 70 = W3 at *
    go_wp2_with (refine store_row rfl rfl rfl (show _ = Value.agg (vec 8 nul) from rfl) hO3 info_cyc ?_)
    refine bodyPost_ret (results_row_tmp rfl rfl hO3.setRow Try.underlying41 rfl info_cyc) rfl ?_
    exact ⟨rfl, below_setRow hL3 (by omega) _⟩

theorem CycScale_no2 (a : Nat → Int) (n : Int) (va : okc a = true) (hn : ¬ (-1000000 ≤ n ∧ n ≤ 1000000)) (w : World) :
    Calls Try.prog 46 #[pt a, .int .i64 n] w fun e w' => e = .returned (ans false (scl n a)) ∧ Below w.heap.size w w' := by
    have sa := vec_size 8 a
    rw [ans_no]
    have P : ∀ w, Calls Try.prog 93 #[pt a] w fun e w' => e = .returned (.tuple #[pt a, .bool true]) ∧ Below w.heap.size w w' := fun w => exactOf_yes a va w
    have G := fun w => coefIn_no n hn w
    unfold pt at *
    go_enter Try.func46, Try.ntmps46
    go_upto_region 1 with fail
    show Code.wp _ _ _ _ (box1 w a 41 41)
    obtain ⟨hA, hO, hL⟩ := box1_facts w a 41 41
    generalize box1 w a 41 41 = W at *
    go_wp2_with (refine load_row rfl rfl rfl hA Try.underlying41 rfl info_cyc ?_)
    refine (P _).mono ?_; rintro e w2 ⟨rfl, hb2⟩
    have hO2 := hO.below hb2
    have hL2 := below_next hL hb2
    clear hA hO hL hb2 P
    go_upto_region 2 with (refine store_row rfl rfl rfl rfl (RowAt.newAt zero8 rfl) info_exact ?_)
    show Code.wp _ _ _ _ (sole w2 a 70)
    have hA3 := sole_first w2 a 70
    have hO3 := sole_keep hO2 a 70
    have hL3 := sole_below hL2 a 70
    clear hO2 hL2
    generalize sole w2 a 70 = W3 at *
    go_wp2_with fail
    refine (G _).mono ?_; rintro e w' ⟨rfl, rfl⟩
    clear G
    go_wp2_with (refine store_row rfl rfl rfl (show _ = Value.agg (vec 8 nul) from rfl) hO3 info_cyc ?_)
    refine bodyPost_ret (results_row_tmp rfl rfl hO3.setRow Try.underlying41 rfl info_cyc) rfl ?_
    exact ⟨rfl, below_setRow hL3 (by omega) _⟩

theorem CycScale_yes (a : Nat → Int) (n : Int) (va : okc a = true) (hn : -1000000 ≤ n ∧ n ≤ 1000000) (w : World) :
    Calls Try.prog 46 #[pt a, .int .i64 n] w fun e w' => e = .returned (ans true (scl n a)) ∧ Below w.heap.size w w' := by
    obtain ⟨c', v', T, eT⟩ := told_some (scl n a)
    rw [eT]
    have sa := vec_size 8 a
    have P : ∀ w, Calls Try.prog 93 #[pt a] w fun e w' => e = .returned (.tuple #[pt a, .bool true]) ∧ Below w.heap.size w w' := fun w => exactOf_yes a va w
    have ia := okc_inR va
    have M := fun w => scaled_any a n (fun j hj => by have := prod_bound (ia j hj) hn; simp only [tms]; omega) w
    have G := fun w => coefIn_yes n hn.1 hn.2 w
    unfold pt at *
    go_enter Try.func46, Try.ntmps46
    go_upto_region 1 with fail
    show Code.wp _ _ _ _ (box1 w a 41 41)
    obtain ⟨hA, hO, hL⟩ := box1_facts w a 41 41
    generalize box1 w a 41 41 = W at *
    go_wp2_with (refine load_row rfl rfl rfl hA Try.underlying41 rfl info_cyc ?_)
    refine (P _).mono ?_; rintro e w2 ⟨rfl, hb2⟩
    have hO2 := hO.below hb2
    have hL2 := below_next hL hb2
    clear hA hO hL hb2 P
    go_upto_region 2 with (refine store_row rfl rfl rfl rfl (RowAt.newAt zero8 rfl) info_exact ?_)
    show Code.wp _ _ _ _ (sole w2 a 70)
    have hA3 := sole_first w2 a 70
    have hO3 := sole_keep hO2 a 70
    have hL3 := sole_below hL2 a 70
    clear hO2 hL2
    generalize sole w2 a 70 = W3 at *
    go_wp2_with fail
    refine (G _).mono ?_; rintro e w' ⟨rfl, rfl⟩
    clear G
    go_wp2_with (refine load_row rfl rfl rfl hA3 Try.underlying70 rfl info_exact ?_)
    refine (M _).mono ?_; rintro e w4 ⟨rfl, hb4⟩
    have hO4 := hO3.below hb4
    have hL4 := below_next hL3 hb4
    clear hA3 hO3 hL3 hb4 M
    go_wp2_with fail
    refine (T _).mono ?_; rintro e w5 ⟨rfl, hb5⟩
    have hO5 := hO4.below hb5
    have hL5 := below_next hL4 hb5
    clear hO4 hL4 hb5
    go_wp2_with (refine store_row rfl rfl rfl rfl hO5 info_cyc ?_)
    refine bodyPost_ret (results_row_tmp rfl rfl hO5.setRow Try.underlying41 rfl info_cyc) rfl ?_
    exact ⟨rfl, below_setRow hL5 (by omega) _⟩

end Go.Proofs.Ytdbokcbbpegilaa
/- The laws' helpers on exact points: copying and comparing; and what both sides answer. -/
namespace Go.Proofs.Ytdbokcbbpegilaa
set_option maxRecDepth 20000
open Go.ChangeShapes Go.WideShapes Go.ChangeAt Go.RowKit
set_option linter.unusedVariables false
set_option linter.unusedSimpArgs false

theorem toInts_any (a : Nat → Int) (w : World) :
    Calls Try.prog 139 #[pt a] w fun e w' => e = .returned (pt a) ∧ Below w.heap.size w w' := by
  have sa := vec_size 8 a
  unfold pt at *
  go_enter Try.func139, Try.ntmps139
  go_upto_region 2 with fail
  show Code.wp _ _ _ _ ((box1 w a 39 39).alloc (.cells (vec 8 nul) 39))
  obtain ⟨hA, hO, hL⟩ := box1_facts w a 39 39
  have zE := hO.lt
  have hsz : (box1 w a 39 39).heap.size = w.heap.size + 1 + 1 := by simp [box1]
  have hA := hA.alloc (.cells (vec 8 nul) 39)
  have hO := hO.alloc (.cells (vec 8 nul) 39)
  have hL := hL.alloc (by omega) (.cells (vec 8 nul) 39)
  have hE : RowAt ((box1 w a 39 39).alloc (.cells (vec 8 nul) 39)) (w.heap.size + 1 + 1) 8 39 nul := RowAt.newAt rfl hsz
  clear zE hsz
  generalize (box1 w a 39 39).alloc (.cells (vec 8 nul) 39) = W at *
  go_wp2_with fail
  go_loopw [4] (fun i wr => ∃ k : Nat, k ≤ 8 ∧ i = .int .i64 k ∧ RowAt wr w.heap.size 8 39 a ∧ RowAt wr (w.heap.size + 1) 8 39 nul ∧ RowAt wr (w.heap.size + 1 + 1) 8 39 (mix k a nul) ∧ Below w.heap.size w wr) (fun i _ => 8 - (intOf i).toNat)
  case atStart => exact ⟨0, Nat.zero_le _, rfl, hA, hO, by rw [mix_zero]; exact hE, hL⟩
  case round =>
    clear hA hO hE hL
    obtain ⟨k, hk, rfl, hA, hO, hE, hL⟩ := hrel
    by_cases hlt : k < 8
    · have hlt' : (k : Int) < 8 := by omega
      have hk0 : (0 : Int) ≤ (k : Int) := by omega
      have cA := hA.cell hlt
      have cE := hE.cell hlt
      have fE := hE.free k
      rw [mix_at] at cE
      have hE2 := hE.set hlt (a k)
      rw [mix_step] at hE2
      have HE := Lib.hid hE2
      have HA := Lib.hid (hA.other ⟨w.heap.size + 1 + 1, k, none⟩ (.int .i64 (a k)) (by simp; try omega))
      have HO := Lib.hid (hO.other ⟨w.heap.size + 1 + 1, k, none⟩ (.int .i64 (a k)) (by simp; try omega))
      have HL := Lib.hid (hL.setCell (p := ⟨w.heap.size + 1 + 1, k, none⟩) (by simp; omega) (.int .i64 (a k)))
      clear hA hO hE hL hE2
      go_wp2_with fail
      go_roundw
      case rel => exact ⟨k + 1, by omega, by go_num, HA.out, HO.out, HE.out, HL.out⟩
      case measure => simp [intOf]; omega
    · obtain rfl : k = 8 := by omega
      have HE := Lib.hid hE; have HO := Lib.hid hO; have HL := Lib.hid hL
      clear hA hE hO hL
      go_wp2_with (first | (refine load_row rfl rfl rfl HE.out Try.underlying39 rfl info_arr8 ?_) | (refine store_row rfl rfl rfl rfl HO.out info_arr8 ?_))
      refine bodyPost_ret (results_row rfl rfl HO.out.setRow Try.underlying39 rfl info_arr8) rfl ?_
      exact ⟨by rw [vec_mix], below_setRow HL.out (by omega) _⟩

theorem toCyc_any (a : Nat → Int) (w : World) :
    Calls Try.prog 122 #[pt a] w fun e w' => e = .returned (pt a) ∧ Below w.heap.size w w' := by
  have sa := vec_size 8 a
  have P := fun w => toInts_any a w
  unfold pt at *
  go_enter Try.func122, Try.ntmps122
  go_upto_region 2 with fail
  show Code.wp _ _ _ _ ((box1 w a 102 41).alloc (.cells (vec 8 nul) 41))
  obtain ⟨hA, hO, hL⟩ := box1_facts w a 102 41
  have zE := hO.lt
  have hsz : (box1 w a 102 41).heap.size = w.heap.size + 1 + 1 := by simp [box1]
  have hA := hA.alloc (.cells (vec 8 nul) 41)
  have hO := hO.alloc (.cells (vec 8 nul) 41)
  have hL := hL.alloc (by omega) (.cells (vec 8 nul) 41)
  have hE : RowAt ((box1 w a 102 41).alloc (.cells (vec 8 nul) 41)) (w.heap.size + 1 + 1) 8 41 nul := RowAt.newAt rfl hsz
  clear zE hsz
  generalize (box1 w a 102 41).alloc (.cells (vec 8 nul) 41) = W at *
  go_wp2_with (refine load_row rfl rfl rfl hA Try.underlying39 rfl info_arr8 ?_)
  refine (P _).mono ?_; rintro e w2 ⟨rfl, hb2⟩
  have hO2 := hO.below hb2; have hE2 := hE.below hb2; have hL2 := below_next hL hb2
  clear hA hO hE hL hb2 P
  have HE := Lib.hid (hE2.setRow (f' := a))
  have HO := Lib.hid (hO2.rowOther (w.heap.size + 1 + 1) (vec 8 a) (by omega))
  have HL := Lib.hid (below_setRow hL2 (g := w.heap.size + 1 + 1) (by omega) (vec 8 a))
  clear hO2 hL2
  go_upto_region 3 with (refine store_row rfl rfl rfl rfl hE2 info_arr8 ?_)
  go_wp2_with (first | (refine load_row rfl rfl rfl HE.out Try.underlying41 rfl info_cyc ?_) | (refine store_row rfl rfl rfl rfl HO.out info_cyc ?_))
  refine bodyPost_ret (results_row rfl rfl HO.out.setRow Try.underlying41 rfl info_cyc) rfl ?_
  exact ⟨rfl, below_setRow HL.out (by omega) _⟩

theorem eqInts8_yes (a : Nat → Int) (w : World) :
    Calls Try.prog 98 #[pt a, pt a] w fun e w' => e = .returned (.bool true) ∧ Below w.heap.size w w' := by
  have sa := vec_size 8 a
  unfold pt at *
  go_enter Try.func98, Try.ntmps98
  go_upto_region 1 with fail
  show Code.wp _ _ _ _ (boxAB w a a 39)
  obtain ⟨hA, hB, hL, _⟩ := boxAB_facts w a a 39
  generalize boxAB w a a 39 = W at *
  go_wp2_with fail
  go_loopw [5] (fun i wr => ∃ k : Nat, k ≤ 8 ∧ i = .int .i64 k ∧ RowAt wr w.heap.size 8 39 a ∧ RowAt wr (w.heap.size + 1) 8 39 a ∧ Below w.heap.size w wr) (fun i _ => 8 - (intOf i).toNat)
  case atStart => exact ⟨0, Nat.zero_le _, rfl, hA, hB, hL⟩
  case round =>
    clear hA hB hL
    obtain ⟨k, hk, rfl, hA, hB, hL⟩ := hrel
    by_cases hlt : k < 8
    · have hlt' : (k : Int) < 8 := by omega
      have hk0 : (0 : Int) ≤ (k : Int) := by omega
      have cA := hA.cell hlt
      have cB := hB.cell hlt
      have HA := Lib.hid hA; have HB := Lib.hid hB; have HL := Lib.hid hL
      clear hA hB hL
      generalize a k = x at cA cB
      go_wp2_with fail
      go_quiet (fail)
      go_wp2_with fail
      go_roundw
      case rel => exact ⟨k + 1, by omega, by go_num, HA.out.drew _, HB.out.drew _, below_drewN HL.out _⟩
      case measure => simp [intOf]; omega
    · obtain rfl : k = 8 := by omega
      have HL := Lib.hid hL
      clear hA hB hL
      go_wp2_with fail
      go_ret
      exact ⟨rfl, HL.out⟩
theorem eqCyc_yes (a : Nat → Int) (w : World) :
    Calls Try.prog 54 #[pt a, pt a] w fun e w' => e = .returned (.bool true) ∧ Below w.heap.size w w' := by
  have sa := vec_size 8 a
  have P := fun w => eqInts8_yes a w
  unfold pt at *
  go_enter Try.func54, Try.ntmps54
  go_upto_region 1 with fail
  show Code.wp _ _ _ _ (boxAB w a a 41)
  obtain ⟨hA, hB, hL, _⟩ := boxAB_facts w a a 41
  generalize boxAB w a a 41 = W at *
  go_wp2_with (first | (refine load_row rfl rfl rfl hA Try.underlying39 rfl info_arr8 ?_) | (refine load_row rfl rfl rfl hB Try.underlying39 rfl info_arr8 ?_))
  refine (P _).mono ?_; rintro e w2 ⟨rfl, hb2⟩
  have hL2 := below_next hL hb2
  clear hA hB hL hb2 P
  go_wp2_with fail
  go_ret
  exact ⟨rfl, hL2⟩

end Go.Proofs.Ytdbokcbbpegilaa
/- The exact laws of exact points of one point or of numbers: both sides answer alike, for every argument. -/
namespace Go.Proofs.Ytdbokcbbpegilaa
set_option maxRecDepth 20000
open Go.ChangeShapes Go.WideShapes Go.ChangeAt Go.RowKit
set_option linter.unusedVariables false
set_option linter.unusedSimpArgs false

theorem info_law : (Try.prog.info? 102).map (·.size) = some 8 := by kernel_rfl
theorem size_law (a : Nat → Int) : (Try.prog.info? 102).map (·.size) = some (lst 8 a).length := by rw [lst_length]; exact info_law

end Go.Proofs.Ytdbokcbbpegilaa
