/-
  What impl's functions of exact points answer.
-/
import Derived.Test.YtmbhbocfnpklpaaCycE
namespace Go.Proofs.Ytmbhbocfnpklpaa
set_option maxRecDepth 20000
open Go.ChangeShapes Go.WideShapes Go.ChangeAt Go.RowKit
set_option linter.unusedVariables false
set_option linter.unusedSimpArgs false

theorem told_some (c : Nat → Int) : ∃ c' v', (∀ w, Calls Try.prog 53 #[.agg (vec 8 c)] w fun e w' => e = .returned (.tuple #[.agg (vec 8 c'), .bool v']) ∧ Below w.heap.size w w') ∧ ans true c = .tuple #[.agg (vec 8 c'), .bool v'] :=
  ⟨if okc c then c else nul, okc c, told_two c, rfl⟩
theorem ret_bool' {a b : Bool} (h : a = b) : Ending.returned (.bool a) = .returned (.bool b) := by rw [h]

theorem CycScale_no1 (a : Nat → Int) (n : Int) (va : okc a = false) (w : World) :
    Calls Try.prog 41 #[pt a, .int .i64 n] w fun e w' => e = .returned (ans false (scl n a)) ∧ Below w.heap.size w w' := by
    have sa := vec_size 8 a
    rw [ans_no]
    have P : ∀ w, Calls Try.prog 54 #[pt a] w fun e w' => e = .returned (.tuple #[pt nul, .bool false]) ∧ Below w.heap.size w w' := fun w => exactOf_no a va w
    unfold pt at *
    go_enter Try.func41, Try.ntmps41
    go_upto_region 1 with fail
    show Code.wp _ _ _ _ (box1 w a 30 30)
    obtain ⟨hA, hO, hL⟩ := box1_facts w a 30 30
    generalize box1 w a 30 30 = W at *
    go_wp2_with (refine load_row rfl rfl rfl hA Try.underlying30 rfl info_cyc ?_)
    refine (P _).mono ?_; rintro e w2 ⟨rfl, hb2⟩
    have hO2 := hO.below hb2
    have hL2 := below_next hL hb2
    clear hA hO hL hb2 P
    go_upto_region 2 with (refine store_row rfl rfl rfl rfl (RowAt.newAt zero8 rfl) info_exact ?_)
    show Code.wp _ _ _ _ (sole w2 nul 68)
    have hA3 := sole_first w2 nul 68
    have hO3 := sole_keep hO2 nul 68
    have hL3 := sole_below hL2 nul 68
    clear hO2 hL2
    generalize sole w2 nul 68 = W3 at *
    go_wp2_with (refine store_row rfl rfl rfl (show _ = Value.agg (vec 8 nul) from rfl) hO3 info_cyc ?_)
    refine bodyPost_ret (results_row_tmp rfl rfl hO3.setRow Try.underlying30 rfl info_cyc) rfl ?_
    exact ⟨rfl, below_setRow hL3 (by omega) _⟩

theorem CycScale_no2 (a : Nat → Int) (n : Int) (va : okc a = true) (hn : ¬ (-1000000 ≤ n ∧ n ≤ 1000000)) (w : World) :
    Calls Try.prog 41 #[pt a, .int .i64 n] w fun e w' => e = .returned (ans false (scl n a)) ∧ Below w.heap.size w w' := by
    have sa := vec_size 8 a
    rw [ans_no]
    have P : ∀ w, Calls Try.prog 54 #[pt a] w fun e w' => e = .returned (.tuple #[pt a, .bool true]) ∧ Below w.heap.size w w' := fun w => exactOf_yes a va w
    have G := fun w => coefIn_no n hn w
    unfold pt at *
    go_enter Try.func41, Try.ntmps41
    go_upto_region 1 with fail
    show Code.wp _ _ _ _ (box1 w a 30 30)
    obtain ⟨hA, hO, hL⟩ := box1_facts w a 30 30
    generalize box1 w a 30 30 = W at *
    go_wp2_with (refine load_row rfl rfl rfl hA Try.underlying30 rfl info_cyc ?_)
    refine (P _).mono ?_; rintro e w2 ⟨rfl, hb2⟩
    have hO2 := hO.below hb2
    have hL2 := below_next hL hb2
    clear hA hO hL hb2 P
    go_upto_region 2 with (refine store_row rfl rfl rfl rfl (RowAt.newAt zero8 rfl) info_exact ?_)
    show Code.wp _ _ _ _ (sole w2 a 68)
    have hA3 := sole_first w2 a 68
    have hO3 := sole_keep hO2 a 68
    have hL3 := sole_below hL2 a 68
    clear hO2 hL2
    generalize sole w2 a 68 = W3 at *
    go_wp2_with fail
    refine (G _).mono ?_; rintro e w' ⟨rfl, rfl⟩
    clear G
    go_wp2_with (refine store_row rfl rfl rfl (show _ = Value.agg (vec 8 nul) from rfl) hO3 info_cyc ?_)
    refine bodyPost_ret (results_row_tmp rfl rfl hO3.setRow Try.underlying30 rfl info_cyc) rfl ?_
    exact ⟨rfl, below_setRow hL3 (by omega) _⟩

theorem CycScale_yes (a : Nat → Int) (n : Int) (va : okc a = true) (hn : -1000000 ≤ n ∧ n ≤ 1000000) (w : World) :
    Calls Try.prog 41 #[pt a, .int .i64 n] w fun e w' => e = .returned (ans true (scl n a)) ∧ Below w.heap.size w w' := by
    obtain ⟨c', v', T, eT⟩ := told_some (scl n a)
    rw [eT]
    have sa := vec_size 8 a
    have P : ∀ w, Calls Try.prog 54 #[pt a] w fun e w' => e = .returned (.tuple #[pt a, .bool true]) ∧ Below w.heap.size w w' := fun w => exactOf_yes a va w
    have ia := okc_inR va
    have M := fun w => scaled_any a n (fun j hj => by have := prod_bound (ia j hj) hn; simp only [tms]; omega) w
    have G := fun w => coefIn_yes n hn.1 hn.2 w
    unfold pt at *
    go_enter Try.func41, Try.ntmps41
    go_upto_region 1 with fail
    show Code.wp _ _ _ _ (box1 w a 30 30)
    obtain ⟨hA, hO, hL⟩ := box1_facts w a 30 30
    generalize box1 w a 30 30 = W at *
    go_wp2_with (refine load_row rfl rfl rfl hA Try.underlying30 rfl info_cyc ?_)
    refine (P _).mono ?_; rintro e w2 ⟨rfl, hb2⟩
    have hO2 := hO.below hb2
    have hL2 := below_next hL hb2
    clear hA hO hL hb2 P
    go_upto_region 2 with (refine store_row rfl rfl rfl rfl (RowAt.newAt zero8 rfl) info_exact ?_)
    show Code.wp _ _ _ _ (sole w2 a 68)
    have hA3 := sole_first w2 a 68
    have hO3 := sole_keep hO2 a 68
    have hL3 := sole_below hL2 a 68
    clear hO2 hL2
    generalize sole w2 a 68 = W3 at *
    go_wp2_with fail
    refine (G _).mono ?_; rintro e w' ⟨rfl, rfl⟩
    clear G
    go_wp2_with (refine load_row rfl rfl rfl hA3 Try.underlying68 rfl info_exact ?_)
    refine (M _).mono ?_; rintro e w4 ⟨rfl, hb4⟩
    have hO4 := hO3.below hb4
    have hL4 := below_next hL3 hb4
    clear hA3 hO3 hL3 hb4 M
    go_wp2_with fail
    refine (T _).mono ?_; rintro e w5 ⟨rfl, hb5⟩
    have hO5 := hO4.below hb5
    have hL5 := below_next hL4 hb5
    clear hO4 hL4 hb5
    go_wp2_with (refine store_row rfl rfl rfl rfl hO5 info_cyc ?_)
    refine bodyPost_ret (results_row_tmp rfl rfl hO5.setRow Try.underlying30 rfl info_cyc) rfl ?_
    exact ⟨rfl, below_setRow hL5 (by omega) _⟩

theorem CycRoot_no (t : Int) (ht : t < 0 ∨ 23 < t) (w : World) :
    Calls Try.prog 19 #[.int .i64 t] w fun e w' => e = .returned (ans false nul) ∧ Below w.heap.size w w' := by
  rw [ans_no]
  have G := fun w => isTurn_no t ht w
  go_enter Try.func19, Try.ntmps19
  go_wp2_with fail
  refine (G _).mono ?_; rintro e w' ⟨rfl, rfl⟩
  go_wp2_with (refine store_row rfl rfl rfl (show _ = Value.agg (vec 8 nul) from rfl) (RowAt.newAt zero8 rfl) info_cyc ?_)
  refine bodyPost_ret (results_row_tmp rfl rfl (RowAt.newAt zero8 rfl).setRow Try.underlying30 rfl info_cyc) rfl ?_
  exact ⟨rfl, below_setRow ((Below.refl _ _).alloc (Nat.le_refl _) _) (Nat.le_refl _) _⟩
theorem CycRoot_yes (t : Nat) (ht : t ≤ 23) (w : World) :
    Calls Try.prog 19 #[.int .i64 t] w fun e w' => e = .returned (ans true (trn one t)) ∧ Below w.heap.size w w' := by
  obtain ⟨c', v', T, eT⟩ := told_some (trn one t)
  rw [eT]
  have G := fun w => isTurn_yes (t : Int) (by omega) (by omega) w
  have M := fun w => exactRoot_any t ht w
  have hO : RowAt (w.alloc (.cells (vec 8 nul) 30)) w.heap.size 8 30 nul := RowAt.newAt rfl rfl
  have hL : Below w.heap.size w (w.alloc (.cells (vec 8 nul) 30)) := (Below.refl _ _).alloc (Nat.le_refl _) _
  unfold pt at *
  go_enter Try.func19, Try.ntmps19
  go_upto_region 1 with fail
  show Code.wp _ _ _ _ (w.alloc (.cells (vec 8 nul) 30))
  generalize w.alloc (.cells (vec 8 nul) 30) = W3 at *
  go_wp2_with fail
  refine (G _).mono ?_; rintro e w' ⟨rfl, rfl⟩
  go_wp2_with fail
  refine (M _).mono ?_; rintro e w4 ⟨rfl, hb4⟩
  have hO4 := hO.below hb4
  have hL4 := below_next hL hb4
  clear hO hL hb4 M G
  go_wp2_with fail
  refine (T _).mono ?_; rintro e w5 ⟨rfl, hb5⟩
  have hO5 := hO4.below hb5
  have hL5 := below_next hL4 hb5
  clear hO4 hL4 hb5
  go_wp2_with (refine store_row rfl rfl rfl rfl hO5 info_cyc ?_)
  refine bodyPost_ret (results_row_tmp rfl rfl hO5.setRow Try.underlying30 rfl info_cyc) rfl ?_
  exact ⟨rfl, below_setRow hL5 (by omega) _⟩
theorem CycGauss_any (re im : Int) (w : World) :
    Calls Try.prog 65 #[.int .i64 re, .int .i64 im] w fun e w' => e = .returned (ans true (gau re im)) ∧ Below w.heap.size w w' := by
  obtain ⟨c', v', T, eT⟩ := told_some (gau re im)
  rw [eT]
  have hO : RowAt ((w.alloc (.cells (vec 8 nul) 30)).alloc (.cells (vec 8 nul) 68)) w.heap.size 8 30 nul := (RowAt.newAt rfl rfl).alloc _
  have hE : RowAt ((w.alloc (.cells (vec 8 nul) 30)).alloc (.cells (vec 8 nul) 68)) (w.heap.size + 1) 8 68 nul := RowAt.newAt rfl (by simp)
  have hL : Below w.heap.size w ((w.alloc (.cells (vec 8 nul) 30)).alloc (.cells (vec 8 nul) 68)) := ((Below.refl _ _).alloc (Nat.le_refl _) _).alloc (by simp) _
  go_enter Try.func65, Try.ntmps65
  go_upto_region 2 with fail
  show Code.wp _ _ _ _ ((w.alloc (.cells (vec 8 nul) 30)).alloc (.cells (vec 8 nul) 68))
  generalize (w.alloc (.cells (vec 8 nul) 30)).alloc (.cells (vec 8 nul) 68) = W3 at *
  have c0 := hE.cell (k := 0) (by omega)
  have f0 := hE.free 0
  have c6 := (hE.set (k := 0) (by omega) re).cell (k := 6) (by omega)
  have f6 := (hE.set (k := 0) (by omega) re).free 6
  have hE3 : RowAt ((W3.setCell ⟨w.heap.size + 1, 0, none⟩ (.int .i64 re)).setCell ⟨w.heap.size + 1, 6, none⟩ (.int .i64 im)) (w.heap.size + 1) 8 68 (gau re im) :=
    ((hE.set (k := 0) (by omega) re).set (k := 6) (by omega) im).same (fun j _ => by simp only [upd, gau, nul]; split <;> split <;> first | rfl | omega)
  have hO3 := (hO.other ⟨w.heap.size + 1, 0, none⟩ (.int .i64 re) (by simp)).other ⟨w.heap.size + 1, 6, none⟩ (.int .i64 im) (by simp)
  have hL3 := (hL.setCell (p := ⟨w.heap.size + 1, 0, none⟩) (by simp) (.int .i64 re)).setCell (p := ⟨w.heap.size + 1, 6, none⟩) (by simp) (.int .i64 im)
  have HE := Lib.hid hE3
  have HO := Lib.hid hO3
  have HL := Lib.hid hL3
  clear hO hE hL hE3 hO3 hL3
  go_wp2_with (refine load_row rfl rfl rfl HE.out Try.underlying68 rfl info_exact ?_)
  have hO4 := HO.out
  have hL4 := HL.out
  clear HE HO HL c0 f0 c6 f6
  generalize (W3.setCell ⟨w.heap.size + 1, 0, none⟩ (.int .i64 re)).setCell ⟨w.heap.size + 1, 6, none⟩ (.int .i64 im) = W4 at *
  refine (T _).mono ?_; rintro e w5 ⟨rfl, hb5⟩
  have hO5 := hO4.below hb5
  have hL5 := below_next hL4 hb5
  clear hO4 hL4 hb5
  go_wp2_with (refine store_row rfl rfl rfl rfl hO5 info_cyc ?_)
  refine bodyPost_ret (results_row_tmp rfl rfl hO5.setRow Try.underlying30 rfl info_cyc) rfl ?_
  exact ⟨rfl, below_setRow hL5 (by omega) _⟩
end Go.Proofs.Ytmbhbocfnpklpaa
