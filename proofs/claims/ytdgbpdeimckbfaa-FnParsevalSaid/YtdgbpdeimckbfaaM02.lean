/-
  What impl's functions of exact points answer.
  The laws' helpers on exact points: copying and comparing; and what both sides answer.
  The exact laws of exact points of one point or of numbers: both sides answer alike, for every argument.
  impl: products of a valid point with one of up to four times its range; squares of sizes.
  The reader of a law's code: opening it and picking a number.
  Three closed facts on the seat's program whose plain reckoning takes more memory than there is: they read the words of a long text letter by letter. Here the text is taken as a list first.
-/
import Derived.Test.YtdgbpdeimckbfaaM01
import Derived.Deep.QuietTactic
import Derived.BigQuiet
import Derived.Test.YtdgbpdeimckbfaaM00
import Derived.OwnWalk
import Derived.Laws.AppendOwn
import Derived.Laws.OwnMore
import Derived.Laws.BitsAllLaws
import Derived.Laws.BitsLemmas
import Derived.Deep.WholeRow
import Derived.Deep.RegionWith
/- What impl's functions of exact points answer. -/
namespace Go.Proofs.Ytdgbpdeimckbfaa
set_option maxRecDepth 20000
open Go.ChangeShapes Go.WideShapes Go.ChangeAt Go.RowKit
set_option linter.unusedVariables false
set_option linter.unusedSimpArgs false

theorem told_some (c : Nat → Int) : ∃ c' v', (∀ w, Calls Try.prog 84 #[.agg (vec 8 c)] w fun e w' => e = .returned (.tuple #[.agg (vec 8 c'), .bool v']) ∧ Below w.heap.size w w') ∧ ans true c = .tuple #[.agg (vec 8 c'), .bool v'] :=
  ⟨if okc c then c else nul, okc c, told_two c, rfl⟩
theorem ret_bool' {a b : Bool} (h : a = b) : Ending.returned (.bool a) = .returned (.bool b) := by rw [h]

theorem CycTurned_no1 (a : Nat → Int) (t : Int) (va : okc a = false) (w : World) :
    Calls Try.prog 42 #[pt a, .int .i64 t] w fun e w' => e = .returned (ans false (trn a t.toNat)) ∧ Below w.heap.size w w' := by
    have sa := vec_size 8 a
    rw [ans_no]
    have P : ∀ w, Calls Try.prog 97 #[pt a] w fun e w' => e = .returned (.tuple #[pt nul, .bool false]) ∧ Below w.heap.size w w' := fun w => exactOf_no a va w
    unfold pt at *
    go_enter Try.func42, Try.ntmps42
    go_upto_region 1 with fail
    show Code.wp _ _ _ _ (box1 w a 36 36)
    obtain ⟨hA, hO, hL⟩ := box1_facts w a 36 36
    generalize box1 w a 36 36 = W at *
    go_wp2_with (refine load_row rfl rfl rfl hA Try.underlying36 rfl info_cyc ?_)
    refine (P _).mono ?_; rintro e w2 ⟨rfl, hb2⟩
    have hO2 := hO.below hb2
    have hL2 := below_next hL hb2
    clear hA hO hL hb2 P
    go_upto_region 2 with (refine store_row rfl rfl rfl rfl (RowAt.newAt zero8 rfl) info_exact ?_)
    show Code.wp _ _ _ _ (sole w2 nul 92)
    have hA3 := sole_first w2 nul 92
    have hO3 := sole_keep hO2 nul 92
    have hL3 := sole_below hL2 nul 92
    clear hO2 hL2
    generalize sole w2 nul 92 = W3 at *
    go_wp2_with (refine store_row rfl rfl rfl (show _ = Value.agg (vec 8 nul) from rfl) hO3 info_cyc ?_)
    refine bodyPost_ret (results_row_tmp rfl rfl hO3.setRow Try.underlying36 rfl info_cyc) rfl ?_
    exact ⟨rfl, below_setRow hL3 (by omega) _⟩

theorem CycTurned_no2 (a : Nat → Int) (t : Int) (va : okc a = true) (ht : t < 0 ∨ 23 < t) (w : World) :
    Calls Try.prog 42 #[pt a, .int .i64 t] w fun e w' => e = .returned (ans false (trn a t.toNat)) ∧ Below w.heap.size w w' := by
    have sa := vec_size 8 a
    rw [ans_no]
    have P : ∀ w, Calls Try.prog 97 #[pt a] w fun e w' => e = .returned (.tuple #[pt a, .bool true]) ∧ Below w.heap.size w w' := fun w => exactOf_yes a va w
    have G := fun w => isTurn_no t ht w
    unfold pt at *
    go_enter Try.func42, Try.ntmps42
    go_upto_region 1 with fail
    show Code.wp _ _ _ _ (box1 w a 36 36)
    obtain ⟨hA, hO, hL⟩ := box1_facts w a 36 36
    generalize box1 w a 36 36 = W at *
    go_wp2_with (refine load_row rfl rfl rfl hA Try.underlying36 rfl info_cyc ?_)
    refine (P _).mono ?_; rintro e w2 ⟨rfl, hb2⟩
    have hO2 := hO.below hb2
    have hL2 := below_next hL hb2
    clear hA hO hL hb2 P
    go_upto_region 2 with (refine store_row rfl rfl rfl rfl (RowAt.newAt zero8 rfl) info_exact ?_)
    show Code.wp _ _ _ _ (sole w2 a 92)
    have hA3 := sole_first w2 a 92
    have hO3 := sole_keep hO2 a 92
    have hL3 := sole_below hL2 a 92
    clear hO2 hL2
    generalize sole w2 a 92 = W3 at *
    go_wp2_with fail
    refine (G _).mono ?_; rintro e w' ⟨rfl, rfl⟩
    clear G
    go_wp2_with (refine store_row rfl rfl rfl (show _ = Value.agg (vec 8 nul) from rfl) hO3 info_cyc ?_)
    refine bodyPost_ret (results_row_tmp rfl rfl hO3.setRow Try.underlying36 rfl info_cyc) rfl ?_
    exact ⟨rfl, below_setRow hL3 (by omega) _⟩

theorem CycTurned_yes (a : Nat → Int) (t : Nat) (va : okc a = true) (ht : t ≤ 23) (w : World) :
    Calls Try.prog 42 #[pt a, .int .i64 t] w fun e w' => e = .returned (ans true (trn a t)) ∧ Below w.heap.size w w' := by
    obtain ⟨c', v', T, eT⟩ := told_some (trn a t)
    rw [eT]
    have sa := vec_size 8 a
    have P : ∀ w, Calls Try.prog 97 #[pt a] w fun e w' => e = .returned (.tuple #[pt a, .bool true]) ∧ Below w.heap.size w w' := fun w => exactOf_yes a va w
    have ia := okc_inR va
    have M := fun w => turned_any a t ht ia w
    have G := fun w => isTurn_yes (t : Int) (by omega) (by omega) w
    unfold pt at *
    go_enter Try.func42, Try.ntmps42
    go_upto_region 1 with fail
    show Code.wp _ _ _ _ (box1 w a 36 36)
    obtain ⟨hA, hO, hL⟩ := box1_facts w a 36 36
    generalize box1 w a 36 36 = W at *
    go_wp2_with (refine load_row rfl rfl rfl hA Try.underlying36 rfl info_cyc ?_)
    refine (P _).mono ?_; rintro e w2 ⟨rfl, hb2⟩
    have hO2 := hO.below hb2
    have hL2 := below_next hL hb2
    clear hA hO hL hb2 P
    go_upto_region 2 with (refine store_row rfl rfl rfl rfl (RowAt.newAt zero8 rfl) info_exact ?_)
    show Code.wp _ _ _ _ (sole w2 a 92)
    have hA3 := sole_first w2 a 92
    have hO3 := sole_keep hO2 a 92
    have hL3 := sole_below hL2 a 92
    clear hO2 hL2
    generalize sole w2 a 92 = W3 at *
    go_wp2_with fail
    refine (G _).mono ?_; rintro e w' ⟨rfl, rfl⟩
    clear G
    go_wp2_with (refine load_row rfl rfl rfl hA3 Try.underlying92 rfl info_exact ?_)
    refine (M _).mono ?_; rintro e w4 ⟨rfl, hb4⟩
    have hO4 := hO3.below hb4
    have hL4 := below_next hL3 hb4
    clear hA3 hO3 hL3 hb4 M
    go_wp2_with fail
    refine (T _).mono ?_; rintro e w5 ⟨rfl, hb5⟩
    have hO5 := hO4.below hb5
    have hL5 := below_next hL4 hb5
    clear hO4 hL4 hb5
    go_wp2_with (refine store_row rfl rfl rfl rfl hO5 info_cyc ?_)
    refine bodyPost_ret (results_row_tmp rfl rfl hO5.setRow Try.underlying36 rfl info_cyc) rfl ?_
    exact ⟨rfl, below_setRow hL5 (by omega) _⟩

theorem CycScale_no1 (a : Nat → Int) (n : Int) (va : okc a = false) (w : World) :
    Calls Try.prog 92 #[pt a, .int .i64 n] w fun e w' => e = .returned (ans false (scl n a)) ∧ Below w.heap.size w w' := by
    have sa := vec_size 8 a
    rw [ans_no]
    have P : ∀ w, Calls Try.prog 97 #[pt a] w fun e w' => e = .returned (.tuple #[pt nul, .bool false]) ∧ Below w.heap.size w w' := fun w => exactOf_no a va w
    unfold pt at *
    go_enter Try.func92, Try.ntmps92
    go_upto_region 1 with fail
    show Code.wp _ _ _ _ (box1 w a 36 36)
    obtain ⟨hA, hO, hL⟩ := box1_facts w a 36 36
    generalize box1 w a 36 36 = W at *
    go_wp2_with (refine load_row rfl rfl rfl hA Try.underlying36 rfl info_cyc ?_)
    refine (P _).mono ?_; rintro e w2 ⟨rfl, hb2⟩
    have hO2 := hO.below hb2
    have hL2 := below_next hL hb2
    clear hA hO hL hb2 P
    go_upto_region 2 with (refine store_row rfl rfl rfl rfl (RowAt.newAt zero8 rfl) info_exact ?_)
    show Code.wp _ _ _ _ (sole w2 nul 92)
    have hA3 := sole_first w2 nul 92
    have hO3 := sole_keep hO2 nul 92
    have hL3 := sole_below hL2 nul 92
    clear hO2 hL2
    generalize sole w2 nul 92 = W3 at *
    go_wp2_with (refine store_row rfl rfl rfl (show _ = Value.agg (vec 8 nul) from rfl) hO3 info_cyc ?_)
    refine bodyPost_ret (results_row_tmp rfl rfl hO3.setRow Try.underlying36 rfl info_cyc) rfl ?_
    exact ⟨rfl, below_setRow hL3 (by omega) _⟩

theorem CycScale_no2 (a : Nat → Int) (n : Int) (va : okc a = true) (hn : ¬ (-1000000 ≤ n ∧ n ≤ 1000000)) (w : World) :
    Calls Try.prog 92 #[pt a, .int .i64 n] w fun e w' => e = .returned (ans false (scl n a)) ∧ Below w.heap.size w w' := by
    have sa := vec_size 8 a
    rw [ans_no]
    have P : ∀ w, Calls Try.prog 97 #[pt a] w fun e w' => e = .returned (.tuple #[pt a, .bool true]) ∧ Below w.heap.size w w' := fun w => exactOf_yes a va w
    have G := fun w => coefIn_no n hn w
    unfold pt at *
    go_enter Try.func92, Try.ntmps92
    go_upto_region 1 with fail
    show Code.wp _ _ _ _ (box1 w a 36 36)
    obtain ⟨hA, hO, hL⟩ := box1_facts w a 36 36
    generalize box1 w a 36 36 = W at *
    go_wp2_with (refine load_row rfl rfl rfl hA Try.underlying36 rfl info_cyc ?_)
    refine (P _).mono ?_; rintro e w2 ⟨rfl, hb2⟩
    have hO2 := hO.below hb2
    have hL2 := below_next hL hb2
    clear hA hO hL hb2 P
    go_upto_region 2 with (refine store_row rfl rfl rfl rfl (RowAt.newAt zero8 rfl) info_exact ?_)
    show Code.wp _ _ _ _ (sole w2 a 92)
    have hA3 := sole_first w2 a 92
    have hO3 := sole_keep hO2 a 92
    have hL3 := sole_below hL2 a 92
    clear hO2 hL2
    generalize sole w2 a 92 = W3 at *
    go_wp2_with fail
    refine (G _).mono ?_; rintro e w' ⟨rfl, rfl⟩
    clear G
    go_wp2_with (refine store_row rfl rfl rfl (show _ = Value.agg (vec 8 nul) from rfl) hO3 info_cyc ?_)
    refine bodyPost_ret (results_row_tmp rfl rfl hO3.setRow Try.underlying36 rfl info_cyc) rfl ?_
    exact ⟨rfl, below_setRow hL3 (by omega) _⟩

theorem CycScale_yes (a : Nat → Int) (n : Int) (va : okc a = true) (hn : -1000000 ≤ n ∧ n ≤ 1000000) (w : World) :
    Calls Try.prog 92 #[pt a, .int .i64 n] w fun e w' => e = .returned (ans true (scl n a)) ∧ Below w.heap.size w w' := by
    obtain ⟨c', v', T, eT⟩ := told_some (scl n a)
    rw [eT]
    have sa := vec_size 8 a
    have P : ∀ w, Calls Try.prog 97 #[pt a] w fun e w' => e = .returned (.tuple #[pt a, .bool true]) ∧ Below w.heap.size w w' := fun w => exactOf_yes a va w
    have ia := okc_inR va
    have M := fun w => scaled_any a n (fun j hj => by have := prod_bound (ia j hj) hn; simp only [tms]; omega) w
    have G := fun w => coefIn_yes n hn.1 hn.2 w
    unfold pt at *
    go_enter Try.func92, Try.ntmps92
    go_upto_region 1 with fail
    show Code.wp _ _ _ _ (box1 w a 36 36)
    obtain ⟨hA, hO, hL⟩ := box1_facts w a 36 36
    generalize box1 w a 36 36 = W at *
    go_wp2_with (refine load_row rfl rfl rfl hA Try.underlying36 rfl info_cyc ?_)
    refine (P _).mono ?_; rintro e w2 ⟨rfl, hb2⟩
    have hO2 := hO.below hb2
    have hL2 := below_next hL hb2
    clear hA hO hL hb2 P
    go_upto_region 2 with (refine store_row rfl rfl rfl rfl (RowAt.newAt zero8 rfl) info_exact ?_)
    show Code.wp _ _ _ _ (sole w2 a 92)
    have hA3 := sole_first w2 a 92
    have hO3 := sole_keep hO2 a 92
    have hL3 := sole_below hL2 a 92
    clear hO2 hL2
    generalize sole w2 a 92 = W3 at *
    go_wp2_with fail
    refine (G _).mono ?_; rintro e w' ⟨rfl, rfl⟩
    clear G
    go_wp2_with (refine load_row rfl rfl rfl hA3 Try.underlying92 rfl info_exact ?_)
    refine (M _).mono ?_; rintro e w4 ⟨rfl, hb4⟩
    have hO4 := hO3.below hb4
    have hL4 := below_next hL3 hb4
    clear hA3 hO3 hL3 hb4 M
    go_wp2_with fail
    refine (T _).mono ?_; rintro e w5 ⟨rfl, hb5⟩
    have hO5 := hO4.below hb5
    have hL5 := below_next hL4 hb5
    clear hO4 hL4 hb5
    go_wp2_with (refine store_row rfl rfl rfl rfl hO5 info_cyc ?_)
    refine bodyPost_ret (results_row_tmp rfl rfl hO5.setRow Try.underlying36 rfl info_cyc) rfl ?_
    exact ⟨rfl, below_setRow hL5 (by omega) _⟩

end Go.Proofs.Ytdgbpdeimckbfaa
/- The laws' helpers on exact points: copying and comparing; and what both sides answer. -/
namespace Go.Proofs.Ytdgbpdeimckbfaa
set_option maxRecDepth 20000
open Go.ChangeShapes Go.WideShapes Go.ChangeAt Go.RowKit
set_option linter.unusedVariables false
set_option linter.unusedSimpArgs false

theorem toInts_any (a : Nat → Int) (w : World) :
    Calls Try.prog 158 #[pt a] w fun e w' => e = .returned (pt a) ∧ Below w.heap.size w w' := by
  have sa := vec_size 8 a
  unfold pt at *
  go_enter Try.func158, Try.ntmps158
  go_upto_region 2 with fail
  show Code.wp _ _ _ _ ((box1 w a 34 34).alloc (.cells (vec 8 nul) 34))
  obtain ⟨hA, hO, hL⟩ := box1_facts w a 34 34
  have zE := hO.lt
  have hsz : (box1 w a 34 34).heap.size = w.heap.size + 1 + 1 := by simp [box1]
  have hA := hA.alloc (.cells (vec 8 nul) 34)
  have hO := hO.alloc (.cells (vec 8 nul) 34)
  have hL := hL.alloc (by omega) (.cells (vec 8 nul) 34)
  have hE : RowAt ((box1 w a 34 34).alloc (.cells (vec 8 nul) 34)) (w.heap.size + 1 + 1) 8 34 nul := RowAt.newAt rfl hsz
  clear zE hsz
  generalize (box1 w a 34 34).alloc (.cells (vec 8 nul) 34) = W at *
  go_wp2_with fail
  go_loopw [4] (fun i wr => ∃ k : Nat, k ≤ 8 ∧ i = .int .i64 k ∧ RowAt wr w.heap.size 8 34 a ∧ RowAt wr (w.heap.size + 1) 8 34 nul ∧ RowAt wr (w.heap.size + 1 + 1) 8 34 (mix k a nul) ∧ Below w.heap.size w wr) (fun i _ => 8 - (intOf i).toNat)
  case atStart => exact ⟨0, Nat.zero_le _, rfl, hA, hO, by rw [mix_zero]; exact hE, hL⟩
  case round =>
    clear hA hO hE hL
    obtain ⟨k, hk, rfl, hA, hO, hE, hL⟩ := hrel
    by_cases hlt : k < 8
    · have hlt' : (k : Int) < 8 := by omega
      have hk0 : (0 : Int) ≤ (k : Int) := by omega
      have cA := hA.cell hlt
      have cE := hE.cell hlt
      have fE := hE.free k
      rw [mix_at] at cE
      have hE2 := hE.set hlt (a k)
      rw [mix_step] at hE2
      have HE := Lib.hid hE2
      have HA := Lib.hid (hA.other ⟨w.heap.size + 1 + 1, k, none⟩ (.int .i64 (a k)) (by simp; try omega))
      have HO := Lib.hid (hO.other ⟨w.heap.size + 1 + 1, k, none⟩ (.int .i64 (a k)) (by simp; try omega))
      have HL := Lib.hid (hL.setCell (p := ⟨w.heap.size + 1 + 1, k, none⟩) (by simp; omega) (.int .i64 (a k)))
      clear hA hO hE hL hE2
      go_wp2_with fail
      go_roundw
      case rel => exact ⟨k + 1, by omega, by go_num, HA.out, HO.out, HE.out, HL.out⟩
      case measure => simp [intOf]; omega
    · obtain rfl : k = 8 := by omega
      have HE := Lib.hid hE; have HO := Lib.hid hO; have HL := Lib.hid hL
      clear hA hE hO hL
      go_wp2_with (first | (refine load_row rfl rfl rfl HE.out Try.underlying34 rfl info_arr8 ?_) | (refine store_row rfl rfl rfl rfl HO.out info_arr8 ?_))
      refine bodyPost_ret (results_row rfl rfl HO.out.setRow Try.underlying34 rfl info_arr8) rfl ?_
      exact ⟨by rw [vec_mix], below_setRow HL.out (by omega) _⟩

theorem toCyc_any (a : Nat → Int) (w : World) :
    Calls Try.prog 113 #[pt a] w fun e w' => e = .returned (pt a) ∧ Below w.heap.size w w' := by
  have sa := vec_size 8 a
  have P := fun w => toInts_any a w
  unfold pt at *
  go_enter Try.func113, Try.ntmps113
  go_upto_region 2 with fail
  show Code.wp _ _ _ _ ((box1 w a 128 36).alloc (.cells (vec 8 nul) 36))
  obtain ⟨hA, hO, hL⟩ := box1_facts w a 128 36
  have zE := hO.lt
  have hsz : (box1 w a 128 36).heap.size = w.heap.size + 1 + 1 := by simp [box1]
  have hA := hA.alloc (.cells (vec 8 nul) 36)
  have hO := hO.alloc (.cells (vec 8 nul) 36)
  have hL := hL.alloc (by omega) (.cells (vec 8 nul) 36)
  have hE : RowAt ((box1 w a 128 36).alloc (.cells (vec 8 nul) 36)) (w.heap.size + 1 + 1) 8 36 nul := RowAt.newAt rfl hsz
  clear zE hsz
  generalize (box1 w a 128 36).alloc (.cells (vec 8 nul) 36) = W at *
  go_wp2_with (refine load_row rfl rfl rfl hA Try.underlying34 rfl info_arr8 ?_)
  refine (P _).mono ?_; rintro e w2 ⟨rfl, hb2⟩
  have hO2 := hO.below hb2; have hE2 := hE.below hb2; have hL2 := below_next hL hb2
  clear hA hO hE hL hb2 P
  have HE := Lib.hid (hE2.setRow (f' := a))
  have HO := Lib.hid (hO2.rowOther (w.heap.size + 1 + 1) (vec 8 a) (by omega))
  have HL := Lib.hid (below_setRow hL2 (g := w.heap.size + 1 + 1) (by omega) (vec 8 a))
  clear hO2 hL2
  go_upto_region 3 with (refine store_row rfl rfl rfl rfl hE2 info_arr8 ?_)
  go_wp2_with (first | (refine load_row rfl rfl rfl HE.out Try.underlying36 rfl info_cyc ?_) | (refine store_row rfl rfl rfl rfl HO.out info_cyc ?_))
  refine bodyPost_ret (results_row rfl rfl HO.out.setRow Try.underlying36 rfl info_cyc) rfl ?_
  exact ⟨rfl, below_setRow HL.out (by omega) _⟩

theorem eqInts8_yes (a : Nat → Int) (w : World) :
    Calls Try.prog 159 #[pt a, pt a] w fun e w' => e = .returned (.bool true) ∧ Below w.heap.size w w' := by
  have sa := vec_size 8 a
  unfold pt at *
  go_enter Try.func159, Try.ntmps159
  go_upto_region 1 with fail
  show Code.wp _ _ _ _ (boxAB w a a 34)
  obtain ⟨hA, hB, hL, _⟩ := boxAB_facts w a a 34
  generalize boxAB w a a 34 = W at *
  go_wp2_with fail
  go_loopw [5] (fun i wr => ∃ k : Nat, k ≤ 8 ∧ i = .int .i64 k ∧ RowAt wr w.heap.size 8 34 a ∧ RowAt wr (w.heap.size + 1) 8 34 a ∧ Below w.heap.size w wr) (fun i _ => 8 - (intOf i).toNat)
  case atStart => exact ⟨0, Nat.zero_le _, rfl, hA, hB, hL⟩
  case round =>
    clear hA hB hL
    obtain ⟨k, hk, rfl, hA, hB, hL⟩ := hrel
    by_cases hlt : k < 8
    · have hlt' : (k : Int) < 8 := by omega
      have hk0 : (0 : Int) ≤ (k : Int) := by omega
      have cA := hA.cell hlt
      have cB := hB.cell hlt
      have HA := Lib.hid hA; have HB := Lib.hid hB; have HL := Lib.hid hL
      clear hA hB hL
      generalize a k = x at cA cB
      go_wp2_with fail
      go_quiet (fail)
      go_wp2_with fail
      go_roundw
      case rel => exact ⟨k + 1, by omega, by go_num, HA.out.drew _, HB.out.drew _, below_drewN HL.out _⟩
      case measure => simp [intOf]; omega
    · obtain rfl : k = 8 := by omega
      have HL := Lib.hid hL
      clear hA hB hL
      go_wp2_with fail
      go_ret
      exact ⟨rfl, HL.out⟩
theorem eqCyc_yes (a : Nat → Int) (w : World) :
    Calls Try.prog 114 #[pt a, pt a] w fun e w' => e = .returned (.bool true) ∧ Below w.heap.size w w' := by
  have sa := vec_size 8 a
  have P := fun w => eqInts8_yes a w
  unfold pt at *
  go_enter Try.func114, Try.ntmps114
  go_upto_region 1 with fail
  show Code.wp _ _ _ _ (boxAB w a a 36)
  obtain ⟨hA, hB, hL, _⟩ := boxAB_facts w a a 36
  generalize boxAB w a a 36 = W at *
  go_wp2_with (first | (refine load_row rfl rfl rfl hA Try.underlying34 rfl info_arr8 ?_) | (refine load_row rfl rfl rfl hB Try.underlying34 rfl info_arr8 ?_))
  refine (P _).mono ?_; rintro e w2 ⟨rfl, hb2⟩
  have hL2 := below_next hL hb2
  clear hA hB hL hb2 P
  go_wp2_with fail
  go_ret
  exact ⟨rfl, hL2⟩

end Go.Proofs.Ytdgbpdeimckbfaa
/- The exact laws of exact points of one point or of numbers: both sides answer alike, for every argument. -/
namespace Go.Proofs.Ytdgbpdeimckbfaa
set_option maxRecDepth 20000
open Go.ChangeShapes Go.WideShapes Go.ChangeAt Go.RowKit
set_option linter.unusedVariables false
set_option linter.unusedSimpArgs false

theorem info_law : (Try.prog.info? 128).map (·.size) = some 8 := by kernel_rfl
theorem size_law (a : Nat → Int) : (Try.prog.info? 128).map (·.size) = some (lst 8 a).length := by rw [lst_length]; exact info_law

end Go.Proofs.Ytdgbpdeimckbfaa
/- impl: products of a valid point with one of up to four times its range; squares of sizes. -/
namespace Go.Proofs.Ytdgbpdeimckbfaa
set_option maxRecDepth 20000
open Go.ChangeShapes Go.WideShapes Go.ChangeAt Go.RowKit
set_option linter.unusedVariables false
set_option linter.unusedSimpArgs false

def Four (b : Nat → Int) : Prop := ∀ j, j < 8 → -4000000 ≤ b j ∧ b j ≤ 4000000
theorem prod_bound4 {x y : Int} (hx : -1000000 ≤ x ∧ x ≤ 1000000) (hy : -4000000 ≤ y ∧ y ≤ 4000000) : -4000000000000 ≤ x * y ∧ x * y ≤ 4000000000000 := by
  have h1 : x.natAbs ≤ 1000000 := by omega
  have h2 : y.natAbs ≤ 4000000 := by omega
  have h3 : (x * y).natAbs ≤ 1000000 * 4000000 := by rw [Int.natAbs_mul]; exact Nat.mul_le_mul h1 h2
  omega
theorem inner_bound4 {a b : Nat → Int} (ha : InR a) (hb : Four b) {i : Nat} (hi : i < 8) {p : Nat → Int} {B : Int} (hp : ∀ m, m < 24 → -B ≤ p m ∧ p m ≤ B) (k : Nat) (hk : k ≤ 8) : ∀ m, m < 24 → -(B + 4000000000000) ≤ inner a b i p k m ∧ inner a b i p k m ≤ B + 4000000000000 := by
  intro m hm
  rw [inner_at]
  have h := hp m hm
  split
  · next c =>
    have := prod_bound4 (ha i hi) (hb (m - i) (by omega))
    omega
  · omega
theorem outer_bound4 {a b : Nat → Int} (ha : InR a) (hb : Four b) : ∀ i : Nat, i ≤ 8 → ∀ m, m < 24 → -((i : Int) * 4000000000000) ≤ outer a b i m ∧ outer a b i m ≤ (i : Int) * 4000000000000
  | 0, _, m, hm => by simp [outer]
  | i + 1, h, m, hm => by
    have := inner_bound4 ha hb (i := i) (by omega) (outer_bound4 ha hb i (by omega)) 8 (by omega) m hm
    simp only [outer]
    omega

theorem times_wide (a b : Nat → Int) (ha : InR a) (hb : Four b) (w : World) :
    Calls Try.prog 166 #[pt a, pt b] w fun e w' => e = .returned (pt (prd a b)) ∧ Below w.heap.size w w' := by
  have sa := vec_size 8 a
  have sb := vec_size 8 b
  have OB := outer_bound4 ha hb
  have P := fun w => point_any (outer a b 8) (fun j hj => by have := OB 8 (by omega) j hj; omega) w
  unfold pt
  go_enter Try.func166, Try.ntmps166
  go_upto_region 1 with fail
  go_cut [2, 3, 4, 5] (fun s2 s3 s4 s5 wx => s2 = .pointer (some ⟨w.heap.size, 0, none⟩) ∧ s3 = .pointer (some ⟨w.heap.size + 1, 0, none⟩) ∧ s4 = .pointer (some ⟨w.heap.size + 1 + 1, 0, none⟩) ∧ s5 = .pointer (some ⟨w.heap.size + 1 + 1 + 1, 0, none⟩) ∧ RowAt wx w.heap.size 8 92 a ∧ RowAt wx (w.heap.size + 1) 8 92 b ∧ RowAt wx (w.heap.size + 1 + 1) 8 92 nul ∧ RowAt wx (w.heap.size + 1 + 1 + 1) 24 152 nul ∧ Below w.heap.size w wx)
  case first =>
    go_wp2_with fail
    go_meet
    exact ⟨rfl, rfl, rfl, rfl, ((RowAt.newAt rfl (by simp)).alloc _).alloc _ |>.alloc _, ((RowAt.newAt rfl (by simp)).alloc _).alloc _, (RowAt.newAt zero8 (by simp)).alloc _, RowAt.newAt zero24 (by simp), ((((Below.refl _ _).alloc (Nat.le_refl _) _).alloc (by simp) _).alloc (by simp; omega) _).alloc (by simp; omega) _⟩
  case rest =>
  obtain ⟨rfl, rfl, rfl, rfl, hA0, hB0, hO0, hP0, hbel0⟩ := hcut
  go_wp2_with (refine load_row rfl rfl rfl hA0 Try.underlying92 rfl info_exact ?_)
  go_loopw [11] (fun i wr => ∃ k : Nat, k ≤ 8 ∧ i = .int .i64 k ∧ RowAt wr (w.heap.size + 1) 8 92 b ∧ RowAt wr (w.heap.size + 1 + 1) 8 92 nul ∧ RowAt wr (w.heap.size + 1 + 1 + 1) 24 152 (outer a b k) ∧ Below w.heap.size w wr) (fun i _ => 8 - (intOf i).toNat)
  case atStart => exact ⟨0, Nat.zero_le _, rfl, hB0, hO0, hP0, hbel0⟩
  case round =>
    obtain ⟨k, hk, rfl, hB, hO, hP, hbel⟩ := hrel
    by_cases hlt : k < 8
    · have ix := fun w => index_exact a hlt w
      have hlt' : (k : Int) < 8 := by omega
      have hk0 : (0 : Int) ≤ (k : Int) := by omega
      go_wp2_with (refine load_row rfl rfl rfl hB Try.underlying92 rfl info_exact ?_)
      obtain ⟨wo, rfl⟩ : ∃ wo : World, wo = wr := ⟨_, rfl⟩
      go_loopw [16] (fun i wr => ∃ m : Nat, m ≤ 8 ∧ i = .int .i64 m ∧ RowAt wr (w.heap.size + 1) 8 92 b ∧ RowAt wr (w.heap.size + 1 + 1) 8 92 nul ∧ RowAt wr (w.heap.size + 1 + 1 + 1) 24 152 (inner a b k (outer a b k) m) ∧ Below w.heap.size w wr) (fun i _ => 8 - (intOf i).toNat)
      case atStart => exact ⟨0, Nat.zero_le _, rfl, hB, hO, hP, hbel⟩
      case round =>
        obtain ⟨m, hm, rfl, hB2, hO2, hP2, hbel2⟩ := hrel
        clear hB hO hP hbel ix
        by_cases hlm : m < 8
        · have ix := fun w => index_exact b hlm w
          have hlm' : (m : Int) < 8 := by omega
          have hm0 : (0 : Int) ≤ (m : Int) := by omega
          have cP := hP2.cell (k := k + m) (by omega)
          have fP := hP2.free (k + m)
          have pb := prod_bound4 (ha k hlt) (hb m hlm)
          have qb := inner_bound4 ha hb hlt (OB k hk) m hm (k + m) (by omega)
          have tk : ((k : Int) + (m : Int)).toNat = k + m := by omega
          have t0 : (0 : Int) ≤ (k : Int) + (m : Int) := by omega
          have t1 : (k : Int) + (m : Int) < 24 := by omega
          have hP3 := hP2.set (k := k + m) (by omega) (inner a b k (outer a b k) m (k + m) + a k * b m)
          have HP : Hid (RowAt _ _ _ _ (inner a b k (outer a b k) (m + 1))) := Lib.hid hP3
          have HB := Lib.hid (hB2.other ⟨w.heap.size + 1 + 1 + 1, k + m, none⟩ (.int .i64 (inner a b k (outer a b k) m (k + m) + a k * b m)) (by simp; try omega))
          have HO := Lib.hid (hO2.other ⟨w.heap.size + 1 + 1 + 1, k + m, none⟩ (.int .i64 (inner a b k (outer a b k) m (k + m) + a k * b m)) (by simp; try omega))
          have HL := Lib.hid (hbel2.setCell (p := ⟨w.heap.size + 1 + 1 + 1, k + m, none⟩) (by simp; omega) (.int .i64 (inner a b k (outer a b k) m (k + m) + a k * b m)))
          have HOB := Lib.hid OB
          clear hP3 hB2 hO2 hP2 hbel2 OB
          generalize inner a b k (outer a b k) m (k + m) = x at *
          have w1 : IntKind.i64.wrap (a k * b m) = a k * b m := by rw [IntKind.wrap_i64]; omega
          have w2 : IntKind.i64.wrap (x + a k * b m) = x + a k * b m := by rw [IntKind.wrap_i64]; omega
          go_wp2_with fail
          go_roundw
          case rel => exact ⟨m + 1, by omega, by go_num, HB.out, HO.out, HP.out, HL.out⟩
          case measure => simp [intOf]; omega
        · obtain rfl : m = 8 := by omega
          have HB := Lib.hid hB2; have HO := Lib.hid hO2; have HL := Lib.hid hbel2; have HP := Lib.hid hP2
          clear hB2 hO2 hP2 hbel2
          go_wp2_with fail
          go_roundw
          case rel => exact ⟨k + 1, by omega, by go_num, HB.out, HO.out, HP.out, HL.out⟩
          case measure => simp [intOf]; omega
    · obtain rfl : k = 8 := by omega
      have HO := Lib.hid hO; have HL := Lib.hid hbel; have HP := Lib.hid hP
      clear hA0 hB0 hO0 hP0 hbel0 hB hO hP hbel OB
      go_wp2_with (refine load_row rfl rfl rfl HP.out Try.underlying152 rfl info_powers ?_)
      refine (P _).mono ?_; rintro e w2 ⟨rfl, hb2⟩
      have hO2 := (HO.out).below hb2
      have hL2 := below_next HL.out hb2
      have z2 := (HO.out).lt
      clear P
      go_wp2_with (refine store_row rfl rfl rfl rfl hO2 info_exact ?_)
      refine bodyPost_ret (results_row rfl rfl hO2.setRow Try.underlying92 rfl info_exact) rfl ?_
      exact ⟨rfl, below_setRow hL2 (by omega) _⟩

theorem four_mir {a : Nat → Int} (h : InR a) : Four (mir a) := fun j hj => by
  have h0 := h 0 (by omega); have h1 := h 1 (by omega); have h2 := h 2 (by omega); have h3 := h 3 (by omega); have h4 := h 4 (by omega); have h5 := h 5 (by omega); have h6 := h 6 (by omega); have h7 := h 7 (by omega)
  revert j
  refine eight_cases ?_ ?_ ?_ ?_ ?_ ?_ ?_ ?_ <;> simp [mir] <;> omega
end Go.Proofs.Ytdgbpdeimckbfaa
/- The reader of a law's code: opening it and picking a number. -/
namespace Go.Proofs.Ytdgbpdeimckbfaa
set_option maxRecDepth 20000
open Go.ChangeShapes Go.WideShapes Go.ChangeAt Go.RowKit
set_option linter.unusedVariables false
set_option linter.unusedSimpArgs false

/-- What the reader's bytes are, apart from the reader's own block. -/
def BytesBut (w : World) (R : Nat) (v : Value) : Prop :=
  (∃ a, v = .slice a 0 0) ∨ ∃ (b off len cap : Nat) (zs : List Int), v = .slice (some ⟨b, off, none⟩) len cap ∧ b < R ∧ len ≤ 2000 ∧
    (∀ i, i < len → w.cell? ⟨b, off + i, none⟩ = some (.int .u8 (zs.getD i 0))) ∧ (∀ i, 0 ≤ zs.getD i 0 ∧ zs.getD i 0 ≤ 255)
/-- A reader lies in block R and has picked p times. -/
def Rd (w : World) (R p : Nat) : Prop := ∃ v, w.heap[R]? = some (.cells #[v, .int .i64 p] 135 (0, 0)) ∧ BytesBut w R v

theorem Rd.lt {w : World} {R p : Nat} (h : Rd w R p) : R < w.heap.size := by
  obtain ⟨v, h, _⟩ := h
  exact Nat.lt_of_not_le fun hle => by rw [Array.getElem?_eq_none hle] at h; cases h

section
variable {w : World} {R : Nat} {v u : Value} {T : TypeId}
theorem two_fst (h : w.heap[R]? = some (.cells #[v, u] T (0, 0))) : w.cell? ⟨R, 0, none⟩ = some v := by simp [World.cell?, h]
theorem two_snd (h : w.heap[R]? = some (.cells #[v, u] T (0, 0))) : w.cell? ⟨R, 1, none⟩ = some u := by simp [World.cell?, h]
theorem two_free (h : w.heap[R]? = some (.cells #[v, u] T (0, 0))) (j : Nat) : w.frozen? ⟨R, j, none⟩ = false := by simp [World.frozen?, h]
theorem two_set (h : w.heap[R]? = some (.cells #[v, u] T (0, 0))) (x : Value) : (w.setCell ⟨R, 1, none⟩ x).heap[R]? = some (.cells #[v, x] T (0, 0)) := by
  have hlt : R < w.heap.size := Nat.lt_of_not_le fun hle => by rw [Array.getElem?_eq_none hle] at h; cases h
  simp [World.setCell, Array.getElem?_modify, h]
end
theorem only_drewN {a w : World} {row : Option Nat} (h : a.grownBy w row) (n : Nat) : a.grownBy (w.drewN n) row := ⟨h.os, h.tape, h.output, h.size, h.block⟩
theorem only_refl (w : World) (row : Option Nat) : w.grownBy w row := ⟨rfl, rfl, rfl, Nat.le_refl _, fun _ _ _ => rfl⟩
theorem only_trans' {a b c : World} {row : Option Nat} (h : a.grownBy b row) (k : b.grownBy c row) : a.grownBy c row :=
  ⟨k.os.trans h.os, k.tape.trans h.tape, k.output.trans h.output, Nat.le_trans h.size k.size, fun i hi hne => (k.block i (Nat.lt_of_lt_of_le hi h.size) hne).trans (h.block i hi hne)⟩

/-- What turns other blocks than the reader's and the code's leaves the reader as it was. -/
theorem Rd.keep {w w' : World} {R p : Nat} {row : Option Nat} (h : Rd w R p) (hg : w.grownBy w' row) (hr : ∀ g, row = some g → R < g) : Rd w' R p := by
  have hlt := h.lt
  obtain ⟨v, hR, hB⟩ := h
  refine ⟨v, (hg.block R hlt (fun e => by have := hr R e.symm; omega)).trans hR, ?_⟩
  rcases hB with h | ⟨b, off, len, cap, zs, rfl, hb, hl, hc, hz⟩
  · exact .inl h
  · refine .inr ⟨b, off, len, cap, zs, rfl, hb, hl, fun i hi => ?_, hz⟩
    exact (World.cell?_of_block (hg.block b (by omega) (fun e => by have := hr b e.symm; omega))).trans (hc i hi)
theorem Rd.alloc {w : World} {R p : Nat} (h : Rd w R p) (o : Obj) : Rd (w.alloc o) R p := h.keep (World.grownBy_alloc w o none) (fun g e => by cases e)
theorem only_alloc {a w : World} {row : Option Nat} (h : a.grownBy w row) (o : Obj) : a.grownBy (w.alloc o) row := only_trans' h (World.grownBy_alloc w o row)
theorem only_of_none {a w : World} (h : a.grownBy w none) (row : Option Nat) : a.grownBy w row := ⟨h.os, h.tape, h.output, h.size, fun i hi _ => h.block i hi (by simp)⟩
theorem below_only {w0 w w' : World} {B R : Nat} (h : Below B w0 w) (hg : w.grownBy w' (some R)) (hB : B ≤ w.heap.size) (hR : B ≤ R) : Below B w0 w' :=
  h.grown hg hB (fun k hk => by cases hk; exact hR)

/-- What a pick hands back. -/
def Picked (w : World) (R p : Nat) (n : Int) (e : Ending) (w' : World) : Prop :=
  ∃ k : Int, e = .returned (.int .i64 k) ∧ 0 ≤ k ∧ k < n ∧ Rd w' R p ∧ w.grownBy w' (some R)

theorem rd_step {w : World} {R p : Nat} (h : Rd w R p) (m : Nat) : Rd ((w.setCell ⟨R, 1, none⟩ (.int .i64 (p + 1))).drewN m) R (p + 1) ∧ w.grownBy ((w.setCell ⟨R, 1, none⟩ (.int .i64 (p + 1))).drewN m) (some R) := by
  obtain ⟨v, hR, hB⟩ := h
  have hg : w.grownBy (w.setCell ⟨R, 1, none⟩ (.int .i64 (p + 1))) (some R) :=
    ⟨rfl, rfl, rfl, by simp [World.setCell], fun i _ hne => Below.heap_setCell w _ _ i (by rintro rfl; exact hne rfl)⟩
  refine ⟨⟨v, ?_, ?_⟩, only_drewN hg m⟩
  · exact two_set hR _
  · rcases hB with h | ⟨b, off, len, cap, zs, rfl, hlt, hl, hc, hz⟩
    · exact .inl h
    · have hne : b ≠ R := by omega
      refine .inr ⟨b, off, len, cap, zs, rfl, hlt, hl, fun i hi => ?_, hz⟩
      exact (World.cell?_setCell_other _ _ _ _ (by simp [hne])).trans (hc i hi)

theorem ofInt_i64 (a : Nat) (ha : a < 9223372036854775808) : (BitVec.ofInt 64 (a : Int)).toNat = a := by
  rw [BitVec.ofInt_natCast, BitVec.toNat_ofNat]; exact Nat.mod_eq_of_lt (by omega)
theorem i64_xor_nat (a b : Nat) (ha : a < 9223372036854775808) (hb : b < 9223372036854775808) : bits .xor .i64 (a : Int) (b : Int) = ((a ^^^ b : Nat) : Int) := by
  have hx : a ^^^ b < 2 ^ 63 := Nat.xor_lt_two_pow (by omega) (by omega)
  show IntKind.i64.wrap ((BitVec.ofInt 64 (a : Int) ^^^ BitVec.ofInt 64 (b : Int)).toNat : Int) = _
  rw [BitVec.toNat_xor, ofInt_i64 a ha, ofInt_i64 b hb, IntKind.wrap_i64]
  omega

theorem pick_empty (R p : Nat) (n : Int) (a : Option Addr) (w : World) (hR : w.heap[R]? = some (.cells #[.slice a 0 0, .int .i64 p] 135 (0, 0))) (hp : p ≤ 1000000) (hn : 1 ≤ n) :
    Calls Try.prog 76 #[.pointer (some ⟨R, 0, none⟩), .int .i64 n] w fun e w' => e = .returned (.int .i64 0) ∧ ∃ m, w' = (w.setCell ⟨R, 1, none⟩ (.int .i64 (p + 1))).drewN m := by
  have c0 := two_fst hR
  have c1 := two_snd hR
  have f1 := two_free hR 1
  clear hR
  go_enter Try.func76, Try.ntmps76
  go_wp2_with fail
  go_ret
  exact ⟨rfl, 0, rfl⟩

theorem byte_rem {x n : Int} (h : 0 ≤ x) (hn : 1 ≤ n) : 0 ≤ x % n ∧ x % n < n := ⟨Int.emod_nonneg _ (by omega), Int.emod_lt_of_pos _ (by omega)⟩

theorem pick_byte (R p b off len cap : Nat) (z n : Int) (w : World) (hR : w.heap[R]? = some (.cells #[.slice (some ⟨b, off, none⟩) len cap, .int .i64 p] 135 (0, 0))) (hp : p ≤ 1000000) (hn : 1 ≤ n)
    (hb : b ≠ R) (hlt : p < len) (hl : len ≤ 2000) (hc : w.cell? ⟨b, off + p, none⟩ = some (.int .u8 z)) (hz0 : 0 ≤ z) (hz1 : z ≤ 255) :
    Calls Try.prog 76 #[.pointer (some ⟨R, 0, none⟩), .int .i64 n] w fun e w' => (∃ k : Int, e = .returned (.int .i64 k) ∧ 0 ≤ k ∧ k < n) ∧ ∃ m, w' = (w.setCell ⟨R, 1, none⟩ (.int .i64 (p + 1))).drewN m := by
  have c0 := two_fst hR
  have c1 := two_snd hR
  have f1 := two_free hR 1
  clear hR
  have hlt' : (p : Int) < (len : Int) := by omega
  have hl0 : ((len : Int) == 0) = false := by simp; omega
  have hcs : (w.setCell ⟨R, 1, none⟩ (.int .i64 (p + 1))).cell? ⟨b, off + p, none⟩ = some (.int .u8 z) := (World.cell?_setCell_other _ _ _ _ (by simp [hb])).trans hc
  clear hc
  go_enter Try.func76, Try.ntmps76
  go_wp2_with fail
  go_ret
  exact ⟨⟨_, rfl, byte_rem hz0 hn⟩, 0, rfl⟩

theorem xor_rem {E n : Int} (h0 : 0 ≤ E) (h1 : E ≤ 4611686018427387904) (hn : 1 ≤ n) : 0 ≤ (bits .xor .i64 E (E / 64)).tmod n ∧ (bits .xor .i64 E (E / 64)).tmod n < n := by
  obtain ⟨a, rfl⟩ : ∃ a : Nat, E = a := ⟨E.toNat, by omega⟩
  have e : ((a : Int) / 64) = ((a / 64 : Nat) : Int) := by omega
  rw [e, i64_xor_nat a (a / 64) (by omega) (by omega)]
  exact ⟨Int.tmod_nonneg _ (by omega), Int.tmod_lt_of_pos _ (by omega)⟩
theorem pick_none (R p b off cap : Nat) (n : Int) (w : World) (hR : w.heap[R]? = some (.cells #[.slice (some ⟨b, off, none⟩) 0 cap, .int .i64 p] 135 (0, 0))) (hp : p ≤ 1000000) (hn : 1 ≤ n) :
    Calls Try.prog 76 #[.pointer (some ⟨R, 0, none⟩), .int .i64 n] w fun e w' => e = .returned (.int .i64 0) ∧ ∃ m, w' = (w.setCell ⟨R, 1, none⟩ (.int .i64 (p + 1))).drewN m := by
  have c0 := two_fst hR
  have c1 := two_snd hR
  have f1 := two_free hR 1
  clear hR
  go_enter Try.func76, Try.ntmps76
  go_wp2_with fail
  go_ret
  exact ⟨rfl, 0, rfl⟩

theorem pick_past (R p b off len cap : Nat) (z z' n : Int) (w : World) (hR : w.heap[R]? = some (.cells #[.slice (some ⟨b, off, none⟩) len cap, .int .i64 p] 135 (0, 0))) (hp : p ≤ 1000000) (hn : 1 ≤ n)
    (hb : b ≠ R) (hlt : len ≤ p) (hl0 : 0 < len) (hl : len ≤ 2000) (hc : w.cell? ⟨b, off + p % len, none⟩ = some (.int .u8 z)) (hc' : w.cell? ⟨b, off + (p * 7 + 3) % len, none⟩ = some (.int .u8 z'))
    (hz0 : 0 ≤ z) (hz1 : z ≤ 255) (hz0' : 0 ≤ z') (hz1' : z' ≤ 255) :
    Calls Try.prog 76 #[.pointer (some ⟨R, 0, none⟩), .int .i64 n] w fun e w' => (∃ k : Int, e = .returned (.int .i64 k) ∧ 0 ≤ k ∧ k < n) ∧ ∃ m, w' = (w.setCell ⟨R, 1, none⟩ (.int .i64 (p + 1))).drewN m := by
  have c0 := two_fst hR
  have c1 := two_snd hR
  have f1 := two_free hR 1
  clear hR
  have hlt' : ¬ (p : Int) < (len : Int) := by omega
  have hle : ((len : Int) == 0) = false := by simp; omega
  have hl1 : (1 : Int) ≤ (len : Int) := by omega
  have m0 : (0 : Int) ≤ (p : Int) % (len : Int) := Int.emod_nonneg _ (by omega)
  have m1 : (p : Int) % (len : Int) < (len : Int) := Int.emod_lt_of_pos _ (by omega)
  have m2 : (0 : Int) ≤ ((p : Int) * 7 + 3) % (len : Int) := Int.emod_nonneg _ (by omega)
  have m3 : ((p : Int) * 7 + 3) % (len : Int) < (len : Int) := Int.emod_lt_of_pos _ (by omega)
  have q0 : (0 : Int) ≤ (p : Int) / (len : Int) := Int.ediv_nonneg (by omega) (by omega)
  have q1 : (p : Int) / (len : Int) ≤ 1000000 := by
    have := Int.ediv_le_self (b := (len : Int)) (show (0 : Int) ≤ (p : Int) by omega)
    omega
  have hcs : (w.setCell ⟨R, 1, none⟩ (.int .i64 (p + 1))).cell? ⟨b, off + p % len, none⟩ = some (.int .u8 z) := (World.cell?_setCell_other _ _ _ _ (by simp [hb])).trans hc
  have hcs' : (w.setCell ⟨R, 1, none⟩ (.int .i64 (p + 1))).cell? ⟨b, off + (p * 7 + 3) % len, none⟩ = some (.int .u8 z') := (World.cell?_setCell_other _ _ _ _ (by simp [hb])).trans hc'
  clear hc hc'
  go_enter Try.func76, Try.ntmps76
  go_wp2_with fail
  go_quiet (fail)
  go_wp2_with fail
  go_ret
  exact ⟨⟨_, rfl, xor_rem (by omega) (by omega) hn⟩, _, rfl⟩

/-- A pick of a number from 0 to n - 1: only the reader's own block turns. -/
theorem pick_any (R p : Nat) (n : Int) (w : World) (h : Rd w R p) (hp : p ≤ 1000000) (hn : 1 ≤ n) :
    Calls Try.prog 76 #[.pointer (some ⟨R, 0, none⟩), .int .i64 n] w (Picked w R (p + 1) n) := by
  have st := rd_step h
  obtain ⟨v, hR, hB⟩ := h
  rcases hB with ⟨a, rfl⟩ | ⟨b, off, len, cap, zs, rfl, hbw, hl, hc, hz⟩
  · refine (pick_empty R p n a w hR hp hn).mono ?_
    rintro e w' ⟨rfl, m, rfl⟩
    exact ⟨0, rfl, by omega, by omega, (st m).1, (st m).2⟩
  have hne : b ≠ R := by omega
  by_cases h0 : len = 0
  · subst h0
    have hR' : w.heap[R]? = some (.cells #[.slice (some ⟨b, off, none⟩) 0 cap, .int .i64 p] 135 (0, 0)) := hR
    refine (pick_none R p b off cap n w hR' hp hn).mono ?_
    rintro e w' ⟨rfl, m, rfl⟩
    exact ⟨0, rfl, by omega, by omega, (st m).1, (st m).2⟩
  by_cases hlt : p < len
  · refine (pick_byte R p b off len cap _ n w hR hp hn hne hlt hl (hc p hlt) (hz p).1 (hz p).2).mono ?_
    rintro e w' ⟨⟨k, rfl, k0, k1⟩, m, rfl⟩
    exact ⟨k, rfl, k0, k1, (st m).1, (st m).2⟩
  · refine (pick_past R p b off len cap _ _ n w hR hp hn hne (by omega) (by omega) hl (hc (p % len) (Nat.mod_lt _ (by omega))) (hc ((p * 7 + 3) % len) (Nat.mod_lt _ (by omega))) (hz _).1 (hz _).2 (hz _).1 (hz _).2).mono ?_
    rintro e w' ⟨⟨k, rfl, k0, k1⟩, m, rfl⟩
    exact ⟨k, rfl, k0, k1, (st m).1, (st m).2⟩

/-- What the opening of a code hands back: a reader in a new block. -/
def Opened (w : World) (e : Ending) (w' : World) : Prop :=
  e = .returned (.pointer (some ⟨w.heap.size, 0, none⟩)) ∧ Rd w' w.heap.size 0 ∧ Below w.heap.size w w'
theorem open_any (v : Value) (w : World) (h : CodeAt w v) : Calls Try.prog 67 #[v] w (Opened w) := by
  rcases h with ⟨a, rfl⟩ | ⟨b, off, len, cap, zs, rfl, hb, hlc, hcm, hlz, hc, hz⟩
  · go_enter Try.func67, Try.ntmps67
    go_wp2_with fail
    go_ret
    exact ⟨rfl, ⟨_, heap_alloc_last _ _, .inl ⟨a, rfl⟩⟩, (Below.refl _ _).alloc (Nat.le_refl _) _⟩
  · have hc' : ∀ i, i < len → ∀ o, (w.alloc o).cell? ⟨b, off + i, none⟩ = some (.int .u8 (zs.getD i 0)) := fun i hi o => by
      rw [World.cell?_alloc_past _ _ _ hb]; exact hc i hi
    unfold maxLen at hcm
    by_cases hl : len ≤ 2000
    · have hl' : ¬ (2000 : Int) < (len : Int) := by omega
      have C := fun i hi o => Lib.hid (hc' i hi o)
      clear hc hc'
      go_enter Try.func67, Try.ntmps67
      go_wp2_with fail
      go_ret
      exact ⟨rfl, ⟨_, heap_alloc_last _ _, .inr ⟨b, off, len, cap, zs, rfl, hb, hl, fun i hi => (C i hi _).out, hz⟩⟩, (Below.refl _ _).alloc (Nat.le_refl _) _⟩
    · have hl' : (2000 : Int) < (len : Int) := by omega
      have hlc' : (2000 : Int) ≤ (cap : Int) := by omega
      have C := fun i hi o => Lib.hid (hc' i hi o)
      clear hc hc'
      go_enter Try.func67, Try.ntmps67
      go_wp2_with fail
      go_ret
      exact ⟨rfl, ⟨_, heap_alloc_last _ _, .inr ⟨b, off, 2000, cap, zs, rfl, hb, by omega, fun i hi => (C i (by omega) _).out, hz⟩⟩, (Below.refl _ _).alloc (Nat.le_refl _) _⟩
end Go.Proofs.Ytdgbpdeimckbfaa
/- Three closed facts on the seat's program whose plain reckoning takes more memory than there is: they read the words of a long text letter by letter. Here the text is taken as a list first. -/
namespace Go.Proofs.Ytdgbpdeimckbfaa
open Go.ChangeShapes Go.WideShapes Go.ChangeAt Go.RowKit
set_option maxRecDepth 100000
set_option linter.unusedVariables false
set_option linter.unusedSimpArgs false

section
variable {P : Program} {rest : List (List Char)}
theorem make_of (hw : behindMainWord (wordsSigns P.initOrder.toList) = "cut".toList :: rest) : P.make = some .cut := by
  unfold Program.make
  rw [hw]
  rfl
theorem no_lifts : stripLifts liftWords ("cut".toList :: rest) = ([], "cut".toList :: rest) := by rfl
theorem lifts_of (hw : behindMainWord (wordsSigns P.initOrder.toList) = "cut".toList :: rest) : P.liftsFinal = false := by
  unfold Program.liftsFinal Program.headLifts
  rw [hw, no_lifts]
  cases rest <;> rfl
theorem may_of (hw : behindMainWord (wordsSigns P.initOrder.toList) = "cut".toList :: rest) (h1 : P.laysLater = false) (h2 : P.bearsReflect = false) (h3 : P.doorFits [] = true) : P.mayEnter = true := by
  unfold Program.mayEnter
  rw [hw]
  show (_ || _ || _) = true
  rw [no_lifts, h1, h2, h3]
  cases rest <;> rfl
end
def signs : { l : List Char // Try.prog.initOrder = String.ofList l } := ⟨_, rfl⟩
theorem signs_are : Try.prog.initOrder.toList = signs.1 := (congrArg String.toList signs.2).trans String.toList_ofList
theorem words_are : behindMainWord (wordsSigns Try.prog.initOrder.toList) = "cut".toList :: (behindMainWord (wordsSigns signs.1)).tail :=
  (congrArg (fun l => behindMainWord (wordsSigns l)) signs_are).trans (by kernel_rfl)
theorem make_is : Try.prog.make = some .cut := make_of words_are
theorem lifts_is : Try.prog.liftsFinal = false := lifts_of words_are
theorem lays_no : Try.prog.laysLater = false := by kernel_rfl
theorem bears_no : Try.prog.bearsReflect = false := by kernel_rfl
theorem door_yes : Try.prog.doorFits [] = true := by kernel_rfl
theorem may_is : Try.prog.mayEnter = true := may_of words_are lays_no bears_no door_yes
end Go.Proofs.Ytdgbpdeimckbfaa
