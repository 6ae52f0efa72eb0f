/-
  The laws' helpers on exact points: copying and comparing; and what both sides answer.
-/
import Derived.Test.YtjfljelpjgkmjaaCycV
import Derived.Test.YtjfljelpjgkmjaaCycF
import Derived.Deep.QuietTactic
import Derived.BigQuiet
namespace Go.Proofs.Ytjfljelpjgkmjaa
set_option maxRecDepth 20000
open Go.ChangeShapes Go.WideShapes Go.ChangeAt Go.RowKit
set_option linter.unusedVariables false
set_option linter.unusedSimpArgs false

theorem toInts_any (a : Nat → Int) (w : World) :
    Calls Try.prog 82 #[pt a] w fun e w' => e = .returned (pt a) ∧ Below w.heap.size w w' := by
  have sa := vec_size 8 a
  unfold pt at *
  go_enter Try.func82, Try.ntmps82
  go_upto_region 2 with fail
  show Code.wp _ _ _ _ ((box1 w a 23 23).alloc (.cells (vec 8 nul) 23))
  obtain ⟨hA, hO, hL⟩ := box1_facts w a 23 23
  have zE := hO.lt
  have hsz : (box1 w a 23 23).heap.size = w.heap.size + 1 + 1 := by simp [box1]
  have hA := hA.alloc (.cells (vec 8 nul) 23)
  have hO := hO.alloc (.cells (vec 8 nul) 23)
  have hL := hL.alloc (by omega) (.cells (vec 8 nul) 23)
  have hE : RowAt ((box1 w a 23 23).alloc (.cells (vec 8 nul) 23)) (w.heap.size + 1 + 1) 8 23 nul := RowAt.newAt rfl hsz
  clear zE hsz
  generalize (box1 w a 23 23).alloc (.cells (vec 8 nul) 23) = W at *
  go_wp2_with fail
  go_loopw [4] (fun i wr => ∃ k : Nat, k ≤ 8 ∧ i = .int .i64 k ∧ RowAt wr w.heap.size 8 23 a ∧ RowAt wr (w.heap.size + 1) 8 23 nul ∧ RowAt wr (w.heap.size + 1 + 1) 8 23 (mix k a nul) ∧ Below w.heap.size w wr) (fun i _ => 8 - (intOf i).toNat)
  case atStart => exact ⟨0, Nat.zero_le _, rfl, hA, hO, by rw [mix_zero]; exact hE, hL⟩
  case round =>
    clear hA hO hE hL
    obtain ⟨k, hk, rfl, hA, hO, hE, hL⟩ := hrel
    by_cases hlt : k < 8
    · have hlt' : (k : Int) < 8 := by omega
      have hk0 : (0 : Int) ≤ (k : Int) := by omega
      have cA := hA.cell hlt
      have cE := hE.cell hlt
      have fE := hE.free k
      rw [mix_at] at cE
      have hE2 := hE.set hlt (a k)
      rw [mix_step] at hE2
      have HE := Lib.hid hE2
      have HA := Lib.hid (hA.other ⟨w.heap.size + 1 + 1, k, none⟩ (.int .i64 (a k)) (by simp; try omega))
      have HO := Lib.hid (hO.other ⟨w.heap.size + 1 + 1, k, none⟩ (.int .i64 (a k)) (by simp; try omega))
      have HL := Lib.hid (hL.setCell (p := ⟨w.heap.size + 1 + 1, k, none⟩) (by simp; omega) (.int .i64 (a k)))
      clear hA hO hE hL hE2
      go_wp2_with fail
      go_roundw
      case rel => exact ⟨k + 1, by omega, by go_num, HA.out, HO.out, HE.out, HL.out⟩
      case measure => simp [intOf]; omega
    · obtain rfl : k = 8 := by omega
      have HE := Lib.hid hE; have HO := Lib.hid hO; have HL := Lib.hid hL
      clear hA hE hO hL
      go_wp2_with (first | (refine load_row rfl rfl rfl HE.out Try.underlying23 rfl info_arr8 ?_) | (refine store_row rfl rfl rfl rfl HO.out info_arr8 ?_))
      refine bodyPost_ret (results_row rfl rfl HO.out.setRow Try.underlying23 rfl info_arr8) rfl ?_
      exact ⟨by rw [vec_mix], below_setRow HL.out (by omega) _⟩

theorem toCyc_any (a : Nat → Int) (w : World) :
    Calls Try.prog 54 #[pt a] w fun e w' => e = .returned (pt a) ∧ Below w.heap.size w w' := by
  have sa := vec_size 8 a
  have P := fun w => toInts_any a w
  unfold pt at *
  go_enter Try.func54, Try.ntmps54
  go_upto_region 2 with fail
  show Code.wp _ _ _ _ ((box1 w a 42 25).alloc (.cells (vec 8 nul) 25))
  obtain ⟨hA, hO, hL⟩ := box1_facts w a 42 25
  have zE := hO.lt
  have hsz : (box1 w a 42 25).heap.size = w.heap.size + 1 + 1 := by simp [box1]
  have hA := hA.alloc (.cells (vec 8 nul) 25)
  have hO := hO.alloc (.cells (vec 8 nul) 25)
  have hL := hL.alloc (by omega) (.cells (vec 8 nul) 25)
  have hE : RowAt ((box1 w a 42 25).alloc (.cells (vec 8 nul) 25)) (w.heap.size + 1 + 1) 8 25 nul := RowAt.newAt rfl hsz
  clear zE hsz
  generalize (box1 w a 42 25).alloc (.cells (vec 8 nul) 25) = W at *
  go_wp2_with (refine load_row rfl rfl rfl hA Try.underlying23 rfl info_arr8 ?_)
  refine (P _).mono ?_; rintro e w2 ⟨rfl, hb2⟩
  have hO2 := hO.below hb2; have hE2 := hE.below hb2; have hL2 := below_next hL hb2
  clear hA hO hE hL hb2 P
  have HE := Lib.hid (hE2.setRow (f' := a))
  have HO := Lib.hid (hO2.rowOther (w.heap.size + 1 + 1) (vec 8 a) (by omega))
  have HL := Lib.hid (below_setRow hL2 (g := w.heap.size + 1 + 1) (by omega) (vec 8 a))
  clear hO2 hL2
  go_upto_region 3 with (refine store_row rfl rfl rfl rfl hE2 info_arr8 ?_)
  go_wp2_with (first | (refine load_row rfl rfl rfl HE.out Try.underlying25 rfl info_cyc ?_) | (refine store_row rfl rfl rfl rfl HO.out info_cyc ?_))
  refine bodyPost_ret (results_row rfl rfl HO.out.setRow Try.underlying25 rfl info_cyc) rfl ?_
  exact ⟨rfl, below_setRow HL.out (by omega) _⟩

theorem eqInts8_yes (a : Nat → Int) (w : World) :
    Calls Try.prog 83 #[pt a, pt a] w fun e w' => e = .returned (.bool true) ∧ Below w.heap.size w w' := by
  have sa := vec_size 8 a
  unfold pt at *
  go_enter Try.func83, Try.ntmps83
  go_upto_region 1 with fail
  show Code.wp _ _ _ _ (boxAB w a a 23)
  obtain ⟨hA, hB, hL, _⟩ := boxAB_facts w a a 23
  generalize boxAB w a a 23 = W at *
  go_wp2_with fail
  go_loopw [5] (fun i wr => ∃ k : Nat, k ≤ 8 ∧ i = .int .i64 k ∧ RowAt wr w.heap.size 8 23 a ∧ RowAt wr (w.heap.size + 1) 8 23 a ∧ Below w.heap.size w wr) (fun i _ => 8 - (intOf i).toNat)
  case atStart => exact ⟨0, Nat.zero_le _, rfl, hA, hB, hL⟩
  case round =>
    clear hA hB hL
    obtain ⟨k, hk, rfl, hA, hB, hL⟩ := hrel
    by_cases hlt : k < 8
    · have hlt' : (k : Int) < 8 := by omega
      have hk0 : (0 : Int) ≤ (k : Int) := by omega
      have cA := hA.cell hlt
      have cB := hB.cell hlt
      have HA := Lib.hid hA; have HB := Lib.hid hB; have HL := Lib.hid hL
      clear hA hB hL
      generalize a k = x at cA cB
      go_wp2_with fail
      go_quiet (fail)
      go_wp2_with fail
      go_roundw
      case rel => exact ⟨k + 1, by omega, by go_num, HA.out.drew _, HB.out.drew _, below_drewN HL.out _⟩
      case measure => simp [intOf]; omega
    · obtain rfl : k = 8 := by omega
      have HL := Lib.hid hL
      clear hA hB hL
      go_wp2_with fail
      go_ret
      exact ⟨rfl, HL.out⟩
theorem eqCyc_yes (a : Nat → Int) (w : World) :
    Calls Try.prog 55 #[pt a, pt a] w fun e w' => e = .returned (.bool true) ∧ Below w.heap.size w w' := by
  have sa := vec_size 8 a
  have P := fun w => eqInts8_yes a w
  unfold pt at *
  go_enter Try.func55, Try.ntmps55
  go_upto_region 1 with fail
  show Code.wp _ _ _ _ (boxAB w a a 25)
  obtain ⟨hA, hB, hL, _⟩ := boxAB_facts w a a 25
  generalize boxAB w a a 25 = W at *
  go_wp2_with (first | (refine load_row rfl rfl rfl hA Try.underlying23 rfl info_arr8 ?_) | (refine load_row rfl rfl rfl hB Try.underlying23 rfl info_arr8 ?_))
  refine (P _).mono ?_; rintro e w2 ⟨rfl, hb2⟩
  have hL2 := below_next hL hb2
  clear hA hB hL hb2 P
  go_wp2_with fail
  go_ret
  exact ⟨rfl, hL2⟩

theorem both_CycAdd (a b : Nat → Int) : ∃ c v, (∀ w, Calls Try.prog 36 #[.agg (vec 8 a), .agg (vec 8 b)] w fun e w' => e = .returned (.tuple #[.agg (vec 8 c), .bool v]) ∧ Below w.heap.size w w') ∧
    (∀ w, Calls Try.prog 28 #[.agg (vec 8 a), .agg (vec 8 b)] w fun e w' => e = .returned (.tuple #[.agg (vec 8 c), .bool v]) ∧ Below w.heap.size w w') := ⟨_, _, fun w => specAdd_any a b w, fun w => CycAdd_any a b w⟩
theorem both_CycLess (a b : Nat → Int) : ∃ c v, (∀ w, Calls Try.prog 39 #[.agg (vec 8 a), .agg (vec 8 b)] w fun e w' => e = .returned (.tuple #[.agg (vec 8 c), .bool v]) ∧ Below w.heap.size w w') ∧
    (∀ w, Calls Try.prog 37 #[.agg (vec 8 a), .agg (vec 8 b)] w fun e w' => e = .returned (.tuple #[.agg (vec 8 c), .bool v]) ∧ Below w.heap.size w w') := ⟨_, _, fun w => specLess_any a b w, fun w => CycLess_any a b w⟩
theorem both_CycTimes (a b : Nat → Int) : ∃ c v, (∀ w, Calls Try.prog 41 #[.agg (vec 8 a), .agg (vec 8 b)] w fun e w' => e = .returned (.tuple #[.agg (vec 8 c), .bool v]) ∧ Below w.heap.size w w') ∧
    (∀ w, Calls Try.prog 33 #[.agg (vec 8 a), .agg (vec 8 b)] w fun e w' => e = .returned (.tuple #[.agg (vec 8 c), .bool v]) ∧ Below w.heap.size w w') := ⟨_, _, fun w => specProd_any a b w, fun w => CycTimes_any a b w⟩
theorem both_CycMirror (a : Nat → Int) : ∃ c v, (∀ w, Calls Try.prog 45 #[.agg (vec 8 a)] w fun e w' => e = .returned (.tuple #[.agg (vec 8 c), .bool v]) ∧ Below w.heap.size w w') ∧
    (∀ w, Calls Try.prog 32 #[.agg (vec 8 a)] w fun e w' => e = .returned (.tuple #[.agg (vec 8 c), .bool v]) ∧ Below w.heap.size w w') := by
  cases va : okc a
  · exact ⟨_, _, fun w => specCycMirror_no a va w, fun w => CycMirror_no a va w⟩
  · exact ⟨_, _, fun w => specCycMirror_yes a va w, fun w => CycMirror_yes a va w⟩
theorem both_CycTurned (a : Nat → Int) (t : Int) : ∃ c v, (∀ w, Calls Try.prog 43 #[.agg (vec 8 a), .int .i64 t] w fun e w' => e = .returned (.tuple #[.agg (vec 8 c), .bool v]) ∧ Below w.heap.size w w') ∧
    (∀ w, Calls Try.prog 34 #[.agg (vec 8 a), .int .i64 t] w fun e w' => e = .returned (.tuple #[.agg (vec 8 c), .bool v]) ∧ Below w.heap.size w w') := by
  cases va : okc a
  · exact ⟨_, _, fun w => specCycTurned_no1 a t va w, fun w => CycTurned_no1 a t va w⟩
  · by_cases ht : t < 0 ∨ 23 < t
    · exact ⟨_, _, fun w => specCycTurned_no2 a t va ht w, fun w => CycTurned_no2 a t va ht w⟩
    · obtain ⟨n, rfl⟩ : ∃ n : Nat, t = n := ⟨t.toNat, by omega⟩
      exact ⟨_, _, fun w => specCycTurned_yes a n va (by omega) w, fun w => CycTurned_yes a n va (by omega) w⟩
theorem both_CycScale (a : Nat → Int) (n : Int) : ∃ c v, (∀ w, Calls Try.prog 48 #[.agg (vec 8 a), .int .i64 n] w fun e w' => e = .returned (.tuple #[.agg (vec 8 c), .bool v]) ∧ Below w.heap.size w w') ∧
    (∀ w, Calls Try.prog 27 #[.agg (vec 8 a), .int .i64 n] w fun e w' => e = .returned (.tuple #[.agg (vec 8 c), .bool v]) ∧ Below w.heap.size w w') := by
  cases va : okc a
  · exact ⟨_, _, fun w => specCycScale_no1 a n va w, fun w => CycScale_no1 a n va w⟩
  · by_cases hn : -1000000 ≤ n ∧ n ≤ 1000000
    · exact ⟨_, _, fun w => specCycScale_yes a n va hn w, fun w => CycScale_yes a n va hn w⟩
    · exact ⟨_, _, fun w => specCycScale_no2 a n va hn w, fun w => CycScale_no2 a n va hn w⟩
theorem both_CycGauss (re im : Int) : ∃ c v, (∀ w, Calls Try.prog 51 #[.int .i64 re, .int .i64 im] w fun e w' => e = .returned (.tuple #[.agg (vec 8 c), .bool v]) ∧ Below w.heap.size w w') ∧
    (∀ w, Calls Try.prog 50 #[.int .i64 re, .int .i64 im] w fun e w' => e = .returned (.tuple #[.agg (vec 8 c), .bool v]) ∧ Below w.heap.size w w') := ⟨_, _, fun w => specGauss_any re im w, fun w => CycGauss_any re im w⟩
theorem both_CycRoot (t : Int) : ∃ c v, (∀ w, Calls Try.prog 31 #[.int .i64 t] w fun e w' => e = .returned (.tuple #[.agg (vec 8 c), .bool v]) ∧ Below w.heap.size w w') ∧
    (∀ w, Calls Try.prog 30 #[.int .i64 t] w fun e w' => e = .returned (.tuple #[.agg (vec 8 c), .bool v]) ∧ Below w.heap.size w w') := by
  by_cases ht : t < 0 ∨ 23 < t
  · exact ⟨_, _, fun w => specRoot_no t ht w, fun w => CycRoot_no t ht w⟩
  · obtain ⟨n, rfl⟩ : ∃ n : Nat, t = n := ⟨t.toNat, by omega⟩
    have hok : okc (trn one n) = true := inR_okc fun j hj => by have := (root_facts n (by omega) j hj).1; omega
    have h := fun w => CycRoot_yes n (by omega) w
    rw [ans_yes hok] at h
    exact ⟨_, _, fun w => specRoot_yes n (by omega) w, h⟩
theorem both_CycReal (a : Nat → Int) : ∃ v, (∀ w, Calls Try.prog 53 #[.agg (vec 8 a)] w fun e w' => e = .returned (.bool v) ∧ Below w.heap.size w w') ∧
    (∀ w, Calls Try.prog 46 #[.agg (vec 8 a)] w fun e w' => e = .returned (.bool v) ∧ Below w.heap.size w w') := by
  cases va : okc a
  · exact ⟨_, fun w => specReal_no a va w, fun w => CycReal_no a va w⟩
  · exact ⟨_, fun w => specReal_yes a va w, fun w => CycReal_yes a va w⟩
theorem both_CycValid (a : Nat → Int) : ∃ v, (∀ w, Calls Try.prog 26 #[.agg (vec 8 a)] w fun e w' => e = .returned (.bool v) ∧ Below w.heap.size w w') ∧
    (∀ w, Calls Try.prog 25 #[.agg (vec 8 a)] w fun e w' => e = .returned (.bool v) ∧ Below w.heap.size w w') :=
  ⟨_, fun w => specValid_any a w, fun w => CycValid_any a w⟩
end Go.Proofs.Ytjfljelpjgkmjaa
