/-
  The laws' helpers on exact points: copying and comparing; and what both sides answer.
-/
import Derived.Test.YteicmnoafoekcaaCycV
import Derived.Test.YteicmnoafoekcaaCycF
import Derived.Deep.QuietTactic
import Derived.BigQuiet
namespace Go.Proofs.Yteicmnoafoekcaa
set_option maxRecDepth 20000
open Go.ChangeShapes Go.WideShapes Go.ChangeAt Go.RowKit
set_option linter.unusedVariables false
set_option linter.unusedSimpArgs false

theorem toInts_any (a : Nat → Int) (w : World) :
    Calls Try.prog 123 #[pt a] w fun e w' => e = .returned (pt a) ∧ Below w.heap.size w w' := by
  have sa := vec_size 8 a
  unfold pt at *
  go_enter Try.func123, Try.ntmps123
  go_upto_region 2 with fail
  show Code.wp _ _ _ _ ((box1 w a 30 30).alloc (.cells (vec 8 nul) 30))
  obtain ⟨hA, hO, hL⟩ := box1_facts w a 30 30
  have zE := hO.lt
  have hsz : (box1 w a 30 30).heap.size = w.heap.size + 1 + 1 := by simp [box1]
  have hA := hA.alloc (.cells (vec 8 nul) 30)
  have hO := hO.alloc (.cells (vec 8 nul) 30)
  have hL := hL.alloc (by omega) (.cells (vec 8 nul) 30)
  have hE : RowAt ((box1 w a 30 30).alloc (.cells (vec 8 nul) 30)) (w.heap.size + 1 + 1) 8 30 nul := RowAt.newAt rfl hsz
  clear zE hsz
  generalize (box1 w a 30 30).alloc (.cells (vec 8 nul) 30) = W at *
  go_wp2_with fail
  go_loopw [4] (fun i wr => ∃ k : Nat, k ≤ 8 ∧ i = .int .i64 k ∧ RowAt wr w.heap.size 8 30 a ∧ RowAt wr (w.heap.size + 1) 8 30 nul ∧ RowAt wr (w.heap.size + 1 + 1) 8 30 (mix k a nul) ∧ Below w.heap.size w wr) (fun i _ => 8 - (intOf i).toNat)
  case atStart => exact ⟨0, Nat.zero_le _, rfl, hA, hO, by rw [mix_zero]; exact hE, hL⟩
  case round =>
    clear hA hO hE hL
    obtain ⟨k, hk, rfl, hA, hO, hE, hL⟩ := hrel
    by_cases hlt : k < 8
    · have hlt' : (k : Int) < 8 := by omega
      have hk0 : (0 : Int) ≤ (k : Int) := by omega
      have cA := hA.cell hlt
      have cE := hE.cell hlt
      have fE := hE.free k
      rw [mix_at] at cE
      have hE2 := hE.set hlt (a k)
      rw [mix_step] at hE2
      have HE := Lib.hid hE2
      have HA := Lib.hid (hA.other ⟨w.heap.size + 1 + 1, k, none⟩ (.int .i64 (a k)) (by simp; try omega))
      have HO := Lib.hid (hO.other ⟨w.heap.size + 1 + 1, k, none⟩ (.int .i64 (a k)) (by simp; try omega))
      have HL := Lib.hid (hL.setCell (p := ⟨w.heap.size + 1 + 1, k, none⟩) (by simp; omega) (.int .i64 (a k)))
      clear hA hO hE hL hE2
      go_wp2_with fail
      go_roundw
      case rel => exact ⟨k + 1, by omega, by go_num, HA.out, HO.out, HE.out, HL.out⟩
      case measure => simp [intOf]; omega
    · obtain rfl : k = 8 := by omega
      have HE := Lib.hid hE; have HO := Lib.hid hO; have HL := Lib.hid hL
      clear hA hE hO hL
      go_wp2_with (first | (refine load_row rfl rfl rfl HE.out Try.underlying30 rfl info_arr8 ?_) | (refine store_row rfl rfl rfl rfl HO.out info_arr8 ?_))
      refine bodyPost_ret (results_row rfl rfl HO.out.setRow Try.underlying30 rfl info_arr8) rfl ?_
      exact ⟨by rw [vec_mix], below_setRow HL.out (by omega) _⟩

theorem toCyc_any (a : Nat → Int) (w : World) :
    Calls Try.prog 113 #[pt a] w fun e w' => e = .returned (pt a) ∧ Below w.heap.size w w' := by
  have sa := vec_size 8 a
  have P := fun w => toInts_any a w
  unfold pt at *
  go_enter Try.func113, Try.ntmps113
  go_upto_region 2 with fail
  show Code.wp _ _ _ _ ((box1 w a 90 32).alloc (.cells (vec 8 nul) 32))
  obtain ⟨hA, hO, hL⟩ := box1_facts w a 90 32
  have zE := hO.lt
  have hsz : (box1 w a 90 32).heap.size = w.heap.size + 1 + 1 := by simp [box1]
  have hA := hA.alloc (.cells (vec 8 nul) 32)
  have hO := hO.alloc (.cells (vec 8 nul) 32)
  have hL := hL.alloc (by omega) (.cells (vec 8 nul) 32)
  have hE : RowAt ((box1 w a 90 32).alloc (.cells (vec 8 nul) 32)) (w.heap.size + 1 + 1) 8 32 nul := RowAt.newAt rfl hsz
  clear zE hsz
  generalize (box1 w a 90 32).alloc (.cells (vec 8 nul) 32) = W at *
  go_wp2_with (refine load_row rfl rfl rfl hA Try.underlying30 rfl info_arr8 ?_)
  refine (P _).mono ?_; rintro e w2 ⟨rfl, hb2⟩
  have hO2 := hO.below hb2; have hE2 := hE.below hb2; have hL2 := below_next hL hb2
  clear hA hO hE hL hb2 P
  have HE := Lib.hid (hE2.setRow (f' := a))
  have HO := Lib.hid (hO2.rowOther (w.heap.size + 1 + 1) (vec 8 a) (by omega))
  have HL := Lib.hid (below_setRow hL2 (g := w.heap.size + 1 + 1) (by omega) (vec 8 a))
  clear hO2 hL2
  go_upto_region 3 with (refine store_row rfl rfl rfl rfl hE2 info_arr8 ?_)
  go_wp2_with (first | (refine load_row rfl rfl rfl HE.out Try.underlying32 rfl info_cyc ?_) | (refine store_row rfl rfl rfl rfl HO.out info_cyc ?_))
  refine bodyPost_ret (results_row rfl rfl HO.out.setRow Try.underlying32 rfl info_cyc) rfl ?_
  exact ⟨rfl, below_setRow HL.out (by omega) _⟩

theorem eqInts8_yes (a : Nat → Int) (w : World) :
    Calls Try.prog 90 #[pt a, pt a] w fun e w' => e = .returned (.bool true) ∧ Below w.heap.size w w' := by
  have sa := vec_size 8 a
  unfold pt at *
  go_enter Try.func90, Try.ntmps90
  go_upto_region 1 with fail
  show Code.wp _ _ _ _ (boxAB w a a 30)
  obtain ⟨hA, hB, hL, _⟩ := boxAB_facts w a a 30
  generalize boxAB w a a 30 = W at *
  go_wp2_with fail
  go_loopw [5] (fun i wr => ∃ k : Nat, k ≤ 8 ∧ i = .int .i64 k ∧ RowAt wr w.heap.size 8 30 a ∧ RowAt wr (w.heap.size + 1) 8 30 a ∧ Below w.heap.size w wr) (fun i _ => 8 - (intOf i).toNat)
  case atStart => exact ⟨0, Nat.zero_le _, rfl, hA, hB, hL⟩
  case round =>
    clear hA hB hL
    obtain ⟨k, hk, rfl, hA, hB, hL⟩ := hrel
    by_cases hlt : k < 8
    · have hlt' : (k : Int) < 8 := by omega
      have hk0 : (0 : Int) ≤ (k : Int) := by omega
      have cA := hA.cell hlt
      have cB := hB.cell hlt
      have HA := Lib.hid hA; have HB := Lib.hid hB; have HL := Lib.hid hL
      clear hA hB hL
      generalize a k = x at cA cB
      go_wp2_with fail
      go_quiet (fail)
      go_wp2_with fail
      go_roundw
      case rel => exact ⟨k + 1, by omega, by go_num, HA.out.drew _, HB.out.drew _, below_drewN HL.out _⟩
      case measure => simp [intOf]; omega
    · obtain rfl : k = 8 := by omega
      have HL := Lib.hid hL
      clear hA hB hL
      go_wp2_with fail
      go_ret
      exact ⟨rfl, HL.out⟩
theorem eqCyc_yes (a : Nat → Int) (w : World) :
    Calls Try.prog 53 #[pt a, pt a] w fun e w' => e = .returned (.bool true) ∧ Below w.heap.size w w' := by
  have sa := vec_size 8 a
  have P := fun w => eqInts8_yes a w
  unfold pt at *
  go_enter Try.func53, Try.ntmps53
  go_upto_region 1 with fail
  show Code.wp _ _ _ _ (boxAB w a a 32)
  obtain ⟨hA, hB, hL, _⟩ := boxAB_facts w a a 32
  generalize boxAB w a a 32 = W at *
  go_wp2_with (first | (refine load_row rfl rfl rfl hA Try.underlying30 rfl info_arr8 ?_) | (refine load_row rfl rfl rfl hB Try.underlying30 rfl info_arr8 ?_))
  refine (P _).mono ?_; rintro e w2 ⟨rfl, hb2⟩
  have hL2 := below_next hL hb2
  clear hA hB hL hb2 P
  go_wp2_with fail
  go_ret
  exact ⟨rfl, hL2⟩

theorem both_CycTimes (a b : Nat → Int) : ∃ c v, (∀ w, Calls Try.prog 79 #[.agg (vec 8 a), .agg (vec 8 b)] w fun e w' => e = .returned (.tuple #[.agg (vec 8 c), .bool v]) ∧ Below w.heap.size w w') ∧
    (∀ w, Calls Try.prog 38 #[.agg (vec 8 a), .agg (vec 8 b)] w fun e w' => e = .returned (.tuple #[.agg (vec 8 c), .bool v]) ∧ Below w.heap.size w w') := ⟨_, _, fun w => specProd_any a b w, fun w => CycTimes_any a b w⟩
end Go.Proofs.Yteicmnoafoekcaa
