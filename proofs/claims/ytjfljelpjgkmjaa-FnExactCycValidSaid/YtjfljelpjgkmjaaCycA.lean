/-
  Contracts of impl's calculations with exact points.
-/
import Derived.Test.YtjfljelpjgkmjaaVec
import Derived.Test.YtjfljelpjgkmjaaTurn
import Derived.Deep.WholeRow
import Derived.Deep.RegionWith
import Derived.StillTailTactics
import Derived.Deep.Cut
namespace Go.Proofs.Ytjfljelpjgkmjaa
set_option maxRecDepth 20000
open Go.ChangeShapes Go.WideShapes Go.ChangeAt Go.RowKit
set_option linter.unusedVariables false
set_option linter.unusedSimpArgs false

theorem info_exact : (Try.prog.info? 54).map (·.size) = some 8 := by kernel_rfl
theorem zero8 : (#[.int .i64 0, .int .i64 0, .int .i64 0, .int .i64 0, .int .i64 0, .int .i64 0, .int .i64 0, .int .i64 0] : Array Value) = vec 8 (fun _ => 0) := rfl

theorem plus_any (a b : Nat → Int) (ha : ∀ j, j < 8 → -2000000 ≤ a j ∧ a j ≤ 2000000) (hb : ∀ j, j < 8 → -2000000 ≤ b j ∧ b j ≤ 2000000) (w : World) :
    Calls Try.prog 64 #[pt a, pt b] w fun e w' => e = .returned (pt (add a b)) ∧ Below w.heap.size w w' := by
  unfold pt
  have sa := vec_size 8 a
  have sb := vec_size 8 b
  go_enter Try.func64, Try.ntmps64
  go_wp2_with fail
  go_loopw [5, 6] (fun _ i wr => ∃ k : Nat, k ≤ 8 ∧ i = .int .i64 k ∧ RowAt wr w.heap.size 8 54 (mix k (add a b) a) ∧ RowAt wr (w.heap.size + 1) 8 54 b ∧ RowAt wr (w.heap.size + 1 + 1) 8 54 (fun _ => 0) ∧ Below w.heap.size w wr) (fun _ i _ => 8 - (intOf i).toNat)
  case atStart => exact ⟨0, Nat.zero_le _, rfl, by rw [mix_zero]; exact ((RowAt.newAt rfl rfl).alloc _).alloc _, (RowAt.newAt rfl (by simp)).alloc _, RowAt.newAt zero8 (by simp), (((Below.refl _ _).alloc (Nat.le_refl _) _).alloc (by simp) _).alloc (by simp; omega) _⟩
  case round =>
    obtain ⟨k, hk, rfl, hA, hB, hO, hbel⟩ := hrel
    by_cases hlt : k < 8
    · have cA := hA.cell hlt
      have fA := hA.free k
      have cB := hB.cell hlt
      rw [mix_at] at cA
      have hlt' : (k : Int) < 8 := by omega
      have hk0 : (0 : Int) ≤ (k : Int) := by omega
      have b1 := ha k hlt
      have b2 := hb k hlt
      have hA2 := hA.set hlt (add a b k)
      rw [mix_step] at hA2
      have HA := Lib.hid hA2
      have HB := Lib.hid (hB.other ⟨w.heap.size, k, none⟩ (.int .i64 (a k + b k)) (by simp))
      have HO := Lib.hid (hO.other ⟨w.heap.size, k, none⟩ (.int .i64 (a k + b k)) (by simp; try omega))
      have HL := Lib.hid ((hbel.setCell (p := ⟨w.heap.size, k, none⟩) (Nat.le_refl _) (.int .i64 (a k + b k))))
      clear hA hA2 hB hO hbel
      go_wp2_with fail
      go_still_tail 8, (by kernel_rfl)
      go_wp2_with fail
      go_roundw
      case rel => exact ⟨k + 1, by omega, by go_num, HA.out, HB.out, HO.out, HL.out.drew⟩
      case measure => simp [intOf]; omega
    · obtain rfl : k = 8 := by omega
      have HA := Lib.hid hA; have HO := Lib.hid hO; have HL := Lib.hid hbel
      clear hA hB hO hbel
      go_wp2_with (first | (refine load_row rfl rfl rfl HA.out Try.underlying54 rfl info_exact ?_) | (refine store_row rfl rfl rfl rfl HO.out info_exact ?_))
      refine bodyPost_ret (results_row rfl rfl HO.out.setRow Try.underlying54 rfl info_exact) rfl ?_
      exact ⟨by rw [vec_mix], below_setRow HL.out (by omega) _⟩

theorem info_cyc : (Try.prog.info? 25).map (·.size) = some 8 := by kernel_rfl
theorem info_arr8 : (Try.prog.info? 23).map (·.size) = some 8 := by kernel_rfl
theorem info_powers : (Try.prog.info? 81).map (·.size) = some 24 := by kernel_rfl
theorem zero24 : (#[.int .i64 0, .int .i64 0, .int .i64 0, .int .i64 0, .int .i64 0, .int .i64 0, .int .i64 0, .int .i64 0, .int .i64 0, .int .i64 0, .int .i64 0, .int .i64 0, .int .i64 0, .int .i64 0, .int .i64 0, .int .i64 0, .int .i64 0, .int .i64 0, .int .i64 0, .int .i64 0, .int .i64 0, .int .i64 0, .int .i64 0, .int .i64 0] : Array Value) = vec 24 nul := rfl
theorem key_i64 : Try.prog.plainKey 2 = true := by kernel_rfl
theorem key_int : Try.prog.plainKey 3 = true := by kernel_rfl
theorem cells_i64 : Try.prog.cellsOf 2 = 1 := by kernel_rfl
theorem cells_int : Try.prog.cellsOf 3 = 1 := by kernel_rfl
theorem some_i64 : (Try.prog.info? 2).isSome = true := by kernel_rfl
theorem some_int : (Try.prog.info? 3).isSome = true := by kernel_rfl
theorem some_arr8 : (Try.prog.info? 23).isSome = true := by kernel_rfl
theorem cells_arr8 : Try.prog.cellsOf 23 = 8 := by kernel_rfl
theorem index_exact {k : Nat} (a : Nat → Int) (hk : k < 8) (w : World) : (Instr.index 54 (.agg (vec 8 a)) (.int .i64 k)).run Try.prog w = .ok (.int .i64 (a k)) w := by
  obtain ⟨i, hi⟩ := Option.isSome_iff_exists.1 some_i64
  exact run_index_vec Try.underlying54 hi cells_i64 key_i64 hk w
theorem index_arr8 {k : Nat} (a : Nat → Int) (hk : k < 8) (w : World) : (Instr.index 23 (.agg (vec 8 a)) (.int .i64 k)).run Try.prog w = .ok (.int .i64 (a k)) w := by
  obtain ⟨i, hi⟩ := Option.isSome_iff_exists.1 some_int
  exact run_index_vec Try.underlying23 hi cells_int key_int hk w
theorem equal_exact (a b : Nat → Int) (w : World) : (Op.equalIn 10000 54 (.agg (vec 8 a)) (.agg (vec 8 b))).run Try.prog w = .ok (eqv 8 a b) w := by
  obtain ⟨i, hi⟩ := Option.isSome_iff_exists.1 some_i64
  exact equal_vec (d := 9998) Try.underlying54 hi cells_i64 Try.underlying2 key_i64 w
theorem equal_cyc (a b : Nat → Int) (w : World) : (Op.equalIn 10000 25 (.agg (vec 8 a)) (.agg (vec 8 b))).run Try.prog w = .ok (eqv 8 a b) w := by
  obtain ⟨i, hi⟩ := Option.isSome_iff_exists.1 some_int
  obtain ⟨j, hj⟩ := Option.isSome_iff_exists.1 some_arr8
  exact equal_one (d := 9997) Try.underlying25 (by kernel_rfl) (fun d xs ys => by unfold Op.eqFields; exact if_pos (by decide)) rfl rfl Try.underlying23 hj cells_arr8 hi cells_int Try.underlying3 key_int w

theorem coefIn_yes (c : Int) (h0 : -1000000 ≤ c) (h1 : c ≤ 1000000) (w : World) :
    Calls Try.prog 60 #[.int .i64 c] w fun e w' => e = .returned (.bool true) ∧ w = w' := by
  go_enter Try.func60, Try.ntmps60
  go_wp2
  go_ret
  exact ⟨by first | rfl | exact ret_bool (decide_eq_true (by omega)), rfl⟩
theorem coefIn_no (c : Int) (h : ¬ (-1000000 ≤ c ∧ c ≤ 1000000)) (w : World) :
    Calls Try.prog 60 #[.int .i64 c] w fun e w' => e = .returned (.bool false) ∧ w = w' := by
  by_cases h0 : -1000000 ≤ c
  · have h1 : ¬ c ≤ 1000000 := fun h' => h ⟨h0, h'⟩
    clear h
    go_enter Try.func60, Try.ntmps60
    go_wp2
    go_ret
    exact ⟨by first | rfl | exact ret_bool (decide_eq_false (by omega)), rfl⟩
  · clear h
    go_enter Try.func60, Try.ntmps60
    go_wp2
    go_ret
    exact ⟨rfl, rfl⟩

set_option maxHeartbeats 400000 in
theorem exactOf_any (a : Nat → Int) (w : World) :
    Calls Try.prog 58 #[pt a] w fun e w' => e = .returned (ans true a) ∧ Below w.heap.size w w' := by
  have sa := vec_size 8 a
  unfold pt
  go_enter Try.func58, Try.ntmps58
  go_wp2_with (refine load_row rfl rfl rfl (((RowAt.newAt rfl rfl).alloc _).alloc _) Try.underlying23 rfl info_arr8 ?_)
  go_loopw [5, 6, 9] (fun _ _ i wr => ∃ k : Nat, k ≤ 8 ∧ i = .int .i64 k ∧ (∀ j, j < k → -1000000 ≤ a j ∧ a j ≤ 1000000) ∧ RowAt wr (w.heap.size + 1) 8 54 nul ∧ RowAt wr (w.heap.size + 1 + 1) 8 54 (mix k a nul) ∧ Below w.heap.size w wr) (fun _ _ i _ => 8 - (intOf i).toNat)
  case atStart => exact ⟨0, Nat.zero_le _, rfl, fun j hj => absurd hj (by omega), (RowAt.newAt zero8 (by simp)).alloc _, by rw [mix_zero]; exact RowAt.newAt zero8 (by simp), (((Below.refl _ _).alloc (Nat.le_refl _) _).alloc (by simp) _).alloc (by simp; omega) _⟩
  case round =>
    obtain ⟨k, hk, rfl, hin, hO, hA, hbel⟩ := hrel
    by_cases hlt : k < 8
    · have ix := fun w => index_arr8 a hlt w
      have hlt' : (k : Int) < 8 := by omega
      have hk0 : (0 : Int) ≤ (k : Int) := by omega
      have hA2 := hA.set hlt (a k)
      rw [mix_step] at hA2
      have cA := hA.cell hlt
      have fA := hA.free k
      have HA := Lib.hid hA2
      have HO' := Lib.hid (hO.other ⟨w.heap.size + 1 + 1, k, none⟩ (.int .i64 (a k)) (by simp))
      have HO := Lib.hid hO
      have HL' := Lib.hid ((hbel.setCell (p := ⟨w.heap.size + 1 + 1, k, none⟩) (by simp; omega) (.int .i64 (a k))))
      have HL := Lib.hid hbel
      have HI := Lib.hid hin
      clear hA hA2 hO hbel hin
      by_cases hc : -1000000 ≤ a k ∧ a k ≤ 1000000
      · have C := fun w => coefIn_yes (a k) hc.1 hc.2 w
        go_wp2_with fail
        refine (C _).mono ?_; rintro e w' ⟨rfl, rfl⟩
        clear C
        go_wp2_with fail
        go_roundw
        case rel => exact ⟨k + 1, by omega, by go_num, upto_succ HI.out hc, HO'.out, HA.out, HL'.out⟩
        case measure => simp [intOf]; omega
      · have C := fun w => coefIn_no (a k) hc w
        go_wp2_with fail
        refine (C _).mono ?_; rintro e w' ⟨rfl, rfl⟩
        clear C
        go_wp2_with (refine store_row rfl rfl rfl (show _ = Value.agg (vec 8 nul) from rfl) HO.out info_exact ?_)
        refine bodyPost_ret (results_row_tmp rfl rfl HO.out.setRow Try.underlying54 rfl info_exact) rfl ?_
        exact ⟨by rw [ans_bad (okc_not hlt hc)]; rfl, below_setRow HL.out (by omega) _⟩
    · obtain rfl : k = 8 := by omega
      have HA := Lib.hid hA; have HO := Lib.hid hO; have HL := Lib.hid hbel; have HI := Lib.hid hin
      clear hA hO hbel hin
      go_wp2_with (first | (refine load_row rfl rfl rfl HA.out Try.underlying54 rfl info_exact ?_) | (refine store_row rfl rfl rfl rfl HO.out info_exact ?_))
      refine bodyPost_ret (results_row_tmp rfl rfl HO.out.setRow Try.underlying54 rfl info_exact) rfl ?_
      exact ⟨by rw [vec_mix, ans_yes (inR_okc HI.out)]; rfl, below_setRow HL.out (by omega) _⟩

set_option maxHeartbeats 400000 in
theorem valid_any (a : Nat → Int) (w : World) :
    Calls Try.prog 84 #[pt a] w fun e w' => e = .returned (.bool (okc a)) ∧ Below w.heap.size w w' := by
  have sa := vec_size 8 a
  unfold pt
  go_enter Try.func84, Try.ntmps84
  go_wp2_with (refine load_row rfl rfl rfl (RowAt.newAt rfl rfl) Try.underlying54 rfl info_exact ?_)
  go_loopw [4, 6] (fun _ i wr => ∃ k : Nat, k ≤ 8 ∧ i = .int .i64 k ∧ (∀ j, j < k → -1000000 ≤ a j ∧ a j ≤ 1000000) ∧ Below w.heap.size w wr) (fun _ i _ => 8 - (intOf i).toNat)
  case atStart => exact ⟨0, Nat.zero_le _, rfl, fun j hj => absurd hj (by omega), (Below.refl _ _).alloc (Nat.le_refl _) _⟩
  case round =>
    obtain ⟨k, hk, rfl, hin, hbel⟩ := hrel
    by_cases hlt : k < 8
    · have ix := fun w => index_exact a hlt w
      have hlt' : (k : Int) < 8 := by omega
      have hk0 : (0 : Int) ≤ (k : Int) := by omega
      have HL := Lib.hid hbel
      have HI := Lib.hid hin
      clear hbel hin
      by_cases hc : -1000000 ≤ a k ∧ a k ≤ 1000000
      · have C := fun w => coefIn_yes (a k) hc.1 hc.2 w
        go_wp2_with fail
        refine (C _).mono ?_; rintro e w' ⟨rfl, rfl⟩
        clear C
        go_wp2_with fail
        go_roundw
        case rel => exact ⟨k + 1, by omega, by go_num, upto_succ HI.out hc, HL.out⟩
        case measure => simp [intOf]; omega
      · have C := fun w => coefIn_no (a k) hc w
        go_wp2_with fail
        refine (C _).mono ?_; rintro e w' ⟨rfl, rfl⟩
        clear C
        go_wp2_with fail
        go_ret
        exact ⟨by rw [okc_not hlt hc]; rfl, HL.out⟩
    · obtain rfl : k = 8 := by omega
      have HL := Lib.hid hbel; have HI := Lib.hid hin
      clear hbel hin
      go_wp2_with fail
      go_ret
      exact ⟨by rw [inR_okc HI.out]; rfl, HL.out⟩

set_option maxHeartbeats 800000 in
theorem told_any (a : Nat → Int) (w : World) :
    Calls Try.prog 62 #[pt a] w fun e w' => e = .returned (ans true a) ∧ Below w.heap.size w w' := by
  have sa := vec_size 8 a
  have V := fun w => valid_any a w
  unfold pt at *
  obtain ⟨hA, hO, hL⟩ := box1_facts w a 54 25
  cases hv : okc a
  · rw [hv] at V
    go_enter Try.func62, Try.ntmps62
    go_upto_region 1 with fail
    show Code.wp _ _ _ _ (box1 w a 54 25)
    generalize box1 w a 54 25 = W at *
    go_wp2_with (refine load_row (g := w.heap.size) rfl rfl rfl hA Try.underlying54 rfl info_exact ?_)
    refine (V _).mono ?_; rintro e w2 ⟨rfl, hb2⟩
    have hO2 := hO.below hb2
    have hL2 := below_next hL hb2
    clear V hA hO hL hb2
    go_wp2_with (refine store_row rfl rfl rfl (show _ = Value.agg (vec 8 nul) from rfl) hO2 info_cyc ?_)
    refine bodyPost_ret (results_row_tmp rfl rfl hO2.setRow Try.underlying25 rfl info_cyc) rfl ?_
    exact ⟨by rw [ans_bad hv]; rfl, below_setRow hL2 (by omega) _⟩
  · rw [hv] at V
    go_enter Try.func62, Try.ntmps62
    go_upto_region 1 with fail
    show Code.wp _ _ _ _ (box1 w a 54 25)
    generalize box1 w a 54 25 = W at *
    go_wp2_with (refine load_row (g := w.heap.size) rfl rfl rfl hA Try.underlying54 rfl info_exact ?_)
    refine (V _).mono ?_; rintro e w2 ⟨rfl, hb2⟩
    have hA2 := hA.below hb2
    have hO2 := hO.below hb2
    have hL2 := below_next hL hb2
    clear V hA hO hL hb2
    go_upto_region 4 with fail
    show Code.wp _ _ _ _ (w2.alloc (.cells (vec 8 nul) 25))
    have hC : RowAt (w2.alloc (.cells (vec 8 nul) 25)) w2.heap.size 8 25 (mix 0 a nul) := by rw [mix_zero]; exact RowAt.new w2 8 25 nul
    have hA3 := hA2.alloc (.cells (vec 8 nul) 25)
    have hO3 := hO2.alloc (.cells (vec 8 nul) 25)
    have hL3 := hL2.alloc hL2.size (.cells (vec 8 nul) 25)
    have hg : w.heap.size + 1 < w2.heap.size := hO2.lt
    clear hA2 hO2 hL2
    generalize w2.alloc (.cells (vec 8 nul) 25) = W3 at *
    generalize w2.heap.size = g at *
    go_wp2_with (refine load_row (g := w.heap.size) rfl rfl rfl hA3 Try.underlying54 rfl info_exact ?_)
    go_loopw [5, 6, 12] (fun _ _ i wr => ∃ k : Nat, k ≤ 8 ∧ i = .int .i64 k ∧ RowAt wr (w.heap.size + 1) 8 25 nul ∧ RowAt wr g 8 25 (mix k a nul) ∧ Below w.heap.size w wr) (fun _ _ i _ => 8 - (intOf i).toNat)
    case atStart => exact ⟨0, Nat.zero_le _, rfl, hO3, hC, hL3⟩
    case round =>
      clear hA3 hO3 hC hL3
      obtain ⟨k, hk, rfl, hO, hA, hbel⟩ := hrel
      by_cases hlt : k < 8
      · have ix := fun w => index_exact a hlt w
        have hlt' : (k : Int) < 8 := by omega
        have hk0 : (0 : Int) ≤ (k : Int) := by omega
        have hA2 := hA.set hlt (a k)
        rw [mix_step] at hA2
        have cA := hA.cell hlt
        have fA := hA.free k
        have HA := Lib.hid hA2
        have HO := Lib.hid (hO.other ⟨g, k, none⟩ (.int .i64 (a k)) (by simp; omega))
        have HL := Lib.hid ((hbel.setCell (p := ⟨g, k, none⟩) (by simp; omega) (.int .i64 (a k))))
        clear hA hA2 hO hbel
        go_wp2_with fail
        go_roundw
        case rel => exact ⟨k + 1, by omega, by go_num, HO.out, HA.out, HL.out⟩
        case measure => simp [intOf]; omega
      · obtain rfl : k = 8 := by omega
        have HA := Lib.hid hA; have HO := Lib.hid hO; have HL := Lib.hid hbel
        clear hA hO hbel
        go_wp2_with (first | (refine load_row (g := g) rfl rfl rfl HA.out Try.underlying25 rfl info_cyc ?_) | (refine store_row rfl rfl rfl rfl HO.out info_cyc ?_))
        refine bodyPost_ret (results_row_tmp rfl rfl HO.out.setRow Try.underlying25 rfl info_cyc) rfl ?_
        exact ⟨by rw [vec_mix, ans_yes hv]; rfl, below_setRow HL.out (by omega) _⟩
end Go.Proofs.Ytjfljelpjgkmjaa
