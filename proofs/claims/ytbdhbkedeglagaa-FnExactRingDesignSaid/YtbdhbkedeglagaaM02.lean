/-
  Contracts of impl's calculations with exact points.
  Contracts of spec's calculations with exact points.
  Contracts of spec's calculations with exact points, second part: turns, sums, products, mirrored points.
  Contracts of spec's mirrored points and of the functions of exact points that it gives.
-/
import Derived.Test.YtbdhbkedeglagaaM01
import Derived.Deep.WholeRow
import Derived.Deep.RegionWith
import Derived.StillTailTactics
import Derived.Deep.Cut
import Derived.Deep.RegionHeld3
import Derived.Deep.DeepCutAuto
/- Contracts of impl's calculations with exact points. -/
namespace Go.Proofs.Ytbdhbkedeglagaa
set_option maxRecDepth 20000
open Go.ChangeShapes Go.WideShapes Go.ChangeAt Go.RowKit
set_option linter.unusedVariables false
set_option linter.unusedSimpArgs false

theorem info_exact : (Try.prog.info? 74).map (·.size) = some 8 := by kernel_rfl
theorem zero8 : (#[.int .i64 0, .int .i64 0, .int .i64 0, .int .i64 0, .int .i64 0, .int .i64 0, .int .i64 0, .int .i64 0] : Array Value) = vec 8 (fun _ => 0) := rfl

theorem plus_any (a b : Nat → Int) (ha : ∀ j, j < 8 → -2000000 ≤ a j ∧ a j ≤ 2000000) (hb : ∀ j, j < 8 → -2000000 ≤ b j ∧ b j ≤ 2000000) (w : World) :
    Calls Try.prog 46 #[pt a, pt b] w fun e w' => e = .returned (pt (add a b)) ∧ Below w.heap.size w w' := by
  unfold pt
  have sa := vec_size 8 a
  have sb := vec_size 8 b
  go_enter Try.func46, Try.ntmps46
  go_wp2_with fail
  go_loopw [5, 6] (fun _ i wr => ∃ k : Nat, k ≤ 8 ∧ i = .int .i64 k ∧ RowAt wr w.heap.size 8 74 (mix k (add a b) a) ∧ RowAt wr (w.heap.size + 1) 8 74 b ∧ RowAt wr (w.heap.size + 1 + 1) 8 74 (fun _ => 0) ∧ Below w.heap.size w wr) (fun _ i _ => 8 - (intOf i).toNat)
  case atStart => exact ⟨0, Nat.zero_le _, rfl, by rw [mix_zero]; exact ((RowAt.newAt rfl rfl).alloc _).alloc _, (RowAt.newAt rfl (by simp)).alloc _, RowAt.newAt zero8 (by simp), (((Below.refl _ _).alloc (Nat.le_refl _) _).alloc (by simp) _).alloc (by simp; omega) _⟩
  case round =>
    obtain ⟨k, hk, rfl, hA, hB, hO, hbel⟩ := hrel
    by_cases hlt : k < 8
    · have cA := hA.cell hlt
      have fA := hA.free k
      have cB := hB.cell hlt
      rw [mix_at] at cA
      have hlt' : (k : Int) < 8 := by omega
      have hk0 : (0 : Int) ≤ (k : Int) := by omega
      have b1 := ha k hlt
      have b2 := hb k hlt
      have hA2 := hA.set hlt (add a b k)
      rw [mix_step] at hA2
      have HA := Lib.hid hA2
      have HB := Lib.hid (hB.other ⟨w.heap.size, k, none⟩ (.int .i64 (a k + b k)) (by simp))
      have HO := Lib.hid (hO.other ⟨w.heap.size, k, none⟩ (.int .i64 (a k + b k)) (by simp; try omega))
      have HL := Lib.hid ((hbel.setCell (p := ⟨w.heap.size, k, none⟩) (Nat.le_refl _) (.int .i64 (a k + b k))))
      clear hA hA2 hB hO hbel
      go_wp2_with fail
      go_still_tail 8, (by kernel_rfl)
      go_wp2_with fail
      go_roundw
      case rel => exact ⟨k + 1, by omega, by go_num, HA.out, HB.out, HO.out, HL.out.drew⟩
      case measure => simp [intOf]; omega
    · obtain rfl : k = 8 := by omega
      have HA := Lib.hid hA; have HO := Lib.hid hO; have HL := Lib.hid hbel
      clear hA hB hO hbel
      go_wp2_with (first | (refine load_row rfl rfl rfl HA.out Try.underlying74 rfl info_exact ?_) | (refine store_row rfl rfl rfl rfl HO.out info_exact ?_))
      refine bodyPost_ret (results_row rfl rfl HO.out.setRow Try.underlying74 rfl info_exact) rfl ?_
      exact ⟨by rw [vec_mix], below_setRow HL.out (by omega) _⟩

theorem info_cyc : (Try.prog.info? 36).map (·.size) = some 8 := by kernel_rfl
theorem info_arr8 : (Try.prog.info? 34).map (·.size) = some 8 := by kernel_rfl
theorem info_powers : (Try.prog.info? 116).map (·.size) = some 24 := by kernel_rfl
theorem zero24 : (#[.int .i64 0, .int .i64 0, .int .i64 0, .int .i64 0, .int .i64 0, .int .i64 0, .int .i64 0, .int .i64 0, .int .i64 0, .int .i64 0, .int .i64 0, .int .i64 0, .int .i64 0, .int .i64 0, .int .i64 0, .int .i64 0, .int .i64 0, .int .i64 0, .int .i64 0, .int .i64 0, .int .i64 0, .int .i64 0, .int .i64 0, .int .i64 0] : Array Value) = vec 24 nul := rfl
theorem key_i64 : Try.prog.plainKey 2 = true := by kernel_rfl
theorem key_int : Try.prog.plainKey 3 = true := by kernel_rfl
theorem cells_i64 : Try.prog.cellsOf 2 = 1 := by kernel_rfl
theorem cells_int : Try.prog.cellsOf 3 = 1 := by kernel_rfl
theorem some_i64 : (Try.prog.info? 2).isSome = true := by kernel_rfl
theorem some_int : (Try.prog.info? 3).isSome = true := by kernel_rfl
theorem some_arr8 : (Try.prog.info? 34).isSome = true := by kernel_rfl
theorem cells_arr8 : Try.prog.cellsOf 34 = 8 := by kernel_rfl
theorem index_exact {k : Nat} (a : Nat → Int) (hk : k < 8) (w : World) : (Instr.index 74 (.agg (vec 8 a)) (.int .i64 k)).run Try.prog w = .ok (.int .i64 (a k)) w := by
  obtain ⟨i, hi⟩ := Option.isSome_iff_exists.1 some_i64
  exact run_index_vec Try.underlying74 hi cells_i64 key_i64 hk w
theorem index_arr8 {k : Nat} (a : Nat → Int) (hk : k < 8) (w : World) : (Instr.index 34 (.agg (vec 8 a)) (.int .i64 k)).run Try.prog w = .ok (.int .i64 (a k)) w := by
  obtain ⟨i, hi⟩ := Option.isSome_iff_exists.1 some_int
  exact run_index_vec Try.underlying34 hi cells_int key_int hk w
theorem equal_exact (a b : Nat → Int) (w : World) : (Op.equalIn 10000 74 (.agg (vec 8 a)) (.agg (vec 8 b))).run Try.prog w = .ok (eqv 8 a b) w := by
  obtain ⟨i, hi⟩ := Option.isSome_iff_exists.1 some_i64
  exact equal_vec (d := 9998) Try.underlying74 hi cells_i64 Try.underlying2 key_i64 w
theorem equal_cyc (a b : Nat → Int) (w : World) : (Op.equalIn 10000 36 (.agg (vec 8 a)) (.agg (vec 8 b))).run Try.prog w = .ok (eqv 8 a b) w := by
  obtain ⟨i, hi⟩ := Option.isSome_iff_exists.1 some_int
  obtain ⟨j, hj⟩ := Option.isSome_iff_exists.1 some_arr8
  exact equal_one (d := 9997) Try.underlying36 (by kernel_rfl) (fun d xs ys => by unfold Op.eqFields; exact if_pos (by decide)) rfl rfl Try.underlying34 hj cells_arr8 hi cells_int Try.underlying3 key_int w

theorem coefIn_yes (c : Int) (h0 : -1000000 ≤ c) (h1 : c ≤ 1000000) (w : World) :
    Calls Try.prog 87 #[.int .i64 c] w fun e w' => e = .returned (.bool true) ∧ w = w' := by
  go_enter Try.func87, Try.ntmps87
  go_wp2
  go_ret
  exact ⟨by first | rfl | exact ret_bool (decide_eq_true (by omega)), rfl⟩
theorem coefIn_no (c : Int) (h : ¬ (-1000000 ≤ c ∧ c ≤ 1000000)) (w : World) :
    Calls Try.prog 87 #[.int .i64 c] w fun e w' => e = .returned (.bool false) ∧ w = w' := by
  by_cases h0 : -1000000 ≤ c
  · have h1 : ¬ c ≤ 1000000 := fun h' => h ⟨h0, h'⟩
    clear h
    go_enter Try.func87, Try.ntmps87
    go_wp2
    go_ret
    exact ⟨by first | rfl | exact ret_bool (decide_eq_false (by omega)), rfl⟩
  · clear h
    go_enter Try.func87, Try.ntmps87
    go_wp2
    go_ret
    exact ⟨rfl, rfl⟩

set_option maxHeartbeats 400000 in
theorem exactOf_any (a : Nat → Int) (w : World) :
    Calls Try.prog 68 #[pt a] w fun e w' => e = .returned (ans true a) ∧ Below w.heap.size w w' := by
  have sa := vec_size 8 a
  unfold pt
  go_enter Try.func68, Try.ntmps68
  go_wp2_with (refine load_row rfl rfl rfl (((RowAt.newAt rfl rfl).alloc _).alloc _) Try.underlying34 rfl info_arr8 ?_)
  go_loopw [5, 6, 9] (fun _ _ i wr => ∃ k : Nat, k ≤ 8 ∧ i = .int .i64 k ∧ (∀ j, j < k → -1000000 ≤ a j ∧ a j ≤ 1000000) ∧ RowAt wr (w.heap.size + 1) 8 74 nul ∧ RowAt wr (w.heap.size + 1 + 1) 8 74 (mix k a nul) ∧ Below w.heap.size w wr) (fun _ _ i _ => 8 - (intOf i).toNat)
  case atStart => exact ⟨0, Nat.zero_le _, rfl, fun j hj => absurd hj (by omega), (RowAt.newAt zero8 (by simp)).alloc _, by rw [mix_zero]; exact RowAt.newAt zero8 (by simp), (((Below.refl _ _).alloc (Nat.le_refl _) _).alloc (by simp) _).alloc (by simp; omega) _⟩
  case round =>
    obtain ⟨k, hk, rfl, hin, hO, hA, hbel⟩ := hrel
    by_cases hlt : k < 8
    · have ix := fun w => index_arr8 a hlt w
      have hlt' : (k : Int) < 8 := by omega
      have hk0 : (0 : Int) ≤ (k : Int) := by omega
      have hA2 := hA.set hlt (a k)
      rw [mix_step] at hA2
      have cA := hA.cell hlt
      have fA := hA.free k
      have HA := Lib.hid hA2
      have HO' := Lib.hid (hO.other ⟨w.heap.size + 1 + 1, k, none⟩ (.int .i64 (a k)) (by simp))
      have HO := Lib.hid hO
      have HL' := Lib.hid ((hbel.setCell (p := ⟨w.heap.size + 1 + 1, k, none⟩) (by simp; omega) (.int .i64 (a k))))
      have HL := Lib.hid hbel
      have HI := Lib.hid hin
      clear hA hA2 hO hbel hin
      by_cases hc : -1000000 ≤ a k ∧ a k ≤ 1000000
      · have C := fun w => coefIn_yes (a k) hc.1 hc.2 w
        go_wp2_with fail
        refine (C _).mono ?_; rintro e w' ⟨rfl, rfl⟩
        clear C
        go_wp2_with fail
        go_roundw
        case rel => exact ⟨k + 1, by omega, by go_num, upto_succ HI.out hc, HO'.out, HA.out, HL'.out⟩
        case measure => simp [intOf]; omega
      · have C := fun w => coefIn_no (a k) hc w
        go_wp2_with fail
        refine (C _).mono ?_; rintro e w' ⟨rfl, rfl⟩
        clear C
        go_wp2_with (refine store_row rfl rfl rfl (show _ = Value.agg (vec 8 nul) from rfl) HO.out info_exact ?_)
        refine bodyPost_ret (results_row_tmp rfl rfl HO.out.setRow Try.underlying74 rfl info_exact) rfl ?_
        exact ⟨by rw [ans_bad (okc_not hlt hc)]; rfl, below_setRow HL.out (by omega) _⟩
    · obtain rfl : k = 8 := by omega
      have HA := Lib.hid hA; have HO := Lib.hid hO; have HL := Lib.hid hbel; have HI := Lib.hid hin
      clear hA hO hbel hin
      go_wp2_with (first | (refine load_row rfl rfl rfl HA.out Try.underlying74 rfl info_exact ?_) | (refine store_row rfl rfl rfl rfl HO.out info_exact ?_))
      refine bodyPost_ret (results_row_tmp rfl rfl HO.out.setRow Try.underlying74 rfl info_exact) rfl ?_
      exact ⟨by rw [vec_mix, ans_yes (inR_okc HI.out)]; rfl, below_setRow HL.out (by omega) _⟩

set_option maxHeartbeats 400000 in
theorem valid_any (a : Nat → Int) (w : World) :
    Calls Try.prog 72 #[pt a] w fun e w' => e = .returned (.bool (okc a)) ∧ Below w.heap.size w w' := by
  have sa := vec_size 8 a
  unfold pt
  go_enter Try.func72, Try.ntmps72
  go_wp2_with (refine load_row rfl rfl rfl (RowAt.newAt rfl rfl) Try.underlying74 rfl info_exact ?_)
  go_loopw [4, 6] (fun _ i wr => ∃ k : Nat, k ≤ 8 ∧ i = .int .i64 k ∧ (∀ j, j < k → -1000000 ≤ a j ∧ a j ≤ 1000000) ∧ Below w.heap.size w wr) (fun _ i _ => 8 - (intOf i).toNat)
  case atStart => exact ⟨0, Nat.zero_le _, rfl, fun j hj => absurd hj (by omega), (Below.refl _ _).alloc (Nat.le_refl _) _⟩
  case round =>
    obtain ⟨k, hk, rfl, hin, hbel⟩ := hrel
    by_cases hlt : k < 8
    · have ix := fun w => index_exact a hlt w
      have hlt' : (k : Int) < 8 := by omega
      have hk0 : (0 : Int) ≤ (k : Int) := by omega
      have HL := Lib.hid hbel
      have HI := Lib.hid hin
      clear hbel hin
      by_cases hc : -1000000 ≤ a k ∧ a k ≤ 1000000
      · have C := fun w => coefIn_yes (a k) hc.1 hc.2 w
        go_wp2_with fail
        refine (C _).mono ?_; rintro e w' ⟨rfl, rfl⟩
        clear C
        go_wp2_with fail
        go_roundw
        case rel => exact ⟨k + 1, by omega, by go_num, upto_succ HI.out hc, HL.out⟩
        case measure => simp [intOf]; omega
      · have C := fun w => coefIn_no (a k) hc w
        go_wp2_with fail
        refine (C _).mono ?_; rintro e w' ⟨rfl, rfl⟩
        clear C
        go_wp2_with fail
        go_ret
        exact ⟨by rw [okc_not hlt hc]; rfl, HL.out⟩
    · obtain rfl : k = 8 := by omega
      have HL := Lib.hid hbel; have HI := Lib.hid hin
      clear hbel hin
      go_wp2_with fail
      go_ret
      exact ⟨by rw [inR_okc HI.out]; rfl, HL.out⟩

set_option maxHeartbeats 800000 in
theorem told_any (a : Nat → Int) (w : World) :
    Calls Try.prog 48 #[pt a] w fun e w' => e = .returned (ans true a) ∧ Below w.heap.size w w' := by
  have sa := vec_size 8 a
  have V := fun w => valid_any a w
  unfold pt at *
  obtain ⟨hA, hO, hL⟩ := box1_facts w a 74 36
  cases hv : okc a
  · rw [hv] at V
    go_enter Try.func48, Try.ntmps48
    go_upto_region 1 with fail
    show Code.wp _ _ _ _ (box1 w a 74 36)
    generalize box1 w a 74 36 = W at *
    go_wp2_with (refine load_row (g := w.heap.size) rfl rfl rfl hA Try.underlying74 rfl info_exact ?_)
    refine (V _).mono ?_; rintro e w2 ⟨rfl, hb2⟩
    have hO2 := hO.below hb2
    have hL2 := below_next hL hb2
    clear V hA hO hL hb2
    go_wp2_with (refine store_row rfl rfl rfl (show _ = Value.agg (vec 8 nul) from rfl) hO2 info_cyc ?_)
    refine bodyPost_ret (results_row_tmp rfl rfl hO2.setRow Try.underlying36 rfl info_cyc) rfl ?_
    exact ⟨by rw [ans_bad hv]; rfl, below_setRow hL2 (by omega) _⟩
  · rw [hv] at V
    go_enter Try.func48, Try.ntmps48
    go_upto_region 1 with fail
    show Code.wp _ _ _ _ (box1 w a 74 36)
    generalize box1 w a 74 36 = W at *
    go_wp2_with (refine load_row (g := w.heap.size) rfl rfl rfl hA Try.underlying74 rfl info_exact ?_)
    refine (V _).mono ?_; rintro e w2 ⟨rfl, hb2⟩
    have hA2 := hA.below hb2
    have hO2 := hO.below hb2
    have hL2 := below_next hL hb2
    clear V hA hO hL hb2
    go_upto_region 4 with fail
    show Code.wp _ _ _ _ (w2.alloc (.cells (vec 8 nul) 36))
    have hC : RowAt (w2.alloc (.cells (vec 8 nul) 36)) w2.heap.size 8 36 (mix 0 a nul) := by rw [mix_zero]; exact RowAt.new w2 8 36 nul
    have hA3 := hA2.alloc (.cells (vec 8 nul) 36)
    have hO3 := hO2.alloc (.cells (vec 8 nul) 36)
    have hL3 := hL2.alloc hL2.size (.cells (vec 8 nul) 36)
    have hg : w.heap.size + 1 < w2.heap.size := hO2.lt
    clear hA2 hO2 hL2
    generalize w2.alloc (.cells (vec 8 nul) 36) = W3 at *
    generalize w2.heap.size = g at *
    go_wp2_with (refine load_row (g := w.heap.size) rfl rfl rfl hA3 Try.underlying74 rfl info_exact ?_)
    go_loopw [5, 6, 12] (fun _ _ i wr => ∃ k : Nat, k ≤ 8 ∧ i = .int .i64 k ∧ RowAt wr (w.heap.size + 1) 8 36 nul ∧ RowAt wr g 8 36 (mix k a nul) ∧ Below w.heap.size w wr) (fun _ _ i _ => 8 - (intOf i).toNat)
    case atStart => exact ⟨0, Nat.zero_le _, rfl, hO3, hC, hL3⟩
    case round =>
      clear hA3 hO3 hC hL3
      obtain ⟨k, hk, rfl, hO, hA, hbel⟩ := hrel
      by_cases hlt : k < 8
      · have ix := fun w => index_exact a hlt w
        have hlt' : (k : Int) < 8 := by omega
        have hk0 : (0 : Int) ≤ (k : Int) := by omega
        have hA2 := hA.set hlt (a k)
        rw [mix_step] at hA2
        have cA := hA.cell hlt
        have fA := hA.free k
        have HA := Lib.hid hA2
        have HO := Lib.hid (hO.other ⟨g, k, none⟩ (.int .i64 (a k)) (by simp; omega))
        have HL := Lib.hid ((hbel.setCell (p := ⟨g, k, none⟩) (by simp; omega) (.int .i64 (a k))))
        clear hA hA2 hO hbel
        go_wp2_with fail
        go_roundw
        case rel => exact ⟨k + 1, by omega, by go_num, HO.out, HA.out, HL.out⟩
        case measure => simp [intOf]; omega
      · obtain rfl : k = 8 := by omega
        have HA := Lib.hid hA; have HO := Lib.hid hO; have HL := Lib.hid hbel
        clear hA hO hbel
        go_wp2_with (first | (refine load_row (g := g) rfl rfl rfl HA.out Try.underlying36 rfl info_cyc ?_) | (refine store_row rfl rfl rfl rfl HO.out info_cyc ?_))
        refine bodyPost_ret (results_row_tmp rfl rfl HO.out.setRow Try.underlying36 rfl info_cyc) rfl ?_
        exact ⟨by rw [vec_mix, ans_yes hv]; rfl, below_setRow HL.out (by omega) _⟩
end Go.Proofs.Ytbdhbkedeglagaa
/- Contracts of spec's calculations with exact points. -/
namespace Go.Proofs.Ytbdhbkedeglagaa
set_option maxRecDepth 20000
open Go.ChangeShapes Go.WideShapes Go.ChangeAt Go.RowKit
set_option linter.unusedVariables false
set_option linter.unusedSimpArgs false

theorem specValid_any (a : Nat → Int) (w : World) :
    Calls Try.prog 85 #[pt a] w fun e w' => e = .returned (.bool (okc a)) ∧ Below w.heap.size w w' := by
  have sa := vec_size 8 a
  unfold pt
  go_enter Try.func85, Try.ntmps85
  go_upto_region 1 with fail
  show Code.wp _ _ _ _ (box0 w a 36)
  obtain ⟨hA, hL⟩ := box0_facts w a 36
  generalize box0 w a 36 = W at *
  go_wp2_with fail
  go_loopw [3] (fun i wr => ∃ k : Nat, k ≤ 8 ∧ i = .int .i64 k ∧ (∀ j, j < k → -1000000 ≤ a j ∧ a j ≤ 1000000) ∧ RowAt wr w.heap.size 8 36 a ∧ Below w.heap.size w wr) (fun i _ => 8 - (intOf i).toNat)
  case atStart => exact ⟨0, Nat.zero_le _, rfl, fun j hj => absurd hj (by omega), hA, hL⟩
  case round =>
    clear hA hL
    obtain ⟨k, hk, rfl, hin, hA, hL⟩ := hrel
    by_cases hlt : k < 8
    · have hlt' : (k : Int) < 8 := by omega
      have hk0 : (0 : Int) ≤ (k : Int) := by omega
      have cA := hA.cell hlt
      have HA := Lib.hid hA
      have HL := Lib.hid hL
      have HI := Lib.hid hin
      clear hA hL hin
      by_cases hc : -1000000 ≤ a k ∧ a k ≤ 1000000
      · have G := fun w => in_yes (a k) (-1000000) 1000000 hc.1 hc.2 w
        go_wp2_with fail
        refine (G _).mono ?_; rintro e w' ⟨rfl, rfl⟩
        clear G
        go_wp2_with fail
        go_roundw
        case rel => exact ⟨k + 1, by omega, by go_num, upto_succ HI.out hc, HA.out, HL.out⟩
        case measure => simp [intOf]; omega
      · have G := fun w => in_no (a k) (-1000000) 1000000 (by omega) w
        go_wp2_with fail
        refine (G _).mono ?_; rintro e w' ⟨rfl, rfl⟩
        clear G
        go_wp2_with fail
        go_ret
        exact ⟨ret_bool (okc_not hlt hc).symm, HL.out⟩
    · obtain rfl : k = 8 := by omega
      have HL := Lib.hid hL; have HI := Lib.hid hin
      clear hA hL hin
      go_wp2_with fail
      go_ret
      exact ⟨ret_bool (inR_okc HI.out).symm, HL.out⟩

/-- The first k numbers one place on. -/
def shf (a : Nat → Int) (k : Nat) : Nat → Int := fun j => if j = 0 then 0 else if j ≤ k then a (j - 1) else 0
theorem shf_zero (a : Nat → Int) (j : Nat) : nul j = shf a 0 j := by
  simp only [nul, shf]
  by_cases h : j = 0
  · rw [if_pos h]
  · rw [if_neg h, if_neg (by omega)]
theorem shf_step (a : Nat → Int) (k j : Nat) : upd (shf a k) (k + 1) (a k) j = shf a (k + 1) j := by
  simp only [upd, shf]
  by_cases h1 : j = k + 1
  · subst h1; simp
  · rw [if_neg h1]
    by_cases h2 : j = 0
    · rw [if_pos h2, if_pos h2]
    · rw [if_neg h2, if_neg h2]
      by_cases h3 : j ≤ k
      · rw [if_pos h3, if_pos (by omega)]
      · rw [if_neg h3, if_neg (by omega)]
theorem shf_stp (a : Nat → Int) : ∀ j, j < 8 → upd (upd (shf a 7) 4 (a 3 + a 7)) 0 (-a 7) j = stp a j := by
  intro j hj
  simp only [upd, stp, shf]
  by_cases h1 : j = 0
  · rw [if_pos h1, if_pos h1]
  · rw [if_neg h1, if_neg h1, if_neg h1]
    by_cases h2 : j = 4
    · rw [if_pos h2, if_pos h2]
    · rw [if_neg h2, if_neg h2, if_pos (by omega)]

set_option maxHeartbeats 800000 in
theorem specStep_any (a : Nat → Int) (ha : ∀ j, j < 8 → -4000000000000000000 ≤ a j ∧ a j ≤ 4000000000000000000) (w : World) :
    Calls Try.prog 101 #[pt a] w fun e w' => e = .returned (pt (stp a)) ∧ Below w.heap.size w w' := by
  have sa := vec_size 8 a
  unfold pt at *
  go_enter Try.func101, Try.ntmps101
  go_upto_region 2 with fail
  show Code.wp _ _ _ _ ((box1 w a 36 36).alloc (.cells (vec 8 nul) 36))
  obtain ⟨hA, hO, hL⟩ := box1_facts w a 36 36
  have zE := hO.lt
  have hsz : (box1 w a 36 36).heap.size = w.heap.size + 1 + 1 := by simp [box1]
  have hA := hA.alloc (.cells (vec 8 nul) 36)
  have hO := hO.alloc (.cells (vec 8 nul) 36)
  have hL := hL.alloc (by omega) (.cells (vec 8 nul) 36)
  have hE : RowAt ((box1 w a 36 36).alloc (.cells (vec 8 nul) 36)) (w.heap.size + 1 + 1) 8 36 nul := RowAt.newAt rfl hsz
  clear zE hsz
  generalize (box1 w a 36 36).alloc (.cells (vec 8 nul) 36) = W at *
  go_wp2_with fail
  go_loopw [4] (fun i wr => ∃ k : Nat, k ≤ 7 ∧ i = .int .i64 (k + 1) ∧ RowAt wr w.heap.size 8 36 a ∧ RowAt wr (w.heap.size + 1) 8 36 nul ∧ RowAt wr (w.heap.size + 1 + 1) 8 36 (shf a k) ∧ Below w.heap.size w wr) (fun i _ => 8 - (intOf i).toNat)
  case atStart => exact ⟨0, Nat.zero_le _, rfl, hA, hO, hE.same (fun j _ => shf_zero a j), hL⟩
  case round =>
    clear hA hO hE hL
    obtain ⟨k, hk, rfl, hA, hO, hE, hL⟩ := hrel
    by_cases hlt : k < 7
    · have hlt' : (k : Int) + 1 < 8 := by omega
      have hk0 : (0 : Int) ≤ (k : Int) := by omega
      have hk8 : (k : Int) < 8 := by omega
      have hk1 : (0 : Int) ≤ (k : Int) + 1 := by omega
      have t1 : ((k : Int) + 1).toNat = k + 1 := by omega
      have v0 : IntKind.i64.wrap ((k : Int) + 1 - 1) = (k : Int) := by rw [IntKind.wrap_i64]; omega
      have v1 : IntKind.i64.wrap (k : Int) = (k : Int) := by rw [IntKind.wrap_i64]; omega
      have cA := hA.cell (k := k) (by omega)
      have cE := hE.cell (k := k + 1) (by omega)
      have fE := hE.free (k + 1)
      have hE3 := (hE.set (k := k + 1) (by omega) (a k)).same (fun j _ => shf_step a k j)
      have HE := Lib.hid hE3
      have HA := Lib.hid (hA.other ⟨w.heap.size + 1 + 1, k + 1, none⟩ (.int .i64 (a k)) (by simp; try omega))
      have HO := Lib.hid (hO.other ⟨w.heap.size + 1 + 1, k + 1, none⟩ (.int .i64 (a k)) (by simp; try omega))
      have HL := Lib.hid (hL.setCell (p := ⟨w.heap.size + 1 + 1, k + 1, none⟩) (by simp; omega) (.int .i64 (a k)))
      clear hA hO hE hL hE3
      generalize shf a k (k + 1) = y at cE
      go_wp2_with fail
      go_roundw
      case rel => exact ⟨k + 1, by omega, by go_num, HA.out, HO.out, HE.out, HL.out⟩
      case measure => simp [intOf]; omega
    · obtain rfl : k = 7 := by omega
      have b3 := ha 3 (by omega)
      have b7 := ha 7 (by omega)
      have cA := hA.cell (k := 7) (by omega)
      have c4 : _ = some (Value.int .i64 (a 3)) := hE.cell (k := 4) (by omega)
      have f4 := hE.free 4
      have hE4 := hE.set (k := 4) (by omega) (a 3 + a 7)
      have c0 : _ = some (Value.int .i64 0) := hE4.cell (k := 0) (by omega)
      have f0 := hE4.free 0
      have hE5 := (hE4.set (k := 0) (by omega) (-a 7)).same (shf_stp a)
      have hO5 := (hO.other ⟨w.heap.size + 1 + 1, 4, none⟩ (.int .i64 (a 3 + a 7)) (by simp)).other ⟨w.heap.size + 1 + 1, 0, none⟩ (.int .i64 (-a 7)) (by simp)
      have hA4 := hA.other ⟨w.heap.size + 1 + 1, 4, none⟩ (.int .i64 (a 3 + a 7)) (by simp; try omega)
      have cA4 := hA4.cell (k := 7) (by omega)
      have hL5 := (hL.setCell (p := ⟨w.heap.size + 1 + 1, 4, none⟩) (by simp; omega) (.int .i64 (a 3 + a 7))).setCell (p := ⟨w.heap.size + 1 + 1, 0, none⟩) (by simp; omega) (.int .i64 (-a 7))
      have HE := Lib.hid hE5
      have HO := Lib.hid hO5
      have HL := Lib.hid hL5
      clear hA hO hE hL hE4 hE5 hO5 hA4 hL5 ha
      generalize a 3 = x3 at *
      generalize a 7 = x7 at *
      go_upto_region 8 with fail
      go_wp2_with (first | (refine load_row (ty := 36) rfl rfl rfl HE.out Try.underlying36 rfl info_cyc ?_) | (refine store_row (ty := 36) rfl rfl rfl rfl HO.out info_cyc ?_))
      refine bodyPost_ret (results_row rfl rfl HO.out.setRow Try.underlying36 rfl info_cyc) rfl ?_
      exact ⟨rfl, below_setRow HL.out (by omega) _⟩
end Go.Proofs.Ytbdhbkedeglagaa
/- Contracts of spec's calculations with exact points, second part: turns, sums, products, mirrored points. -/
namespace Go.Proofs.Ytbdhbkedeglagaa
set_option maxRecDepth 20000
open Go.ChangeShapes Go.WideShapes Go.ChangeAt Go.RowKit
set_option linter.unusedVariables false
set_option linter.unusedSimpArgs false

theorem size_cyc (a : Nat → Int) : (Try.prog.info? 36).map (·.size) = some (lst 8 a).length := by rw [lst_length]; exact info_cyc
theorem specTurned_any (a : Nat → Int) (n : Nat) (hn : n ≤ 23) (ha : InR a) (w : World) :
    Calls Try.prog 95 #[pt a, .int .i64 n] w fun e w' => e = .returned (pt (trn a n)) ∧ Below w.heap.size w w' := by
  have sa := vec_size 8 a
  have SB := fun k hk => stps_in ha k hk
  have er : pt (stps n a) = pt (trn a n) := pt_same (trn_steps a n hn)
  rw [← er]
  clear er
  unfold pt at *
  go_enter Try.func95, Try.ntmps95
  go_upto_region 1 with fail
  show Code.wp _ _ _ _ (box1 w a 36 36)
  obtain ⟨hA, hO, hL⟩ := box1_facts w a 36 36
  generalize box1 w a 36 36 = W at *
  go_wp2_with fail
  go_loopw [5] (fun i wr => ∃ k : Nat, k ≤ n ∧ i = .int .i64 k ∧ RowAt wr w.heap.size 8 36 (stps k a) ∧ RowAt wr (w.heap.size + 1) 8 36 nul ∧ Below w.heap.size w wr) (fun i _ => n - (intOf i).toNat)
  case atStart => exact ⟨0, Nat.zero_le _, rfl, hA, hO, hL⟩
  case round =>
    clear hA hO hL
    obtain ⟨k, hk, rfl, hA, hO, hL⟩ := hrel
    by_cases hlt : k < n
    · have hlt' : (k : Int) < (n : Int) := by omega
      have S := fun w => specStep_any (stps k a) (fun j hj => by have := SB k (by omega) j hj; omega) w
      have HS := Lib.hid SB
      clear SB
      go_wp2_with (refine load_row rfl rfl rfl hA Try.underlying36 rfl info_cyc ?_)
      refine (S _).mono ?_; rintro e w2 ⟨rfl, hb2⟩
      have hA2 := hA.below hb2
      have hO2 := hO.below hb2
      have hL2 := below_next hL hb2
      clear S hA hO hL hb2
      have HA : Hid (RowAt _ _ _ _ (stps (k + 1) a)) := Lib.hid (hA2.setRow (f' := stp (stps k a)))
      have HO := Lib.hid (hO2.rowOther w.heap.size (vec 8 (stp (stps k a))) (by omega))
      have HL := Lib.hid (below_setRow hL2 (Nat.le_refl _) (vec 8 (stp (stps k a))))
      clear hO2 hL2
      go_wp2_with (refine store_row rfl rfl rfl rfl hA2 info_cyc ?_)
      go_roundw
      case rel => exact ⟨k + 1, by omega, by go_num, HA.out, HO.out, HL.out⟩
      case measure => simp [intOf]; omega
    · obtain rfl : k = n := by omega
      have HA := Lib.hid hA; have HO := Lib.hid hO; have HL := Lib.hid hL
      clear hA hO hL SB
      go_wp2_with (first | (refine load_row rfl rfl rfl HA.out Try.underlying36 rfl info_cyc ?_) | (refine store_row rfl rfl rfl rfl HO.out info_cyc ?_))
      refine bodyPost_ret (results_row rfl rfl HO.out.setRow Try.underlying36 rfl info_cyc) rfl ?_
      exact ⟨rfl, below_setRow HL.out (by omega) _⟩

theorem specSum_any (a b : Nat → Int) (n : Int) (hn : -1000000 ≤ n ∧ n ≤ 1000000) (ha : ∀ j, j < 8 → -8000000000000000 ≤ a j ∧ a j ≤ 8000000000000000) (hb : ∀ j, j < 8 → -1000000000 ≤ b j ∧ b j ≤ 1000000000) (w : World) :
    Calls Try.prog 84 #[pt a, .int .i64 n, pt b] w fun e w' => e = .returned (pt (mul1 a n b)) ∧ Below w.heap.size w w' := by
  have sa := vec_size 8 a
  have sb := vec_size 8 b
  unfold pt at *
  go_enter Try.func84, Try.ntmps84
  go_upto_region 1 with fail
  show Code.wp _ _ _ _ (box2 w a b 36 36)
  obtain ⟨hA, hB, hO, hL⟩ := box2_facts w a b 36 36
  generalize box2 w a b 36 36 = W at *
  go_wp2_with fail
  go_loopw [7] (fun i wr => ∃ k : Nat, k ≤ 8 ∧ i = .int .i64 k ∧ RowAt wr w.heap.size 8 36 (mix k (mul1 a n b) a) ∧ RowAt wr (w.heap.size + 1) 8 36 b ∧ RowAt wr (w.heap.size + 1 + 1) 8 36 nul ∧ Below w.heap.size w wr) (fun i _ => 8 - (intOf i).toNat)
  case atStart => exact ⟨0, Nat.zero_le _, rfl, by rw [mix_zero]; exact hA, hB, hO, hL⟩
  case round =>
    clear hA hB hO hL
    obtain ⟨k, hk, rfl, hA, hB, hO, hL⟩ := hrel
    by_cases hlt : k < 8
    · have cA := hA.cell hlt
      have fA := hA.free k
      have cB := hB.cell hlt
      rw [mix_at] at cA
      have hlt' : (k : Int) < 8 := by omega
      have hk0 : (0 : Int) ≤ (k : Int) := by omega
      have b1 := ha k hlt
      have b2 := prod_in hn (hb k hlt)
      have w1 : IntKind.i64.wrap (n * b k) = n * b k := by rw [IntKind.wrap_i64]; omega
      have w2 : IntKind.i64.wrap (a k + n * b k) = a k + n * b k := by rw [IntKind.wrap_i64]; omega
      have hA2 := hA.set hlt (mul1 a n b k)
      rw [mix_step] at hA2
      have HA := Lib.hid hA2
      have HB := Lib.hid (hB.other ⟨w.heap.size, k, none⟩ (.int .i64 (a k + n * b k)) (by simp))
      have HO := Lib.hid (hO.other ⟨w.heap.size, k, none⟩ (.int .i64 (a k + n * b k)) (by simp; try omega))
      have HL := Lib.hid ((hL.setCell (p := ⟨w.heap.size, k, none⟩) (Nat.le_refl _) (.int .i64 (a k + n * b k))))
      clear hA hA2 hB hO hL ha hb
      go_wp2_with fail
      go_still_tail 14, (by kernel_rfl)
      go_wp2_with fail
      go_roundw
      case rel => exact ⟨k + 1, by omega, by go_num, HA.out, HB.out, HO.out, HL.out.drew⟩
      case measure => simp [intOf]; omega
    · obtain rfl : k = 8 := by omega
      have HA := Lib.hid hA; have HO := Lib.hid hO; have HL := Lib.hid hL
      clear hA hB hO hL ha hb
      go_wp2_with (first | (refine load_row rfl rfl rfl HA.out Try.underlying36 rfl info_cyc ?_) | (refine store_row rfl rfl rfl rfl HO.out info_cyc ?_))
      refine bodyPost_ret (results_row rfl rfl HO.out.setRow Try.underlying36 rfl info_cyc) rfl ?_
      exact ⟨by rw [vec_mix], below_setRow HL.out (by omega) _⟩

theorem specRoot_no (t : Int) (ht : t < 0 ∨ 23 < t) (w : World) :
    Calls Try.prog 100 #[.int .i64 t] w fun e w' => e = .returned (ans false nul) ∧ Below w.heap.size w w' := by
  rw [ans_no]
  have G := fun w => is_no t ht w
  go_enter Try.func100, Try.ntmps100
  go_wp2_with fail
  refine (G _).mono ?_; rintro e w' ⟨rfl, rfl⟩
  go_wp2_with (refine store_row rfl rfl rfl (show _ = Value.agg (vec 8 nul) from rfl) (RowAt.newAt zero8 rfl) info_cyc ?_)
  refine bodyPost_ret (results_row_tmp rfl rfl (RowAt.newAt zero8 rfl).setRow Try.underlying36 rfl info_cyc) rfl ?_
  exact ⟨rfl, below_setRow ((Below.refl _ _).alloc (Nat.le_refl _) _) (Nat.le_refl _) _⟩
theorem specRoot_yes (t : Nat) (ht : t ≤ 23) (w : World) :
    Calls Try.prog 100 #[.int .i64 t] w fun e w' => e = .returned (.tuple #[pt (trn one t), .bool true]) ∧ Below w.heap.size w w' := by
  have G := fun w => is_yes (t : Int) (by omega) (by omega) w
  have M := fun w => specTurned_any one t ht (fun j hj => by simp only [one]; split <;> omega) w
  unfold pt at *
  go_enter Try.func100, Try.ntmps100
  go_wp2_with fail
  refine (G _).mono ?_; rintro e w' ⟨rfl, rfl⟩
  go_upto_region 4 with fail
  show Code.wp _ _ _ _ ((w.alloc (.cells (vec 8 nul) 36)).alloc (.cells (vec 8 nul) 36))
  have hO := pair_first w 36
  have hE : RowAt ((w.alloc (.cells (vec 8 nul) 36)).alloc (.cells (vec 8 nul) 36)) (w.heap.size + 1) 8 36 nul := RowAt.newAt rfl (by simp)
  have hL : Below w.heap.size w ((w.alloc (.cells (vec 8 nul) 36)).alloc (.cells (vec 8 nul) 36)) := ((Below.refl _ _).alloc (Nat.le_refl _) _).alloc (by simp) _
  generalize (w.alloc (.cells (vec 8 nul) 36)).alloc (.cells (vec 8 nul) 36) = W3 at *
  have c0 := hE.cell (k := 0) (by omega)
  have f0 := hE.free 0
  have hE3 := (hE.set (k := 0) (by omega) 1).same (f' := one) (fun j _ => by simp only [upd, one, nul])
  have HE := Lib.hid hE3
  have HO := Lib.hid (hO.other ⟨w.heap.size + 1, 0, none⟩ (.int .i64 1) (by simp))
  have HL := Lib.hid (hL.setCell (p := ⟨w.heap.size + 1, 0, none⟩) (by simp) (.int .i64 1))
  clear hO hE hL hE3
  go_upto_region 5 with fail
  have hE4 := HE.out
  have hO4 := HO.out
  have hL4 := HL.out
  clear HE HO HL c0 f0 G
  generalize W3.setCell ⟨w.heap.size + 1, 0, none⟩ (.int .i64 1) = W4 at *
  go_wp2_with (refine load_row rfl rfl rfl hE4 Try.underlying36 rfl info_cyc ?_)
  refine (M _).mono ?_; rintro e w4 ⟨rfl, hb4⟩
  have hO5 := hO4.below hb4
  have hL5 := below_next hL4 hb4
  clear hE4 hO4 hL4 hb4 M
  go_wp2_with (refine store_row rfl rfl rfl rfl hO5 info_cyc ?_)
  refine bodyPost_ret (results_row_tmp rfl rfl hO5.setRow Try.underlying36 rfl info_cyc) rfl ?_
  exact ⟨rfl, below_setRow hL5 (by omega) _⟩

end Go.Proofs.Ytbdhbkedeglagaa
/- Contracts of spec's mirrored points and of the functions of exact points that it gives. -/
namespace Go.Proofs.Ytbdhbkedeglagaa
set_option maxRecDepth 20000
open Go.ChangeShapes Go.WideShapes Go.ChangeAt Go.RowKit
set_option linter.unusedVariables false
set_option linter.unusedSimpArgs false

set_option maxHeartbeats 800000 in
theorem specMirror_any (a : Nat → Int) (ha : InR a) (w : World) :
    Calls Try.prog 94 #[pt a] w fun e w' => e = .returned (pt (mir a)) ∧ Below w.heap.size w w' := by
  have sa := vec_size 8 a
  have er : pt (smir a 8) = pt (mir a) := pt_same (smir_mir a)
  rw [← er]
  clear er
  have SB := Lib.hid (smir_bound ha)
  unfold pt at *
  go_enter Try.func94, Try.ntmps94
  go_upto_region 2 with fail
  show Code.wp _ _ _ _ ((box1 w a 36 36).alloc (.cells (vec 8 nul) 36))
  obtain ⟨hA, hO, hL⟩ := box1_facts w a 36 36
  have zE := hO.lt
  have hsz : (box1 w a 36 36).heap.size = w.heap.size + 1 + 1 := by simp [box1]
  have hE : RowAt ((box1 w a 36 36).alloc (.cells (vec 8 nul) 36)) (w.heap.size + 1 + 1) 8 36 nul := RowAt.newAt rfl hsz
  have hA := hA.alloc (.cells (vec 8 nul) 36)
  have hO := hO.alloc (.cells (vec 8 nul) 36)
  have hL := hL.alloc (by omega) (.cells (vec 8 nul) 36)
  clear zE hsz
  generalize (box1 w a 36 36).alloc (.cells (vec 8 nul) 36) = W at *
  go_wp2_with fail
  go_loopw [4] (fun i wr => ∃ k : Nat, k ≤ 8 ∧ i = .int .i64 k ∧ RowAt wr w.heap.size 8 36 a ∧ RowAt wr (w.heap.size + 1) 8 36 nul ∧ RowAt wr (w.heap.size + 1 + 1) 8 36 (smir a k) ∧ Below w.heap.size w wr) (fun i _ => 8 - (intOf i).toNat)
  case atStart => exact ⟨0, Nat.zero_le _, rfl, hA, hO, hE, hL⟩
  case round =>
    clear hA hO hE hL
    obtain ⟨k, hk, rfl, hA, hO, hE, hL⟩ := hrel
    by_cases hlt : k < 8
    · have hlt' : (k : Int) < 8 := by omega
      have hk0 : (0 : Int) ≤ (k : Int) := by omega
      have hr : (24 - k) % 24 ≤ 23 := by omega
      have M : ∀ w, Calls Try.prog 96 #[.int .i64 (-(k : Int))] w fun e w' => e = .returned (.int .i64 ((24 - k) % 24 : Nat)) ∧ w = w' := fun w => by
        have e : (-(k : Int)) % 24 = (((24 - k) % 24 : Nat) : Int) := by omega
        rw [← e]
        exact mod_any (-(k : Int)) (by omega) (by omega) w
      have R := fun w => specRoot_yes ((24 - k) % 24) hr w
      have S1 := fun w => specSum_any (smir a k) (trn one ((24 - k) % 24)) (a k) (ha k hlt) (fun j hj => by have := SB.out k hk j hj; omega) (fun j hj => by have := (root_facts ((24 - k) % 24) hr j hj).1; omega) w
      have eS : mul1 (smir a k) (a k) (trn one ((24 - k) % 24)) = smir a (k + 1) := rfl
      rw [eS] at S1
      generalize trn one ((24 - k) % 24) = rt at *
      generalize (24 - k) % 24 = r at *
      clear eS
      have v1 : IntKind.i64.wrap (-(k : Int)) = -(k : Int) := by rw [IntKind.wrap_i64]; omega
      have v2 : IntKind.i64.wrap (0 - (k : Int)) = -(k : Int) := by rw [IntKind.wrap_i64]; omega
      unfold pt at *
      go_wp2_with fail
      refine (M _).mono ?_; rintro e w' ⟨rfl, rfl⟩
      go_wp2_with fail
      refine (R _).mono ?_; rintro e w2 ⟨rfl, hb2⟩
      have hA2 := hA.below hb2; have hO2 := hO.below hb2; have hE2 := hE.below hb2; have hL2 := below_next hL hb2
      clear hA hO hE hL hb2 M R v1 v2
      go_upto_region 6 with (refine store_row rfl rfl rfl rfl (RowAt.newAt zero8 rfl) info_cyc ?_)
      show Code.wp _ _ _ _ (sole w2 rt 36)
      have hR := sole_first w2 rt 36
      have hA := sole_keep hA2 rt 36
      have hO := sole_keep hO2 rt 36
      have hE := sole_keep hE2 rt 36
      have hL := sole_below hL2 rt 36
      have zg := hE2.lt
      clear hA2 hO2 hE2 hL2
      generalize w2.heap.size = g at *
      generalize sole w2 rt 36 = W3 at *
      have e0 := hE.cell (k := 0) (by omega)
      have p0 := hR.cell (k := 0) (by omega)
      have e1 := hE.cell (k := 1) (by omega)
      have p1 := hR.cell (k := 1) (by omega)
      have e2 := hE.cell (k := 2) (by omega)
      have p2 := hR.cell (k := 2) (by omega)
      have e3 := hE.cell (k := 3) (by omega)
      have p3 := hR.cell (k := 3) (by omega)
      have e4 := hE.cell (k := 4) (by omega)
      have p4 := hR.cell (k := 4) (by omega)
      have e5 := hE.cell (k := 5) (by omega)
      have p5 := hR.cell (k := 5) (by omega)
      have e6 := hE.cell (k := 6) (by omega)
      have p6 := hR.cell (k := 6) (by omega)
      have e7 := hE.cell (k := 7) (by omega)
      have p7 := hR.cell (k := 7) (by omega)
      have cA := hA.cell hlt
      have HA := Lib.hid hA.drew1; have HO := Lib.hid hO.drew1; have HE := Lib.hid hE.drew1; have HL := Lib.hid hL.drew
      clear hA hO hE hL hR
      go_still_tail 6, (by kernel_rfl)
      go_wp2_with fail
      refine (S1 _).mono ?_; rintro e w4 ⟨rfl, hb2⟩
      have hA2 := HA.out.below hb2; have hO2 := HO.out.below hb2; have hE2 := HE.out.below hb2; have hL2 := below_next HL.out hb2
      clear S1 HA HO HE HL hb2 e0 p0 e1 p1 e2 p2 e3 p3 e4 p4 e5 p5 e6 p6 e7 p7 cA
      have HA := Lib.hid (hA2.rowOther (w.heap.size + 1 + 1) (vec 8 (smir a (k + 1))) (by omega))
      have HO := Lib.hid (hO2.rowOther (w.heap.size + 1 + 1) (vec 8 (smir a (k + 1))) (by omega))
      have HE := Lib.hid (hE2.setRow (f' := smir a (k + 1)))
      have HL := Lib.hid (below_setRow hL2 (g := w.heap.size + 1 + 1) (by omega) (vec 8 (smir a (k + 1))))
      clear hA2 hO2 hL2
      go_wp2_with (refine store_row rfl rfl rfl rfl hE2 info_cyc ?_)
      go_roundw
      case rel => exact ⟨k + 1, by omega, by go_num, HA.out, HO.out, HE.out, HL.out⟩
      case measure => simp [intOf]; omega
    · obtain rfl : k = 8 := by omega
      have HE := Lib.hid hE; have HO := Lib.hid hO; have HL := Lib.hid hL
      clear hA hE hO hL SB
      go_wp2_with (first | (refine load_row rfl rfl rfl HE.out Try.underlying36 rfl info_cyc ?_) | (refine store_row rfl rfl rfl rfl HO.out info_cyc ?_))
      refine bodyPost_ret (results_row rfl rfl HO.out.setRow Try.underlying36 rfl info_cyc) rfl ?_
      exact ⟨rfl, below_setRow HL.out (by omega) _⟩

theorem specGaussIn_any (re im : Int) (w : World) :
    Calls Try.prog 67 #[.int .i64 re, .int .i64 im] w fun e w' => e = .returned (pt (gau re im)) ∧ Below w.heap.size w w' := by
  have hO := pair_first w 36
  have hE : RowAt ((w.alloc (.cells (vec 8 nul) 36)).alloc (.cells (vec 8 nul) 36)) (w.heap.size + 1) 8 36 nul := RowAt.newAt rfl (by simp)
  have hL : Below w.heap.size w ((w.alloc (.cells (vec 8 nul) 36)).alloc (.cells (vec 8 nul) 36)) := ((Below.refl _ _).alloc (Nat.le_refl _) _).alloc (by simp) _
  go_enter Try.func67, Try.ntmps67
  go_upto_region 2 with fail
  show Code.wp _ _ _ _ ((w.alloc (.cells (vec 8 nul) 36)).alloc (.cells (vec 8 nul) 36))
  generalize (w.alloc (.cells (vec 8 nul) 36)).alloc (.cells (vec 8 nul) 36) = W3 at *
  have c0 := hE.cell (k := 0) (by omega)
  have f0 := hE.free 0
  have c6 := (hE.set (k := 0) (by omega) re).cell (k := 6) (by omega)
  have f6 := (hE.set (k := 0) (by omega) re).free 6
  have hE3 : RowAt ((W3.setCell ⟨w.heap.size + 1, 0, none⟩ (.int .i64 re)).setCell ⟨w.heap.size + 1, 6, none⟩ (.int .i64 im)) (w.heap.size + 1) 8 36 (gau re im) :=
    ((hE.set (k := 0) (by omega) re).set (k := 6) (by omega) im).same (fun j _ => by simp only [upd, gau, nul]; split <;> split <;> first | rfl | omega)
  have hO3 := (hO.other ⟨w.heap.size + 1, 0, none⟩ (.int .i64 re) (by simp)).other ⟨w.heap.size + 1, 6, none⟩ (.int .i64 im) (by simp)
  have hL3 := (hL.setCell (p := ⟨w.heap.size + 1, 0, none⟩) (by simp) (.int .i64 re)).setCell (p := ⟨w.heap.size + 1, 6, none⟩) (by simp) (.int .i64 im)
  have HE := Lib.hid hE3
  have HO := Lib.hid hO3
  have HL := Lib.hid hL3
  clear hO hE hL hE3 hO3 hL3
  go_upto_region 4 with fail
  go_wp2_with (first | (refine load_row rfl rfl rfl HE.out Try.underlying36 rfl info_cyc ?_) | (refine store_row rfl rfl rfl rfl HO.out info_cyc ?_))
  refine bodyPost_ret (results_row rfl rfl HO.out.setRow Try.underlying36 rfl info_cyc) rfl ?_
  exact ⟨rfl, below_setRow HL.out (by omega) _⟩

end Go.Proofs.Ytbdhbkedeglagaa
