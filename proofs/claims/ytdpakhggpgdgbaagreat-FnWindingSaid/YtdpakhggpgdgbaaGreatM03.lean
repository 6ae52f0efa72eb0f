/-
  Out of the text CycT: what the draws of polygons need.
  Out of the text CycU: what the draws of polygons need.
  Out of the text RoundWp: what the draws of polygons need.
  Out of the text RangeB: what the draws of polygons need.
-/
import Derived.Test.YtdpakhggpgdgbaaGreatM02
import Derived.RangeFuncNested
import Derived.RangeFuncBound
import Derived.RangeFuncCalls
import Derived.RangeFuncLeaves
import Derived.Shelf.Abstract
import Derived.OwnWalkIn
import Derived.TacticsInMore
import Derived.LoopNIn
import Derived.LoopIn
import Derived.OrdersIn
import Derived.Deep.RegionHeld
import Derived.Test.YtdpakhggpgdgbaaGreatM01
/- Out of the text CycT: what the draws of polygons need. -/
namespace Go.Proofs.YtdpakhggpgdgbaaGreat
set_option maxRecDepth 20000
open Go.ChangeShapes Go.WideShapes Go.ChangeAt Go.RowKit
set_option linter.unusedVariables false
set_option linter.unusedSimpArgs false
theorem size_cyc (a : Nat → Int) : (Tryz.prog.info? 40).map (·.size) = some (lst 8 a).length := by rw [lst_length]; exact info_cyc
theorem specTurned_any (a : Nat → Int) (n : Nat) (hn : n ≤ 23) (ha : InR a) (w : World) :
    Calls Tryz.prog 104 #[pt a, .int .i64 n] w fun e w' => e = .returned (pt (trn a n)) ∧ Below w.heap.size w w' := by
  have sa := vec_size 8 a
  have SB := fun k hk => stps_in ha k hk
  have er : pt (stps n a) = pt (trn a n) := pt_same (trn_steps a n hn)
  rw [← er]
  clear er
  unfold pt at *
  go_enter Tryz.func104, Tryz.ntmps104
  go_upto_region 1 with fail
  show Code.wp _ _ _ _ (box1 w a 40 40)
  obtain ⟨hA, hO, hL⟩ := box1_facts w a 40 40
  generalize box1 w a 40 40 = W at *
  go_wp2_with fail
  go_loopw [5] (fun i wr => ∃ k : Nat, k ≤ n ∧ i = .int .i64 k ∧ RowAt wr w.heap.size 8 40 (stps k a) ∧ RowAt wr (w.heap.size + 1) 8 40 nul ∧ Below w.heap.size w wr) (fun i _ => n - (intOf i).toNat)
  case atStart => exact ⟨0, Nat.zero_le _, rfl, hA, hO, hL⟩
  case round =>
    clear hA hO hL
    obtain ⟨k, hk, rfl, hA, hO, hL⟩ := hrel
    by_cases hlt : k < n
    · have hlt' : (k : Int) < (n : Int) := by omega
      have S := fun w => specStep_any (stps k a) (fun j hj => by have := SB k (by omega) j hj; omega) w
      have HS := Lib.hid SB
      clear SB
      go_wp2_with (refine load_row rfl rfl rfl hA Tryz.underlying40 rfl info_cyc ?_)
      refine (S _).mono ?_; rintro e w2 ⟨rfl, hb2⟩
      have hA2 := hA.below hb2
      have hO2 := hO.below hb2
      have hL2 := below_next hL hb2
      clear S hA hO hL hb2
      have HA : Hid (RowAt _ _ _ _ (stps (k + 1) a)) := Lib.hid (hA2.setRow (f' := stp (stps k a)))
      have HO := Lib.hid (hO2.rowOther w.heap.size (vec 8 (stp (stps k a))) (by omega))
      have HL := Lib.hid (below_setRow hL2 (Nat.le_refl _) (vec 8 (stp (stps k a))))
      clear hO2 hL2
      go_wp2_with (refine store_row rfl rfl rfl rfl hA2 info_cyc ?_)
      go_roundw
      case rel => exact ⟨k + 1, by omega, by go_num, HA.out, HO.out, HL.out⟩
      case measure => simp [intOf]; omega
    · obtain rfl : k = n := by omega
      have HA := Lib.hid hA; have HO := Lib.hid hO; have HL := Lib.hid hL
      clear hA hO hL SB
      go_wp2_with (first | (refine load_row rfl rfl rfl HA.out Tryz.underlying40 rfl info_cyc ?_) | (refine store_row rfl rfl rfl rfl HO.out info_cyc ?_))
      refine bodyPost_ret (results_row rfl rfl HO.out.setRow Tryz.underlying40 rfl info_cyc) rfl ?_
      exact ⟨rfl, below_setRow HL.out (by omega) _⟩

theorem specSum_any (a b : Nat → Int) (n : Int) (hn : -1000000 ≤ n ∧ n ≤ 1000000) (ha : ∀ j, j < 8 → -8000000000000000 ≤ a j ∧ a j ≤ 8000000000000000) (hb : ∀ j, j < 8 → -1000000000 ≤ b j ∧ b j ≤ 1000000000) (w : World) :
    Calls Tryz.prog 38 #[pt a, .int .i64 n, pt b] w fun e w' => e = .returned (pt (mul1 a n b)) ∧ Below w.heap.size w w' := by
  have sa := vec_size 8 a
  have sb := vec_size 8 b
  unfold pt at *
  go_enter Tryz.func38, Tryz.ntmps38
  go_upto_region 1 with fail
  show Code.wp _ _ _ _ (box2 w a b 40 40)
  obtain ⟨hA, hB, hO, hL⟩ := box2_facts w a b 40 40
  generalize box2 w a b 40 40 = W at *
  go_wp2_with fail
  go_loopw [7] (fun i wr => ∃ k : Nat, k ≤ 8 ∧ i = .int .i64 k ∧ RowAt wr w.heap.size 8 40 (mix k (mul1 a n b) a) ∧ RowAt wr (w.heap.size + 1) 8 40 b ∧ RowAt wr (w.heap.size + 1 + 1) 8 40 nul ∧ Below w.heap.size w wr) (fun i _ => 8 - (intOf i).toNat)
  case atStart => exact ⟨0, Nat.zero_le _, rfl, by rw [mix_zero]; exact hA, hB, hO, hL⟩
  case round =>
    clear hA hB hO hL
    obtain ⟨k, hk, rfl, hA, hB, hO, hL⟩ := hrel
    by_cases hlt : k < 8
    · have cA := hA.cell hlt
      have fA := hA.free k
      have cB := hB.cell hlt
      rw [mix_at] at cA
      have hlt' : (k : Int) < 8 := by omega
      have hk0 : (0 : Int) ≤ (k : Int) := by omega
      have b1 := ha k hlt
      have b2 := prod_in hn (hb k hlt)
      have w1 : IntKind.i64.wrap (n * b k) = n * b k := by rw [IntKind.wrap_i64]; omega
      have w2 : IntKind.i64.wrap (a k + n * b k) = a k + n * b k := by rw [IntKind.wrap_i64]; omega
      have hA2 := hA.set hlt (mul1 a n b k)
      rw [mix_step] at hA2
      have HA := Lib.hid hA2
      have HB := Lib.hid (hB.other ⟨w.heap.size, k, none⟩ (.int .i64 (a k + n * b k)) (by simp))
      have HO := Lib.hid (hO.other ⟨w.heap.size, k, none⟩ (.int .i64 (a k + n * b k)) (by simp; try omega))
      have HL := Lib.hid ((hL.setCell (p := ⟨w.heap.size, k, none⟩) (Nat.le_refl _) (.int .i64 (a k + n * b k))))
      clear hA hA2 hB hO hL ha hb
      go_wp2_with fail
      go_still_tail 14, (by kernel_rfl)
      go_wp2_with fail
      go_roundw
      case rel => exact ⟨k + 1, by omega, by go_num, HA.out, HB.out, HO.out, HL.out.drew⟩
      case measure => simp [intOf]; omega
    · obtain rfl : k = 8 := by omega
      have HA := Lib.hid hA; have HO := Lib.hid hO; have HL := Lib.hid hL
      clear hA hB hO hL ha hb
      go_wp2_with (first | (refine load_row rfl rfl rfl HA.out Tryz.underlying40 rfl info_cyc ?_) | (refine store_row rfl rfl rfl rfl HO.out info_cyc ?_))
      refine bodyPost_ret (results_row rfl rfl HO.out.setRow Tryz.underlying40 rfl info_cyc) rfl ?_
      exact ⟨by rw [vec_mix], below_setRow HL.out (by omega) _⟩

theorem specRoot_yes (t : Nat) (ht : t ≤ 23) (w : World) :
    Calls Tryz.prog 77 #[.int .i64 t] w fun e w' => e = .returned (.tuple #[pt (trn one t), .bool true]) ∧ Below w.heap.size w w' := by
  have G := fun w => is_yes (t : Int) (by omega) (by omega) w
  have M := fun w => specTurned_any one t ht (fun j hj => by simp only [one]; split <;> omega) w
  unfold pt at *
  go_enter Tryz.func77, Tryz.ntmps77
  go_wp2_with fail
  refine (G _).mono ?_; rintro e w' ⟨rfl, rfl⟩
  go_upto_region 4 with fail
  show Code.wp _ _ _ _ ((w.alloc (.cells (vec 8 nul) 40)).alloc (.cells (vec 8 nul) 40))
  have hO := pair_first w 40
  have hE : RowAt ((w.alloc (.cells (vec 8 nul) 40)).alloc (.cells (vec 8 nul) 40)) (w.heap.size + 1) 8 40 nul := RowAt.newAt rfl (by simp)
  have hL : Below w.heap.size w ((w.alloc (.cells (vec 8 nul) 40)).alloc (.cells (vec 8 nul) 40)) := ((Below.refl _ _).alloc (Nat.le_refl _) _).alloc (by simp) _
  generalize (w.alloc (.cells (vec 8 nul) 40)).alloc (.cells (vec 8 nul) 40) = W3 at *
  have c0 := hE.cell (k := 0) (by omega)
  have f0 := hE.free 0
  have hE3 := (hE.set (k := 0) (by omega) 1).same (f' := one) (fun j _ => by simp only [upd, one, nul])
  have HE := Lib.hid hE3
  have HO := Lib.hid (hO.other ⟨w.heap.size + 1, 0, none⟩ (.int .i64 1) (by simp))
  have HL := Lib.hid (hL.setCell (p := ⟨w.heap.size + 1, 0, none⟩) (by simp) (.int .i64 1))
  clear hO hE hL hE3
  go_upto_region 5 with fail
  have hE4 := HE.out
  have hO4 := HO.out
  have hL4 := HL.out
  clear HE HO HL c0 f0 G
  generalize W3.setCell ⟨w.heap.size + 1, 0, none⟩ (.int .i64 1) = W4 at *
  go_wp2_with (refine load_row rfl rfl rfl hE4 Tryz.underlying40 rfl info_cyc ?_)
  refine (M _).mono ?_; rintro e w4 ⟨rfl, hb4⟩
  have hO5 := hO4.below hb4
  have hL5 := below_next hL4 hb4
  clear hE4 hO4 hL4 hb4 M
  go_wp2_with (refine store_row rfl rfl rfl rfl hO5 info_cyc ?_)
  refine bodyPost_ret (results_row_tmp rfl rfl hO5.setRow Tryz.underlying40 rfl info_cyc) rfl ?_
  exact ⟨rfl, below_setRow hL5 (by omega) _⟩

set_option maxHeartbeats 800000 in
theorem specTimes_any (a b : Nat → Int) (ha : InR a) (hb : InR b) (w : World) :
    Calls Tryz.prog 55 #[pt a, pt b] w fun e w' => e = .returned (pt (prd a b)) ∧ Below w.heap.size w w' := by
  have sa := vec_size 8 a
  have sb := vec_size 8 b
  have er : pt (smul a b 8) = pt (prd a b) := pt_same (prd_smul a b)
  rw [← er]
  clear er
  have SB := Lib.hid (smul_bound ha hb)
  have TB := Lib.hid (fun k hk => stps_low hb k hk)
  unfold pt at *
  go_enter Tryz.func55, Tryz.ntmps55
  go_upto_region 2 with fail
  show Code.wp _ _ _ _ ((box2 w a b 40 40).alloc (.cells (vec 8 nul) 40))
  obtain ⟨hA, hB, hO, hL⟩ := box2_facts w a b 40 40
  have zE := hO.lt
  have hsz : (box2 w a b 40 40).heap.size = w.heap.size + 1 + 1 + 1 := by simp [box2]
  have hE : RowAt ((box2 w a b 40 40).alloc (.cells (vec 8 nul) 40)) (w.heap.size + 1 + 1 + 1) 8 40 nul := RowAt.newAt rfl hsz
  have hA := hA.alloc (.cells (vec 8 nul) 40)
  have hB := hB.alloc (.cells (vec 8 nul) 40)
  have hO := hO.alloc (.cells (vec 8 nul) 40)
  have hL := hL.alloc (by omega) (.cells (vec 8 nul) 40)
  clear zE hsz
  generalize (box2 w a b 40 40).alloc (.cells (vec 8 nul) 40) = W at *
  go_wp2_with fail
  go_loopw [6] (fun i wr => ∃ k : Nat, k ≤ 8 ∧ i = .int .i64 k ∧ RowAt wr w.heap.size 8 40 a ∧ RowAt wr (w.heap.size + 1) 8 40 (stps k b) ∧ RowAt wr (w.heap.size + 1 + 1) 8 40 nul ∧ RowAt wr (w.heap.size + 1 + 1 + 1) 8 40 (smul a b k) ∧ Below w.heap.size w wr) (fun i _ => 8 - (intOf i).toNat)
  case atStart => exact ⟨0, Nat.zero_le _, rfl, hA, hB, hO, hE, hL⟩
  case round =>
    clear hA hB hO hE hL
    obtain ⟨k, hk, rfl, hA, hB, hO, hE, hL⟩ := hrel
    by_cases hlt : k < 8
    · have hlt' : (k : Int) < 8 := by omega
      have hk0 : (0 : Int) ≤ (k : Int) := by omega
      have S1 := fun w => specSum_any (smul a b k) (stps k b) (a k) (ha k hlt) (fun j hj => by have := SB.out k hk j hj; omega) (TB.out k hk) w
      have S2 := fun w => specStep_any (stps k b) (fun j hj => by have := TB.out k hk j hj; omega) w
      have e0 := hE.cell (k := 0) (by omega)
      have p0 := hB.cell (k := 0) (by omega)
      have e1 := hE.cell (k := 1) (by omega)
      have p1 := hB.cell (k := 1) (by omega)
      have e2 := hE.cell (k := 2) (by omega)
      have p2 := hB.cell (k := 2) (by omega)
      have e3 := hE.cell (k := 3) (by omega)
      have p3 := hB.cell (k := 3) (by omega)
      have e4 := hE.cell (k := 4) (by omega)
      have p4 := hB.cell (k := 4) (by omega)
      have e5 := hE.cell (k := 5) (by omega)
      have p5 := hB.cell (k := 5) (by omega)
      have e6 := hE.cell (k := 6) (by omega)
      have p6 := hB.cell (k := 6) (by omega)
      have e7 := hE.cell (k := 7) (by omega)
      have p7 := hB.cell (k := 7) (by omega)
      have cA := hA.cell hlt
      have HA := Lib.hid hA.drew1; have HB := Lib.hid hB.drew1; have HO := Lib.hid hO.drew1; have HE := Lib.hid hE.drew1; have HL := Lib.hid hL.drew
      clear hA hB hO hE hL
      go_upto_region 5 with fail
      go_still_tail 6, (by kernel_rfl)
      go_wp2_with fail
      refine (S1 _).mono ?_; rintro e w2 ⟨rfl, hb2⟩
      have hA2 := HA.out.below hb2; have hB2 := HB.out.below hb2; have hO2 := HO.out.below hb2; have hE2 := HE.out.below hb2; have hL2 := below_next HL.out hb2
      clear S1 HA HB HO HE HL hb2 e0 p0 e1 p1 e2 p2 e3 p3 e4 p4 e5 p5 e6 p6 e7 p7 cA
      have hA3 := hA2.rowOther (w.heap.size + 1 + 1 + 1) (vec 8 (mul1 (smul a b k) (a k) (stps k b))) (by omega)
      have hB3 := hB2.rowOther (w.heap.size + 1 + 1 + 1) (vec 8 (mul1 (smul a b k) (a k) (stps k b))) (by omega)
      have hO3 := hO2.rowOther (w.heap.size + 1 + 1 + 1) (vec 8 (mul1 (smul a b k) (a k) (stps k b))) (by omega)
      have hE3 : RowAt _ _ _ _ (smul a b (k + 1)) := hE2.setRow (f' := mul1 (smul a b k) (a k) (stps k b))
      have hL3 := below_setRow hL2 (g := w.heap.size + 1 + 1 + 1) (by omega) (vec 8 (mul1 (smul a b k) (a k) (stps k b)))
      have HA := Lib.hid hA3; have HB := Lib.hid hB3; have HO := Lib.hid hO3; have HE := Lib.hid hE3; have HL := Lib.hid hL3
      clear hA2 hB2 hO2 hL2 hA3 hB3 hO3 hE3 hL3
      go_upto_region 6 with (refine store_row rfl rfl rfl rfl hE2 info_cyc ?_)
      have hA3 := HA.out; have hB3 := HB.out; have hO3 := HO.out; have hE3 := HE.out; have hL3 := HL.out
      clear hE2 HA HB HO HE HL
      generalize World.setRow w2 (w.heap.size + 1 + 1 + 1) (vec 8 (mul1 (smul a b k) (a k) (stps k b))) = W3 at *
      go_wp2_with (refine load_row rfl rfl rfl hB3 Tryz.underlying40 rfl info_cyc ?_)
      refine (S2 _).mono ?_; rintro e w4 ⟨rfl, hb2⟩
      have hA4 := hA3.below hb2; have hB4 := hB3.below hb2; have hO4 := hO3.below hb2; have hE4 := hE3.below hb2; have hL4 := below_next hL3 hb2
      clear S2 hA3 hB3 hO3 hE3 hL3 hb2
      have HA := Lib.hid (hA4.rowOther (w.heap.size + 1) (vec 8 (stp (stps k b))) (by omega))
      have HB : Hid (RowAt _ _ _ _ (stps (k + 1) b)) := Lib.hid (hB4.setRow (f' := stp (stps k b)))
      have HO := Lib.hid (hO4.rowOther (w.heap.size + 1) (vec 8 (stp (stps k b))) (by omega))
      have HE := Lib.hid (hE4.rowOther (w.heap.size + 1) (vec 8 (stp (stps k b))) (by omega))
      have HL := Lib.hid (below_setRow hL4 (g := w.heap.size + 1) (by omega) (vec 8 (stp (stps k b))))
      clear hA4 hO4 hE4 hL4
      go_wp2_with (refine store_row rfl rfl rfl rfl hB4 info_cyc ?_)
      go_roundw
      case rel => exact ⟨k + 1, by omega, by go_num, HA.out, HB.out, HO.out, HE.out, HL.out⟩
      case measure => simp [intOf]; omega
    · obtain rfl : k = 8 := by omega
      have HE := Lib.hid hE; have HO := Lib.hid hO; have HL := Lib.hid hL
      clear hA hB hE hO hL SB TB
      go_wp2_with (first | (refine load_row rfl rfl rfl HE.out Tryz.underlying40 rfl info_cyc ?_) | (refine store_row rfl rfl rfl rfl HO.out info_cyc ?_))
      refine bodyPost_ret (results_row rfl rfl HO.out.setRow Tryz.underlying40 rfl info_cyc) rfl ?_
      exact ⟨rfl, below_setRow HL.out (by omega) _⟩
end Go.Proofs.YtdpakhggpgdgbaaGreat
/- Out of the text CycU: what the draws of polygons need. -/
namespace Go.Proofs.YtdpakhggpgdgbaaGreat
set_option maxRecDepth 20000
open Go.ChangeShapes Go.WideShapes Go.ChangeAt Go.RowKit
set_option linter.unusedVariables false
set_option linter.unusedSimpArgs false
set_option maxHeartbeats 800000 in
theorem specMirror_any (a : Nat → Int) (ha : InR a) (w : World) :
    Calls Tryz.prog 56 #[pt a] w fun e w' => e = .returned (pt (mir a)) ∧ Below w.heap.size w w' := by
  have sa := vec_size 8 a
  have er : pt (smir a 8) = pt (mir a) := pt_same (smir_mir a)
  rw [← er]
  clear er
  have SB := Lib.hid (smir_bound ha)
  unfold pt at *
  go_enter Tryz.func56, Tryz.ntmps56
  go_upto_region 2 with fail
  show Code.wp _ _ _ _ ((box1 w a 40 40).alloc (.cells (vec 8 nul) 40))
  obtain ⟨hA, hO, hL⟩ := box1_facts w a 40 40
  have zE := hO.lt
  have hsz : (box1 w a 40 40).heap.size = w.heap.size + 1 + 1 := by simp [box1]
  have hE : RowAt ((box1 w a 40 40).alloc (.cells (vec 8 nul) 40)) (w.heap.size + 1 + 1) 8 40 nul := RowAt.newAt rfl hsz
  have hA := hA.alloc (.cells (vec 8 nul) 40)
  have hO := hO.alloc (.cells (vec 8 nul) 40)
  have hL := hL.alloc (by omega) (.cells (vec 8 nul) 40)
  clear zE hsz
  generalize (box1 w a 40 40).alloc (.cells (vec 8 nul) 40) = W at *
  go_wp2_with fail
  go_loopw [4] (fun i wr => ∃ k : Nat, k ≤ 8 ∧ i = .int .i64 k ∧ RowAt wr w.heap.size 8 40 a ∧ RowAt wr (w.heap.size + 1) 8 40 nul ∧ RowAt wr (w.heap.size + 1 + 1) 8 40 (smir a k) ∧ Below w.heap.size w wr) (fun i _ => 8 - (intOf i).toNat)
  case atStart => exact ⟨0, Nat.zero_le _, rfl, hA, hO, hE, hL⟩
  case round =>
    clear hA hO hE hL
    obtain ⟨k, hk, rfl, hA, hO, hE, hL⟩ := hrel
    by_cases hlt : k < 8
    · have hlt' : (k : Int) < 8 := by omega
      have hk0 : (0 : Int) ≤ (k : Int) := by omega
      have hr : (24 - k) % 24 ≤ 23 := by omega
      have M : ∀ w, Calls Tryz.prog 83 #[.int .i64 (-(k : Int))] w fun e w' => e = .returned (.int .i64 ((24 - k) % 24 : Nat)) ∧ w = w' := fun w => by
        have e : (-(k : Int)) % 24 = (((24 - k) % 24 : Nat) : Int) := by omega
        rw [← e]
        exact mod_any (-(k : Int)) (by omega) (by omega) w
      have R := fun w => specRoot_yes ((24 - k) % 24) hr w
      have S1 := fun w => specSum_any (smir a k) (trn one ((24 - k) % 24)) (a k) (ha k hlt) (fun j hj => by have := SB.out k hk j hj; omega) (fun j hj => by have := (root_facts ((24 - k) % 24) hr j hj).1; omega) w
      have eS : mul1 (smir a k) (a k) (trn one ((24 - k) % 24)) = smir a (k + 1) := rfl
      rw [eS] at S1
      generalize trn one ((24 - k) % 24) = rt at *
      generalize (24 - k) % 24 = r at *
      clear eS
      have v1 : IntKind.i64.wrap (-(k : Int)) = -(k : Int) := by rw [IntKind.wrap_i64]; omega
      have v2 : IntKind.i64.wrap (0 - (k : Int)) = -(k : Int) := by rw [IntKind.wrap_i64]; omega
      unfold pt at *
      go_wp2_with fail
      refine (M _).mono ?_; rintro e w' ⟨rfl, rfl⟩
      go_wp2_with fail
      refine (R _).mono ?_; rintro e w2 ⟨rfl, hb2⟩
      have hA2 := hA.below hb2; have hO2 := hO.below hb2; have hE2 := hE.below hb2; have hL2 := below_next hL hb2
      clear hA hO hE hL hb2 M R v1 v2
      go_upto_region 6 with (refine store_row rfl rfl rfl rfl (RowAt.newAt zero8 rfl) info_cyc ?_)
      show Code.wp _ _ _ _ (sole w2 rt 40)
      have hR := sole_first w2 rt 40
      have hA := sole_keep hA2 rt 40
      have hO := sole_keep hO2 rt 40
      have hE := sole_keep hE2 rt 40
      have hL := sole_below hL2 rt 40
      have zg := hE2.lt
      clear hA2 hO2 hE2 hL2
      generalize w2.heap.size = g at *
      generalize sole w2 rt 40 = W3 at *
      have e0 := hE.cell (k := 0) (by omega)
      have p0 := hR.cell (k := 0) (by omega)
      have e1 := hE.cell (k := 1) (by omega)
      have p1 := hR.cell (k := 1) (by omega)
      have e2 := hE.cell (k := 2) (by omega)
      have p2 := hR.cell (k := 2) (by omega)
      have e3 := hE.cell (k := 3) (by omega)
      have p3 := hR.cell (k := 3) (by omega)
      have e4 := hE.cell (k := 4) (by omega)
      have p4 := hR.cell (k := 4) (by omega)
      have e5 := hE.cell (k := 5) (by omega)
      have p5 := hR.cell (k := 5) (by omega)
      have e6 := hE.cell (k := 6) (by omega)
      have p6 := hR.cell (k := 6) (by omega)
      have e7 := hE.cell (k := 7) (by omega)
      have p7 := hR.cell (k := 7) (by omega)
      have cA := hA.cell hlt
      have HA := Lib.hid hA.drew1; have HO := Lib.hid hO.drew1; have HE := Lib.hid hE.drew1; have HL := Lib.hid hL.drew
      clear hA hO hE hL hR
      go_still_tail 6, (by kernel_rfl)
      go_wp2_with fail
      refine (S1 _).mono ?_; rintro e w4 ⟨rfl, hb2⟩
      have hA2 := HA.out.below hb2; have hO2 := HO.out.below hb2; have hE2 := HE.out.below hb2; have hL2 := below_next HL.out hb2
      clear S1 HA HO HE HL hb2 e0 p0 e1 p1 e2 p2 e3 p3 e4 p4 e5 p5 e6 p6 e7 p7 cA
      have HA := Lib.hid (hA2.rowOther (w.heap.size + 1 + 1) (vec 8 (smir a (k + 1))) (by omega))
      have HO := Lib.hid (hO2.rowOther (w.heap.size + 1 + 1) (vec 8 (smir a (k + 1))) (by omega))
      have HE := Lib.hid (hE2.setRow (f' := smir a (k + 1)))
      have HL := Lib.hid (below_setRow hL2 (g := w.heap.size + 1 + 1) (by omega) (vec 8 (smir a (k + 1))))
      clear hA2 hO2 hL2
      go_wp2_with (refine store_row rfl rfl rfl rfl hE2 info_cyc ?_)
      go_roundw
      case rel => exact ⟨k + 1, by omega, by go_num, HA.out, HO.out, HE.out, HL.out⟩
      case measure => simp [intOf]; omega
    · obtain rfl : k = 8 := by omega
      have HE := Lib.hid hE; have HO := Lib.hid hO; have HL := Lib.hid hL
      clear hA hE hO hL SB
      go_wp2_with (first | (refine load_row rfl rfl rfl HE.out Tryz.underlying40 rfl info_cyc ?_) | (refine store_row rfl rfl rfl rfl HO.out info_cyc ?_))
      refine bodyPost_ret (results_row rfl rfl HO.out.setRow Tryz.underlying40 rfl info_cyc) rfl ?_
      exact ⟨rfl, below_setRow HL.out (by omega) _⟩

theorem specGaussIn_any (re im : Int) (w : World) :
    Calls Tryz.prog 46 #[.int .i64 re, .int .i64 im] w fun e w' => e = .returned (pt (gau re im)) ∧ Below w.heap.size w w' := by
  have hO := pair_first w 40
  have hE : RowAt ((w.alloc (.cells (vec 8 nul) 40)).alloc (.cells (vec 8 nul) 40)) (w.heap.size + 1) 8 40 nul := RowAt.newAt rfl (by simp)
  have hL : Below w.heap.size w ((w.alloc (.cells (vec 8 nul) 40)).alloc (.cells (vec 8 nul) 40)) := ((Below.refl _ _).alloc (Nat.le_refl _) _).alloc (by simp) _
  go_enter Tryz.func46, Tryz.ntmps46
  go_upto_region 2 with fail
  show Code.wp _ _ _ _ ((w.alloc (.cells (vec 8 nul) 40)).alloc (.cells (vec 8 nul) 40))
  generalize (w.alloc (.cells (vec 8 nul) 40)).alloc (.cells (vec 8 nul) 40) = W3 at *
  have c0 := hE.cell (k := 0) (by omega)
  have f0 := hE.free 0
  have c6 := (hE.set (k := 0) (by omega) re).cell (k := 6) (by omega)
  have f6 := (hE.set (k := 0) (by omega) re).free 6
  have hE3 : RowAt ((W3.setCell ⟨w.heap.size + 1, 0, none⟩ (.int .i64 re)).setCell ⟨w.heap.size + 1, 6, none⟩ (.int .i64 im)) (w.heap.size + 1) 8 40 (gau re im) :=
    ((hE.set (k := 0) (by omega) re).set (k := 6) (by omega) im).same (fun j _ => by simp only [upd, gau, nul]; split <;> split <;> first | rfl | omega)
  have hO3 := (hO.other ⟨w.heap.size + 1, 0, none⟩ (.int .i64 re) (by simp)).other ⟨w.heap.size + 1, 6, none⟩ (.int .i64 im) (by simp)
  have hL3 := (hL.setCell (p := ⟨w.heap.size + 1, 0, none⟩) (by simp) (.int .i64 re)).setCell (p := ⟨w.heap.size + 1, 6, none⟩) (by simp) (.int .i64 im)
  have HE := Lib.hid hE3
  have HO := Lib.hid hO3
  have HL := Lib.hid hL3
  clear hO hE hL hE3 hO3 hL3
  go_upto_region 4 with fail
  go_wp2_with (first | (refine load_row rfl rfl rfl HE.out Tryz.underlying40 rfl info_cyc ?_) | (refine store_row rfl rfl rfl rfl HO.out info_cyc ?_))
  refine bodyPost_ret (results_row rfl rfl HO.out.setRow Tryz.underlying40 rfl info_cyc) rfl ?_
  exact ⟨rfl, below_setRow HL.out (by omega) _⟩

end Go.Proofs.YtdpakhggpgdgbaaGreat
/- Out of the text RoundWp: what the draws of polygons need. -/
namespace Go.Proofs.YtdpakhggpgdgbaaGreat
set_option maxRecDepth 20000
open Go.ChangeShapes Go.WideShapes Go.ChangeAt Go.RowKit
set_option linter.unusedVariables false
set_option linter.unusedSimpArgs false
def noDefer (o : Oper) : Bool := match o.op with
  | .defer _ => false
  | _ => true
theorem noDefer_is {o : Oper} (h : noDefer o = true) : ∀ c, o.op ≠ .defer c := fun c e => by
  unfold noDefer at h
  rw [e] at h
  cases h
section
variable {P : Program} {ops : Array Oper} {Q : Exit → Act → World → Prop} {md : Region.Mode} {S : World → Prop}
theorem calls_in {f : FuncId} {args : Array Value} {w : World} {R : Ending → World → Prop} (l n : Nat) (h : Calls P f args w R) : CallsIn (Fence.wide.inRound l) n P f args w R := CallsIn.inRound l (callsIn_wide.2 h)
theorem rows_in {row : String} {args : Array Value} {w : World} {R : Value → World → Prop} (l n : Nat) (h : Rows P row args w R) : RowsIn (Fence.wide.inRound l) n P row args w R := fun c cs _ =>
  let ⟨v, w', r, s⟩ := h c cs
  ⟨v, w', r, stepsIn_wide.2 s⟩
theorem upon_in {o : Oper} {a : Act} {next : Act → World → Prop} {r : Result Next} (l n : Nat) (h : o.upon P a next Q r) : o.uponIn (Fence.wide.inRound l) n P a next Q r := by
  cases r with
  | ok x w' =>
    cases x <;> simp only [Oper.upon, Oper.uponIn] at h ⊢ <;>
      first
        | exact h
        | exact ⟨fun hd => (by cases hd), CallsIn.mono (calls_in l (n - 1) h) (fun e w'' he => by cases e <;> exact he)⟩
        | exact ⟨fun hd => (by cases hd), rows_in l (n - 1) h⟩
  | halt x w' => cases x <;> simp only [Oper.upon, Oper.uponIn] at h ⊢ <;> exact h
theorem wp_in {o : Oper} {a : Act} {w : World} {next : Act → World → Prop} (l n : Nat) (hd : noDefer o = true) (h : o.wp P a w next Q) : o.wpIn (Fence.wide.inRound l) n P a w next Q := by
  refine ⟨fun f _ => trivial, ?_⟩
  have e : o.semAt (Fence.wide.inRound l).round a.eval = execOp a.eval o := Oper.semAt_some l a.eval o (noDefer_is hd)
  rw [e]
  exact upon_in l n h
theorem wpList_in (l n : Nat) (hno : ¬ LetsOut Q) : ∀ L : List Oper, L.all noDefer = true → ∀ a w, wpList P ops Q L a w → wpListIn (Fence.wide.inRound l) n P ops Q L a w
  | [], _, a, w, h => h
  | o :: L, hd, a, w, h => by
    rw [List.all_cons, Bool.and_eq_true] at hd
    have ih := wpList_in l n hno L hd.2
    unfold wpList at h
    unfold wpListIn
    by_cases hw : Region.wanted o (yielded ops a.tmps) = true
    · rw [if_pos hw] at h ⊢
      rcases h with h | h
      · exact wp_in l n hd.1 (Oper.wp_mono ih h)
      · exact absurd h.2 hno
    · rw [if_neg hw] at h ⊢
      exact ⟨fun f _ => trivial, ih _ _ h⟩
/-- A plain region. -/
theorem region_in {id n l : Nat} {L : List Oper} {a : Act} {w : World} (hno : ¬ LetsOut Q) (hd : L.all noDefer = true) (h : wpList P L.toArray Q L a w) : (Code.region id L.toArray false).wpIn (Fence.wide.inRound l) n P Q a w :=
  wpIn_region_lit (wpList_in l n hno L hd a w h)
theorem wpOp_in {i : Nat} {a : Act} {w : World} {K : Act → World → Prop} (l n : Nat) (hno : ¬ LetsOut Q) (hd : ∀ (j : Nat) (o : Oper), ops[j]? = some o → noDefer o = true) (h : wpOp P ops Q i K a w) : wpOpIn (Fence.wide.inRound l) n P ops Q i K a w := by
  unfold wpOp at h
  unfold wpOpIn
  split
  · rename_i ho
    rw [ho] at h; exact h
  · rename_i o ho
    rw [ho] at h
    simp only at h
    split
    · rename_i hw
      rw [if_pos hw] at h
      rcases h with h | h
      · exact wp_in l n (hd i o ho) h
      · exact absurd h.2 hno
    · rename_i hw
      rw [if_neg hw] at h
      exact ⟨fun f _ => trivial, h⟩
theorem wpAny_in (l n : Nat) (hno : ¬ LetsOut Q) (hd : ∀ (j : Nat) (o : Oper), ops[j]? = some o → noDefer o = true) : ∀ (fuel : Nat) (listed : Array Bool) (a : Act) (w : World), wpAny P md ops Q fuel listed a w → wpAnyIn (Fence.wide.inRound l) n P md ops Q fuel listed a w
  | 0, _, _, _, h => h
  | fuel + 1, _, _, _, h => ⟨h.1, fun i hi => wpOp_in l n hno hd (wpOp_mono (fun a' w' h' => wpAny_in l n hno hd fuel _ a' w' h') (h.2 i hi))⟩
/-- A region that draws its order. -/
theorem drawn_in {id n l : Nat} {L : List Oper} {a : Act} {w : World} (hno : ¬ LetsOut Q) (hd : L.all noDefer = true) (hm : P.follows .mixedOrders = true) (hS : S w.drew)
    (h : S w.drew → wpAnyH P .any L.toArray Q S L.toArray.size (Array.replicate L.toArray.size false) a w.drew) : (Code.region id L.toArray true).wpIn (Fence.wide.inRound l) n P Q a w :=
  wpIn_region_any hm (wpAny_in l n hno (fun j o ho => List.all_eq_true.1 hd o (by
    have : L[j]? = some o := by simpa using ho
    exact List.mem_of_getElem? this)) _ _ _ _ (wpAny_of_held _ _ _ _ (h hS)))
end
theorem keeps_below {W W' : World} (h : Below W.heap.size W W') : KeepsOthers W W' := KeepsOthers.of_grownBy (row := none) ⟨h.os, h.tape, h.output, h.size, fun k hk _ => h.block k hk⟩ (fun j o e => by cases e)

end Go.Proofs.YtdpakhggpgdgbaaGreat
/- Out of the text RangeB: what the draws of polygons need. -/
namespace Go.Proofs.YtdpakhggpgdgbaaGreat
set_option maxRecDepth 20000
open Go.ChangeShapes Go.WideShapes Go.ChangeAt Go.RowKit
set_option linter.unusedVariables false
set_option linter.unusedSimpArgs false
section
variable {n : Nat} {P : Program} {α : Type}
/-- The function gf, with bd bound, hands the elements of xs to yield, one after the other; it reads block gl. -/
def GivesB (n : Nat) (P : Program) (gf : Nat) (bd : Array Value) (en : α → Array Value) (xs : List α) (gl : Nat) (w : World) : Prop :=
  ∀ (l : Nat) (J Jx : List α → World → Prop) (W : World), Below w.heap.size w W → (∀ pre A C, J pre A → Below A.heap.size A C → J pre C) →
    (∀ pre x A, (∃ rest, xs = pre ++ x :: rest) → J pre A → YieldAt Fence.wide (n - 1) P l (en x) A fun e C => (e = .returned (.bool true) ∧ J (pre ++ [x]) C ∧ C.heap[gl]? = A.heap[gl]?) ∨ (e = .returned (.bool false) ∧ Jx (pre ++ [x]) C)) →
    J [] W → CallsIn Fence.wide n P gf (bd ++ #[.func (.yield l) #[] #[]]) W fun e C => (∃ v, e = .returned v) ∧ (J xs C ∨ ∃ pre x, (∃ rest, xs = pre ++ x :: rest) ∧ Jx (pre ++ [x]) C)
theorem below_put {B l : Nat} {A : World} {o o' : Obj} (hB : B ≤ l) (h : A.heap[l]? = some o) : Below B A (A.putObj l o') :=
  (Below.refl B A).grown (grownBy_putObj' A l o') (by have := (Array.getElem?_eq_some_iff.1 h).1; omega) (fun k e => by cases e; exact hB)
theorem here_below {A C : World} {l : Nat} {o : Obj} (h : A.heap[l]? = some o) (hb : Below A.heap.size A C) : C.heap[l]? = some o := (hb.block l (Array.getElem?_eq_some_iff.1 h).1).trans h

theorem range_bound {g : Operand} {ps : Array Tmp} {assign body : Code} {Q : Exit → Act → World → Prop} {a : Act} {w : World} {gf : Nat} {bd : Array Value}
    (h1 : 1 ≤ n) (hg : a.eval g = .func (.func gf) bd #[]) (eg : ∀ args w, (callFunc gf args).run P w = .ok (.enter gf args) w)
    {en : α → Array Value} {xs : List α} {gl : Nat} {w0 : World} (hseq : GivesB (n - 1) P gf bd en xs gl w0) (hb0 : Below w0.heap.size w0 w) (hn0 : gl < w.heap.size) (hps : ∀ x, (en x).size = ps.size)
    (I : List α → World → Prop) (Ix : Code → List α → World → Prop) (hI : ∀ pre A C, I pre A → Below w.heap.size A C → I pre C) (hIx : ∀ c pre A C, Ix c pre A → Below w.heap.size A C → Ix c pre C) (h0 : I [] w)
    (Ax : α → Act → World → Prop) (hAx : ∀ x a' A C, Ax x a' A → Below A.heap.size A C → Ax x a' C) (hAl : ∀ x a' A r o, Ax x a' A → A.heap[w.heap.size + 1]? = some (.loop r) → Ax x a' (A.putObj (w.heap.size + 1) o))
    (hassign : ∀ (l : Nat) (x : α) (A : World) (K : Act → World → Prop), w.heap.size + 1 < A.heap.size → (∀ a' C, Below A.heap.size A C → Ax x a' C → K a' C) →
      assign.wpIn (Fence.wide.inRound l) (n - 1 - 1) P (Exit.then K (fun _ _ _ => False)) { tmps := (ps.zip (en x)).foldl (fun t (p, v) => t.setIfInBounds p v) a.tmps, defers := [] } A)
    (hbody : ∀ (l : Nat) (pre : List α) (x : α) (a' : Act) (A : World), (∃ rest, xs = pre ++ x :: rest) → w.heap.size < A.heap.size → I pre A → Ax x a' A → body.wpIn (Fence.wide.inRound l) (n - 1 - 1) P (ownPostG w.heap.size (fun A C => C.heap[gl]? = A.heap[gl]?) I Ix (pre ++ [x]) A) a' A)
    (hdone : ∀ (D : Nat) (W : World), w.heap.size ≤ D → I xs W → W.heap[D]? = some (.deferred (some [])) → Q .normal { a with defers := { target := .collected D, args := #[] } :: a.defers } W)
    (hstop : ∀ (D : Nat) (c : Code) (pre : List α) (x : α) (W : World), w.heap.size ≤ D → (∃ rest, xs = pre ++ x :: rest) → Ix c (pre ++ [x]) W → W.heap[D]? = some (.deferred (some [])) → c.wpIn Fence.wide n P Q { a with defers := { target := .collected D, args := #[] } :: a.defers } W) :
    (Code.rangeFunc g ps assign body).wpIn Fence.wide n P Q a w := by
  refine wpIn_rangeFunc fun fn hfn => ?_
  obtain ⟨rc, hrc⟩ : ∃ rc : LoopState → Option Code → Loop, rc = fun st pe => { state := st, pending := pe, fn := fn, tmps := a.tmps, params := ps, assign := assign, body := body, defers := w.heap.size } := ⟨_, rfl⟩
  obtain ⟨U, hU⟩ : ∃ U, (w.alloc (.deferred (some []))).alloc (.loop (rc .ready none)) = U := ⟨_, rfl⟩
  have hbU : Below w.heap.size w U := by rw [← hU]; exact ((Below.refl _ w).alloc (Nat.le_refl _) _).alloc (by simp) _
  have hlU : U.heap[w.heap.size + 1]? = some (.loop (rc .ready none)) := by
    have := World.alloc_heap_new (w.alloc (.deferred (some []))) (.loop (rc .ready none))
    rw [World.size_alloc, hU] at this
    exact this
  have hdU : U.heap[w.heap.size]? = some (.deferred (some [])) := by
    rw [← hU]
    exact (Below.heap_alloc _ _ _ (by simp)).trans (World.alloc_heap_new w _)
  refine ⟨w.heap.size + 1, [{ target := .collected w.heap.size, args := #[] }], U, { target := .fn (.func gf) #[], args := bd ++ #[.func (.yield (w.heap.size + 1)) #[] #[]] }, U, gf, bd ++ #[.func (.yield (w.heap.size + 1)) #[] #[]], U, ?_, ?_, fun _ _ => trivial, ?_, fun _ => h1, ?_⟩
  · rw [← hU, hrc]; exact run_enterLoop_outer _ _ _ _ _
  · simp only [resolve, hg]
    simp [go_sem]
  · simp [invoke, go_sem, eg]
  · refine (hseq (w.heap.size + 1)
      (fun pre W => I pre W ∧ W.heap[w.heap.size + 1]? = some (.loop (rc .ready none)) ∧ W.heap[w.heap.size]? = some (.deferred (some [])))
      (fun pre W => ∃ c, Ix c pre W ∧ W.heap[w.heap.size + 1]? = some (.loop (rc .done (some c))) ∧ W.heap[w.heap.size]? = some (.deferred (some [])))
      U (hb0.trans (hbU.mono hb0.size)) ?abides ?round ⟨hI _ _ _ h0 hbU, hlU, hdU⟩).mono ?behind
    case abides =>
      rintro pre A C ⟨hi, hl, hd⟩ hb
      have hlt := (Array.getElem?_eq_some_iff.1 hl).1
      exact ⟨hI _ _ _ hi (hb.mono (by omega)), here_below hl hb, here_below hd hb⟩
    case round =>
      rintro pre x A hx ⟨hi, hl, hd⟩
      have hy := run_yield (P := P) (args := en x) hl (by rw [hrc]; exact hps x)
      rw [hrc] at hy
      have hlt := (Array.getElem?_eq_some_iff.1 hl).1
      refine ⟨fn, _, assign, body, hy, roundIn_of_wpIn hfn (hassign _ x A _ hlt fun a' C hAC hax => ?_)⟩
      have hlC := here_below hl hAC
      have hdC := here_below hd hAC
      have hiC := hI _ _ _ hi (hAC.mono (by omega))
      refine ⟨_, run_beginRound hlC (by rw [hrc]), ?_⟩
      obtain ⟨bz, hbz⟩ : ∃ bz : Loop, bz = { rc .ready none with state := .busy } := ⟨_, rfl⟩
      rw [← hbz]
      have hltC := (Array.getElem?_eq_some_iff.1 hlC).1
      have hB1 : Below w.heap.size C (C.putObj (w.heap.size + 1) (.loop bz)) := below_put (by omega) hlC
      have hl1 : (C.putObj (w.heap.size + 1) (.loop bz)).heap[w.heap.size + 1]? = some (.loop bz) := World.putObj_heap_same hltC
      have hd1 : (C.putObj (w.heap.size + 1) (.loop bz)).heap[w.heap.size]? = some (.deferred (some [])) := (World.putObj_heap_other (by omega)).trans hdC
      have hbd := hbody (w.heap.size + 1) pre x a' _ hx (Nat.lt_of_lt_of_le (Nat.lt_of_succ_lt hltC) hB1.size) (hI _ _ _ hiC hB1) (hAl _ _ _ _ (.loop bz) hax hlC)
      generalize C.putObj (w.heap.size + 1) (.loop bz) = D1 at *
      have hAD : D1.heap[gl]? = A.heap[gl]? := (hB1.block gl hn0).trans (hAC.block gl (by omega))
      have fin : ∀ (jump : Option Code) (E : World), KeepsFrom w.heap.size D1 E → (Instr.endRound (w.heap.size + 1) jump).run P E = .ok (.bool jump.isNone) (E.putObj (w.heap.size + 1) (.loop (rc (if jump.isNone then .ready else .done) jump))) ∧
          E.heap[w.heap.size + 1]? = some (.loop bz) ∧ (E.putObj (w.heap.size + 1) (.loop (rc (if jump.isNone then .ready else .done) jump))).heap[w.heap.size + 1]? = some (.loop (rc (if jump.isNone then .ready else .done) jump)) ∧
          (E.putObj (w.heap.size + 1) (.loop (rc (if jump.isNone then .ready else .done) jump))).heap[w.heap.size]? = some (.deferred (some [])) := fun jump E hk => by
        have hlE := hk.same _ _ (by omega) hl1 rfl
        have hdE := hk.same _ _ (Nat.le_refl _) hd1 rfl
        have he := run_endRound (P := P) jump hlE
        rw [hbz, hrc] at he
        refine ⟨by rw [hrc]; exact he, hlE, World.putObj_heap_same (Array.getElem?_eq_some_iff.1 hlE).1, (World.putObj_heap_other (by omega)).trans hdE⟩
      refine wpIn_mono hbd ?_
      rintro e a3 E hp
      cases e with
      | normal =>
        obtain ⟨hk, hb3, hi3⟩ := hp
        obtain ⟨hr, hl3, hl4, hd4⟩ := fin none E hk
        exact ⟨_, _, hr, .inl ⟨rfl, ⟨hI _ _ _ hi3 (below_put (by omega) hl3), hl4, hd4⟩, ((below_put (B := w.heap.size) (by omega) hl3).block gl hn0).trans (hb3.trans hAD)⟩⟩
      | ret =>
        obtain ⟨hk, hi3⟩ := hp
        obtain ⟨hr, hl3, hl4, hd4⟩ := fin (some .ret) E hk
        exact ⟨_, _, hr, .inr ⟨rfl, .ret, hIx _ _ _ _ hi3 (below_put (by omega) hl3), hl4, hd4⟩⟩
      | exit id =>
        obtain ⟨hk, hi3⟩ := hp
        obtain ⟨hr, hl3, hl4, hd4⟩ := fin (some (.exit id)) E hk
        exact ⟨_, _, hr, .inr ⟨rfl, .exit id, hIx _ _ _ _ hi3 (below_put (by omega) hl3), hl4, hd4⟩⟩
      | goto t =>
        obtain ⟨hk, hi3⟩ := hp
        obtain ⟨hr, hl3, hl4, hd4⟩ := fin (some (.goto t)) E hk
        exact ⟨_, _, hr, .inr ⟨rfl, .goto t, hIx _ _ _ _ hi3 (below_put (by omega) hl3), hl4, hd4⟩⟩
      | panic ch => exact hp.elim
      | outgrown => exact hp.elim
    case behind =>
      rintro e E ⟨⟨v, rfl⟩, (⟨hi, hl, hd⟩ | ⟨pre, x, hx, c, hi, hl, hd⟩)⟩
      · have he := run_endLoop (P := P) hl (by rw [hrc]; simp)
        rw [hrc] at he
        exact ⟨none, _, he, hdone _ _ (Nat.le_refl _) (hI _ _ _ hi (below_put (by omega) hl)) ((World.putObj_heap_other (by omega)).trans hd)⟩
      · have he := run_endLoop (P := P) hl (by rw [hrc]; simp)
        rw [hrc] at he
        exact ⟨some c, _, he, hstop _ c pre x _ (Nat.le_refl _) hx (hIx _ _ _ _ hi (below_put (by omega) hl)) ((World.putObj_heap_other (by omega)).trans hd)⟩
end
end Go.Proofs.YtdpakhggpgdgbaaGreat
