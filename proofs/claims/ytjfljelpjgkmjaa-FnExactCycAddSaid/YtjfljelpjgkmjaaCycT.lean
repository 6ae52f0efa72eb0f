/-
  Contracts of spec's calculations with exact points, second part: turns, sums, products, mirrored points.
-/
import Derived.Test.YtjfljelpjgkmjaaCycS
namespace Go.Proofs.Ytjfljelpjgkmjaa
set_option maxRecDepth 20000
open Go.ChangeShapes Go.WideShapes Go.ChangeAt Go.RowKit
set_option linter.unusedVariables false
set_option linter.unusedSimpArgs false

theorem size_cyc (a : Nat → Int) : (Try.prog.info? 25).map (·.size) = some (lst 8 a).length := by rw [lst_length]; exact info_cyc
theorem done_some (c : Nat → Int) : ∃ c' v', (∀ w, Calls Try.prog 74 #[.agg (vec 8 c)] w fun e w' => e = .returned (.tuple #[.agg (vec 8 c'), .bool v']) ∧ Below w.heap.size w w') ∧ ans true c = .tuple #[.agg (vec 8 c'), .bool v'] :=
  ⟨if okc c then c else nul, okc c, fun w => specDone_any c w, rfl⟩

theorem specTurned_any (a : Nat → Int) (n : Nat) (hn : n ≤ 23) (ha : InR a) (w : World) :
    Calls Try.prog 69 #[pt a, .int .i64 n] w fun e w' => e = .returned (pt (trn a n)) ∧ Below w.heap.size w w' := by
  have sa := vec_size 8 a
  have SB := fun k hk => stps_in ha k hk
  have er : pt (stps n a) = pt (trn a n) := pt_same (trn_steps a n hn)
  rw [← er]
  clear er
  unfold pt at *
  go_enter Try.func69, Try.ntmps69
  go_upto_region 1 with fail
  show Code.wp _ _ _ _ (box1 w a 25 25)
  obtain ⟨hA, hO, hL⟩ := box1_facts w a 25 25
  generalize box1 w a 25 25 = W at *
  go_wp2_with fail
  go_loopw [5] (fun i wr => ∃ k : Nat, k ≤ n ∧ i = .int .i64 k ∧ RowAt wr w.heap.size 8 25 (stps k a) ∧ RowAt wr (w.heap.size + 1) 8 25 nul ∧ Below w.heap.size w wr) (fun i _ => n - (intOf i).toNat)
  case atStart => exact ⟨0, Nat.zero_le _, rfl, hA, hO, hL⟩
  case round =>
    clear hA hO hL
    obtain ⟨k, hk, rfl, hA, hO, hL⟩ := hrel
    by_cases hlt : k < n
    · have hlt' : (k : Int) < (n : Int) := by omega
      have S := fun w => specStep_any (stps k a) (fun j hj => by have := SB k (by omega) j hj; omega) w
      have HS := Lib.hid SB
      clear SB
      go_wp2_with (refine load_row rfl rfl rfl hA Try.underlying25 rfl info_cyc ?_)
      refine (S _).mono ?_; rintro e w2 ⟨rfl, hb2⟩
      have hA2 := hA.below hb2
      have hO2 := hO.below hb2
      have hL2 := below_next hL hb2
      clear S hA hO hL hb2
      have HA : Hid (RowAt _ _ _ _ (stps (k + 1) a)) := Lib.hid (hA2.setRow (f' := stp (stps k a)))
      have HO := Lib.hid (hO2.rowOther w.heap.size (vec 8 (stp (stps k a))) (by omega))
      have HL := Lib.hid (below_setRow hL2 (Nat.le_refl _) (vec 8 (stp (stps k a))))
      clear hO2 hL2
      go_wp2_with (refine store_row rfl rfl rfl rfl hA2 info_cyc ?_)
      go_roundw
      case rel => exact ⟨k + 1, by omega, by go_num, HA.out, HO.out, HL.out⟩
      case measure => simp [intOf]; omega
    · obtain rfl : k = n := by omega
      have HA := Lib.hid hA; have HO := Lib.hid hO; have HL := Lib.hid hL
      clear hA hO hL SB
      go_wp2_with (first | (refine load_row rfl rfl rfl HA.out Try.underlying25 rfl info_cyc ?_) | (refine store_row rfl rfl rfl rfl HO.out info_cyc ?_))
      refine bodyPost_ret (results_row rfl rfl HO.out.setRow Try.underlying25 rfl info_cyc) rfl ?_
      exact ⟨rfl, below_setRow HL.out (by omega) _⟩

theorem specSum_any (a b : Nat → Int) (n : Int) (hn : -1000000 ≤ n ∧ n ≤ 1000000) (ha : ∀ j, j < 8 → -8000000000000000 ≤ a j ∧ a j ≤ 8000000000000000) (hb : ∀ j, j < 8 → -1000000000 ≤ b j ∧ b j ≤ 1000000000) (w : World) :
    Calls Try.prog 75 #[pt a, .int .i64 n, pt b] w fun e w' => e = .returned (pt (mul1 a n b)) ∧ Below w.heap.size w w' := by
  have sa := vec_size 8 a
  have sb := vec_size 8 b
  unfold pt at *
  go_enter Try.func75, Try.ntmps75
  go_upto_region 1 with fail
  show Code.wp _ _ _ _ (box2 w a b 25 25)
  obtain ⟨hA, hB, hO, hL⟩ := box2_facts w a b 25 25
  generalize box2 w a b 25 25 = W at *
  go_wp2_with fail
  go_loopw [7] (fun i wr => ∃ k : Nat, k ≤ 8 ∧ i = .int .i64 k ∧ RowAt wr w.heap.size 8 25 (mix k (mul1 a n b) a) ∧ RowAt wr (w.heap.size + 1) 8 25 b ∧ RowAt wr (w.heap.size + 1 + 1) 8 25 nul ∧ Below w.heap.size w wr) (fun i _ => 8 - (intOf i).toNat)
  case atStart => exact ⟨0, Nat.zero_le _, rfl, by rw [mix_zero]; exact hA, hB, hO, hL⟩
  case round =>
    clear hA hB hO hL
    obtain ⟨k, hk, rfl, hA, hB, hO, hL⟩ := hrel
    by_cases hlt : k < 8
    · have cA := hA.cell hlt
      have fA := hA.free k
      have cB := hB.cell hlt
      rw [mix_at] at cA
      have hlt' : (k : Int) < 8 := by omega
      have hk0 : (0 : Int) ≤ (k : Int) := by omega
      have b1 := ha k hlt
      have b2 := prod_in hn (hb k hlt)
      have w1 : IntKind.i64.wrap (n * b k) = n * b k := by rw [IntKind.wrap_i64]; omega
      have w2 : IntKind.i64.wrap (a k + n * b k) = a k + n * b k := by rw [IntKind.wrap_i64]; omega
      have hA2 := hA.set hlt (mul1 a n b k)
      rw [mix_step] at hA2
      have HA := Lib.hid hA2
      have HB := Lib.hid (hB.other ⟨w.heap.size, k, none⟩ (.int .i64 (a k + n * b k)) (by simp))
      have HO := Lib.hid (hO.other ⟨w.heap.size, k, none⟩ (.int .i64 (a k + n * b k)) (by simp; try omega))
      have HL := Lib.hid ((hL.setCell (p := ⟨w.heap.size, k, none⟩) (Nat.le_refl _) (.int .i64 (a k + n * b k))))
      clear hA hA2 hB hO hL ha hb
      go_wp2_with fail
      go_still_tail 14, (by kernel_rfl)
      go_wp2_with fail
      go_roundw
      case rel => exact ⟨k + 1, by omega, by go_num, HA.out, HB.out, HO.out, HL.out.drew⟩
      case measure => simp [intOf]; omega
    · obtain rfl : k = 8 := by omega
      have HA := Lib.hid hA; have HO := Lib.hid hO; have HL := Lib.hid hL
      clear hA hB hO hL ha hb
      go_wp2_with (first | (refine load_row rfl rfl rfl HA.out Try.underlying25 rfl info_cyc ?_) | (refine store_row rfl rfl rfl rfl HO.out info_cyc ?_))
      refine bodyPost_ret (results_row rfl rfl HO.out.setRow Try.underlying25 rfl info_cyc) rfl ?_
      exact ⟨by rw [vec_mix], below_setRow HL.out (by omega) _⟩

theorem specRoot_no (t : Int) (ht : t < 0 ∨ 23 < t) (w : World) :
    Calls Try.prog 31 #[.int .i64 t] w fun e w' => e = .returned (ans false nul) ∧ Below w.heap.size w w' := by
  rw [ans_no]
  have G := fun w => is_no t ht w
  go_enter Try.func31, Try.ntmps31
  go_wp2_with fail
  refine (G _).mono ?_; rintro e w' ⟨rfl, rfl⟩
  go_wp2_with (refine store_row rfl rfl rfl (show _ = Value.agg (vec 8 nul) from rfl) (RowAt.newAt zero8 rfl) info_cyc ?_)
  refine bodyPost_ret (results_row_tmp rfl rfl (RowAt.newAt zero8 rfl).setRow Try.underlying25 rfl info_cyc) rfl ?_
  exact ⟨rfl, below_setRow ((Below.refl _ _).alloc (Nat.le_refl _) _) (Nat.le_refl _) _⟩
theorem specRoot_yes (t : Nat) (ht : t ≤ 23) (w : World) :
    Calls Try.prog 31 #[.int .i64 t] w fun e w' => e = .returned (.tuple #[pt (trn one t), .bool true]) ∧ Below w.heap.size w w' := by
  have G := fun w => is_yes (t : Int) (by omega) (by omega) w
  have M := fun w => specTurned_any one t ht (fun j hj => by simp only [one]; split <;> omega) w
  unfold pt at *
  go_enter Try.func31, Try.ntmps31
  go_wp2_with fail
  refine (G _).mono ?_; rintro e w' ⟨rfl, rfl⟩
  go_upto_region 4 with fail
  show Code.wp _ _ _ _ ((w.alloc (.cells (vec 8 nul) 25)).alloc (.cells (vec 8 nul) 25))
  have hO := pair_first w 25
  have hE : RowAt ((w.alloc (.cells (vec 8 nul) 25)).alloc (.cells (vec 8 nul) 25)) (w.heap.size + 1) 8 25 nul := RowAt.newAt rfl (by simp)
  have hL : Below w.heap.size w ((w.alloc (.cells (vec 8 nul) 25)).alloc (.cells (vec 8 nul) 25)) := ((Below.refl _ _).alloc (Nat.le_refl _) _).alloc (by simp) _
  generalize (w.alloc (.cells (vec 8 nul) 25)).alloc (.cells (vec 8 nul) 25) = W3 at *
  have c0 := hE.cell (k := 0) (by omega)
  have f0 := hE.free 0
  have hE3 := (hE.set (k := 0) (by omega) 1).same (f' := one) (fun j _ => by simp only [upd, one, nul])
  have HE := Lib.hid hE3
  have HO := Lib.hid (hO.other ⟨w.heap.size + 1, 0, none⟩ (.int .i64 1) (by simp))
  have HL := Lib.hid (hL.setCell (p := ⟨w.heap.size + 1, 0, none⟩) (by simp) (.int .i64 1))
  clear hO hE hL hE3
  go_upto_region 5 with fail
  have hE4 := HE.out
  have hO4 := HO.out
  have hL4 := HL.out
  clear HE HO HL c0 f0 G
  generalize W3.setCell ⟨w.heap.size + 1, 0, none⟩ (.int .i64 1) = W4 at *
  go_wp2_with (refine load_row rfl rfl rfl hE4 Try.underlying25 rfl info_cyc ?_)
  refine (M _).mono ?_; rintro e w4 ⟨rfl, hb4⟩
  have hO5 := hO4.below hb4
  have hL5 := below_next hL4 hb4
  clear hE4 hO4 hL4 hb4 M
  go_wp2_with (refine store_row rfl rfl rfl rfl hO5 info_cyc ?_)
  refine bodyPost_ret (results_row_tmp rfl rfl hO5.setRow Try.underlying25 rfl info_cyc) rfl ?_
  exact ⟨rfl, below_setRow hL5 (by omega) _⟩

set_option maxHeartbeats 800000 in
theorem specTimes_any (a b : Nat → Int) (ha : InR a) (hb : InR b) (w : World) :
    Calls Try.prog 77 #[pt a, pt b] w fun e w' => e = .returned (pt (prd a b)) ∧ Below w.heap.size w w' := by
  have sa := vec_size 8 a
  have sb := vec_size 8 b
  have er : pt (smul a b 8) = pt (prd a b) := pt_same (prd_smul a b)
  rw [← er]
  clear er
  have SB := Lib.hid (smul_bound ha hb)
  have TB := Lib.hid (fun k hk => stps_low hb k hk)
  unfold pt at *
  go_enter Try.func77, Try.ntmps77
  go_upto_region 2 with fail
  show Code.wp _ _ _ _ ((box2 w a b 25 25).alloc (.cells (vec 8 nul) 25))
  obtain ⟨hA, hB, hO, hL⟩ := box2_facts w a b 25 25
  have zE := hO.lt
  have hsz : (box2 w a b 25 25).heap.size = w.heap.size + 1 + 1 + 1 := by simp [box2]
  have hE : RowAt ((box2 w a b 25 25).alloc (.cells (vec 8 nul) 25)) (w.heap.size + 1 + 1 + 1) 8 25 nul := RowAt.newAt rfl hsz
  have hA := hA.alloc (.cells (vec 8 nul) 25)
  have hB := hB.alloc (.cells (vec 8 nul) 25)
  have hO := hO.alloc (.cells (vec 8 nul) 25)
  have hL := hL.alloc (by omega) (.cells (vec 8 nul) 25)
  clear zE hsz
  generalize (box2 w a b 25 25).alloc (.cells (vec 8 nul) 25) = W at *
  go_wp2_with fail
  go_loopw [6] (fun i wr => ∃ k : Nat, k ≤ 8 ∧ i = .int .i64 k ∧ RowAt wr w.heap.size 8 25 a ∧ RowAt wr (w.heap.size + 1) 8 25 (stps k b) ∧ RowAt wr (w.heap.size + 1 + 1) 8 25 nul ∧ RowAt wr (w.heap.size + 1 + 1 + 1) 8 25 (smul a b k) ∧ Below w.heap.size w wr) (fun i _ => 8 - (intOf i).toNat)
  case atStart => exact ⟨0, Nat.zero_le _, rfl, hA, hB, hO, hE, hL⟩
  case round =>
    clear hA hB hO hE hL
    obtain ⟨k, hk, rfl, hA, hB, hO, hE, hL⟩ := hrel
    by_cases hlt : k < 8
    · have hlt' : (k : Int) < 8 := by omega
      have hk0 : (0 : Int) ≤ (k : Int) := by omega
      have S1 := fun w => specSum_any (smul a b k) (stps k b) (a k) (ha k hlt) (fun j hj => by have := SB.out k hk j hj; omega) (TB.out k hk) w
      have S2 := fun w => specStep_any (stps k b) (fun j hj => by have := TB.out k hk j hj; omega) w
      have e0 := hE.cell (k := 0) (by omega)
      have p0 := hB.cell (k := 0) (by omega)
      have e1 := hE.cell (k := 1) (by omega)
      have p1 := hB.cell (k := 1) (by omega)
      have e2 := hE.cell (k := 2) (by omega)
      have p2 := hB.cell (k := 2) (by omega)
      have e3 := hE.cell (k := 3) (by omega)
      have p3 := hB.cell (k := 3) (by omega)
      have e4 := hE.cell (k := 4) (by omega)
      have p4 := hB.cell (k := 4) (by omega)
      have e5 := hE.cell (k := 5) (by omega)
      have p5 := hB.cell (k := 5) (by omega)
      have e6 := hE.cell (k := 6) (by omega)
      have p6 := hB.cell (k := 6) (by omega)
      have e7 := hE.cell (k := 7) (by omega)
      have p7 := hB.cell (k := 7) (by omega)
      have cA := hA.cell hlt
      have HA := Lib.hid hA.drew1; have HB := Lib.hid hB.drew1; have HO := Lib.hid hO.drew1; have HE := Lib.hid hE.drew1; have HL := Lib.hid hL.drew
      clear hA hB hO hE hL
      go_upto_region 5 with fail
      go_still_tail 6, (by kernel_rfl)
      go_wp2_with fail
      refine (S1 _).mono ?_; rintro e w2 ⟨rfl, hb2⟩
      have hA2 := HA.out.below hb2; have hB2 := HB.out.below hb2; have hO2 := HO.out.below hb2; have hE2 := HE.out.below hb2; have hL2 := below_next HL.out hb2
      clear S1 HA HB HO HE HL hb2 e0 p0 e1 p1 e2 p2 e3 p3 e4 p4 e5 p5 e6 p6 e7 p7 cA
      have hA3 := hA2.rowOther (w.heap.size + 1 + 1 + 1) (vec 8 (mul1 (smul a b k) (a k) (stps k b))) (by omega)
      have hB3 := hB2.rowOther (w.heap.size + 1 + 1 + 1) (vec 8 (mul1 (smul a b k) (a k) (stps k b))) (by omega)
      have hO3 := hO2.rowOther (w.heap.size + 1 + 1 + 1) (vec 8 (mul1 (smul a b k) (a k) (stps k b))) (by omega)
      have hE3 : RowAt _ _ _ _ (smul a b (k + 1)) := hE2.setRow (f' := mul1 (smul a b k) (a k) (stps k b))
      have hL3 := below_setRow hL2 (g := w.heap.size + 1 + 1 + 1) (by omega) (vec 8 (mul1 (smul a b k) (a k) (stps k b)))
      have HA := Lib.hid hA3; have HB := Lib.hid hB3; have HO := Lib.hid hO3; have HE := Lib.hid hE3; have HL := Lib.hid hL3
      clear hA2 hB2 hO2 hL2 hA3 hB3 hO3 hE3 hL3
      go_upto_region 6 with (refine store_row rfl rfl rfl rfl hE2 info_cyc ?_)
      have hA3 := HA.out; have hB3 := HB.out; have hO3 := HO.out; have hE3 := HE.out; have hL3 := HL.out
      clear hE2 HA HB HO HE HL
      generalize World.setRow w2 (w.heap.size + 1 + 1 + 1) (vec 8 (mul1 (smul a b k) (a k) (stps k b))) = W3 at *
      go_wp2_with (refine load_row rfl rfl rfl hB3 Try.underlying25 rfl info_cyc ?_)
      refine (S2 _).mono ?_; rintro e w4 ⟨rfl, hb2⟩
      have hA4 := hA3.below hb2; have hB4 := hB3.below hb2; have hO4 := hO3.below hb2; have hE4 := hE3.below hb2; have hL4 := below_next hL3 hb2
      clear S2 hA3 hB3 hO3 hE3 hL3 hb2
      have HA := Lib.hid (hA4.rowOther (w.heap.size + 1) (vec 8 (stp (stps k b))) (by omega))
      have HB : Hid (RowAt _ _ _ _ (stps (k + 1) b)) := Lib.hid (hB4.setRow (f' := stp (stps k b)))
      have HO := Lib.hid (hO4.rowOther (w.heap.size + 1) (vec 8 (stp (stps k b))) (by omega))
      have HE := Lib.hid (hE4.rowOther (w.heap.size + 1) (vec 8 (stp (stps k b))) (by omega))
      have HL := Lib.hid (below_setRow hL4 (g := w.heap.size + 1) (by omega) (vec 8 (stp (stps k b))))
      clear hA4 hO4 hE4 hL4
      go_wp2_with (refine store_row rfl rfl rfl rfl hB4 info_cyc ?_)
      go_roundw
      case rel => exact ⟨k + 1, by omega, by go_num, HA.out, HB.out, HO.out, HE.out, HL.out⟩
      case measure => simp [intOf]; omega
    · obtain rfl : k = 8 := by omega
      have HE := Lib.hid hE; have HO := Lib.hid hO; have HL := Lib.hid hL
      clear hA hB hE hO hL SB TB
      go_wp2_with (first | (refine load_row rfl rfl rfl HE.out Try.underlying25 rfl info_cyc ?_) | (refine store_row rfl rfl rfl rfl HO.out info_cyc ?_))
      refine bodyPost_ret (results_row rfl rfl HO.out.setRow Try.underlying25 rfl info_cyc) rfl ?_
      exact ⟨rfl, below_setRow HL.out (by omega) _⟩
end Go.Proofs.Ytjfljelpjgkmjaa
