/-
  Contracts of spec's calculations with exact points, second part: turns, sums, products, mirrored points.
  Contracts of spec's mirrored points and of the functions of exact points that it gives.
  What spec's CycReal answers.
  Contracts of impl's calculations with exact points, second part: multiples, and powers that come down.
-/
import Derived.Test.YtdpakhggpgdgbaaM01
/- Contracts of spec's calculations with exact points, second part: turns, sums, products, mirrored points. -/
namespace Go.Proofs.Ytdpakhggpgdgbaa
set_option maxRecDepth 20000
open Go.ChangeShapes Go.WideShapes Go.ChangeAt Go.RowKit
set_option linter.unusedVariables false
set_option linter.unusedSimpArgs false

theorem size_cyc (a : Nat → Int) : (Try.prog.info? 32).map (·.size) = some (lst 8 a).length := by rw [lst_length]; exact info_cyc
theorem done_some (c : Nat → Int) : ∃ c' v', (∀ w, Calls Try.prog 137 #[.agg (vec 8 c)] w fun e w' => e = .returned (.tuple #[.agg (vec 8 c'), .bool v']) ∧ Below w.heap.size w w') ∧ ans true c = .tuple #[.agg (vec 8 c'), .bool v'] :=
  ⟨if okc c then c else nul, okc c, fun w => specDone_any c w, rfl⟩

theorem specTurned_any (a : Nat → Int) (n : Nat) (hn : n ≤ 23) (ha : InR a) (w : World) :
    Calls Try.prog 134 #[pt a, .int .i64 n] w fun e w' => e = .returned (pt (trn a n)) ∧ Below w.heap.size w w' := by
  have sa := vec_size 8 a
  have SB := fun k hk => stps_in ha k hk
  have er : pt (stps n a) = pt (trn a n) := pt_same (trn_steps a n hn)
  rw [← er]
  clear er
  unfold pt at *
  go_enter Try.func134, Try.ntmps134
  go_upto_region 1 with fail
  show Code.wp _ _ _ _ (box1 w a 32 32)
  obtain ⟨hA, hO, hL⟩ := box1_facts w a 32 32
  generalize box1 w a 32 32 = W at *
  go_wp2_with fail
  go_loopw [5] (fun i wr => ∃ k : Nat, k ≤ n ∧ i = .int .i64 k ∧ RowAt wr w.heap.size 8 32 (stps k a) ∧ RowAt wr (w.heap.size + 1) 8 32 nul ∧ Below w.heap.size w wr) (fun i _ => n - (intOf i).toNat)
  case atStart => exact ⟨0, Nat.zero_le _, rfl, hA, hO, hL⟩
  case round =>
    clear hA hO hL
    obtain ⟨k, hk, rfl, hA, hO, hL⟩ := hrel
    by_cases hlt : k < n
    · have hlt' : (k : Int) < (n : Int) := by omega
      have S := fun w => specStep_any (stps k a) (fun j hj => by have := SB k (by omega) j hj; omega) w
      have HS := Lib.hid SB
      clear SB
      go_wp2_with (refine load_row rfl rfl rfl hA Try.underlying32 rfl info_cyc ?_)
      refine (S _).mono ?_; rintro e w2 ⟨rfl, hb2⟩
      have hA2 := hA.below hb2
      have hO2 := hO.below hb2
      have hL2 := below_next hL hb2
      clear S hA hO hL hb2
      have HA : Hid (RowAt _ _ _ _ (stps (k + 1) a)) := Lib.hid (hA2.setRow (f' := stp (stps k a)))
      have HO := Lib.hid (hO2.rowOther w.heap.size (vec 8 (stp (stps k a))) (by omega))
      have HL := Lib.hid (below_setRow hL2 (Nat.le_refl _) (vec 8 (stp (stps k a))))
      clear hO2 hL2
      go_wp2_with (refine store_row rfl rfl rfl rfl hA2 info_cyc ?_)
      go_roundw
      case rel => exact ⟨k + 1, by omega, by go_num, HA.out, HO.out, HL.out⟩
      case measure => simp [intOf]; omega
    · obtain rfl : k = n := by omega
      have HA := Lib.hid hA; have HO := Lib.hid hO; have HL := Lib.hid hL
      clear hA hO hL SB
      go_wp2_with (first | (refine load_row rfl rfl rfl HA.out Try.underlying32 rfl info_cyc ?_) | (refine store_row rfl rfl rfl rfl HO.out info_cyc ?_))
      refine bodyPost_ret (results_row rfl rfl HO.out.setRow Try.underlying32 rfl info_cyc) rfl ?_
      exact ⟨rfl, below_setRow HL.out (by omega) _⟩

theorem specSum_any (a b : Nat → Int) (n : Int) (hn : -1000000 ≤ n ∧ n ≤ 1000000) (ha : ∀ j, j < 8 → -8000000000000000 ≤ a j ∧ a j ≤ 8000000000000000) (hb : ∀ j, j < 8 → -1000000000 ≤ b j ∧ b j ≤ 1000000000) (w : World) :
    Calls Try.prog 88 #[pt a, .int .i64 n, pt b] w fun e w' => e = .returned (pt (mul1 a n b)) ∧ Below w.heap.size w w' := by
  have sa := vec_size 8 a
  have sb := vec_size 8 b
  unfold pt at *
  go_enter Try.func88, Try.ntmps88
  go_upto_region 1 with fail
  show Code.wp _ _ _ _ (box2 w a b 32 32)
  obtain ⟨hA, hB, hO, hL⟩ := box2_facts w a b 32 32
  generalize box2 w a b 32 32 = W at *
  go_wp2_with fail
  go_loopw [7] (fun i wr => ∃ k : Nat, k ≤ 8 ∧ i = .int .i64 k ∧ RowAt wr w.heap.size 8 32 (mix k (mul1 a n b) a) ∧ RowAt wr (w.heap.size + 1) 8 32 b ∧ RowAt wr (w.heap.size + 1 + 1) 8 32 nul ∧ Below w.heap.size w wr) (fun i _ => 8 - (intOf i).toNat)
  case atStart => exact ⟨0, Nat.zero_le _, rfl, by rw [mix_zero]; exact hA, hB, hO, hL⟩
  case round =>
    clear hA hB hO hL
    obtain ⟨k, hk, rfl, hA, hB, hO, hL⟩ := hrel
    by_cases hlt : k < 8
    · have cA := hA.cell hlt
      have fA := hA.free k
      have cB := hB.cell hlt
      rw [mix_at] at cA
      have hlt' : (k : Int) < 8 := by omega
      have hk0 : (0 : Int) ≤ (k : Int) := by omega
      have b1 := ha k hlt
      have b2 := prod_in hn (hb k hlt)
      have w1 : IntKind.i64.wrap (n * b k) = n * b k := by rw [IntKind.wrap_i64]; omega
      have w2 : IntKind.i64.wrap (a k + n * b k) = a k + n * b k := by rw [IntKind.wrap_i64]; omega
      have hA2 := hA.set hlt (mul1 a n b k)
      rw [mix_step] at hA2
      have HA := Lib.hid hA2
      have HB := Lib.hid (hB.other ⟨w.heap.size, k, none⟩ (.int .i64 (a k + n * b k)) (by simp))
      have HO := Lib.hid (hO.other ⟨w.heap.size, k, none⟩ (.int .i64 (a k + n * b k)) (by simp; try omega))
      have HL := Lib.hid ((hL.setCell (p := ⟨w.heap.size, k, none⟩) (Nat.le_refl _) (.int .i64 (a k + n * b k))))
      clear hA hA2 hB hO hL ha hb
      go_wp2_with fail
      go_still_tail 14, (by kernel_rfl)
      go_wp2_with fail
      go_roundw
      case rel => exact ⟨k + 1, by omega, by go_num, HA.out, HB.out, HO.out, HL.out.drew⟩
      case measure => simp [intOf]; omega
    · obtain rfl : k = 8 := by omega
      have HA := Lib.hid hA; have HO := Lib.hid hO; have HL := Lib.hid hL
      clear hA hB hO hL ha hb
      go_wp2_with (first | (refine load_row rfl rfl rfl HA.out Try.underlying32 rfl info_cyc ?_) | (refine store_row rfl rfl rfl rfl HO.out info_cyc ?_))
      refine bodyPost_ret (results_row rfl rfl HO.out.setRow Try.underlying32 rfl info_cyc) rfl ?_
      exact ⟨by rw [vec_mix], below_setRow HL.out (by omega) _⟩

theorem specRoot_no (t : Int) (ht : t < 0 ∨ 23 < t) (w : World) :
    Calls Try.prog 112 #[.int .i64 t] w fun e w' => e = .returned (ans false nul) ∧ Below w.heap.size w w' := by
  rw [ans_no]
  have G := fun w => is_no t ht w
  go_enter Try.func112, Try.ntmps112
  go_wp2_with fail
  refine (G _).mono ?_; rintro e w' ⟨rfl, rfl⟩
  go_wp2_with (refine store_row rfl rfl rfl (show _ = Value.agg (vec 8 nul) from rfl) (RowAt.newAt zero8 rfl) info_cyc ?_)
  refine bodyPost_ret (results_row_tmp rfl rfl (RowAt.newAt zero8 rfl).setRow Try.underlying32 rfl info_cyc) rfl ?_
  exact ⟨rfl, below_setRow ((Below.refl _ _).alloc (Nat.le_refl _) _) (Nat.le_refl _) _⟩
theorem specRoot_yes (t : Nat) (ht : t ≤ 23) (w : World) :
    Calls Try.prog 112 #[.int .i64 t] w fun e w' => e = .returned (.tuple #[pt (trn one t), .bool true]) ∧ Below w.heap.size w w' := by
  have G := fun w => is_yes (t : Int) (by omega) (by omega) w
  have M := fun w => specTurned_any one t ht (fun j hj => by simp only [one]; split <;> omega) w
  unfold pt at *
  go_enter Try.func112, Try.ntmps112
  go_wp2_with fail
  refine (G _).mono ?_; rintro e w' ⟨rfl, rfl⟩
  go_upto_region 4 with fail
  show Code.wp _ _ _ _ ((w.alloc (.cells (vec 8 nul) 32)).alloc (.cells (vec 8 nul) 32))
  have hO := pair_first w 32
  have hE : RowAt ((w.alloc (.cells (vec 8 nul) 32)).alloc (.cells (vec 8 nul) 32)) (w.heap.size + 1) 8 32 nul := RowAt.newAt rfl (by simp)
  have hL : Below w.heap.size w ((w.alloc (.cells (vec 8 nul) 32)).alloc (.cells (vec 8 nul) 32)) := ((Below.refl _ _).alloc (Nat.le_refl _) _).alloc (by simp) _
  generalize (w.alloc (.cells (vec 8 nul) 32)).alloc (.cells (vec 8 nul) 32) = W3 at *
  have c0 := hE.cell (k := 0) (by omega)
  have f0 := hE.free 0
  have hE3 := (hE.set (k := 0) (by omega) 1).same (f' := one) (fun j _ => by simp only [upd, one, nul])
  have HE := Lib.hid hE3
  have HO := Lib.hid (hO.other ⟨w.heap.size + 1, 0, none⟩ (.int .i64 1) (by simp))
  have HL := Lib.hid (hL.setCell (p := ⟨w.heap.size + 1, 0, none⟩) (by simp) (.int .i64 1))
  clear hO hE hL hE3
  go_upto_region 5 with fail
  have hE4 := HE.out
  have hO4 := HO.out
  have hL4 := HL.out
  clear HE HO HL c0 f0 G
  generalize W3.setCell ⟨w.heap.size + 1, 0, none⟩ (.int .i64 1) = W4 at *
  go_wp2_with (refine load_row rfl rfl rfl hE4 Try.underlying32 rfl info_cyc ?_)
  refine (M _).mono ?_; rintro e w4 ⟨rfl, hb4⟩
  have hO5 := hO4.below hb4
  have hL5 := below_next hL4 hb4
  clear hE4 hO4 hL4 hb4 M
  go_wp2_with (refine store_row rfl rfl rfl rfl hO5 info_cyc ?_)
  refine bodyPost_ret (results_row_tmp rfl rfl hO5.setRow Try.underlying32 rfl info_cyc) rfl ?_
  exact ⟨rfl, below_setRow hL5 (by omega) _⟩

set_option maxHeartbeats 800000 in
theorem specTimes_any (a b : Nat → Int) (ha : InR a) (hb : InR b) (w : World) :
    Calls Try.prog 78 #[pt a, pt b] w fun e w' => e = .returned (pt (prd a b)) ∧ Below w.heap.size w w' := by
  have sa := vec_size 8 a
  have sb := vec_size 8 b
  have er : pt (smul a b 8) = pt (prd a b) := pt_same (prd_smul a b)
  rw [← er]
  clear er
  have SB := Lib.hid (smul_bound ha hb)
  have TB := Lib.hid (fun k hk => stps_low hb k hk)
  unfold pt at *
  go_enter Try.func78, Try.ntmps78
  go_upto_region 2 with fail
  show Code.wp _ _ _ _ ((box2 w a b 32 32).alloc (.cells (vec 8 nul) 32))
  obtain ⟨hA, hB, hO, hL⟩ := box2_facts w a b 32 32
  have zE := hO.lt
  have hsz : (box2 w a b 32 32).heap.size = w.heap.size + 1 + 1 + 1 := by simp [box2]
  have hE : RowAt ((box2 w a b 32 32).alloc (.cells (vec 8 nul) 32)) (w.heap.size + 1 + 1 + 1) 8 32 nul := RowAt.newAt rfl hsz
  have hA := hA.alloc (.cells (vec 8 nul) 32)
  have hB := hB.alloc (.cells (vec 8 nul) 32)
  have hO := hO.alloc (.cells (vec 8 nul) 32)
  have hL := hL.alloc (by omega) (.cells (vec 8 nul) 32)
  clear zE hsz
  generalize (box2 w a b 32 32).alloc (.cells (vec 8 nul) 32) = W at *
  go_wp2_with fail
  go_loopw [6] (fun i wr => ∃ k : Nat, k ≤ 8 ∧ i = .int .i64 k ∧ RowAt wr w.heap.size 8 32 a ∧ RowAt wr (w.heap.size + 1) 8 32 (stps k b) ∧ RowAt wr (w.heap.size + 1 + 1) 8 32 nul ∧ RowAt wr (w.heap.size + 1 + 1 + 1) 8 32 (smul a b k) ∧ Below w.heap.size w wr) (fun i _ => 8 - (intOf i).toNat)
  case atStart => exact ⟨0, Nat.zero_le _, rfl, hA, hB, hO, hE, hL⟩
  case round =>
    clear hA hB hO hE hL
    obtain ⟨k, hk, rfl, hA, hB, hO, hE, hL⟩ := hrel
    by_cases hlt : k < 8
    · have hlt' : (k : Int) < 8 := by omega
      have hk0 : (0 : Int) ≤ (k : Int) := by omega
      have S1 := fun w => specSum_any (smul a b k) (stps k b) (a k) (ha k hlt) (fun j hj => by have := SB.out k hk j hj; omega) (TB.out k hk) w
      have S2 := fun w => specStep_any (stps k b) (fun j hj => by have := TB.out k hk j hj; omega) w
      have e0 := hE.cell (k := 0) (by omega)
      have p0 := hB.cell (k := 0) (by omega)
      have e1 := hE.cell (k := 1) (by omega)
      have p1 := hB.cell (k := 1) (by omega)
      have e2 := hE.cell (k := 2) (by omega)
      have p2 := hB.cell (k := 2) (by omega)
      have e3 := hE.cell (k := 3) (by omega)
      have p3 := hB.cell (k := 3) (by omega)
      have e4 := hE.cell (k := 4) (by omega)
      have p4 := hB.cell (k := 4) (by omega)
      have e5 := hE.cell (k := 5) (by omega)
      have p5 := hB.cell (k := 5) (by omega)
      have e6 := hE.cell (k := 6) (by omega)
      have p6 := hB.cell (k := 6) (by omega)
      have e7 := hE.cell (k := 7) (by omega)
      have p7 := hB.cell (k := 7) (by omega)
      have cA := hA.cell hlt
      have HA := Lib.hid hA.drew1; have HB := Lib.hid hB.drew1; have HO := Lib.hid hO.drew1; have HE := Lib.hid hE.drew1; have HL := Lib.hid hL.drew
      clear hA hB hO hE hL
      go_upto_region 5 with fail
      go_still_tail 6, (by kernel_rfl)
      go_wp2_with fail
      refine (S1 _).mono ?_; rintro e w2 ⟨rfl, hb2⟩
      have hA2 := HA.out.below hb2; have hB2 := HB.out.below hb2; have hO2 := HO.out.below hb2; have hE2 := HE.out.below hb2; have hL2 := below_next HL.out hb2
      clear S1 HA HB HO HE HL hb2 e0 p0 e1 p1 e2 p2 e3 p3 e4 p4 e5 p5 e6 p6 e7 p7 cA
      have hA3 := hA2.rowOther (w.heap.size + 1 + 1 + 1) (vec 8 (mul1 (smul a b k) (a k) (stps k b))) (by omega)
      have hB3 := hB2.rowOther (w.heap.size + 1 + 1 + 1) (vec 8 (mul1 (smul a b k) (a k) (stps k b))) (by omega)
      have hO3 := hO2.rowOther (w.heap.size + 1 + 1 + 1) (vec 8 (mul1 (smul a b k) (a k) (stps k b))) (by omega)
      have hE3 : RowAt _ _ _ _ (smul a b (k + 1)) := hE2.setRow (f' := mul1 (smul a b k) (a k) (stps k b))
      have hL3 := below_setRow hL2 (g := w.heap.size + 1 + 1 + 1) (by omega) (vec 8 (mul1 (smul a b k) (a k) (stps k b)))
      have HA := Lib.hid hA3; have HB := Lib.hid hB3; have HO := Lib.hid hO3; have HE := Lib.hid hE3; have HL := Lib.hid hL3
      clear hA2 hB2 hO2 hL2 hA3 hB3 hO3 hE3 hL3
      go_upto_region 6 with (refine store_row rfl rfl rfl rfl hE2 info_cyc ?_)
      have hA3 := HA.out; have hB3 := HB.out; have hO3 := HO.out; have hE3 := HE.out; have hL3 := HL.out
      clear hE2 HA HB HO HE HL
      generalize World.setRow w2 (w.heap.size + 1 + 1 + 1) (vec 8 (mul1 (smul a b k) (a k) (stps k b))) = W3 at *
      go_wp2_with (refine load_row rfl rfl rfl hB3 Try.underlying32 rfl info_cyc ?_)
      refine (S2 _).mono ?_; rintro e w4 ⟨rfl, hb2⟩
      have hA4 := hA3.below hb2; have hB4 := hB3.below hb2; have hO4 := hO3.below hb2; have hE4 := hE3.below hb2; have hL4 := below_next hL3 hb2
      clear S2 hA3 hB3 hO3 hE3 hL3 hb2
      have HA := Lib.hid (hA4.rowOther (w.heap.size + 1) (vec 8 (stp (stps k b))) (by omega))
      have HB : Hid (RowAt _ _ _ _ (stps (k + 1) b)) := Lib.hid (hB4.setRow (f' := stp (stps k b)))
      have HO := Lib.hid (hO4.rowOther (w.heap.size + 1) (vec 8 (stp (stps k b))) (by omega))
      have HE := Lib.hid (hE4.rowOther (w.heap.size + 1) (vec 8 (stp (stps k b))) (by omega))
      have HL := Lib.hid (below_setRow hL4 (g := w.heap.size + 1) (by omega) (vec 8 (stp (stps k b))))
      clear hA4 hO4 hE4 hL4
      go_wp2_with (refine store_row rfl rfl rfl rfl hB4 info_cyc ?_)
      go_roundw
      case rel => exact ⟨k + 1, by omega, by go_num, HA.out, HB.out, HO.out, HE.out, HL.out⟩
      case measure => simp [intOf]; omega
    · obtain rfl : k = 8 := by omega
      have HE := Lib.hid hE; have HO := Lib.hid hO; have HL := Lib.hid hL
      clear hA hB hE hO hL SB TB
      go_wp2_with (first | (refine load_row rfl rfl rfl HE.out Try.underlying32 rfl info_cyc ?_) | (refine store_row rfl rfl rfl rfl HO.out info_cyc ?_))
      refine bodyPost_ret (results_row rfl rfl HO.out.setRow Try.underlying32 rfl info_cyc) rfl ?_
      exact ⟨rfl, below_setRow HL.out (by omega) _⟩
end Go.Proofs.Ytdpakhggpgdgbaa
/- Contracts of spec's mirrored points and of the functions of exact points that it gives. -/
namespace Go.Proofs.Ytdpakhggpgdgbaa
set_option maxRecDepth 20000
open Go.ChangeShapes Go.WideShapes Go.ChangeAt Go.RowKit
set_option linter.unusedVariables false
set_option linter.unusedSimpArgs false

set_option maxHeartbeats 800000 in
theorem specMirror_any (a : Nat → Int) (ha : InR a) (w : World) :
    Calls Try.prog 79 #[pt a] w fun e w' => e = .returned (pt (mir a)) ∧ Below w.heap.size w w' := by
  have sa := vec_size 8 a
  have er : pt (smir a 8) = pt (mir a) := pt_same (smir_mir a)
  rw [← er]
  clear er
  have SB := Lib.hid (smir_bound ha)
  unfold pt at *
  go_enter Try.func79, Try.ntmps79
  go_upto_region 2 with fail
  show Code.wp _ _ _ _ ((box1 w a 32 32).alloc (.cells (vec 8 nul) 32))
  obtain ⟨hA, hO, hL⟩ := box1_facts w a 32 32
  have zE := hO.lt
  have hsz : (box1 w a 32 32).heap.size = w.heap.size + 1 + 1 := by simp [box1]
  have hE : RowAt ((box1 w a 32 32).alloc (.cells (vec 8 nul) 32)) (w.heap.size + 1 + 1) 8 32 nul := RowAt.newAt rfl hsz
  have hA := hA.alloc (.cells (vec 8 nul) 32)
  have hO := hO.alloc (.cells (vec 8 nul) 32)
  have hL := hL.alloc (by omega) (.cells (vec 8 nul) 32)
  clear zE hsz
  generalize (box1 w a 32 32).alloc (.cells (vec 8 nul) 32) = W at *
  go_wp2_with fail
  go_loopw [4] (fun i wr => ∃ k : Nat, k ≤ 8 ∧ i = .int .i64 k ∧ RowAt wr w.heap.size 8 32 a ∧ RowAt wr (w.heap.size + 1) 8 32 nul ∧ RowAt wr (w.heap.size + 1 + 1) 8 32 (smir a k) ∧ Below w.heap.size w wr) (fun i _ => 8 - (intOf i).toNat)
  case atStart => exact ⟨0, Nat.zero_le _, rfl, hA, hO, hE, hL⟩
  case round =>
    clear hA hO hE hL
    obtain ⟨k, hk, rfl, hA, hO, hE, hL⟩ := hrel
    by_cases hlt : k < 8
    · have hlt' : (k : Int) < 8 := by omega
      have hk0 : (0 : Int) ≤ (k : Int) := by omega
      have hr : (24 - k) % 24 ≤ 23 := by omega
      have M : ∀ w, Calls Try.prog 113 #[.int .i64 (-(k : Int))] w fun e w' => e = .returned (.int .i64 ((24 - k) % 24 : Nat)) ∧ w = w' := fun w => by
        have e : (-(k : Int)) % 24 = (((24 - k) % 24 : Nat) : Int) := by omega
        rw [← e]
        exact mod_any (-(k : Int)) (by omega) (by omega) w
      have R := fun w => specRoot_yes ((24 - k) % 24) hr w
      have S1 := fun w => specSum_any (smir a k) (trn one ((24 - k) % 24)) (a k) (ha k hlt) (fun j hj => by have := SB.out k hk j hj; omega) (fun j hj => by have := (root_facts ((24 - k) % 24) hr j hj).1; omega) w
      have eS : mul1 (smir a k) (a k) (trn one ((24 - k) % 24)) = smir a (k + 1) := rfl
      rw [eS] at S1
      generalize trn one ((24 - k) % 24) = rt at *
      generalize (24 - k) % 24 = r at *
      clear eS
      have v1 : IntKind.i64.wrap (-(k : Int)) = -(k : Int) := by rw [IntKind.wrap_i64]; omega
      have v2 : IntKind.i64.wrap (0 - (k : Int)) = -(k : Int) := by rw [IntKind.wrap_i64]; omega
      unfold pt at *
      go_wp2_with fail
      refine (M _).mono ?_; rintro e w' ⟨rfl, rfl⟩
      go_wp2_with fail
      refine (R _).mono ?_; rintro e w2 ⟨rfl, hb2⟩
      have hA2 := hA.below hb2; have hO2 := hO.below hb2; have hE2 := hE.below hb2; have hL2 := below_next hL hb2
      clear hA hO hE hL hb2 M R v1 v2
      go_upto_region 6 with (refine store_row rfl rfl rfl rfl (RowAt.newAt zero8 rfl) info_cyc ?_)
      show Code.wp _ _ _ _ (sole w2 rt 32)
      have hR := sole_first w2 rt 32
      have hA := sole_keep hA2 rt 32
      have hO := sole_keep hO2 rt 32
      have hE := sole_keep hE2 rt 32
      have hL := sole_below hL2 rt 32
      have zg := hE2.lt
      clear hA2 hO2 hE2 hL2
      generalize w2.heap.size = g at *
      generalize sole w2 rt 32 = W3 at *
      have e0 := hE.cell (k := 0) (by omega)
      have p0 := hR.cell (k := 0) (by omega)
      have e1 := hE.cell (k := 1) (by omega)
      have p1 := hR.cell (k := 1) (by omega)
      have e2 := hE.cell (k := 2) (by omega)
      have p2 := hR.cell (k := 2) (by omega)
      have e3 := hE.cell (k := 3) (by omega)
      have p3 := hR.cell (k := 3) (by omega)
      have e4 := hE.cell (k := 4) (by omega)
      have p4 := hR.cell (k := 4) (by omega)
      have e5 := hE.cell (k := 5) (by omega)
      have p5 := hR.cell (k := 5) (by omega)
      have e6 := hE.cell (k := 6) (by omega)
      have p6 := hR.cell (k := 6) (by omega)
      have e7 := hE.cell (k := 7) (by omega)
      have p7 := hR.cell (k := 7) (by omega)
      have cA := hA.cell hlt
      have HA := Lib.hid hA.drew1; have HO := Lib.hid hO.drew1; have HE := Lib.hid hE.drew1; have HL := Lib.hid hL.drew
      clear hA hO hE hL hR
      go_still_tail 6, (by kernel_rfl)
      go_wp2_with fail
      refine (S1 _).mono ?_; rintro e w4 ⟨rfl, hb2⟩
      have hA2 := HA.out.below hb2; have hO2 := HO.out.below hb2; have hE2 := HE.out.below hb2; have hL2 := below_next HL.out hb2
      clear S1 HA HO HE HL hb2 e0 p0 e1 p1 e2 p2 e3 p3 e4 p4 e5 p5 e6 p6 e7 p7 cA
      have HA := Lib.hid (hA2.rowOther (w.heap.size + 1 + 1) (vec 8 (smir a (k + 1))) (by omega))
      have HO := Lib.hid (hO2.rowOther (w.heap.size + 1 + 1) (vec 8 (smir a (k + 1))) (by omega))
      have HE := Lib.hid (hE2.setRow (f' := smir a (k + 1)))
      have HL := Lib.hid (below_setRow hL2 (g := w.heap.size + 1 + 1) (by omega) (vec 8 (smir a (k + 1))))
      clear hA2 hO2 hL2
      go_wp2_with (refine store_row rfl rfl rfl rfl hE2 info_cyc ?_)
      go_roundw
      case rel => exact ⟨k + 1, by omega, by go_num, HA.out, HO.out, HE.out, HL.out⟩
      case measure => simp [intOf]; omega
    · obtain rfl : k = 8 := by omega
      have HE := Lib.hid hE; have HO := Lib.hid hO; have HL := Lib.hid hL
      clear hA hE hO hL SB
      go_wp2_with (first | (refine load_row rfl rfl rfl HE.out Try.underlying32 rfl info_cyc ?_) | (refine store_row rfl rfl rfl rfl HO.out info_cyc ?_))
      refine bodyPost_ret (results_row rfl rfl HO.out.setRow Try.underlying32 rfl info_cyc) rfl ?_
      exact ⟨rfl, below_setRow HL.out (by omega) _⟩

theorem specGaussIn_any (re im : Int) (w : World) :
    Calls Try.prog 93 #[.int .i64 re, .int .i64 im] w fun e w' => e = .returned (pt (gau re im)) ∧ Below w.heap.size w w' := by
  have hO := pair_first w 32
  have hE : RowAt ((w.alloc (.cells (vec 8 nul) 32)).alloc (.cells (vec 8 nul) 32)) (w.heap.size + 1) 8 32 nul := RowAt.newAt rfl (by simp)
  have hL : Below w.heap.size w ((w.alloc (.cells (vec 8 nul) 32)).alloc (.cells (vec 8 nul) 32)) := ((Below.refl _ _).alloc (Nat.le_refl _) _).alloc (by simp) _
  go_enter Try.func93, Try.ntmps93
  go_upto_region 2 with fail
  show Code.wp _ _ _ _ ((w.alloc (.cells (vec 8 nul) 32)).alloc (.cells (vec 8 nul) 32))
  generalize (w.alloc (.cells (vec 8 nul) 32)).alloc (.cells (vec 8 nul) 32) = W3 at *
  have c0 := hE.cell (k := 0) (by omega)
  have f0 := hE.free 0
  have c6 := (hE.set (k := 0) (by omega) re).cell (k := 6) (by omega)
  have f6 := (hE.set (k := 0) (by omega) re).free 6
  have hE3 : RowAt ((W3.setCell ⟨w.heap.size + 1, 0, none⟩ (.int .i64 re)).setCell ⟨w.heap.size + 1, 6, none⟩ (.int .i64 im)) (w.heap.size + 1) 8 32 (gau re im) :=
    ((hE.set (k := 0) (by omega) re).set (k := 6) (by omega) im).same (fun j _ => by simp only [upd, gau, nul]; split <;> split <;> first | rfl | omega)
  have hO3 := (hO.other ⟨w.heap.size + 1, 0, none⟩ (.int .i64 re) (by simp)).other ⟨w.heap.size + 1, 6, none⟩ (.int .i64 im) (by simp)
  have hL3 := (hL.setCell (p := ⟨w.heap.size + 1, 0, none⟩) (by simp) (.int .i64 re)).setCell (p := ⟨w.heap.size + 1, 6, none⟩) (by simp) (.int .i64 im)
  have HE := Lib.hid hE3
  have HO := Lib.hid hO3
  have HL := Lib.hid hL3
  clear hO hE hL hE3 hO3 hL3
  go_upto_region 4 with fail
  go_wp2_with (first | (refine load_row rfl rfl rfl HE.out Try.underlying32 rfl info_cyc ?_) | (refine store_row rfl rfl rfl rfl HO.out info_cyc ?_))
  refine bodyPost_ret (results_row rfl rfl HO.out.setRow Try.underlying32 rfl info_cyc) rfl ?_
  exact ⟨rfl, below_setRow HL.out (by omega) _⟩

end Go.Proofs.Ytdpakhggpgdgbaa
/- What spec's CycReal answers. -/
namespace Go.Proofs.Ytdpakhggpgdgbaa
set_option maxRecDepth 20000
open Go.ChangeShapes Go.WideShapes Go.ChangeAt Go.RowKit
set_option linter.unusedVariables false
set_option linter.unusedSimpArgs false

end Go.Proofs.Ytdpakhggpgdgbaa
/- Contracts of impl's calculations with exact points, second part: multiples, and powers that come down. -/
namespace Go.Proofs.Ytdpakhggpgdgbaa
set_option maxRecDepth 20000
open Go.ChangeShapes Go.WideShapes Go.ChangeAt Go.RowKit
set_option linter.unusedVariables false
set_option linter.unusedSimpArgs false

/-- Each number times n. -/
def tms (a : Nat → Int) (n : Int) : Nat → Int := fun j => a j * n
theorem tms_scl (a : Nat → Int) (n : Int) : tms a n = scl n a := by funext j; exact Int.mul_comm _ _

theorem scaled_any (a : Nat → Int) (n : Int) (hp : ∀ j, j < 8 → -4611686018427387904 ≤ tms a n j ∧ tms a n j ≤ 4611686018427387904) (w : World) :
    Calls Try.prog 144 #[pt a, .int .i64 n] w fun e w' => e = .returned (pt (scl n a)) ∧ Below w.heap.size w w' := by
  rw [← tms_scl]
  have sa := vec_size 8 a
  unfold pt
  go_enter Try.func144, Try.ntmps144
  go_wp2_with fail
  go_loopw [5, 6] (fun _ i wr => ∃ k : Nat, k ≤ 8 ∧ i = .int .i64 k ∧ RowAt wr w.heap.size 8 75 (mix k (tms a n) a) ∧ RowAt wr (w.heap.size + 1) 8 75 nul ∧ Below w.heap.size w wr) (fun _ i _ => 8 - (intOf i).toNat)
  case atStart => exact ⟨0, Nat.zero_le _, rfl, by rw [mix_zero]; exact (RowAt.newAt rfl rfl).alloc _, RowAt.newAt zero8 (by simp), ((Below.refl _ _).alloc (Nat.le_refl _) _).alloc (by simp) _⟩
  case round =>
    obtain ⟨k, hk, rfl, hA, hO, hbel⟩ := hrel
    by_cases hlt : k < 8
    · have cA := hA.cell hlt
      have fA := hA.free k
      rw [mix_at] at cA
      have hlt' : (k : Int) < 8 := by omega
      have hk0 : (0 : Int) ≤ (k : Int) := by omega
      have b1 : -4611686018427387904 ≤ a k * n ∧ a k * n ≤ 4611686018427387904 := hp k hlt
      have hA2 := hA.set hlt (tms a n k)
      rw [mix_step] at hA2
      have HA := Lib.hid hA2
      have HO := Lib.hid (hO.other ⟨w.heap.size, k, none⟩ (.int .i64 (a k * n)) (by simp))
      have HL := Lib.hid ((hbel.setCell (p := ⟨w.heap.size, k, none⟩) (Nat.le_refl _) (.int .i64 (a k * n))))
      clear hA hA2 hO hbel hp
      go_wp2_with fail
      go_roundw
      case rel => exact ⟨k + 1, by omega, by go_num, HA.out, HO.out, HL.out⟩
      case measure => simp [intOf]; omega
    · obtain rfl : k = 8 := by omega
      have HA := Lib.hid hA; have HO := Lib.hid hO; have HL := Lib.hid hbel
      clear hA hO hbel hp
      go_wp2_with (first | (refine load_row rfl rfl rfl HA.out Try.underlying75 rfl info_exact ?_) | (refine store_row rfl rfl rfl rfl HO.out info_exact ?_))
      refine bodyPost_ret (results_row rfl rfl HO.out.setRow Try.underlying75 rfl info_exact) rfl ?_
      exact ⟨by rw [vec_mix], below_setRow HL.out (by omega) _⟩

/-- One power comes down, in two steps. -/
def down1 (p : Nat → Int) (m : Nat) : Nat → Int := upd p (m + 4) (p (m + 4) + p (m + 8))
theorem down_two (p : Nat → Int) (m : Nat) : upd (down1 p m) m (down1 p m m - down1 p m (m + 8)) = down p (m + 8) := by
  funext j
  simp only [upd, down1, down, show m + 8 - 8 = m by omega, show m + 8 - 4 = m + 4 by omega, show ¬ m = m + 4 by omega, show ¬ m + 8 = m + 4 by omega, if_false]
  by_cases h : j = m
  · subst h; simp
  · rw [if_neg h, if_neg h]
    by_cases h' : j = m + 4
    · subst h'; simp
    · rw [if_neg h', if_neg h']

theorem point_any (p : Nat → Int) (hp : ∀ j, j < 24 → -64000000000000 ≤ p j ∧ p j ≤ 64000000000000) (w : World) :
    Calls Try.prog 127 #[.agg (vec 24 p)] w fun e w' => e = .returned (pt (red p)) ∧ Below w.heap.size w w' := by
  have sa := vec_size 24 p
  have D := downs_bound 64000000000000 p hp
  have D' : ∀ i, i ≤ 16 → ∀ j, j < 24 → -4194304000000000000 ≤ downs i p j ∧ downs i p j ≤ 4194304000000000000 := by
    intro i hi j hj
    have h := D i hi j hj
    have h2 : (2 : Int) ^ i ≤ 2 ^ 16 := by exact_mod_cast Nat.pow_le_pow_right (by omega) hi
    have h3 : (2 : Int) ^ i * 64000000000000 ≤ 65536 * 64000000000000 := Int.mul_le_mul_of_nonneg_right (by simpa using h2) (by omega)
    omega
  clear D hp
  unfold pt
  go_enter Try.func127, Try.ntmps127
  go_wp2_with fail
  go_loopw [3] (fun i wr => ∃ k : Nat, k ≤ 16 ∧ i = .int .i64 (23 - (k : Int)) ∧ RowAt wr w.heap.size 24 134 (downs k p) ∧ RowAt wr (w.heap.size + 1) 8 75 nul ∧ Below w.heap.size w wr) (fun i _ => (intOf i).toNat)
  case atStart => exact ⟨0, Nat.zero_le _, rfl, (RowAt.newAt rfl rfl).alloc _, RowAt.newAt zero8 (by simp), ((Below.refl _ _).alloc (Nat.le_refl _) _).alloc (by simp) _⟩
  case round =>
    obtain ⟨k, hk, rfl, hA, hO, hbel⟩ := hrel
    by_cases hlt : k < 16
    · obtain ⟨m, hm⟩ : ∃ m : Nat, m + 8 = 23 - k := ⟨15 - k, by omega⟩
      have hm' : 23 - (k : Int) = (m : Int) + 8 := by omega
      have hdn : downs (k + 1) p = down (downs k p) (m + 8) := by rw [hm]; rfl
      have hB := D' k hk
      have hB1 := hB (m + 4) (by omega)
      have hB2 := hB (m + 8) (by omega)
      have hB3 := hB m (by omega)
      generalize downs k p = q at *
      rw [hm']
      have hge : (8 : Int) ≤ (m : Int) + 8 := by omega
      have hm0 : (m : Int) + 8 ≤ 23 := by omega
      have g40 : (0 : Int) ≤ (m : Int) + 4 := by omega
      have g41 : (m : Int) + 4 < 24 := by omega
      have g80 : (0 : Int) ≤ (m : Int) + 8 := by omega
      have g81 : (m : Int) + 8 < 24 := by omega
      have g00 : (0 : Int) ≤ (m : Int) := by omega
      have g01 : (m : Int) < 24 := by omega
      have t4 : ((m : Int) + 4).toNat = m + 4 := by omega
      have v4 : IntKind.i64.wrap ((m : Int) + 8 - 4) = ((m + 4 : Nat) : Int) := by rw [IntKind.wrap_i64]; omega
      have v0 : IntKind.i64.wrap ((m : Int) + 8 - 8) = (m : Int) := by rw [IntKind.wrap_i64]; omega
      have w4 : IntKind.i64.wrap ((m : Int) + 4) = ((m + 4 : Nat) : Int) := by rw [IntKind.wrap_i64]; omega
      have w0 : IntKind.i64.wrap (m : Int) = (m : Int) := by rw [IntKind.wrap_i64]; omega
      have t8 : ((m : Int) + 8).toNat = m + 8 := by omega
      have c4 := hA.cell (k := m + 4) (by omega)
      have c8 := hA.cell (k := m + 8) (by omega)
      have f4 := hA.free (m + 4)
      have hA1 : RowAt _ _ _ _ (down1 q m) := hA.set (k := m + 4) (by omega) (q (m + 4) + q (m + 8))
      have e8 : down1 q m (m + 8) = q (m + 8) := by simp [down1, upd]
      have e0 : down1 q m m = q m := by simp [down1, upd]
      have HA := Lib.hid (hA1.drew 1)
      have HO := Lib.hid ((hO.other ⟨w.heap.size, m + 4, none⟩ (.int .i64 (q (m + 4) + q (m + 8))) (by simp)).drew 1)
      have HL := Lib.hid ((hbel.setCell (p := ⟨w.heap.size, m + 4, none⟩) (Nat.le_refl _) (.int .i64 (q (m + 4) + q (m + 8)))).drew)
      have HD := Lib.hid D'
      have HE := Lib.hid e8; have HE0 := Lib.hid e0; have HN := Lib.hid hdn; have HM := Lib.hid hm
      clear hA hA1 hO hbel D' hB e8 e0 hdn hm hm'
      have wA : IntKind.i64.wrap (q (m + 4) + q (m + 8)) = q (m + 4) + q (m + 8) := by rw [IntKind.wrap_i64]; omega
      have wS : IntKind.i64.wrap (q m - q (m + 8)) = q m - q (m + 8) := by rw [IntKind.wrap_i64]; omega
      go_wp2_with fail
      go_still_tail 9, (by kernel_rfl)
      go_wp2_with fail
      have hA1 : RowAt ((wr.setCell ⟨w.heap.size, m + 4, none⟩ (.int .i64 (q (m + 4) + q (m + 8)))).drew) _ _ _ (down1 q m) := HA.out
      have hO1 : RowAt ((wr.setCell ⟨w.heap.size, m + 4, none⟩ (.int .i64 (q (m + 4) + q (m + 8)))).drew) _ _ _ _ := HO.out
      have hL1 := HL.out
      clear HA HO HL c4 c8 f4
      generalize (wr.setCell ⟨w.heap.size, m + 4, none⟩ (.int .i64 (q (m + 4) + q (m + 8)))).drew = w2 at *
      have d8 := hA1.cell (k := m + 8) (by omega)
      have d0 := hA1.cell (k := m) (by omega)
      have f0 := hA1.free m
      rw [HE.out] at d8
      rw [HE0.out] at d0
      have hA2 := hA1.set (k := m) (by omega) (down1 q m m - down1 q m (m + 8))
      rw [down_two, ← HN.out, HE.out, HE0.out] at hA2
      have HA := Lib.hid (hA2.drew 1)
      have HO := Lib.hid ((hO1.other ⟨w.heap.size, m, none⟩ (.int .i64 (q m - q (m + 8))) (by simp)).drew 1)
      have HL := Lib.hid ((hL1.setCell (p := ⟨w.heap.size, m, none⟩) (Nat.le_refl _) (.int .i64 (q m - q (m + 8)))).drew)
      clear hA1 hA2 hO1 hL1
      go_still_tail 9, (by kernel_rfl)
      go_wp2_with fail
      go_roundw
      case rel => exact ⟨k + 1, by omega, congrArg (Value.int .i64) (by have := HM.out; omega), HA.out, HO.out, HL.out⟩
      case measure => simp [intOf]; omega
    · obtain rfl : k = 16 := by omega
      have HA := Lib.hid (hA.same (f' := downs 16 p) (fun j _ => rfl)); have HO := Lib.hid hO; have HL := Lib.hid hbel
      clear hA hO hbel D'
      go_wp2_with fail
      obtain ⟨wx, rfl⟩ : ∃ wx : World, wx = wr := ⟨_, rfl⟩
      have z1 := HO.out.lt
      have z2 := HL.out.size
      go_loopw [5, 28] (fun _ i wr => ∃ k : Nat, k ≤ 8 ∧ i = .int .i64 k ∧ RowAt wr w.heap.size 24 134 (downs 16 p) ∧ RowAt wr (w.heap.size + 1) 8 75 nul ∧ RowAt wr wx.heap.size 8 75 (mix k (downs 16 p) nul) ∧ Below w.heap.size w wr) (fun _ i _ => 8 - (intOf i).toNat)
      case atStart => exact ⟨0, Nat.zero_le _, rfl, HA.out.alloc _, HO.out.alloc _, by rw [mix_zero]; exact RowAt.newAt zero8 rfl, HL.out.alloc z2 _⟩
      case round =>
        obtain ⟨k, hk, rfl, hA, hO, hE, hbel⟩ := hrel
        by_cases hlt : k < 8
        · have cA := hA.cell (k := k) (by omega)
          have fE := hE.free k
          have hlt' : (k : Int) < 8 := by omega
          have hlt2 : (k : Int) < 24 := by omega
          have hk0 : (0 : Int) ≤ (k : Int) := by omega
          have hE2 := hE.set hlt (downs 16 p k)
          have cE := hE.cell hlt
          rw [mix_step] at hE2
          have HE := Lib.hid hE2
          have HO2 := Lib.hid (hO.other ⟨wx.heap.size, k, none⟩ (.int .i64 (downs 16 p k)) (by simp; omega))
          have HA2 := Lib.hid (hA.other ⟨wx.heap.size, k, none⟩ (.int .i64 (downs 16 p k)) (by simp; omega))
          have HL2 := Lib.hid (hbel.setCell (p := ⟨wx.heap.size, k, none⟩) z2 (.int .i64 (downs 16 p k)))
          clear hA hO hE hE2 hbel HA HO HL
          generalize downs 16 p k = x at *
          go_wp2_with fail
          go_roundw
          case rel => exact ⟨k + 1, by omega, by go_num, HA2.out, HO2.out, HE.out, HL2.out⟩
          case measure => simp [intOf]; omega
        · obtain rfl : k = 8 := by omega
          have HE := Lib.hid hE; have HO2 := Lib.hid hO; have HL2 := Lib.hid hbel
          clear hA hO hE hbel HA HO HL
          go_wp2_with (first | (refine load_row rfl rfl rfl HE.out Try.underlying75 rfl info_exact ?_) | (refine store_row rfl rfl rfl rfl HO2.out info_exact ?_))
          refine bodyPost_ret (results_row rfl rfl HO2.out.setRow Try.underlying75 rfl info_exact) rfl ?_
          exact ⟨by rw [vec_mix, vec_same (downs_all p)], below_setRow HL2.out (by omega) _⟩
end Go.Proofs.Ytdpakhggpgdgbaa
