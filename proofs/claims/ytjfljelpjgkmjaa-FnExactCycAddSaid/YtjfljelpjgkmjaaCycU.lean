/-
  Contracts of spec's mirrored points and of the functions of exact points that it gives.
-/
import Derived.Test.YtjfljelpjgkmjaaCycT
namespace Go.Proofs.Ytjfljelpjgkmjaa
set_option maxRecDepth 20000
open Go.ChangeShapes Go.WideShapes Go.ChangeAt Go.RowKit
set_option linter.unusedVariables false
set_option linter.unusedSimpArgs false

set_option maxHeartbeats 800000 in
theorem specMirror_any (a : Nat → Int) (ha : InR a) (w : World) :
    Calls Try.prog 78 #[pt a] w fun e w' => e = .returned (pt (mir a)) ∧ Below w.heap.size w w' := by
  have sa := vec_size 8 a
  have er : pt (smir a 8) = pt (mir a) := pt_same (smir_mir a)
  rw [← er]
  clear er
  have SB := Lib.hid (smir_bound ha)
  unfold pt at *
  go_enter Try.func78, Try.ntmps78
  go_upto_region 2 with fail
  show Code.wp _ _ _ _ ((box1 w a 25 25).alloc (.cells (vec 8 nul) 25))
  obtain ⟨hA, hO, hL⟩ := box1_facts w a 25 25
  have zE := hO.lt
  have hsz : (box1 w a 25 25).heap.size = w.heap.size + 1 + 1 := by simp [box1]
  have hE : RowAt ((box1 w a 25 25).alloc (.cells (vec 8 nul) 25)) (w.heap.size + 1 + 1) 8 25 nul := RowAt.newAt rfl hsz
  have hA := hA.alloc (.cells (vec 8 nul) 25)
  have hO := hO.alloc (.cells (vec 8 nul) 25)
  have hL := hL.alloc (by omega) (.cells (vec 8 nul) 25)
  clear zE hsz
  generalize (box1 w a 25 25).alloc (.cells (vec 8 nul) 25) = W at *
  go_wp2_with fail
  go_loopw [4] (fun i wr => ∃ k : Nat, k ≤ 8 ∧ i = .int .i64 k ∧ RowAt wr w.heap.size 8 25 a ∧ RowAt wr (w.heap.size + 1) 8 25 nul ∧ RowAt wr (w.heap.size + 1 + 1) 8 25 (smir a k) ∧ Below w.heap.size w wr) (fun i _ => 8 - (intOf i).toNat)
  case atStart => exact ⟨0, Nat.zero_le _, rfl, hA, hO, hE, hL⟩
  case round =>
    clear hA hO hE hL
    obtain ⟨k, hk, rfl, hA, hO, hE, hL⟩ := hrel
    by_cases hlt : k < 8
    · have hlt' : (k : Int) < 8 := by omega
      have hk0 : (0 : Int) ≤ (k : Int) := by omega
      have hr : (24 - k) % 24 ≤ 23 := by omega
      have M : ∀ w, Calls Try.prog 89 #[.int .i64 (-(k : Int))] w fun e w' => e = .returned (.int .i64 ((24 - k) % 24 : Nat)) ∧ w = w' := fun w => by
        have e : (-(k : Int)) % 24 = (((24 - k) % 24 : Nat) : Int) := by omega
        rw [← e]
        exact mod_any (-(k : Int)) (by omega) (by omega) w
      have R := fun w => specRoot_yes ((24 - k) % 24) hr w
      have S1 := fun w => specSum_any (smir a k) (trn one ((24 - k) % 24)) (a k) (ha k hlt) (fun j hj => by have := SB.out k hk j hj; omega) (fun j hj => by have := (root_facts ((24 - k) % 24) hr j hj).1; omega) w
      have eS : mul1 (smir a k) (a k) (trn one ((24 - k) % 24)) = smir a (k + 1) := rfl
      rw [eS] at S1
      generalize trn one ((24 - k) % 24) = rt at *
      generalize (24 - k) % 24 = r at *
      clear eS
      have v1 : IntKind.i64.wrap (-(k : Int)) = -(k : Int) := by rw [IntKind.wrap_i64]; omega
      have v2 : IntKind.i64.wrap (0 - (k : Int)) = -(k : Int) := by rw [IntKind.wrap_i64]; omega
      unfold pt at *
      go_wp2_with fail
      refine (M _).mono ?_; rintro e w' ⟨rfl, rfl⟩
      go_wp2_with fail
      refine (R _).mono ?_; rintro e w2 ⟨rfl, hb2⟩
      have hA2 := hA.below hb2; have hO2 := hO.below hb2; have hE2 := hE.below hb2; have hL2 := below_next hL hb2
      clear hA hO hE hL hb2 M R v1 v2
      go_upto_region 6 with (refine store_row rfl rfl rfl rfl (RowAt.newAt zero8 rfl) info_cyc ?_)
      show Code.wp _ _ _ _ (sole w2 rt 25)
      have hR := sole_first w2 rt 25
      have hA := sole_keep hA2 rt 25
      have hO := sole_keep hO2 rt 25
      have hE := sole_keep hE2 rt 25
      have hL := sole_below hL2 rt 25
      have zg := hE2.lt
      clear hA2 hO2 hE2 hL2
      generalize w2.heap.size = g at *
      generalize sole w2 rt 25 = W3 at *
      have e0 := hE.cell (k := 0) (by omega)
      have p0 := hR.cell (k := 0) (by omega)
      have e1 := hE.cell (k := 1) (by omega)
      have p1 := hR.cell (k := 1) (by omega)
      have e2 := hE.cell (k := 2) (by omega)
      have p2 := hR.cell (k := 2) (by omega)
      have e3 := hE.cell (k := 3) (by omega)
      have p3 := hR.cell (k := 3) (by omega)
      have e4 := hE.cell (k := 4) (by omega)
      have p4 := hR.cell (k := 4) (by omega)
      have e5 := hE.cell (k := 5) (by omega)
      have p5 := hR.cell (k := 5) (by omega)
      have e6 := hE.cell (k := 6) (by omega)
      have p6 := hR.cell (k := 6) (by omega)
      have e7 := hE.cell (k := 7) (by omega)
      have p7 := hR.cell (k := 7) (by omega)
      have cA := hA.cell hlt
      have HA := Lib.hid hA.drew1; have HO := Lib.hid hO.drew1; have HE := Lib.hid hE.drew1; have HL := Lib.hid hL.drew
      clear hA hO hE hL hR
      go_still_tail 6, (by kernel_rfl)
      go_wp2_with fail
      refine (S1 _).mono ?_; rintro e w4 ⟨rfl, hb2⟩
      have hA2 := HA.out.below hb2; have hO2 := HO.out.below hb2; have hE2 := HE.out.below hb2; have hL2 := below_next HL.out hb2
      clear S1 HA HO HE HL hb2 e0 p0 e1 p1 e2 p2 e3 p3 e4 p4 e5 p5 e6 p6 e7 p7 cA
      have HA := Lib.hid (hA2.rowOther (w.heap.size + 1 + 1) (vec 8 (smir a (k + 1))) (by omega))
      have HO := Lib.hid (hO2.rowOther (w.heap.size + 1 + 1) (vec 8 (smir a (k + 1))) (by omega))
      have HE := Lib.hid (hE2.setRow (f' := smir a (k + 1)))
      have HL := Lib.hid (below_setRow hL2 (g := w.heap.size + 1 + 1) (by omega) (vec 8 (smir a (k + 1))))
      clear hA2 hO2 hL2
      go_wp2_with (refine store_row rfl rfl rfl rfl hE2 info_cyc ?_)
      go_roundw
      case rel => exact ⟨k + 1, by omega, by go_num, HA.out, HO.out, HE.out, HL.out⟩
      case measure => simp [intOf]; omega
    · obtain rfl : k = 8 := by omega
      have HE := Lib.hid hE; have HO := Lib.hid hO; have HL := Lib.hid hL
      clear hA hE hO hL SB
      go_wp2_with (first | (refine load_row rfl rfl rfl HE.out Try.underlying25 rfl info_cyc ?_) | (refine store_row rfl rfl rfl rfl HO.out info_cyc ?_))
      refine bodyPost_ret (results_row rfl rfl HO.out.setRow Try.underlying25 rfl info_cyc) rfl ?_
      exact ⟨rfl, below_setRow HL.out (by omega) _⟩

theorem specGaussIn_any (re im : Int) (w : World) :
    Calls Try.prog 81 #[.int .i64 re, .int .i64 im] w fun e w' => e = .returned (pt (gau re im)) ∧ Below w.heap.size w w' := by
  have hO := pair_first w 25
  have hE : RowAt ((w.alloc (.cells (vec 8 nul) 25)).alloc (.cells (vec 8 nul) 25)) (w.heap.size + 1) 8 25 nul := RowAt.newAt rfl (by simp)
  have hL : Below w.heap.size w ((w.alloc (.cells (vec 8 nul) 25)).alloc (.cells (vec 8 nul) 25)) := ((Below.refl _ _).alloc (Nat.le_refl _) _).alloc (by simp) _
  go_enter Try.func81, Try.ntmps81
  go_upto_region 2 with fail
  show Code.wp _ _ _ _ ((w.alloc (.cells (vec 8 nul) 25)).alloc (.cells (vec 8 nul) 25))
  generalize (w.alloc (.cells (vec 8 nul) 25)).alloc (.cells (vec 8 nul) 25) = W3 at *
  have c0 := hE.cell (k := 0) (by omega)
  have f0 := hE.free 0
  have c6 := (hE.set (k := 0) (by omega) re).cell (k := 6) (by omega)
  have f6 := (hE.set (k := 0) (by omega) re).free 6
  have hE3 : RowAt ((W3.setCell ⟨w.heap.size + 1, 0, none⟩ (.int .i64 re)).setCell ⟨w.heap.size + 1, 6, none⟩ (.int .i64 im)) (w.heap.size + 1) 8 25 (gau re im) :=
    ((hE.set (k := 0) (by omega) re).set (k := 6) (by omega) im).same (fun j _ => by simp only [upd, gau, nul]; split <;> split <;> first | rfl | omega)
  have hO3 := (hO.other ⟨w.heap.size + 1, 0, none⟩ (.int .i64 re) (by simp)).other ⟨w.heap.size + 1, 6, none⟩ (.int .i64 im) (by simp)
  have hL3 := (hL.setCell (p := ⟨w.heap.size + 1, 0, none⟩) (by simp) (.int .i64 re)).setCell (p := ⟨w.heap.size + 1, 6, none⟩) (by simp) (.int .i64 im)
  have HE := Lib.hid hE3
  have HO := Lib.hid hO3
  have HL := Lib.hid hL3
  clear hO hE hL hE3 hO3 hL3
  go_upto_region 4 with fail
  go_wp2_with (first | (refine load_row rfl rfl rfl HE.out Try.underlying25 rfl info_cyc ?_) | (refine store_row rfl rfl rfl rfl HO.out info_cyc ?_))
  refine bodyPost_ret (results_row rfl rfl HO.out.setRow Try.underlying25 rfl info_cyc) rfl ?_
  exact ⟨rfl, below_setRow HL.out (by omega) _⟩

theorem specAdd_no1 (a b : Nat → Int) (va : okc a = false) (w : World) :
    Calls Try.prog 36 #[pt a, pt b] w fun e w' => e = .returned (ans false (add a b)) ∧ Below w.heap.size w w' := by
  have sa := vec_size 8 a
  have sb := vec_size 8 b
  have V := fun w => specValid_any a w
  rw [va] at V
  rw [ans_no]
  unfold pt at *
  go_enter Try.func36, Try.ntmps36
  go_upto_region 1 with fail
  show Code.wp _ _ _ _ (box2 w a b 25 25)
  obtain ⟨hA, hB, hO, hL⟩ := box2_facts w a b 25 25
  generalize box2 w a b 25 25 = W at *
  go_wp2_with (refine load_row rfl rfl rfl hA Try.underlying25 rfl info_cyc ?_)
  refine (V _).mono ?_; rintro e w2 ⟨rfl, hb2⟩
  have hA2 := hA.below hb2; have hB2 := hB.below hb2; have hO2 := hO.below hb2; have hL2 := below_next hL hb2
  clear hA hB hO hL hb2 V
  clear hA2 hB2
  go_wp2_with (refine store_row rfl rfl rfl (show _ = Value.agg (vec 8 nul) from rfl) hO2 info_cyc ?_)
  refine bodyPost_ret (results_row_tmp rfl rfl hO2.setRow Try.underlying25 rfl info_cyc) rfl ?_
  exact ⟨rfl, below_setRow hL2 (by omega) _⟩

theorem specAdd_no2 (a b : Nat → Int) (va : okc a = true) (vb : okc b = false) (w : World) :
    Calls Try.prog 36 #[pt a, pt b] w fun e w' => e = .returned (ans false (add a b)) ∧ Below w.heap.size w w' := by
  have sa := vec_size 8 a
  have sb := vec_size 8 b
  have V := fun w => specValid_any a w
  rw [va] at V
  rw [ans_no]
  have V2 := fun w => specValid_any b w
  rw [vb] at V2
  unfold pt at *
  go_enter Try.func36, Try.ntmps36
  go_upto_region 1 with fail
  show Code.wp _ _ _ _ (box2 w a b 25 25)
  obtain ⟨hA, hB, hO, hL⟩ := box2_facts w a b 25 25
  generalize box2 w a b 25 25 = W at *
  go_wp2_with (refine load_row rfl rfl rfl hA Try.underlying25 rfl info_cyc ?_)
  refine (V _).mono ?_; rintro e w2 ⟨rfl, hb2⟩
  have hA2 := hA.below hb2; have hB2 := hB.below hb2; have hO2 := hO.below hb2; have hL2 := below_next hL hb2
  clear hA hB hO hL hb2 V
  have p0 := hB2.cell (k := 0) (by omega)
  have p1 := hB2.cell (k := 1) (by omega)
  have p2 := hB2.cell (k := 2) (by omega)
  have p3 := hB2.cell (k := 3) (by omega)
  have p4 := hB2.cell (k := 4) (by omega)
  have p5 := hB2.cell (k := 5) (by omega)
  have p6 := hB2.cell (k := 6) (by omega)
  have p7 := hB2.cell (k := 7) (by omega)
  go_wp2_with fail
  refine (V2 _).mono ?_; rintro e w3 ⟨rfl, hb3⟩
  clear p0 p1 p2 p3 p4 p5 p6 p7 V2
  have hA3 := hA2.below hb3; have hB3 := hB2.below hb3; have hO3 := hO2.below hb3; have hL3 := below_next hL2 hb3
  clear hA2 hB2 hO2 hL2 hb3
  clear hA3 hB3
  go_wp2_with (refine store_row rfl rfl rfl (show _ = Value.agg (vec 8 nul) from rfl) hO3 info_cyc ?_)
  refine bodyPost_ret (results_row_tmp rfl rfl hO3.setRow Try.underlying25 rfl info_cyc) rfl ?_
  exact ⟨rfl, below_setRow hL3 (by omega) _⟩

theorem specAdd_yes (a b : Nat → Int) (va : okc a = true) (vb : okc b = true) (w : World) :
    Calls Try.prog 36 #[pt a, pt b] w fun e w' => e = .returned (ans true (add a b)) ∧ Below w.heap.size w w' := by
  have sa := vec_size 8 a
  have sb := vec_size 8 b
  have V := fun w => specValid_any a w
  rw [va] at V
  obtain ⟨c', v', T, eT⟩ := done_some (add a b)
  rw [eT]
  have V2 := fun w => specValid_any b w
  rw [vb] at V2
  have ia := okc_inR va
  have ib := okc_inR vb
  have M : ∀ w, Calls Try.prog 75 #[pt a, .int .i64 1, pt b] w fun e w' => e = .returned (pt (add a b)) ∧ Below w.heap.size w w' := fun w => by
    rw [show pt (add a b) = pt (mul1 a 1 b) from pt_same (fun j _ => by simp only [add, mul1]; omega)]
    exact specSum_any a b 1 (by omega) (fun j hj => by have := ia j hj; omega) (fun j hj => by have := ib j hj; omega) w
  unfold pt at *
  go_enter Try.func36, Try.ntmps36
  go_upto_region 1 with fail
  show Code.wp _ _ _ _ (box2 w a b 25 25)
  obtain ⟨hA, hB, hO, hL⟩ := box2_facts w a b 25 25
  generalize box2 w a b 25 25 = W at *
  go_wp2_with (refine load_row rfl rfl rfl hA Try.underlying25 rfl info_cyc ?_)
  refine (V _).mono ?_; rintro e w2 ⟨rfl, hb2⟩
  have hA2 := hA.below hb2; have hB2 := hB.below hb2; have hO2 := hO.below hb2; have hL2 := below_next hL hb2
  clear hA hB hO hL hb2 V
  have p0 := hB2.cell (k := 0) (by omega)
  have p1 := hB2.cell (k := 1) (by omega)
  have p2 := hB2.cell (k := 2) (by omega)
  have p3 := hB2.cell (k := 3) (by omega)
  have p4 := hB2.cell (k := 4) (by omega)
  have p5 := hB2.cell (k := 5) (by omega)
  have p6 := hB2.cell (k := 6) (by omega)
  have p7 := hB2.cell (k := 7) (by omega)
  go_wp2_with fail
  refine (V2 _).mono ?_; rintro e w3 ⟨rfl, hb3⟩
  clear p0 p1 p2 p3 p4 p5 p6 p7 V2
  have hA3 := hA2.below hb3; have hB3 := hB2.below hb3; have hO3 := hO2.below hb3; have hL3 := below_next hL2 hb3
  clear hA2 hB2 hO2 hL2 hb3
  go_wp2_with (first | (refine load_row rfl rfl rfl hA3 Try.underlying25 rfl info_cyc ?_) | (refine load_row rfl rfl rfl hB3 Try.underlying25 rfl info_cyc ?_))
  refine (M _).mono ?_; rintro e w4 ⟨rfl, hb4⟩
  have hO4 := hO3.below hb4
  have hL4 := below_next hL3 hb4
  clear hA3 hB3 hO3 hL3 hb4 M
  go_wp2_with fail
  refine (T _).mono ?_; rintro e w5 ⟨rfl, hb5⟩
  have hO5 := hO4.below hb5
  have hL5 := below_next hL4 hb5
  clear hO4 hL4 hb5
  go_wp2_with (refine store_row rfl rfl rfl rfl hO5 info_cyc ?_)
  refine bodyPost_ret (results_row_tmp rfl rfl hO5.setRow Try.underlying25 rfl info_cyc) rfl ?_
  exact ⟨rfl, below_setRow hL5 (by omega) _⟩

theorem specAdd_any (a b : Nat → Int) (w : World) :
    Calls Try.prog 36 #[pt a, pt b] w fun e w' => e = .returned (ans (okc a && okc b) (add a b)) ∧ Below w.heap.size w w' := by
  cases va : okc a
  · exact specAdd_no1 a b va w
  · cases vb : okc b
    · exact specAdd_no2 a b va vb w
    · exact specAdd_yes a b va vb w

theorem specLess_no1 (a b : Nat → Int) (va : okc a = false) (w : World) :
    Calls Try.prog 39 #[pt a, pt b] w fun e w' => e = .returned (ans false (sub a b)) ∧ Below w.heap.size w w' := by
  have sa := vec_size 8 a
  have sb := vec_size 8 b
  have V := fun w => specValid_any a w
  rw [va] at V
  rw [ans_no]
  unfold pt at *
  go_enter Try.func39, Try.ntmps39
  go_upto_region 1 with fail
  show Code.wp _ _ _ _ (box2 w a b 25 25)
  obtain ⟨hA, hB, hO, hL⟩ := box2_facts w a b 25 25
  generalize box2 w a b 25 25 = W at *
  go_wp2_with (refine load_row rfl rfl rfl hA Try.underlying25 rfl info_cyc ?_)
  refine (V _).mono ?_; rintro e w2 ⟨rfl, hb2⟩
  have hA2 := hA.below hb2; have hB2 := hB.below hb2; have hO2 := hO.below hb2; have hL2 := below_next hL hb2
  clear hA hB hO hL hb2 V
  clear hA2 hB2
  go_wp2_with (refine store_row rfl rfl rfl (show _ = Value.agg (vec 8 nul) from rfl) hO2 info_cyc ?_)
  refine bodyPost_ret (results_row_tmp rfl rfl hO2.setRow Try.underlying25 rfl info_cyc) rfl ?_
  exact ⟨rfl, below_setRow hL2 (by omega) _⟩

theorem specLess_no2 (a b : Nat → Int) (va : okc a = true) (vb : okc b = false) (w : World) :
    Calls Try.prog 39 #[pt a, pt b] w fun e w' => e = .returned (ans false (sub a b)) ∧ Below w.heap.size w w' := by
  have sa := vec_size 8 a
  have sb := vec_size 8 b
  have V := fun w => specValid_any a w
  rw [va] at V
  rw [ans_no]
  have V2 := fun w => specValid_any b w
  rw [vb] at V2
  unfold pt at *
  go_enter Try.func39, Try.ntmps39
  go_upto_region 1 with fail
  show Code.wp _ _ _ _ (box2 w a b 25 25)
  obtain ⟨hA, hB, hO, hL⟩ := box2_facts w a b 25 25
  generalize box2 w a b 25 25 = W at *
  go_wp2_with (refine load_row rfl rfl rfl hA Try.underlying25 rfl info_cyc ?_)
  refine (V _).mono ?_; rintro e w2 ⟨rfl, hb2⟩
  have hA2 := hA.below hb2; have hB2 := hB.below hb2; have hO2 := hO.below hb2; have hL2 := below_next hL hb2
  clear hA hB hO hL hb2 V
  have p0 := hB2.cell (k := 0) (by omega)
  have p1 := hB2.cell (k := 1) (by omega)
  have p2 := hB2.cell (k := 2) (by omega)
  have p3 := hB2.cell (k := 3) (by omega)
  have p4 := hB2.cell (k := 4) (by omega)
  have p5 := hB2.cell (k := 5) (by omega)
  have p6 := hB2.cell (k := 6) (by omega)
  have p7 := hB2.cell (k := 7) (by omega)
  go_wp2_with fail
  refine (V2 _).mono ?_; rintro e w3 ⟨rfl, hb3⟩
  clear p0 p1 p2 p3 p4 p5 p6 p7 V2
  have hA3 := hA2.below hb3; have hB3 := hB2.below hb3; have hO3 := hO2.below hb3; have hL3 := below_next hL2 hb3
  clear hA2 hB2 hO2 hL2 hb3
  clear hA3 hB3
  go_wp2_with (refine store_row rfl rfl rfl (show _ = Value.agg (vec 8 nul) from rfl) hO3 info_cyc ?_)
  refine bodyPost_ret (results_row_tmp rfl rfl hO3.setRow Try.underlying25 rfl info_cyc) rfl ?_
  exact ⟨rfl, below_setRow hL3 (by omega) _⟩

theorem specLess_yes (a b : Nat → Int) (va : okc a = true) (vb : okc b = true) (w : World) :
    Calls Try.prog 39 #[pt a, pt b] w fun e w' => e = .returned (ans true (sub a b)) ∧ Below w.heap.size w w' := by
  have sa := vec_size 8 a
  have sb := vec_size 8 b
  have V := fun w => specValid_any a w
  rw [va] at V
  obtain ⟨c', v', T, eT⟩ := done_some (sub a b)
  rw [eT]
  have V2 := fun w => specValid_any b w
  rw [vb] at V2
  have ia := okc_inR va
  have ib := okc_inR vb
  have M : ∀ w, Calls Try.prog 75 #[pt a, .int .i64 (-1), pt b] w fun e w' => e = .returned (pt (sub a b)) ∧ Below w.heap.size w w' := fun w => by
    rw [show pt (sub a b) = pt (mul1 a (-1) b) from pt_same (fun j _ => by simp only [sub, mul1]; omega)]
    exact specSum_any a b (-1) (by omega) (fun j hj => by have := ia j hj; omega) (fun j hj => by have := ib j hj; omega) w
  unfold pt at *
  go_enter Try.func39, Try.ntmps39
  go_upto_region 1 with fail
  show Code.wp _ _ _ _ (box2 w a b 25 25)
  obtain ⟨hA, hB, hO, hL⟩ := box2_facts w a b 25 25
  generalize box2 w a b 25 25 = W at *
  go_wp2_with (refine load_row rfl rfl rfl hA Try.underlying25 rfl info_cyc ?_)
  refine (V _).mono ?_; rintro e w2 ⟨rfl, hb2⟩
  have hA2 := hA.below hb2; have hB2 := hB.below hb2; have hO2 := hO.below hb2; have hL2 := below_next hL hb2
  clear hA hB hO hL hb2 V
  have p0 := hB2.cell (k := 0) (by omega)
  have p1 := hB2.cell (k := 1) (by omega)
  have p2 := hB2.cell (k := 2) (by omega)
  have p3 := hB2.cell (k := 3) (by omega)
  have p4 := hB2.cell (k := 4) (by omega)
  have p5 := hB2.cell (k := 5) (by omega)
  have p6 := hB2.cell (k := 6) (by omega)
  have p7 := hB2.cell (k := 7) (by omega)
  go_wp2_with fail
  refine (V2 _).mono ?_; rintro e w3 ⟨rfl, hb3⟩
  clear p0 p1 p2 p3 p4 p5 p6 p7 V2
  have hA3 := hA2.below hb3; have hB3 := hB2.below hb3; have hO3 := hO2.below hb3; have hL3 := below_next hL2 hb3
  clear hA2 hB2 hO2 hL2 hb3
  go_wp2_with (first | (refine load_row rfl rfl rfl hA3 Try.underlying25 rfl info_cyc ?_) | (refine load_row rfl rfl rfl hB3 Try.underlying25 rfl info_cyc ?_))
  refine (M _).mono ?_; rintro e w4 ⟨rfl, hb4⟩
  have hO4 := hO3.below hb4
  have hL4 := below_next hL3 hb4
  clear hA3 hB3 hO3 hL3 hb4 M
  go_wp2_with fail
  refine (T _).mono ?_; rintro e w5 ⟨rfl, hb5⟩
  have hO5 := hO4.below hb5
  have hL5 := below_next hL4 hb5
  clear hO4 hL4 hb5
  go_wp2_with (refine store_row rfl rfl rfl rfl hO5 info_cyc ?_)
  refine bodyPost_ret (results_row_tmp rfl rfl hO5.setRow Try.underlying25 rfl info_cyc) rfl ?_
  exact ⟨rfl, below_setRow hL5 (by omega) _⟩

theorem specLess_any (a b : Nat → Int) (w : World) :
    Calls Try.prog 39 #[pt a, pt b] w fun e w' => e = .returned (ans (okc a && okc b) (sub a b)) ∧ Below w.heap.size w w' := by
  cases va : okc a
  · exact specLess_no1 a b va w
  · cases vb : okc b
    · exact specLess_no2 a b va vb w
    · exact specLess_yes a b va vb w

theorem specProd_no1 (a b : Nat → Int) (va : okc a = false) (w : World) :
    Calls Try.prog 41 #[pt a, pt b] w fun e w' => e = .returned (ans false (prd a b)) ∧ Below w.heap.size w w' := by
  have sa := vec_size 8 a
  have sb := vec_size 8 b
  have V := fun w => specValid_any a w
  rw [va] at V
  rw [ans_no]
  unfold pt at *
  go_enter Try.func41, Try.ntmps41
  go_upto_region 1 with fail
  show Code.wp _ _ _ _ (box2 w a b 25 25)
  obtain ⟨hA, hB, hO, hL⟩ := box2_facts w a b 25 25
  generalize box2 w a b 25 25 = W at *
  go_wp2_with (refine load_row rfl rfl rfl hA Try.underlying25 rfl info_cyc ?_)
  refine (V _).mono ?_; rintro e w2 ⟨rfl, hb2⟩
  have hA2 := hA.below hb2; have hB2 := hB.below hb2; have hO2 := hO.below hb2; have hL2 := below_next hL hb2
  clear hA hB hO hL hb2 V
  clear hA2 hB2
  go_wp2_with (refine store_row rfl rfl rfl (show _ = Value.agg (vec 8 nul) from rfl) hO2 info_cyc ?_)
  refine bodyPost_ret (results_row_tmp rfl rfl hO2.setRow Try.underlying25 rfl info_cyc) rfl ?_
  exact ⟨rfl, below_setRow hL2 (by omega) _⟩

theorem specProd_no2 (a b : Nat → Int) (va : okc a = true) (vb : okc b = false) (w : World) :
    Calls Try.prog 41 #[pt a, pt b] w fun e w' => e = .returned (ans false (prd a b)) ∧ Below w.heap.size w w' := by
  have sa := vec_size 8 a
  have sb := vec_size 8 b
  have V := fun w => specValid_any a w
  rw [va] at V
  rw [ans_no]
  have V2 := fun w => specValid_any b w
  rw [vb] at V2
  unfold pt at *
  go_enter Try.func41, Try.ntmps41
  go_upto_region 1 with fail
  show Code.wp _ _ _ _ (box2 w a b 25 25)
  obtain ⟨hA, hB, hO, hL⟩ := box2_facts w a b 25 25
  generalize box2 w a b 25 25 = W at *
  go_wp2_with (refine load_row rfl rfl rfl hA Try.underlying25 rfl info_cyc ?_)
  refine (V _).mono ?_; rintro e w2 ⟨rfl, hb2⟩
  have hA2 := hA.below hb2; have hB2 := hB.below hb2; have hO2 := hO.below hb2; have hL2 := below_next hL hb2
  clear hA hB hO hL hb2 V
  have p0 := hB2.cell (k := 0) (by omega)
  have p1 := hB2.cell (k := 1) (by omega)
  have p2 := hB2.cell (k := 2) (by omega)
  have p3 := hB2.cell (k := 3) (by omega)
  have p4 := hB2.cell (k := 4) (by omega)
  have p5 := hB2.cell (k := 5) (by omega)
  have p6 := hB2.cell (k := 6) (by omega)
  have p7 := hB2.cell (k := 7) (by omega)
  go_wp2_with fail
  refine (V2 _).mono ?_; rintro e w3 ⟨rfl, hb3⟩
  clear p0 p1 p2 p3 p4 p5 p6 p7 V2
  have hA3 := hA2.below hb3; have hB3 := hB2.below hb3; have hO3 := hO2.below hb3; have hL3 := below_next hL2 hb3
  clear hA2 hB2 hO2 hL2 hb3
  clear hA3 hB3
  go_wp2_with (refine store_row rfl rfl rfl (show _ = Value.agg (vec 8 nul) from rfl) hO3 info_cyc ?_)
  refine bodyPost_ret (results_row_tmp rfl rfl hO3.setRow Try.underlying25 rfl info_cyc) rfl ?_
  exact ⟨rfl, below_setRow hL3 (by omega) _⟩

theorem specProd_yes (a b : Nat → Int) (va : okc a = true) (vb : okc b = true) (w : World) :
    Calls Try.prog 41 #[pt a, pt b] w fun e w' => e = .returned (ans true (prd a b)) ∧ Below w.heap.size w w' := by
  have sa := vec_size 8 a
  have sb := vec_size 8 b
  have V := fun w => specValid_any a w
  rw [va] at V
  obtain ⟨c', v', T, eT⟩ := done_some (prd a b)
  rw [eT]
  have V2 := fun w => specValid_any b w
  rw [vb] at V2
  have ia := okc_inR va
  have ib := okc_inR vb
  have M : ∀ w, Calls Try.prog 77 #[pt a, pt b] w fun e w' => e = .returned (pt (prd a b)) ∧ Below w.heap.size w w' := fun w => specTimes_any a b ia ib w
  unfold pt at *
  go_enter Try.func41, Try.ntmps41
  go_upto_region 1 with fail
  show Code.wp _ _ _ _ (box2 w a b 25 25)
  obtain ⟨hA, hB, hO, hL⟩ := box2_facts w a b 25 25
  generalize box2 w a b 25 25 = W at *
  go_wp2_with (refine load_row rfl rfl rfl hA Try.underlying25 rfl info_cyc ?_)
  refine (V _).mono ?_; rintro e w2 ⟨rfl, hb2⟩
  have hA2 := hA.below hb2; have hB2 := hB.below hb2; have hO2 := hO.below hb2; have hL2 := below_next hL hb2
  clear hA hB hO hL hb2 V
  have p0 := hB2.cell (k := 0) (by omega)
  have p1 := hB2.cell (k := 1) (by omega)
  have p2 := hB2.cell (k := 2) (by omega)
  have p3 := hB2.cell (k := 3) (by omega)
  have p4 := hB2.cell (k := 4) (by omega)
  have p5 := hB2.cell (k := 5) (by omega)
  have p6 := hB2.cell (k := 6) (by omega)
  have p7 := hB2.cell (k := 7) (by omega)
  go_wp2_with fail
  refine (V2 _).mono ?_; rintro e w3 ⟨rfl, hb3⟩
  clear p0 p1 p2 p3 p4 p5 p6 p7 V2
  have hA3 := hA2.below hb3; have hB3 := hB2.below hb3; have hO3 := hO2.below hb3; have hL3 := below_next hL2 hb3
  clear hA2 hB2 hO2 hL2 hb3
  go_wp2_with (first | (refine load_row rfl rfl rfl hA3 Try.underlying25 rfl info_cyc ?_) | (refine load_row rfl rfl rfl hB3 Try.underlying25 rfl info_cyc ?_))
  refine (M _).mono ?_; rintro e w4 ⟨rfl, hb4⟩
  have hO4 := hO3.below hb4
  have hL4 := below_next hL3 hb4
  clear hA3 hB3 hO3 hL3 hb4 M
  go_wp2_with fail
  refine (T _).mono ?_; rintro e w5 ⟨rfl, hb5⟩
  have hO5 := hO4.below hb5
  have hL5 := below_next hL4 hb5
  clear hO4 hL4 hb5
  go_wp2_with (refine store_row rfl rfl rfl rfl hO5 info_cyc ?_)
  refine bodyPost_ret (results_row_tmp rfl rfl hO5.setRow Try.underlying25 rfl info_cyc) rfl ?_
  exact ⟨rfl, below_setRow hL5 (by omega) _⟩

theorem specProd_any (a b : Nat → Int) (w : World) :
    Calls Try.prog 41 #[pt a, pt b] w fun e w' => e = .returned (ans (okc a && okc b) (prd a b)) ∧ Below w.heap.size w w' := by
  cases va : okc a
  · exact specProd_no1 a b va w
  · cases vb : okc b
    · exact specProd_no2 a b va vb w
    · exact specProd_yes a b va vb w

theorem specCycMirror_no (a : Nat → Int)  (va : okc a = false) (w : World) :
    Calls Try.prog 45 #[pt a] w fun e w' => e = .returned (ans false (mir a)) ∧ Below w.heap.size w w' := by
  have sa := vec_size 8 a
  have V := fun w => specValid_any a w
  rw [va] at V
  rw [ans_no]
  unfold pt at *
  go_enter Try.func45, Try.ntmps45
  go_upto_region 1 with fail
  show Code.wp _ _ _ _ (box1 w a 25 25)
  obtain ⟨hA, hO, hL⟩ := box1_facts w a 25 25
  generalize box1 w a 25 25 = W at *
  go_wp2_with (refine load_row rfl rfl rfl hA Try.underlying25 rfl info_cyc ?_)
  refine (V _).mono ?_; rintro e w2 ⟨rfl, hb2⟩
  have hA2 := hA.below hb2; have hO2 := hO.below hb2; have hL2 := below_next hL hb2
  clear hA hO hL hb2 V
  clear hA2
  go_wp2_with (refine store_row rfl rfl rfl (show _ = Value.agg (vec 8 nul) from rfl) hO2 info_cyc ?_)
  refine bodyPost_ret (results_row_tmp rfl rfl hO2.setRow Try.underlying25 rfl info_cyc) rfl ?_
  exact ⟨rfl, below_setRow hL2 (by omega) _⟩

theorem specCycMirror_yes (a : Nat → Int)  (va : okc a = true) (w : World) :
    Calls Try.prog 45 #[pt a] w fun e w' => e = .returned (ans true (mir a)) ∧ Below w.heap.size w w' := by
  have sa := vec_size 8 a
  have V := fun w => specValid_any a w
  rw [va] at V
  obtain ⟨c', v', T, eT⟩ := done_some (mir a)
  rw [eT]
  have ia := okc_inR va
  have M : ∀ w, Calls Try.prog 78 #[pt a] w fun e w' => e = .returned (pt (mir a)) ∧ Below w.heap.size w w' := fun w => specMirror_any a ia w
  unfold pt at *
  go_enter Try.func45, Try.ntmps45
  go_upto_region 1 with fail
  show Code.wp _ _ _ _ (box1 w a 25 25)
  obtain ⟨hA, hO, hL⟩ := box1_facts w a 25 25
  generalize box1 w a 25 25 = W at *
  go_wp2_with (refine load_row rfl rfl rfl hA Try.underlying25 rfl info_cyc ?_)
  refine (V _).mono ?_; rintro e w2 ⟨rfl, hb2⟩
  have hA2 := hA.below hb2; have hO2 := hO.below hb2; have hL2 := below_next hL hb2
  clear hA hO hL hb2 V
  go_wp2_with (refine load_row rfl rfl rfl hA2 Try.underlying25 rfl info_cyc ?_)
  refine (M _).mono ?_; rintro e w4 ⟨rfl, hb4⟩
  have hO4 := hO2.below hb4
  have hL4 := below_next hL2 hb4
  clear hA2 hO2 hL2 hb4 M
  go_wp2_with fail
  refine (T _).mono ?_; rintro e w5 ⟨rfl, hb5⟩
  have hO5 := hO4.below hb5
  have hL5 := below_next hL4 hb5
  clear hO4 hL4 hb5
  go_wp2_with (refine store_row rfl rfl rfl rfl hO5 info_cyc ?_)
  refine bodyPost_ret (results_row_tmp rfl rfl hO5.setRow Try.underlying25 rfl info_cyc) rfl ?_
  exact ⟨rfl, below_setRow hL5 (by omega) _⟩

theorem specCycTurned_no1 (a : Nat → Int) (t : Int) (va : okc a = false) (w : World) :
    Calls Try.prog 43 #[pt a, .int .i64 t] w fun e w' => e = .returned (ans false (trn a t.toNat)) ∧ Below w.heap.size w w' := by
  have sa := vec_size 8 a
  have V := fun w => specValid_any a w
  rw [va] at V
  rw [ans_no]
  unfold pt at *
  go_enter Try.func43, Try.ntmps43
  go_upto_region 1 with fail
  show Code.wp _ _ _ _ (box1 w a 25 25)
  obtain ⟨hA, hO, hL⟩ := box1_facts w a 25 25
  generalize box1 w a 25 25 = W at *
  go_wp2_with (refine load_row rfl rfl rfl hA Try.underlying25 rfl info_cyc ?_)
  refine (V _).mono ?_; rintro e w2 ⟨rfl, hb2⟩
  have hA2 := hA.below hb2; have hO2 := hO.below hb2; have hL2 := below_next hL hb2
  clear hA hO hL hb2 V
  clear hA2
  go_wp2_with (refine store_row rfl rfl rfl (show _ = Value.agg (vec 8 nul) from rfl) hO2 info_cyc ?_)
  refine bodyPost_ret (results_row_tmp rfl rfl hO2.setRow Try.underlying25 rfl info_cyc) rfl ?_
  exact ⟨rfl, below_setRow hL2 (by omega) _⟩

theorem specCycTurned_no2 (a : Nat → Int) (t : Int) (va : okc a = true) (ht : t < 0 ∨ 23 < t) (w : World) :
    Calls Try.prog 43 #[pt a, .int .i64 t] w fun e w' => e = .returned (ans false (trn a t.toNat)) ∧ Below w.heap.size w w' := by
  have sa := vec_size 8 a
  have V := fun w => specValid_any a w
  rw [va] at V
  rw [ans_no]
  have G := fun w => is_no t ht w
  unfold pt at *
  go_enter Try.func43, Try.ntmps43
  go_upto_region 1 with fail
  show Code.wp _ _ _ _ (box1 w a 25 25)
  obtain ⟨hA, hO, hL⟩ := box1_facts w a 25 25
  generalize box1 w a 25 25 = W at *
  go_wp2_with (refine load_row rfl rfl rfl hA Try.underlying25 rfl info_cyc ?_)
  refine (V _).mono ?_; rintro e w2 ⟨rfl, hb2⟩
  have hA2 := hA.below hb2; have hO2 := hO.below hb2; have hL2 := below_next hL hb2
  clear hA hO hL hb2 V
  go_wp2_with fail
  refine (G _).mono ?_; rintro e w' ⟨rfl, rfl⟩
  clear G
  clear hA2
  go_wp2_with (refine store_row rfl rfl rfl (show _ = Value.agg (vec 8 nul) from rfl) hO2 info_cyc ?_)
  refine bodyPost_ret (results_row_tmp rfl rfl hO2.setRow Try.underlying25 rfl info_cyc) rfl ?_
  exact ⟨rfl, below_setRow hL2 (by omega) _⟩

theorem specCycTurned_yes (a : Nat → Int) (t : Nat) (va : okc a = true) (ht : t ≤ 23) (w : World) :
    Calls Try.prog 43 #[pt a, .int .i64 t] w fun e w' => e = .returned (ans true (trn a t)) ∧ Below w.heap.size w w' := by
  have sa := vec_size 8 a
  have V := fun w => specValid_any a w
  rw [va] at V
  obtain ⟨c', v', T, eT⟩ := done_some (trn a t)
  rw [eT]
  have ia := okc_inR va
  have M : ∀ w, Calls Try.prog 69 #[pt a, .int .i64 t] w fun e w' => e = .returned (pt (trn a t)) ∧ Below w.heap.size w w' := fun w => specTurned_any a t ht ia w
  have G := fun w => is_yes (t : Int) (by omega) (by omega) w
  unfold pt at *
  go_enter Try.func43, Try.ntmps43
  go_upto_region 1 with fail
  show Code.wp _ _ _ _ (box1 w a 25 25)
  obtain ⟨hA, hO, hL⟩ := box1_facts w a 25 25
  generalize box1 w a 25 25 = W at *
  go_wp2_with (refine load_row rfl rfl rfl hA Try.underlying25 rfl info_cyc ?_)
  refine (V _).mono ?_; rintro e w2 ⟨rfl, hb2⟩
  have hA2 := hA.below hb2; have hO2 := hO.below hb2; have hL2 := below_next hL hb2
  clear hA hO hL hb2 V
  go_wp2_with fail
  refine (G _).mono ?_; rintro e w' ⟨rfl, rfl⟩
  clear G
  go_wp2_with (refine load_row rfl rfl rfl hA2 Try.underlying25 rfl info_cyc ?_)
  refine (M _).mono ?_; rintro e w4 ⟨rfl, hb4⟩
  have hO4 := hO2.below hb4
  have hL4 := below_next hL2 hb4
  clear hA2 hO2 hL2 hb4 M
  go_wp2_with fail
  refine (T _).mono ?_; rintro e w5 ⟨rfl, hb5⟩
  have hO5 := hO4.below hb5
  have hL5 := below_next hL4 hb5
  clear hO4 hL4 hb5
  go_wp2_with (refine store_row rfl rfl rfl rfl hO5 info_cyc ?_)
  refine bodyPost_ret (results_row_tmp rfl rfl hO5.setRow Try.underlying25 rfl info_cyc) rfl ?_
  exact ⟨rfl, below_setRow hL5 (by omega) _⟩

theorem specCycScale_no1 (a : Nat → Int) (n : Int) (va : okc a = false) (w : World) :
    Calls Try.prog 48 #[pt a, .int .i64 n] w fun e w' => e = .returned (ans false (scl n a)) ∧ Below w.heap.size w w' := by
  have sa := vec_size 8 a
  have V := fun w => specValid_any a w
  rw [va] at V
  rw [ans_no]
  unfold pt at *
  go_enter Try.func48, Try.ntmps48
  go_upto_region 1 with fail
  show Code.wp _ _ _ _ (box1 w a 25 25)
  obtain ⟨hA, hO, hL⟩ := box1_facts w a 25 25
  generalize box1 w a 25 25 = W at *
  go_wp2_with (refine load_row rfl rfl rfl hA Try.underlying25 rfl info_cyc ?_)
  refine (V _).mono ?_; rintro e w2 ⟨rfl, hb2⟩
  have hA2 := hA.below hb2; have hO2 := hO.below hb2; have hL2 := below_next hL hb2
  clear hA hO hL hb2 V
  clear hA2
  go_wp2_with (refine store_row rfl rfl rfl (show _ = Value.agg (vec 8 nul) from rfl) hO2 info_cyc ?_)
  refine bodyPost_ret (results_row_tmp rfl rfl hO2.setRow Try.underlying25 rfl info_cyc) rfl ?_
  exact ⟨rfl, below_setRow hL2 (by omega) _⟩

theorem specCycScale_no2 (a : Nat → Int) (n : Int) (va : okc a = true) (hn : ¬ (-1000000 ≤ n ∧ n ≤ 1000000)) (w : World) :
    Calls Try.prog 48 #[pt a, .int .i64 n] w fun e w' => e = .returned (ans false (scl n a)) ∧ Below w.heap.size w w' := by
  have sa := vec_size 8 a
  have V := fun w => specValid_any a w
  rw [va] at V
  rw [ans_no]
  have G := fun w => in_no n (-1000000) 1000000 (by omega) w
  unfold pt at *
  go_enter Try.func48, Try.ntmps48
  go_upto_region 1 with fail
  show Code.wp _ _ _ _ (box1 w a 25 25)
  obtain ⟨hA, hO, hL⟩ := box1_facts w a 25 25
  generalize box1 w a 25 25 = W at *
  go_wp2_with (refine load_row rfl rfl rfl hA Try.underlying25 rfl info_cyc ?_)
  refine (V _).mono ?_; rintro e w2 ⟨rfl, hb2⟩
  have hA2 := hA.below hb2; have hO2 := hO.below hb2; have hL2 := below_next hL hb2
  clear hA hO hL hb2 V
  go_wp2_with fail
  refine (G _).mono ?_; rintro e w' ⟨rfl, rfl⟩
  clear G
  clear hA2
  go_wp2_with (refine store_row rfl rfl rfl (show _ = Value.agg (vec 8 nul) from rfl) hO2 info_cyc ?_)
  refine bodyPost_ret (results_row_tmp rfl rfl hO2.setRow Try.underlying25 rfl info_cyc) rfl ?_
  exact ⟨rfl, below_setRow hL2 (by omega) _⟩

theorem specCycScale_yes (a : Nat → Int) (n : Int) (va : okc a = true) (hn : -1000000 ≤ n ∧ n ≤ 1000000) (w : World) :
    Calls Try.prog 48 #[pt a, .int .i64 n] w fun e w' => e = .returned (ans true (scl n a)) ∧ Below w.heap.size w w' := by
  have sa := vec_size 8 a
  have V := fun w => specValid_any a w
  rw [va] at V
  obtain ⟨c', v', T, eT⟩ := done_some (scl n a)
  rw [eT]
  have ia := okc_inR va
  have M : ∀ w, Calls Try.prog 75 #[pt nul, .int .i64 n, pt a] w fun e w' => e = .returned (pt (scl n a)) ∧ Below w.heap.size w w' := fun w => by
    rw [show pt (scl n a) = pt (mul1 nul n a) from pt_same (fun j _ => by simp only [scl, mul1, nul]; omega)]
    exact specSum_any nul a n hn (fun j hj => by simp [nul]) (fun j hj => by have := ia j hj; omega) w
  have G := fun w => in_yes n (-1000000) 1000000 hn.1 hn.2 w
  unfold pt at *
  go_enter Try.func48, Try.ntmps48
  go_upto_region 1 with fail
  show Code.wp _ _ _ _ (box1 w a 25 25)
  obtain ⟨hA, hO, hL⟩ := box1_facts w a 25 25
  generalize box1 w a 25 25 = W at *
  go_wp2_with (refine load_row rfl rfl rfl hA Try.underlying25 rfl info_cyc ?_)
  refine (V _).mono ?_; rintro e w2 ⟨rfl, hb2⟩
  have hA2 := hA.below hb2; have hO2 := hO.below hb2; have hL2 := below_next hL hb2
  clear hA hO hL hb2 V
  go_wp2_with fail
  refine (G _).mono ?_; rintro e w' ⟨rfl, rfl⟩
  clear G
  go_wp2_with (refine load_row rfl rfl rfl hA2 Try.underlying25 rfl info_cyc ?_)
  refine (M _).mono ?_; rintro e w4 ⟨rfl, hb4⟩
  have hO4 := hO2.below hb4
  have hL4 := below_next hL2 hb4
  clear hA2 hO2 hL2 hb4 M
  go_wp2_with fail
  refine (T _).mono ?_; rintro e w5 ⟨rfl, hb5⟩
  have hO5 := hO4.below hb5
  have hL5 := below_next hL4 hb5
  clear hO4 hL4 hb5
  go_wp2_with (refine store_row rfl rfl rfl rfl hO5 info_cyc ?_)
  refine bodyPost_ret (results_row_tmp rfl rfl hO5.setRow Try.underlying25 rfl info_cyc) rfl ?_
  exact ⟨rfl, below_setRow hL5 (by omega) _⟩

theorem specGauss_any (re im : Int) (w : World) :
    Calls Try.prog 51 #[.int .i64 re, .int .i64 im] w fun e w' => e = .returned (ans true (gau re im)) ∧ Below w.heap.size w w' := by
  obtain ⟨c', v', T, eT⟩ := done_some (gau re im)
  rw [eT]
  have M := fun w => specGaussIn_any re im w
  have hO : RowAt (w.alloc (.cells (vec 8 nul) 25)) w.heap.size 8 25 nul := RowAt.newAt rfl rfl
  have hL : Below w.heap.size w (w.alloc (.cells (vec 8 nul) 25)) := (Below.refl _ _).alloc (Nat.le_refl _) _
  unfold pt at *
  go_enter Try.func51, Try.ntmps51
  go_upto_region 1 with fail
  show Code.wp _ _ _ _ (w.alloc (.cells (vec 8 nul) 25))
  generalize w.alloc (.cells (vec 8 nul) 25) = W3 at *
  go_wp2_with fail
  refine (M _).mono ?_; rintro e w4 ⟨rfl, hb4⟩
  have hO4 := hO.below hb4
  have hL4 := below_next hL hb4
  clear hO hL hb4 M
  go_wp2_with fail
  refine (T _).mono ?_; rintro e w5 ⟨rfl, hb5⟩
  have hO5 := hO4.below hb5
  have hL5 := below_next hL4 hb5
  clear hO4 hL4 hb5
  go_wp2_with (refine store_row rfl rfl rfl rfl hO5 info_cyc ?_)
  refine bodyPost_ret (results_row_tmp rfl rfl hO5.setRow Try.underlying25 rfl info_cyc) rfl ?_
  exact ⟨rfl, below_setRow hL5 (by omega) _⟩
end Go.Proofs.Ytjfljelpjgkmjaa
