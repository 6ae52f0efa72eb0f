/-
  The walk of the law FnGrid.
-/
import Derived.Test.YtibhlaojinedoaaM28
import Derived.Test.YtibhlaojinedoaaM31
import Derived.Test.YtibhlaojinedoaaM26
import Derived.Test.YtibhlaojinedoaaM32
import Derived.Test.YtibhlaojinedoaaM05
namespace Go.Proofs.Ytibhlaojinedoaa
set_option maxRecDepth 20000
open Go.ChangeShapes Go.WideShapes Go.ChangeAt Go.RowKit
set_option linter.unusedVariables false
set_option linter.unusedSimpArgs false

set_option maxHeartbeats 4000000 in
theorem lawFnGrid_walk (v : Value) (w : World) (h : CodeAt w v) : Calls Try.prog 3 #[v] w (Fine w) := by
  have D := Lib.hid (drawGridPoint v w h)
  obtain ⟨pa, pn, pc, rfl, hpn⟩ := code_length h
  clear h
  by_cases hbig : 1048576 < pn
  · have hb : (1048576 : Int) < (pn : Int) := by omega
    go_enter Try.func3, Try.ntmps3
    go_wp2_with fail
    go_ret
    exact fine_same ⟨rfl, rfl⟩
  have hb : ¬ (1048576 : Int) < (pn : Int) := by omega
  go_enter Try.func3, Try.ntmps3
  go_wp2_with fail
  refine D.out.mono ?_; rintro e w1 ⟨a, g, rfl, hL⟩
  clear D
  have C1 := fun w => GridPoint_any a g w
  have C2 := fun w => specGridPoint_any a g w
  unfold csP cs at C1 C2
  cases hq : gpB a g with
  | false =>
    have EQ := fun w => eq_two 0 0 0 0 w
    rw [show ((0 : Int) == 0 && (0 : Int) == 0) = true by decide] at EQ
    rw [hq, gpM_no hq] at C1 C2
    clear hq
    go_wp2_with fail
    refine (C1 _).mono ?_; rintro e w2 ⟨rfl, hb⟩
    replace hL := below_next hL hb
    clear hb C1
    go_upto_region 5 with fail
    show Code.wp _ _ _ _ (w2.alloc (.cells #[.int .i64 0, .int .i64 0] 27))
    have H1 : Hid (BlkAt (w2.alloc (.cells #[.int .i64 0, .int .i64 0] 27)) w2.heap.size 27 #[.int .i64 0, .int .i64 0]) := BlkAt.newAt rfl rfl
    have HL := Lib.hid (belA hL (.cells #[.int .i64 0, .int .i64 0] 27))
    generalize w2.alloc (.cells #[.int .i64 0, .int .i64 0] 27) = w3 at *
    generalize w2.heap.size = g1 at *
    clear hL
    go_wp2_with fail
    refine (C2 _).mono ?_; rintro e w4 ⟨rfl, hb⟩
    have H1 := Lib.hid (H1.out.below hb)
    have HL := Lib.hid (below_next HL.out hb)
    clear hb C2
    go_upto_region 6 with fail
    show Code.wp _ _ _ _ (w4.alloc (.cells #[.int .i64 0, .int .i64 0] 27))
    have h2 : BlkAt (w4.alloc (.cells #[.int .i64 0, .int .i64 0] 27)) w4.heap.size 27 #[.int .i64 0, .int .i64 0] := BlkAt.newAt rfl rfl
    have h1 := H1.out.alloc (.cells #[.int .i64 0, .int .i64 0] 27)
    have HL := Lib.hid (belA HL.out (.cells #[.int .i64 0, .int .i64 0] 27))
    generalize w4.alloc (.cells #[.int .i64 0, .int .i64 0] 27) = w5 at *
    generalize w4.heap.size = g2 at *
    have a0 := h1.cell (k := 0) rfl
    have a1 := h1.cell (k := 1) rfl
    have b0 := h2.cell (k := 0) rfl
    have b1 := h2.cell (k := 1) rfl
    clear h1 h2 H1
    go_wp2_with (first | rw [EQ])
    go_ret
    exact ⟨rfl, HL.out⟩
  | true =>
    have hq2 := hq
    unfold gpB grB at hq2
    rw [Bool.and_eq_true, decide_eq_true_iff] at hq2
    obtain ⟨hpt, hg0, hg8⟩ := hq2
    obtain ⟨n, rfl⟩ : ∃ n : Nat, g = n := ⟨g.toNat, by omega⟩
    have hn : n ≤ 8 := by omega
    obtain ⟨M1, x, p1, q1, t1, o1, u1, hm1, hs1, hp1, hq1, ho1, hoq1, hx1, ht1, hu1, hw1⟩ := grid_words (ptR_parts hpt).1 hn
    obtain ⟨M2, y, p2, q2, t2, o2, u2, hm2, hs2, hp2, hq2, ho2, hoq2, hx2, ht2, hu2, hw2⟩ := grid_words (ptR_parts hpt).2 hn
    have f1 := (wd_fin (inR_fin (ptR_parts hpt).1).1).1
    have f2 := (wd_fin (inR_fin (ptR_parts hpt).2).1).1
    have W1 := fun w => within_yes hp1 hq1 ho1 hoq1 w
    have W2 := fun w => within_yes hp2 hq2 ho2 hoq2 w
    have RZ1 := fun w => run_convert_float_float (P := Try.prog) w 31 30 .f32 .f64 _ _ (by kernel_rfl) (by kernel_rfl) f1
    have RZ2 := fun w => run_convert_float_float (P := Try.prog) w 31 30 .f32 .f64 _ _ (by kernel_rfl) (by kernel_rfl) f2
    have RM1 := fun t w => run_float_arith (P := Try.prog) w .mul t .f64 _ _ _ hm1
    have RM2 := fun t w => run_float_arith (P := Try.prog) w .mul t .f64 _ _ _ hm2
    have RS1 := fun t w => run_float_arith (P := Try.prog) w .sub t .f64 _ _ _ hs1
    have RS2 := fun t w => run_float_arith (P := Try.prog) w .sub t .f64 _ _ _ hs2
    have RI1 := fun w => run_int32 ht1 w
    have RI2 := fun w => run_int32 ht2 w
    unfold sclD at RM1 RM2
    have hsh := shl_g hn
    rw [Nat.min_eq_left (show n ≤ 64 by omega)] at hsh
    rw [← hsh] at RM1 RM2
    clear hsh
    have hgpt : gpt n a = (unI n (ivS a.1), unI n (ivS a.2)) := rfl
    rw [hq, gpM_yes hq, hgpt] at C1 C2
    unfold mvV at C1 C2
    simp only at C1 C2
    generalize unI n (ivS a.1) = X at *
    generalize unI n (ivS a.2) = Y at *
    generalize wdW a.1 = Z1 at *
    generalize wdW a.2 = Z2 at *
    have EQ := fun w => eq_two X Y X Y w
    rw [show (X == X && Y == Y) = true by simp] at EQ
    have HW1 := Lib.hid hw1
    have HW2 := Lib.hid hw2
    have HX1 := Lib.hid hx1
    have HX2 := Lib.hid hx2
    have HU1 := Lib.hid hu1
    have HU2 := Lib.hid hu2
    clear hq hpt hm1 hs1 hp1 hq1 ho1 hoq1 hx1 ht1 hu1 hw1 hm2 hs2 hp2 hq2 ho2 hoq2 hx2 ht2 hu2 hw2 f1 f2 hgpt
    go_wp2_with fail
    refine (C1 _).mono ?_; rintro e w2 ⟨rfl, hb⟩
    replace hL := below_next hL hb
    clear hb C1
    go_upto_region 5 with fail
    show Code.wp _ _ _ _ (w2.alloc (.cells #[.int .i64 X, .int .i64 Y] 27))
    have H1 : Hid (BlkAt (w2.alloc (.cells #[.int .i64 X, .int .i64 Y] 27)) w2.heap.size 27 #[.int .i64 X, .int .i64 Y]) := BlkAt.newAt rfl rfl
    have HL := Lib.hid (belA hL (.cells #[.int .i64 X, .int .i64 Y] 27))
    generalize w2.alloc (.cells #[.int .i64 X, .int .i64 Y] 27) = w3 at *
    generalize w2.heap.size = g1 at *
    clear hL
    go_wp2_with fail
    refine (C2 _).mono ?_; rintro e w4 ⟨rfl, hb⟩
    have H1 := Lib.hid (H1.out.below hb)
    have HL := Lib.hid (below_next HL.out hb)
    clear hb C2
    go_upto_region 6 with fail
    show Code.wp _ _ _ _ (w4.alloc (.cells #[.int .i64 X, .int .i64 Y] 27))
    have h2 : BlkAt (w4.alloc (.cells #[.int .i64 X, .int .i64 Y] 27)) w4.heap.size 27 #[.int .i64 X, .int .i64 Y] := BlkAt.newAt rfl rfl
    have h1 := H1.out.alloc (.cells #[.int .i64 X, .int .i64 Y] 27)
    have HL := Lib.hid (belA HL.out (.cells #[.int .i64 X, .int .i64 Y] 27))
    generalize w4.alloc (.cells #[.int .i64 X, .int .i64 Y] 27) = w5 at *
    generalize w4.heap.size = g2 at *
    have a0 := h1.cell (k := 0) rfl
    have a1 := h1.cell (k := 1) rfl
    have b0 := h2.cell (k := 0) rfl
    have b1 := h2.cell (k := 1) rfl
    clear h1 h2 H1
    go_upto_region 11 with (first | rw [EQ] | rw [RZ1] | rw [RZ2] | rw [RM1] | rw [RM2] | rw [RS1] | rw [RS2])
    clear EQ RM1 RM2 RS1 RS2 a0 a1 b0 b1
    have hw1 := HW1.out
    have hw2 := HW2.out
    have X1 := HX1.out
    have X2 := HX2.out
    have U1 := HU1.out
    have U2 := HU2.out
    clear HX1 HX2 HU1 HU2 HW1 HW2
    go_wp2_with fail
    refine (W1 _).mono ?_; rintro e wq ⟨rfl, hw⟩
    have hwx := hw.symm
    subst hwx
    clear hw W1
    go_wp2_with fail
    refine (W2 _).mono ?_; rintro e wq ⟨rfl, hw⟩
    have hwx := hw.symm
    subst hwx
    clear hw W2
    cases o1 <;> cases u1 <;> first
      | (exfalso; simp at hw1; done)
      | (clear hw1
         cases o2 <;> cases u2 <;> first
           | (exfalso; simp at hw2; done)
           | (clear hw2
              go_wp2_with (first | rw [RZ1] | rw [RZ2] | rw [RI1] | rw [RI2])
              go_ret
              exact ⟨rfl, HL.out⟩))
end Go.Proofs.Ytibhlaojinedoaa
