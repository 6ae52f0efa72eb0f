/-
  The walk of the law FnSwingAt.
-/
import Derived.Test.YtpbppgaohfgpbaaM32
namespace Go.Proofs.Ytpbppgaohfgpbaa
set_option maxRecDepth 20000
open Go.ChangeShapes Go.WideShapes Go.ChangeAt Go.RowKit
set_option linter.unusedVariables false
set_option linter.unusedSimpArgs false
attribute [local go_sem] run_store_fl run_store_cx

set_option maxHeartbeats 4000000 in
theorem lawFnSwingAt_walk (v : Value) (w : World) (h : CodeAt w v) : Calls Try.prog 4 #[v] w (Fine w) := by
  have D := Lib.hid (drawSwingAt v w h)
  obtain ⟨pa, pn, pc, rfl, hpn⟩ := code_length h
  clear h
  by_cases hbig : 1048576 < pn
  · have hb : (1048576 : Int) < (pn : Int) := by omega
    go_enter Try.func4, Try.ntmps4
    go_wp2_with fail
    go_ret
    exact fine_same ⟨rfl, rfl⟩
  have hb : ¬ (1048576 : Int) < (pn : Int) := by omega
  go_enter Try.func4, Try.ntmps4
  go_wp2_with fail
  refine D.out.mono ?_; rintro e w1 ⟨a, t, h, n, rfl, n1, n2, hL⟩
  clear D
  go_upto_region 4 with fail
  show Code.wp _ _ _ _ (w1.alloc (.cells #[.complex .f32 a.1 a.2, .int .i64 t, .int .i64 h] 25))
  have HS1 : Hid (BlkAt (w1.alloc (.cells #[.complex .f32 a.1 a.2, .int .i64 t, .int .i64 h] 25)) w1.heap.size 25 #[.complex .f32 a.1 a.2, .int .i64 t, .int .i64 h]) := BlkAt.newAt rfl rfl
  have HL1 := Lib.hid (belA hL (.cells #[.complex .f32 a.1 a.2, .int .i64 t, .int .i64 h] 25))
  generalize hgs : w1.heap.size = gs at *
  generalize hw2 : w1.alloc (.cells #[.complex .f32 a.1 a.2, .int .i64 t, .int .i64 h] 25) = w2 at *
  clear hgs hw2 hL
  have C1 := fun w => SwingAt_any a t h n w
  have C2 := fun w => specSwingAt_any a t h n w
  have C3 := fun w => alike_nas (swS a t h n) (swS_nas a t h n) w
  unfold cs at C3
  cases o : mkW' a t h n with
  | false =>
    rw [o] at C1 C2
    clear o
    generalize swS a t h n = x at *
    have s0 := HS1.out.cell (k := 0) rfl
    have s1 := HS1.out.cell (k := 1) rfl
    have s2 := HS1.out.cell (k := 2) rfl
    go_wp2_with fail
    refine (C1 _).mono ?_; rintro e w3 ⟨rfl, hb⟩
    have HS2 := Lib.hid (HS1.out.below hb)
    have HL2 := Lib.hid (belT HL1.out hb)
    clear s0 s1 s2
    clear hb HS1 HL1 C1
    have s0 := HS2.out.cell (k := 0) rfl
    have s1 := HS2.out.cell (k := 1) rfl
    have s2 := HS2.out.cell (k := 2) rfl
    go_wp2_with fail
    refine (C2 _).mono ?_; rintro e w4 ⟨rfl, hb⟩
    have HS3 := Lib.hid (HS2.out.below hb)
    have HL3 := Lib.hid (belT HL2.out hb)
    clear s0 s1 s2
    clear hb HS2 HL2 C2
    go_wp2_with fail
    refine (C3 _).mono ?_; rintro e wq ⟨rfl, hw⟩
    have hw2 := hw.symm
    subst hw2
    clear hw
    go_wp2_with fail
    refine (C3 _).mono ?_; rintro e wq ⟨rfl, hw⟩
    have hw2 := hw.symm
    subst hw2
    clear hw
    go_wp2_with fail
    go_ret
    exact ⟨rfl, HL3.out⟩
  | true =>
    obtain ⟨v1, v2⟩ := mkW_parts o
    obtain ⟨ha, ht, hh⟩ := okW_parts v1
    have ex := swS_yes o
    have hf : FinS (swS a t h n) := by rw [ex]; exact rnS_fin _ ha
    have m1 := mkW_yes (okW_next v1 hf) (show (0 : Int) ≤ 1 by omega) (show (1 : Int) ≤ 400 by omega)
    have C4 := fun w => SwingAt_any (swS a t h n) t h 1 w
    have e4 := swS_yes m1
    have C5 := fun w => SwingAt_any a t h (n + 1) w
    have wn : IntKind.i64.wrap (n + 1) = n + 1 := by rw [IntKind.wrap_i64]; omega
    rw [m1] at C4
    have C6 := fun w => alike_nas (swS (swS a t h n) t h 1) (swS_nas _ _ _ _) w
    unfold cs at C6
    have e5 : mkW' a t h (n + 1) = true → swS a t h (n + 1) = swS (swS a t h n) t h 1 := fun m2 => by
      rw [swS_yes m2, e4, ex, show (n + 1).toNat = n.toNat + 1 by omega]; rfl
    rw [o] at C1 C2
    clear ht hh ha hf m1 v1 ex e4 o
    generalize swS (swS a t h n) t h 1 = y at *
    generalize swS a t h n = x at *
    cases o2 : mkW' a t h (n + 1) with
    | false =>
      generalize swS a t h (n + 1) = z at *
      rw [o2] at C5
      clear e5 o2
      have s0 := HS1.out.cell (k := 0) rfl
      have s1 := HS1.out.cell (k := 1) rfl
      have s2 := HS1.out.cell (k := 2) rfl
      go_wp2_with fail
      refine (C1 _).mono ?_; rintro e w3 ⟨rfl, hb⟩
      have HS2 := Lib.hid (HS1.out.below hb)
      have HL2 := Lib.hid (belT HL1.out hb)
      clear s0 s1 s2
      clear hb HS1 HL1 C1
      have s0 := HS2.out.cell (k := 0) rfl
      have s1 := HS2.out.cell (k := 1) rfl
      have s2 := HS2.out.cell (k := 2) rfl
      go_wp2_with fail
      refine (C2 _).mono ?_; rintro e w4 ⟨rfl, hb⟩
      have HS3 := Lib.hid (HS2.out.below hb)
      have HL3 := Lib.hid (belT HL2.out hb)
      clear s0 s1 s2
      clear hb HS2 HL2 C2
      go_wp2_with fail
      refine (C3 _).mono ?_; rintro e wq ⟨rfl, hw⟩
      have hw2 := hw.symm
      subst hw2
      clear hw
      have s0 := HS3.out.cell (k := 0) rfl
      have s1 := HS3.out.cell (k := 1) rfl
      have s2 := HS3.out.cell (k := 2) rfl
      go_upto_region 9 with fail
      have HN3 : Hid (BlkAt (w4.alloc (.cells #[.complex .f32 x.1 x.2, .int .i64 t, .int .i64 h] 25)) w4.heap.size 25 #[.complex .f32 x.1 x.2, .int .i64 t, .int .i64 h]) := BlkAt.newAt rfl rfl
      have HSx := Lib.hid (HS3.out.alloc (.cells #[.complex .f32 x.1 x.2, .int .i64 t, .int .i64 h] 25))
      have HLx := Lib.hid (belA HL3.out (.cells #[.complex .f32 x.1 x.2, .int .i64 t, .int .i64 h] 25))
      clear s0 s1 s2 HS3 HL3
      show Code.wp _ _ _ _ (w4.alloc (.cells #[.complex .f32 x.1 x.2, .int .i64 t, .int .i64 h] 25))
      generalize hg2 : w4.heap.size = g2 at *
      generalize hwx : w4.alloc (.cells #[.complex .f32 x.1 x.2, .int .i64 t, .int .i64 h] 25) = wx at *
      clear hg2 hwx
      have HS4 := HSx
      have HL4 := HLx
      have HN4 := HN3
      clear HSx HLx HN3
      skip
      have n0 := HN4.out.cell (k := 0) rfl
      have n1 := HN4.out.cell (k := 1) rfl
      have n2 := HN4.out.cell (k := 2) rfl
      go_wp2_with fail
      refine (C4 _).mono ?_; rintro e w6 ⟨rfl, hb⟩
      have HS5 := Lib.hid (HS4.out.below hb)
      have HN5 := Lib.hid (HN4.out.below hb)
      have HL5 := Lib.hid (belT HL4.out hb)
      clear n0 n1 n2
      clear hb HS4 HN4 HL4 C4
      have s0 := HS5.out.cell (k := 0) rfl
      have s1 := HS5.out.cell (k := 1) rfl
      have s2 := HS5.out.cell (k := 2) rfl
      go_wp2_with fail
      refine (C5 _).mono ?_; rintro e w7 ⟨rfl, hb⟩
      have HS6 := Lib.hid (HS5.out.below hb)
      have HN6 := Lib.hid (HN5.out.below hb)
      have HL6 := Lib.hid (belT HL5.out hb)
      clear s0 s1 s2
      clear hb HS5 HN5 HL5 C5
      go_wp2_with fail
      go_ret
      exact ⟨rfl, HL6.out⟩
    | true =>
      rw [e5 o2] at C5
      rw [o2] at C5
      clear e5 o2
      have s0 := HS1.out.cell (k := 0) rfl
      have s1 := HS1.out.cell (k := 1) rfl
      have s2 := HS1.out.cell (k := 2) rfl
      go_wp2_with fail
      refine (C1 _).mono ?_; rintro e w3 ⟨rfl, hb⟩
      have HS2 := Lib.hid (HS1.out.below hb)
      have HL2 := Lib.hid (belT HL1.out hb)
      clear s0 s1 s2
      clear hb HS1 HL1 C1
      have s0 := HS2.out.cell (k := 0) rfl
      have s1 := HS2.out.cell (k := 1) rfl
      have s2 := HS2.out.cell (k := 2) rfl
      go_wp2_with fail
      refine (C2 _).mono ?_; rintro e w4 ⟨rfl, hb⟩
      have HS3 := Lib.hid (HS2.out.below hb)
      have HL3 := Lib.hid (belT HL2.out hb)
      clear s0 s1 s2
      clear hb HS2 HL2 C2
      go_wp2_with fail
      refine (C3 _).mono ?_; rintro e wq ⟨rfl, hw⟩
      have hw2 := hw.symm
      subst hw2
      clear hw
      have s0 := HS3.out.cell (k := 0) rfl
      have s1 := HS3.out.cell (k := 1) rfl
      have s2 := HS3.out.cell (k := 2) rfl
      go_upto_region 9 with fail
      have HN3 : Hid (BlkAt (w4.alloc (.cells #[.complex .f32 x.1 x.2, .int .i64 t, .int .i64 h] 25)) w4.heap.size 25 #[.complex .f32 x.1 x.2, .int .i64 t, .int .i64 h]) := BlkAt.newAt rfl rfl
      have HSx := Lib.hid (HS3.out.alloc (.cells #[.complex .f32 x.1 x.2, .int .i64 t, .int .i64 h] 25))
      have HLx := Lib.hid (belA HL3.out (.cells #[.complex .f32 x.1 x.2, .int .i64 t, .int .i64 h] 25))
      clear s0 s1 s2 HS3 HL3
      show Code.wp _ _ _ _ (w4.alloc (.cells #[.complex .f32 x.1 x.2, .int .i64 t, .int .i64 h] 25))
      generalize hg2 : w4.heap.size = g2 at *
      generalize hwx : w4.alloc (.cells #[.complex .f32 x.1 x.2, .int .i64 t, .int .i64 h] 25) = wx at *
      clear hg2 hwx
      have HS4 := HSx
      have HL4 := HLx
      have HN4 := HN3
      clear HSx HLx HN3
      skip
      have n0 := HN4.out.cell (k := 0) rfl
      have n1 := HN4.out.cell (k := 1) rfl
      have n2 := HN4.out.cell (k := 2) rfl
      go_wp2_with fail
      refine (C4 _).mono ?_; rintro e w6 ⟨rfl, hb⟩
      have HS5 := Lib.hid (HS4.out.below hb)
      have HN5 := Lib.hid (HN4.out.below hb)
      have HL5 := Lib.hid (belT HL4.out hb)
      clear n0 n1 n2
      clear hb HS4 HN4 HL4 C4
      have s0 := HS5.out.cell (k := 0) rfl
      have s1 := HS5.out.cell (k := 1) rfl
      have s2 := HS5.out.cell (k := 2) rfl
      go_wp2_with fail
      refine (C5 _).mono ?_; rintro e w7 ⟨rfl, hb⟩
      have HS6 := Lib.hid (HS5.out.below hb)
      have HN6 := Lib.hid (HN5.out.below hb)
      have HL6 := Lib.hid (belT HL5.out hb)
      clear s0 s1 s2
      clear hb HS5 HN5 HL5 C5
      go_wp2_with fail
      refine (C6 _).mono ?_; rintro e wq ⟨rfl, hw⟩
      have hw2 := hw.symm
      subst hw2
      clear hw
      go_wp2_with fail
      go_ret
      exact ⟨rfl, HL6.out⟩
end Go.Proofs.Ytpbppgaohfgpbaa
