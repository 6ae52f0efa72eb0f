/-
  The walk of the law FnSwing.
-/
import Derived.Test.YtpbppgaohfgpbaaM32
namespace Go.Proofs.Ytpbppgaohfgpbaa
set_option maxRecDepth 20000
open Go.ChangeShapes Go.WideShapes Go.ChangeAt Go.RowKit
set_option linter.unusedVariables false
set_option linter.unusedSimpArgs false
attribute [local go_sem] run_store_fl run_store_cx

set_option maxHeartbeats 4000000 in
theorem lawFnSwing_walk (v : Value) (w : World) (h : CodeAt w v) : Calls Try.prog 3 #[v] w (Fine w) := by
  have D := Lib.hid (drawSwingValid v w h)
  obtain ⟨pa, pn, pc, rfl, hpn⟩ := code_length h
  clear h
  by_cases hbig : 1048576 < pn
  · have hb : (1048576 : Int) < (pn : Int) := by omega
    go_enter Try.func3, Try.ntmps3
    go_wp2_with fail
    go_ret
    exact fine_same ⟨rfl, rfl⟩
  have hb : ¬ (1048576 : Int) < (pn : Int) := by omega
  go_enter Try.func3, Try.ntmps3
  go_wp2_with fail
  refine D.out.mono ?_; rintro e w1 ⟨a, t, h, rfl, hL⟩
  clear D
  go_upto_region 4 with fail
  show Code.wp _ _ _ _ (w1.alloc (.cells #[.complex .f32 a.1 a.2, .int .i64 t, .int .i64 h] 25))
  have HS1 : Hid (BlkAt (w1.alloc (.cells #[.complex .f32 a.1 a.2, .int .i64 t, .int .i64 h] 25)) w1.heap.size 25 #[.complex .f32 a.1 a.2, .int .i64 t, .int .i64 h]) := BlkAt.newAt rfl rfl
  have HL1 := Lib.hid (belA hL (.cells #[.complex .f32 a.1 a.2, .int .i64 t, .int .i64 h] 25))
  generalize hgs : w1.heap.size = gs at *
  generalize hw2 : w1.alloc (.cells #[.complex .f32 a.1 a.2, .int .i64 t, .int .i64 h] 25) = w2 at *
  clear hgs hw2 hL
  have C1 := fun w => SwingValid_any a t h w
  have C2 := fun w => specSwingValid_any a t h w
  cases o : okW a t h with
  | false =>
    rw [o] at C1 C2
    clear o
    have s0 := HS1.out.cell (k := 0) rfl
    have s1 := HS1.out.cell (k := 1) rfl
    have s2 := HS1.out.cell (k := 2) rfl
    go_wp2_with fail
    refine (C1 _).mono ?_; rintro e w3 ⟨rfl, hb⟩
    have HS2 := Lib.hid (HS1.out.below hb)
    have HL2 := Lib.hid (belT HL1.out hb)
    clear s0 s1 s2
    clear hb HS1 HL1 C1
    have s0 := HS2.out.cell (k := 0) rfl
    have s1 := HS2.out.cell (k := 1) rfl
    have s2 := HS2.out.cell (k := 2) rfl
    go_wp2_with fail
    refine (C2 _).mono ?_; rintro e w4 ⟨rfl, hb⟩
    have HS3 := Lib.hid (HS2.out.below hb)
    have HL3 := Lib.hid (belT HL2.out hb)
    clear s0 s1 s2
    clear hb HS2 HL2 C2
    go_wp2_with fail
    go_ret
    exact ⟨rfl, HL3.out⟩
  | true =>
    rw [o] at C1 C2
    have m1 := mkW_yes (okW_still o) (show (0 : Int) ≤ 4 by omega) (show (4 : Int) ≤ 400 by omega)
    have m2 := mkW_yes o (show (0 : Int) ≤ 0 by omega) (show (0 : Int) ≤ 400 by omega)
    have C3 := fun w => SwingAt_any a t 0 4 w
    have C4 := fun w => SwingAt_any a t h 0 w
    have e3 := swS_yes m1
    have e4 : swS a t h 0 = a := swS_yes m2
    rw [m1, e3] at C3
    rw [m2, e4] at C4
    obtain ⟨ha, ht, hh⟩ := okW_parts o
    obtain ⟨u, v, hat⟩ := at_fin ha
    have hround : At (rnS t.toNat (0 : Int).toNat (4 : Int).toNat a) u v := round_at (by omega) hat
    have R := fun t w => run_csame hround hat t w
    have C5 := fun w => alike_nas a (nas_fin ha) w
    unfold cs at C5
    clear hround hat ht hh ha e3 e4 m1 m2 o
    generalize rnS t.toNat (0 : Int).toNat (4 : Int).toNat a = x at *
    have s0 := HS1.out.cell (k := 0) rfl
    have s1 := HS1.out.cell (k := 1) rfl
    have s2 := HS1.out.cell (k := 2) rfl
    go_wp2_with fail
    refine (C1 _).mono ?_; rintro e w3 ⟨rfl, hb⟩
    have HS2 := Lib.hid (HS1.out.below hb)
    have HL2 := Lib.hid (belT HL1.out hb)
    clear s0 s1 s2
    clear hb HS1 HL1 C1
    have s0 := HS2.out.cell (k := 0) rfl
    have s1 := HS2.out.cell (k := 1) rfl
    have s2 := HS2.out.cell (k := 2) rfl
    go_wp2_with fail
    refine (C2 _).mono ?_; rintro e w4 ⟨rfl, hb⟩
    have HS3 := Lib.hid (HS2.out.below hb)
    have HL3 := Lib.hid (belT HL2.out hb)
    clear s0 s1 s2
    clear hb HS2 HL2 C2
    have s0 := HS3.out.cell (k := 0) rfl
    have s1 := HS3.out.cell (k := 1) rfl
    have s2 := HS3.out.cell (k := 2) rfl
    go_upto_region 9 with fail
    have HN3 : Hid (BlkAt (w4.alloc (.cells #[.complex .f32 a.1 a.2, .int .i64 t, .int .i64 0] 25)) w4.heap.size 25 #[.complex .f32 a.1 a.2, .int .i64 t, .int .i64 0]) := BlkAt.newAt rfl rfl
    have HSx := Lib.hid (HS3.out.alloc (.cells #[.complex .f32 a.1 a.2, .int .i64 t, .int .i64 0] 25))
    have HLx := Lib.hid (belA HL3.out (.cells #[.complex .f32 a.1 a.2, .int .i64 t, .int .i64 0] 25))
    clear s0 s1 s2 HS3 HL3
    show Code.wp _ _ _ _ (w4.alloc (.cells #[.complex .f32 a.1 a.2, .int .i64 t, .int .i64 0] 25))
    generalize hg2 : w4.heap.size = g2 at *
    generalize hwx : w4.alloc (.cells #[.complex .f32 a.1 a.2, .int .i64 t, .int .i64 0] 25) = wx at *
    clear hg2 hwx
    have HS4 := HSx
    have HL4 := HLx
    have HN4 := HN3
    clear HSx HLx HN3
    skip
    have n0 := HN4.out.cell (k := 0) rfl
    have n1 := HN4.out.cell (k := 1) rfl
    have n2 := HN4.out.cell (k := 2) rfl
    go_wp2_with fail
    refine (C3 _).mono ?_; rintro e w6 ⟨rfl, hb⟩
    have HS5 := Lib.hid (HS4.out.below hb)
    have HN5 := Lib.hid (HN4.out.below hb)
    have HL5 := Lib.hid (belT HL4.out hb)
    clear n0 n1 n2
    clear hb HS4 HN4 HL4 C3
    have s0 := HS5.out.cell (k := 0) rfl
    have s1 := HS5.out.cell (k := 1) rfl
    have s2 := HS5.out.cell (k := 2) rfl
    go_wp2_with fail
    refine (C4 _).mono ?_; rintro e w7 ⟨rfl, hb⟩
    have HS6 := Lib.hid (HS5.out.below hb)
    have HN6 := Lib.hid (HN5.out.below hb)
    have HL6 := Lib.hid (belT HL5.out hb)
    clear s0 s1 s2
    clear hb HS5 HN5 HL5 C4
    have s0 := HS6.out.cell (k := 0) rfl
    have s1 := HS6.out.cell (k := 1) rfl
    have s2 := HS6.out.cell (k := 2) rfl
    go_wp2_with (first | rw [R])
    refine (C5 _).mono ?_; rintro e wz ⟨rfl, rfl⟩
    clear C5 R
    go_wp2_with fail
    go_ret
    exact ⟨rfl, HL6.out⟩
end Go.Proofs.Ytpbppgaohfgpbaa
