/-
  The walk of the law FnSwingSum.
-/
import Derived.Test.YtpbppgaohfgpbaaM32
namespace Go.Proofs.Ytpbppgaohfgpbaa
set_option maxRecDepth 20000
open Go.ChangeShapes Go.WideShapes Go.ChangeAt Go.RowKit
set_option linter.unusedVariables false
set_option linter.unusedSimpArgs false
attribute [local go_sem] run_store_fl run_store_cx

set_option maxHeartbeats 4000000 in
theorem lawFnSwingSum_walk (v : Value) (w : World) (h : CodeAt w v) : Calls Try.prog 10 #[v] w (Fine w) := by
  have D := Lib.hid (drawSwingSum v w h)
  obtain ⟨pa, pn, pc, rfl, hpn⟩ := code_length h
  clear h
  by_cases hbig : 1048576 < pn
  · have hb : (1048576 : Int) < (pn : Int) := by omega
    go_enter Try.func10, Try.ntmps10
    go_wp2_with fail
    go_ret
    exact fine_same ⟨rfl, rfl⟩
  have hb : ¬ (1048576 : Int) < (pn : Int) := by omega
  go_enter Try.func10, Try.ntmps10
  go_wp2_with fail
  refine D.out.mono ?_; rintro e w1 ⟨a, t, h, n, rfl, n1, n2, hL⟩
  clear D
  go_upto_region 4 with fail
  show Code.wp _ _ _ _ (w1.alloc (.cells #[.complex .f32 a.1 a.2, .int .i64 t, .int .i64 h] 25))
  have HS1 : Hid (BlkAt (w1.alloc (.cells #[.complex .f32 a.1 a.2, .int .i64 t, .int .i64 h] 25)) w1.heap.size 25 #[.complex .f32 a.1 a.2, .int .i64 t, .int .i64 h]) := BlkAt.newAt rfl rfl
  have HL1 := Lib.hid (belA hL (.cells #[.complex .f32 a.1 a.2, .int .i64 t, .int .i64 h] 25))
  generalize hgs : w1.heap.size = gs at *
  generalize hw2 : w1.alloc (.cells #[.complex .f32 a.1 a.2, .int .i64 t, .int .i64 h] 25) = w2 at *
  clear hgs hw2 hL
  have C1 := fun w => SwingSum_any a t h n w
  have C2 := fun w => specSwingSum_any a t h n w
  have C3 := fun w => alike_nas (sumSw a t h n) (sumS_nas a t h n) w
  unfold cs at C1 C2 C3
  cases o : mkW' a t h n with
  | false =>
    rw [o] at C1 C2
    clear o
    generalize sumSw a t h n = x at *
    have s0 := HS1.out.cell (k := 0) rfl
    have s1 := HS1.out.cell (k := 1) rfl
    have s2 := HS1.out.cell (k := 2) rfl
    go_wp2_with fail
    refine (C1 _).mono ?_; rintro e w3 ⟨rfl, hb⟩
    have HS2 := Lib.hid (HS1.out.below hb)
    have HL2 := Lib.hid (belT HL1.out hb)
    clear s0 s1 s2
    clear hb HS1 HL1 C1
    have s0 := HS2.out.cell (k := 0) rfl
    have s1 := HS2.out.cell (k := 1) rfl
    have s2 := HS2.out.cell (k := 2) rfl
    go_wp2_with fail
    refine (C2 _).mono ?_; rintro e w4 ⟨rfl, hb⟩
    have HS3 := Lib.hid (HS2.out.below hb)
    have HL3 := Lib.hid (belT HL2.out hb)
    clear s0 s1 s2
    clear hb HS2 HL2 C2
    go_wp2_with fail
    refine (C3 _).mono ?_; rintro e wq ⟨rfl, hw⟩
    have hw2 := hw.symm
    subst hw2
    clear hw
    go_wp2_with fail
    refine (C3 _).mono ?_; rintro e wq ⟨rfl, hw⟩
    have hw2 := hw.symm
    subst hw2
    clear hw
    go_wp2_with fail
    go_ret
    exact ⟨rfl, HL3.out⟩
  | true =>
    obtain ⟨v1, v2⟩ := mkW_parts o
    obtain ⟨ha, ht, hh⟩ := okW_parts v1
    have ex : sumSw a t h n = smP (nums t.toNat h.toNat n.toNat a) := by unfold sumSw; rw [if_pos o]
    have ez := swS_yes o
    have hf : FinS (swS a t h n) := by rw [ez]; exact rnS_fin _ ha
    have C4 := fun w => SwingSum_any a t h (n + 1) w
    have C5 := fun w => SwingAt_any a t h n w
    have R := fun t1 w => run_cadd (sumS_nas a t h n) hf t1 w
    have wn : IntKind.i64.wrap (n + 1) = n + 1 := by rw [IntKind.wrap_i64]; omega
    have C6 := fun w => alike_nas (sumSw a t h (n + 1)) (sumS_nas _ _ _ _) w
    unfold cs at C4 C6
    have e5 : mkW' a t h (n + 1) = true → adP (sumSw a t h n) (swS a t h n) = sumSw a t h (n + 1) := fun m2 => by
      rw [ex, ez, show sumSw a t h (n + 1) = smP (nums t.toNat h.toNat (n + 1).toNat a) by unfold sumSw; rw [if_pos m2], show (n + 1).toNat = n.toNat + 1 by omega, sums_next]
    rw [o] at C1 C2 C5
    clear ht hh ha hf v1 ex ez o
    generalize swS a t h n = z at *
    generalize sumSw a t h n = x at *
    generalize sumSw a t h (n + 1) = y at *
    cases o2 : mkW' a t h (n + 1) with
    | false =>
      clear C6 R
      rw [o2] at C4
      clear e5 o2
      have s0 := HS1.out.cell (k := 0) rfl
      have s1 := HS1.out.cell (k := 1) rfl
      have s2 := HS1.out.cell (k := 2) rfl
      go_wp2_with fail
      refine (C1 _).mono ?_; rintro e w3 ⟨rfl, hb⟩
      have HS2 := Lib.hid (HS1.out.below hb)
      have HL2 := Lib.hid (belT HL1.out hb)
      clear s0 s1 s2
      clear hb HS1 HL1 C1
      have s0 := HS2.out.cell (k := 0) rfl
      have s1 := HS2.out.cell (k := 1) rfl
      have s2 := HS2.out.cell (k := 2) rfl
      go_wp2_with fail
      refine (C2 _).mono ?_; rintro e w4 ⟨rfl, hb⟩
      have HS3 := Lib.hid (HS2.out.below hb)
      have HL3 := Lib.hid (belT HL2.out hb)
      clear s0 s1 s2
      clear hb HS2 HL2 C2
      go_wp2_with fail
      refine (C3 _).mono ?_; rintro e wq ⟨rfl, hw⟩
      have hw2 := hw.symm
      subst hw2
      clear hw
      have s0 := HS3.out.cell (k := 0) rfl
      have s1 := HS3.out.cell (k := 1) rfl
      have s2 := HS3.out.cell (k := 2) rfl
      go_wp2_with fail
      refine (C4 _).mono ?_; rintro e w5 ⟨rfl, hb⟩
      have HS4 := Lib.hid (HS3.out.below hb)
      have HL4 := Lib.hid (belT HL3.out hb)
      clear s0 s1 s2
      clear hb HS3 HL3 C4
      have s0 := HS4.out.cell (k := 0) rfl
      have s1 := HS4.out.cell (k := 1) rfl
      have s2 := HS4.out.cell (k := 2) rfl
      go_wp2_with fail
      refine (C5 _).mono ?_; rintro e w6 ⟨rfl, hb⟩
      have HS5 := Lib.hid (HS4.out.below hb)
      have HL5 := Lib.hid (belT HL4.out hb)
      clear s0 s1 s2
      clear hb HS4 HL4 C5
      go_wp2_with fail
      go_ret
      exact ⟨rfl, HL5.out⟩
    | true =>
      rw [e5 o2] at R
      rw [o2] at C4
      clear e5 o2
      have s0 := HS1.out.cell (k := 0) rfl
      have s1 := HS1.out.cell (k := 1) rfl
      have s2 := HS1.out.cell (k := 2) rfl
      go_wp2_with fail
      refine (C1 _).mono ?_; rintro e w3 ⟨rfl, hb⟩
      have HS2 := Lib.hid (HS1.out.below hb)
      have HL2 := Lib.hid (belT HL1.out hb)
      clear s0 s1 s2
      clear hb HS1 HL1 C1
      have s0 := HS2.out.cell (k := 0) rfl
      have s1 := HS2.out.cell (k := 1) rfl
      have s2 := HS2.out.cell (k := 2) rfl
      go_wp2_with fail
      refine (C2 _).mono ?_; rintro e w4 ⟨rfl, hb⟩
      have HS3 := Lib.hid (HS2.out.below hb)
      have HL3 := Lib.hid (belT HL2.out hb)
      clear s0 s1 s2
      clear hb HS2 HL2 C2
      go_wp2_with fail
      refine (C3 _).mono ?_; rintro e wq ⟨rfl, hw⟩
      have hw2 := hw.symm
      subst hw2
      clear hw
      have s0 := HS3.out.cell (k := 0) rfl
      have s1 := HS3.out.cell (k := 1) rfl
      have s2 := HS3.out.cell (k := 2) rfl
      go_wp2_with fail
      refine (C4 _).mono ?_; rintro e w5 ⟨rfl, hb⟩
      have HS4 := Lib.hid (HS3.out.below hb)
      have HL4 := Lib.hid (belT HL3.out hb)
      clear s0 s1 s2
      clear hb HS3 HL3 C4
      have s0 := HS4.out.cell (k := 0) rfl
      have s1 := HS4.out.cell (k := 1) rfl
      have s2 := HS4.out.cell (k := 2) rfl
      go_wp2_with fail
      refine (C5 _).mono ?_; rintro e w6 ⟨rfl, hb⟩
      have HS5 := Lib.hid (HS4.out.below hb)
      have HL5 := Lib.hid (belT HL4.out hb)
      clear s0 s1 s2
      clear hb HS4 HL4 C5
      go_wp2_with (first | rw [R])
      refine (C6 _).mono ?_; rintro e wq ⟨rfl, hw⟩
      have hw2 := hw.symm
      subst hw2
      clear hw
      go_wp2_with fail
      go_ret
      exact ⟨rfl, HL5.out⟩
end Go.Proofs.Ytpbppgaohfgpbaa
