/-
  The walk of the law FnSwingPath.
-/
import Derived.Test.YtpbppgaohfgpbaaM32
import Derived.Test.YtpbppgaohfgpbaaM28
import Derived.Test.YtpbppgaohfgpbaaM34
namespace Go.Proofs.Ytpbppgaohfgpbaa
set_option maxRecDepth 20000
open Go.ChangeShapes Go.WideShapes Go.ChangeAt Go.RowKit
set_option linter.unusedVariables false
set_option linter.unusedSimpArgs false
attribute [local go_sem] run_store_fl run_store_cx

theorem pthO_some {a : Pn} {t h n : Int} {L : List Pn} (o : pthO a t h n = some L) : okW a t h = true ∧ 1 ≤ n ∧ n ≤ 100 ∧ L = nums t.toNat h.toNat n.toNat a := by
  unfold pthO at o
  split at o
  · rename_i e
    cases o
    simp only [Bool.and_eq_true, decide_eq_true_eq] at e
    exact ⟨e.1.1, e.1.2.1, e.1.2.2, rfl⟩
  · cases o
set_option maxHeartbeats 4000000 in
theorem lawFnSwingPath_walk (v : Value) (w : World) (h : CodeAt w v) : Calls Try.prog 9 #[v] w (Fine w) := by
  have D := Lib.hid (drawSwingPath v w h)
  obtain ⟨pa, pn, pc, rfl, hpn⟩ := code_length h
  clear h
  by_cases hbig : 1048576 < pn
  · have hb : (1048576 : Int) < (pn : Int) := by omega
    go_enter Try.func9, Try.ntmps9
    go_wp2_with fail
    go_ret
    exact fine_same ⟨rfl, rfl⟩
  have hb : ¬ (1048576 : Int) < (pn : Int) := by omega
  go_enter Try.func9, Try.ntmps9
  go_wp2_with fail
  refine D.out.mono ?_; rintro e w1 ⟨a, t, h, n, rfl, n1, n2, hL⟩
  clear D
  go_upto_region 4 with fail
  show Code.wp _ _ _ _ (w1.alloc (.cells #[.complex .f32 a.1 a.2, .int .i64 t, .int .i64 h] 25))
  have HS1 : Hid (BlkAt (w1.alloc (.cells #[.complex .f32 a.1 a.2, .int .i64 t, .int .i64 h] 25)) w1.heap.size 25 #[.complex .f32 a.1 a.2, .int .i64 t, .int .i64 h]) := BlkAt.newAt rfl rfl
  have HL1 := Lib.hid (belA hL (.cells #[.complex .f32 a.1 a.2, .int .i64 t, .int .i64 h] 25))
  generalize hgs : w1.heap.size = gs at *
  generalize hw2 : w1.alloc (.cells #[.complex .f32 a.1 a.2, .int .i64 t, .int .i64 h] 25) = w2 at *
  clear hgs hw2 hL
  have C1 := fun w => SwingPath_any a t h n w
  have C2 := fun w => specSwingPath_any a t h n w
  unfold ToldC at C1 C2
  cases o : pthO a t h n with
  | none =>
    rw [o] at C1 C2
    clear o
    simp only [Option.isSome_none, Option.getD_none] at C1 C2
    have s0 := HS1.out.cell (k := 0) rfl
    have s1 := HS1.out.cell (k := 1) rfl
    have s2 := HS1.out.cell (k := 2) rfl
    go_wp2_with fail
    refine (C1 _).mono ?_; rintro e w3 ⟨hb, v1, rfl, ho1⟩
    have HS2 := Lib.hid (HS1.out.below hb)
    have HL2 := Lib.hid (belT HL1.out hb)
    clear s0 s1 s2
    clear hb HS1 HL1 C1
    have HR2 := Lib.hid (ownL_reads ho1)
    clear ho1
    have s0 := HS2.out.cell (k := 0) rfl
    have s1 := HS2.out.cell (k := 1) rfl
    have s2 := HS2.out.cell (k := 2) rfl
    go_wp2_with fail
    refine (C2 _).mono ?_; rintro e w4 ⟨hb, v2, rfl, ho2⟩
    have HS3 := Lib.hid (HS2.out.below hb)
    have HR3 := Lib.hid (HR2.out.below hb)
    have HL3 := Lib.hid (belT HL2.out hb)
    clear s0 s1 s2
    clear hb HS2 HR2 HL2 C2
    have HQ3 := Lib.hid (ownL_reads ho2)
    clear ho2
    have C3 := samePoints_yes v1 v2 [] _ HR3.out HQ3.out (by simp) (by simp)
    go_wp2_with fail
    refine C3.mono ?_; rintro e wq ⟨rfl, hb⟩
    have HS4 := Lib.hid (HS3.out.below hb)
    have HR4 := Lib.hid (HR3.out.below hb)
    have HQ4 := Lib.hid (HQ3.out.below hb)
    have HL4 := Lib.hid (belT HL3.out hb)
    clear hb C3 HS3 HR3 HQ3 HL3
    have C3 := samePoints_yes v1 v2 [] _ HR4.out HQ4.out (by simp) (by simp)
    go_wp2_with fail
    refine C3.mono ?_; rintro e wq ⟨rfl, hb⟩
    have HS5 := Lib.hid (HS4.out.below hb)
    have HR5 := Lib.hid (HR4.out.below hb)
    have HQ5 := Lib.hid (HQ4.out.below hb)
    have HL5 := Lib.hid (belT HL4.out hb)
    clear hb C3 HS4 HR4 HQ4 HL4
    go_wp2_with fail
    go_ret
    exact ⟨rfl, HL5.out⟩
  | some L =>
    obtain ⟨v1, q1, q2, rfl⟩ := pthO_some o
    obtain ⟨ha, ht, hh⟩ := okW_parts v1
    rw [o] at C1 C2
    clear o
    simp only [Option.isSome_some, Option.getD_some] at C1 C2
    obtain ⟨m, rfl⟩ : ∃ k : Nat, n = k := ⟨n.toNat, by omega⟩
    have hlen := nums_len t.toNat h.toNat (m : Int).toNat a
    rw [Int.toNat_natCast] at *
    have hx : Hid (∀ k, k < m → (nums t.toNat h.toNat m a)[k]? = some (swS a t h (k : Nat))) := Lib.hid fun k hk => by
      rw [nums_at hk, swS_yes (mkW_yes v1 (by omega) (by omega)), Int.toNat_natCast]
    have hm : Hid (∀ k, k < m → mkW' a t h (k : Nat) = true) := Lib.hid fun k hk => mkW_yes v1 (by omega) (by omega)
    have hfin : Hid (∀ y ∈ nums t.toNat h.toNat m a, ptF y = true) := Lib.hid fun y hy => finS_pt.1 (nums_mem ha hy)
    clear ht hh ha v1
    generalize nums t.toNat h.toNat m a = L at *
    obtain rfl : L.length = m := hlen
    have s0 := HS1.out.cell (k := 0) rfl
    have s1 := HS1.out.cell (k := 1) rfl
    have s2 := HS1.out.cell (k := 2) rfl
    go_wp2_with fail
    refine (C1 _).mono ?_; rintro e w3 ⟨hb, v1, rfl, ho1⟩
    have HS2 := Lib.hid (HS1.out.below hb)
    have HL2 := Lib.hid (belT HL1.out hb)
    clear s0 s1 s2
    clear hb HS1 HL1 C1
    have HR2 := Lib.hid (ownL_reads ho1)
    clear ho1
    have s0 := HS2.out.cell (k := 0) rfl
    have s1 := HS2.out.cell (k := 1) rfl
    have s2 := HS2.out.cell (k := 2) rfl
    go_wp2_with fail
    refine (C2 _).mono ?_; rintro e w4 ⟨hb, v2, rfl, ho2⟩
    have HS3 := Lib.hid (HS2.out.below hb)
    have HR3 := Lib.hid (HR2.out.below hb)
    have HL3 := Lib.hid (belT HL2.out hb)
    clear s0 s1 s2
    clear hb HS2 HR2 HL2 C2
    have HQ3 := Lib.hid (ownL_reads ho2)
    clear ho2
    have C3 := samePoints_yes v1 v2 L _ HR3.out HQ3.out hfin.out (by omega)
    go_wp2_with fail
    refine C3.mono ?_; rintro e wq ⟨rfl, hb⟩
    have HS4 := Lib.hid (HS3.out.below hb)
    have HR4 := Lib.hid (HR3.out.below hb)
    have HQ4 := Lib.hid (HQ3.out.below hb)
    have HL4 := Lib.hid (belT HL3.out hb)
    clear hb C3 HS3 HR3 HQ3 HL3
    obtain ⟨g, ol, cap, rfl, hc1, hc2, hg, hrg⟩ := readsL_shape HR4.out (show 1 ≤ L.length by omega)
    have HG := Lib.hid hg
    have HX := Lib.hid hrg
    clear hg hrg HR4 HQ4
    simp only [maxLen] at hc2
    go_upto_region 8 with fail
    go_wp2_with fail
    go_loopw [9] (fun u wr => ∃ k : Nat, k ≤ L.length ∧ u = .int .i64 k ∧ Aside (BlkAt wr gs 25 #[.complex .f32 a.1 a.2, .int .i64 t, .int .i64 h]) ∧ Aside (Below w.heap.size w wr) ∧ Aside (g < wr.heap.size) ∧ Aside (wr.rangeAt g ol (flt encC L))) (fun u _ => L.length - (intOf u).toNat)
    case atStart => exact ⟨0, Nat.zero_le _, rfl, HS4.out, HL4.out, HG.out, HX.out⟩
    case round =>
      clear HS4 HL4 HG HX
      obtain ⟨k, hk, rfl, hS, hL, hg, hrg⟩ := hrel
      have hS : BlkAt _ _ _ _ := hS
      have hL : Below _ _ _ := hL
      have hg : g < _ := hg
      have hrg : World.rangeAt _ _ _ _ := hrg
      by_cases hlt : k < L.length
      · have hkz : (k : Int) < (L.length : Int) := by omega
        have hk0 : (0 : Int) ≤ (k : Int) := by omega
        have C4 := fun w => SwingAt_any a t h (k : Nat) w
        rw [hm.out k hlt] at C4
        have C5 := fun w => alike_nas (swS a t h (k : Nat)) (swS_nas _ _ _ _) w
        have hz := hx.out k hlt
        unfold cs at C5
        generalize swS a t h (k : Nat) = z at *
        have s0 := hS.cell (k := 0) rfl
        have s1 := hS.cell (k := 1) rfl
        have s2 := hS.cell (k := 2) rfl
        have HS := Lib.hid hS
        have HL := Lib.hid hL
        have HG := Lib.hid hg
        have HX := Lib.hid hrg
        have HZ := Lib.hid hz
        clear hS hL hg hrg hz
        go_wp2_with fail
        refine (C4 _).mono ?_; rintro e w6 ⟨rfl, hb⟩
        have HS6 := Lib.hid (HS.out.below hb)
        have HL6 := Lib.hid (belT HL.out hb)
        have HG6 := Lib.hid (Nat.lt_of_lt_of_le HG.out hb.size)
        have hX6 := cells_below HX.out HG.out hb
        have c0 := pt_cell hX6 HZ.out
        have HX6 := Lib.hid hX6
        unfold cs at c0
        clear hb C4 s0 s1 s2 HS HL HG HX hX6
        go_wp2_with fail
        refine (C5 _).mono ?_; rintro e wq ⟨rfl, hw⟩
        have hw2 := hw.symm
        subst hw2
        clear hw C5 c0
        go_wp2_with fail
        go_roundw
        case rel => exact ⟨k + 1, by omega, by go_num, HS6.out, HL6.out, HG6.out, HX6.out⟩
        case measure => simp [intOf]; omega
      · obtain rfl : k = L.length := by omega
        have HL := Lib.hid hL
        clear hS hL hg hrg
        go_wp2_with fail
        go_ret
        exact ⟨rfl, HL.out⟩
end Go.Proofs.Ytpbppgaohfgpbaa
