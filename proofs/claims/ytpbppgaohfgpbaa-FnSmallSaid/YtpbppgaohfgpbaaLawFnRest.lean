/-
  The walk of the law FnRest.
-/
import Derived.Test.YtpbppgaohfgpbaaM32
namespace Go.Proofs.Ytpbppgaohfgpbaa
set_option maxRecDepth 20000
open Go.ChangeShapes Go.WideShapes Go.ChangeAt Go.RowKit
set_option linter.unusedVariables false
set_option linter.unusedSimpArgs false
attribute [local go_sem] run_store_fl run_store_cx

theorem run_cnzero {z : Pn} (hz : FinS z) (t : TypeId) (w : World) : (binOp .neq t (.complex .f32 z.1 z.2) (.complex .f32 0 0)).run Try.prog w = .ok (.bool (!zeroS z)) w := by
  obtain ⟨s, V, s', W, h1, h2⟩ := hz
  have o1 := fs_order h1 fs_nil
  have o2 := fs_order h2 fs_nil
  have e1 := cmp_nil s V
  have e2 := cmp_nil s' W
  unfold zeroS
  rw [(fs_fin h1).2.2, (fs_fin h2).2.2, ← e1, ← e2]
  generalize compare (sgnd s V) (sgnd false 0) = c1 at *
  generalize compare (sgnd s' W) (sgnd false 0) = c2 at *
  cases c1 <;> cases c2 <;> simp [binOp, Op.complexOp, Op.Complex.cmp, Op.floatCmp, o1, o2, go_sem, asBool] <;> rfl
theorem zero_later {a : Pn} {t h j : Nat} (ha : FinS a) (hz : zeroS (rnS t h j a) = true) (n : Nat) (hn : j ≤ n) : zeroS (rnS t h n a) = true := by
  obtain ⟨x, y, hx⟩ := at_fin (rnS_fin (t := t) (h := h) j ha)
  have h1 := zero_at hx
  rw [hz] at h1
  have h2 : x = 0 ∧ y = 0 := by simpa using h1.symm
  obtain ⟨rfl, rfl⟩ := h2
  have := zero_at (rnS_rest hx n hn)
  rw [this]; rfl
set_option maxHeartbeats 4000000 in
theorem lawFnRest_walk (v : Value) (w : World) (h : CodeAt w v) : Calls Try.prog 6 #[v] w (Fine w) := by
  have D := Lib.hid (drawSwingRest v w h)
  obtain ⟨pa, pn, pc, rfl, hpn⟩ := code_length h
  clear h
  by_cases hbig : 1048576 < pn
  · have hb : (1048576 : Int) < (pn : Int) := by omega
    go_enter Try.func6, Try.ntmps6
    go_wp2_with fail
    go_ret
    exact fine_same ⟨rfl, rfl⟩
  have hb : ¬ (1048576 : Int) < (pn : Int) := by omega
  go_enter Try.func6, Try.ntmps6
  go_wp2_with fail
  refine D.out.mono ?_; rintro e w1 ⟨a, t, h, rfl, hL⟩
  clear D
  go_upto_region 4 with fail
  show Code.wp _ _ _ _ (w1.alloc (.cells #[.complex .f32 a.1 a.2, .int .i64 t, .int .i64 h] 25))
  have HS1 : Hid (BlkAt (w1.alloc (.cells #[.complex .f32 a.1 a.2, .int .i64 t, .int .i64 h] 25)) w1.heap.size 25 #[.complex .f32 a.1 a.2, .int .i64 t, .int .i64 h]) := BlkAt.newAt rfl rfl
  have HL1 := Lib.hid (belA hL (.cells #[.complex .f32 a.1 a.2, .int .i64 t, .int .i64 h] 25))
  generalize hgs : w1.heap.size = gs at *
  generalize hw2 : w1.alloc (.cells #[.complex .f32 a.1 a.2, .int .i64 t, .int .i64 h] 25) = w2 at *
  clear hgs hw2 hL
  have C1 := fun w => SwingRest_any a t h w
  have C2 := fun w => specSwingRest_any a t h w
  cases o : okW a t h with
  | false =>
    rw [o] at C1 C2
    clear o
    generalize firstN zeroS a t h = r at *
    have hrr : (r != r) = false := by simp
    have hre : (r == r) = true := by simp
    have s0 := HS1.out.cell (k := 0) rfl
    have s1 := HS1.out.cell (k := 1) rfl
    have s2 := HS1.out.cell (k := 2) rfl
    go_wp2_with fail
    refine (C1 _).mono ?_; rintro e w3 ⟨rfl, hb⟩
    have HS2 := Lib.hid (HS1.out.below hb)
    have HL2 := Lib.hid (belT HL1.out hb)
    clear s0 s1 s2
    clear hb HS1 HL1 C1
    have s0 := HS2.out.cell (k := 0) rfl
    have s1 := HS2.out.cell (k := 1) rfl
    have s2 := HS2.out.cell (k := 2) rfl
    go_wp2_with fail
    refine (C2 _).mono ?_; rintro e w4 ⟨rfl, hb⟩
    have HS3 := Lib.hid (HS2.out.below hb)
    have HL3 := Lib.hid (belT HL2.out hb)
    clear s0 s1 s2
    clear hb HS2 HL2 C2
    go_wp2_with fail
    go_ret
    exact ⟨rfl, HL3.out⟩
  | true =>
    obtain ⟨ha, ht, hh⟩ := okW_parts o
    have hr : firstN zeroS a t h = ordN (fstN (fun k => zeroS (rnS t.toNat h.toNat k a)) 0 401) := by unfold firstN; rw [if_pos o]
    rw [hr, o] at C1 C2
    clear hr
    cases hq : fstN (fun k => zeroS (rnS t.toNat h.toNat k a)) 0 401 with
    | none =>
      rw [hq] at C1 C2
      unfold ordN at C1 C2
      simp only at C1 C2
      clear hq o ha ht hh
      have s0 := HS1.out.cell (k := 0) rfl
      have s1 := HS1.out.cell (k := 1) rfl
      have s2 := HS1.out.cell (k := 2) rfl
      go_wp2_with fail
      refine (C1 _).mono ?_; rintro e w3 ⟨rfl, hb⟩
      have HS2 := Lib.hid (HS1.out.below hb)
      have HL2 := Lib.hid (belT HL1.out hb)
      clear s0 s1 s2
      clear hb HS1 HL1 C1
      have s0 := HS2.out.cell (k := 0) rfl
      have s1 := HS2.out.cell (k := 1) rfl
      have s2 := HS2.out.cell (k := 2) rfl
      go_wp2_with fail
      refine (C2 _).mono ?_; rintro e w4 ⟨rfl, hb⟩
      have HS3 := Lib.hid (HS2.out.below hb)
      have HL3 := Lib.hid (belT HL2.out hb)
      clear s0 s1 s2
      clear hb HS2 HL2 C2
      go_wp2_with fail
      go_ret
      exact ⟨rfl, HL3.out⟩
    | some j =>
      rw [hq] at C1 C2
      unfold ordN at C1 C2
      simp only at C1 C2
      obtain ⟨-, hj, hz, hbefore⟩ := fstN_some hq
      have m1 := mkW_yes o (show (0 : Int) ≤ (j : Int) by omega) (show (j : Int) ≤ 400 by omega)
      have m2 := mkW_yes o (show (0 : Int) ≤ 400 by omega) (show (400 : Int) ≤ 400 by omega)
      have C3 := fun w => SwingAt_any a t h (j : Int) w
      have C4 := fun w => SwingAt_any a t h 400 w
      have C5 := fun w => SwingAt_any a t h ((j : Int) - 1) w
      have e3 := swS_yes m1
      have e4 := swS_yes m2
      rw [Int.toNat_natCast] at e3
      have hz4 : zeroS (rnS t.toNat h.toNat (400 : Int).toNat a) = true := zero_later ha hz _ (by omega)
      have f3 := rnS_fin (t := t.toNat) (h := h.toNat) j ha
      have f4 := rnS_fin (t := t.toNat) (h := h.toNat) (400 : Int).toNat ha
      have R3 := fun t1 w => run_czero f3 t1 w
      have R4 := fun t1 w => run_czero f4 t1 w
      rw [hz] at R3
      rw [hz4] at R4
      rw [m1, e3] at C3
      rw [m2, e4] at C4
      have wj : IntKind.i64.wrap ((j : Int) - 1) = (j : Int) - 1 := by rw [IntKind.wrap_i64]; omega
      have hjn : ¬ (j : Int) < 0 := by omega
      have hje : ((j : Int) != (j : Int)) = false := by simp
      clear e3 e4 m1 m2 f3 f4 hz4 hz hq
      cases o5 : mkW' a t h ((j : Int) - 1) with
      | false =>
        rw [o5] at C5
        generalize swS a t h ((j : Int) - 1) = x5 at *
        clear hbefore o5 o ha ht hh
        generalize rnS t.toNat h.toNat (400 : Int).toNat a = x4 at *
        generalize rnS t.toNat h.toNat j a = x3 at *
        have s0 := HS1.out.cell (k := 0) rfl
        have s1 := HS1.out.cell (k := 1) rfl
        have s2 := HS1.out.cell (k := 2) rfl
        go_wp2_with fail
        refine (C1 _).mono ?_; rintro e w3 ⟨rfl, hb⟩
        have HS2 := Lib.hid (HS1.out.below hb)
        have HL2 := Lib.hid (belT HL1.out hb)
        clear s0 s1 s2
        clear hb HS1 HL1 C1
        have s0 := HS2.out.cell (k := 0) rfl
        have s1 := HS2.out.cell (k := 1) rfl
        have s2 := HS2.out.cell (k := 2) rfl
        go_wp2_with fail
        refine (C2 _).mono ?_; rintro e w4 ⟨rfl, hb⟩
        have HS3 := Lib.hid (HS2.out.below hb)
        have HL3 := Lib.hid (belT HL2.out hb)
        clear s0 s1 s2
        clear hb HS2 HL2 C2
        have s0 := HS3.out.cell (k := 0) rfl
        have s1 := HS3.out.cell (k := 1) rfl
        have s2 := HS3.out.cell (k := 2) rfl
        go_wp2_with fail
        refine (C3 _).mono ?_; rintro e w5 ⟨rfl, hb⟩
        have HS4 := Lib.hid (HS3.out.below hb)
        have HL4 := Lib.hid (belT HL3.out hb)
        clear s0 s1 s2
        clear hb HS3 HL3 C3
        have s0 := HS4.out.cell (k := 0) rfl
        have s1 := HS4.out.cell (k := 1) rfl
        have s2 := HS4.out.cell (k := 2) rfl
        go_wp2_with fail
        refine (C4 _).mono ?_; rintro e w6 ⟨rfl, hb⟩
        have HS5 := Lib.hid (HS4.out.below hb)
        have HL5 := Lib.hid (belT HL4.out hb)
        clear s0 s1 s2
        clear hb HS4 HL4 C4
        have s0 := HS5.out.cell (k := 0) rfl
        have s1 := HS5.out.cell (k := 1) rfl
        have s2 := HS5.out.cell (k := 2) rfl
        go_wp2_with fail
        refine (C5 _).mono ?_; rintro e w7 ⟨rfl, hb⟩
        have HS6 := Lib.hid (HS5.out.below hb)
        have HL6 := Lib.hid (belT HL5.out hb)
        clear s0 s1 s2
        clear hb HS5 HL5 C5
        go_wp2_with (first | rw [R3] | rw [R4])
        go_ret
        exact ⟨rfl, HL6.out⟩
      | true =>
        rw [o5] at C5
        obtain ⟨-, hp0, hp1⟩ := mkW_parts o5
        have e5 := swS_yes o5
        have hzb := hbefore ((j : Int) - 1).toNat (by omega) (by omega)
        have f5 := rnS_fin (t := t.toNat) (h := h.toNat) ((j : Int) - 1).toNat ha
        have R5 := fun t1 w => run_cnzero f5 t1 w
        rw [hzb] at R5
        rw [e5] at C5
        clear e5 hzb f5 hp0 hp1
        generalize rnS t.toNat h.toNat ((j : Int) - 1).toNat a = x5 at *
        clear hbefore o5 o ha ht hh
        generalize rnS t.toNat h.toNat (400 : Int).toNat a = x4 at *
        generalize rnS t.toNat h.toNat j a = x3 at *
        have s0 := HS1.out.cell (k := 0) rfl
        have s1 := HS1.out.cell (k := 1) rfl
        have s2 := HS1.out.cell (k := 2) rfl
        go_wp2_with fail
        refine (C1 _).mono ?_; rintro e w3 ⟨rfl, hb⟩
        have HS2 := Lib.hid (HS1.out.below hb)
        have HL2 := Lib.hid (belT HL1.out hb)
        clear s0 s1 s2
        clear hb HS1 HL1 C1
        have s0 := HS2.out.cell (k := 0) rfl
        have s1 := HS2.out.cell (k := 1) rfl
        have s2 := HS2.out.cell (k := 2) rfl
        go_wp2_with fail
        refine (C2 _).mono ?_; rintro e w4 ⟨rfl, hb⟩
        have HS3 := Lib.hid (HS2.out.below hb)
        have HL3 := Lib.hid (belT HL2.out hb)
        clear s0 s1 s2
        clear hb HS2 HL2 C2
        have s0 := HS3.out.cell (k := 0) rfl
        have s1 := HS3.out.cell (k := 1) rfl
        have s2 := HS3.out.cell (k := 2) rfl
        go_wp2_with fail
        refine (C3 _).mono ?_; rintro e w5 ⟨rfl, hb⟩
        have HS4 := Lib.hid (HS3.out.below hb)
        have HL4 := Lib.hid (belT HL3.out hb)
        clear s0 s1 s2
        clear hb HS3 HL3 C3
        have s0 := HS4.out.cell (k := 0) rfl
        have s1 := HS4.out.cell (k := 1) rfl
        have s2 := HS4.out.cell (k := 2) rfl
        go_wp2_with fail
        refine (C4 _).mono ?_; rintro e w6 ⟨rfl, hb⟩
        have HS5 := Lib.hid (HS4.out.below hb)
        have HL5 := Lib.hid (belT HL4.out hb)
        clear s0 s1 s2
        clear hb HS4 HL4 C4
        have s0 := HS5.out.cell (k := 0) rfl
        have s1 := HS5.out.cell (k := 1) rfl
        have s2 := HS5.out.cell (k := 2) rfl
        go_wp2_with fail
        refine (C5 _).mono ?_; rintro e w7 ⟨rfl, hb⟩
        have HS6 := Lib.hid (HS5.out.below hb)
        have HL6 := Lib.hid (belT HL5.out hb)
        clear s0 s1 s2
        clear hb HS5 HL5 C5
        go_wp2_with (first | rw [R3] | rw [R4] | rw [R5])
        go_ret
        exact ⟨rfl, HL6.out⟩
end Go.Proofs.Ytpbppgaohfgpbaa
