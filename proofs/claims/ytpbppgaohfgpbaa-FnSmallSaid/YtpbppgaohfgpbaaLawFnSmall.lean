/-
  The walk of the law FnSmall.
-/
import Derived.Test.YtpbppgaohfgpbaaM32
import Derived.Test.YtpbppgaohfgpbaaLawFnRest
namespace Go.Proofs.Ytpbppgaohfgpbaa
set_option maxRecDepth 20000
open Go.ChangeShapes Go.WideShapes Go.ChangeAt Go.RowKit
set_option linter.unusedVariables false
set_option linter.unusedSimpArgs false
attribute [local go_sem] run_store_fl run_store_cx

theorem tiny_orders {x : Nat} (hx : finS x = true) : ∃ o0 o1 o2, FloatKind.f32.format.order x 0 = some o0 ∧ FloatKind.f32.format.order x 2155872256 = some o1 ∧ FloatKind.f32.format.order x 8388608 = some o2 ∧ (!(o0 == .eq) && (o1 == .gt) && (o2 == .lt)) = tnS x := by
  have h := fin_fs hx
  refine ⟨_, _, _, fs_order h fs_nil, fs_order h fs_nsmall, fs_order h fs_small, ?_⟩
  rw [cmp_nil, cmp_gtB, cmp_ltB]
  unfold tnS
  rw [Bool.eq_iff_iff]
  generalize szS x = V
  cases sgS x <;> simp [sgnd] <;> omega
theorem zero_small {a : Pn} (h : zeroS a = true) : smallS a = false := by
  unfold zeroS at h
  unfold smallS tnS
  simp only [Bool.and_eq_true, decide_eq_true_eq] at h
  rw [h.1, h.2]; rfl
set_option maxHeartbeats 4000000 in
theorem lawFnSmall_walk (v : Value) (w : World) (h : CodeAt w v) : Calls Try.prog 7 #[v] w (Fine w) := by
  have D := Lib.hid (drawSwingSmall v w h)
  obtain ⟨pa, pn, pc, rfl, hpn⟩ := code_length h
  clear h
  by_cases hbig : 1048576 < pn
  · have hb : (1048576 : Int) < (pn : Int) := by omega
    go_enter Try.func7, Try.ntmps7
    go_wp2_with fail
    go_ret
    exact fine_same ⟨rfl, rfl⟩
  have hb : ¬ (1048576 : Int) < (pn : Int) := by omega
  go_enter Try.func7, Try.ntmps7
  go_wp2_with fail
  refine D.out.mono ?_; rintro e w1 ⟨a, t, h, rfl, hL⟩
  clear D
  go_upto_region 4 with fail
  show Code.wp _ _ _ _ (w1.alloc (.cells #[.complex .f32 a.1 a.2, .int .i64 t, .int .i64 h] 25))
  have HS1 : Hid (BlkAt (w1.alloc (.cells #[.complex .f32 a.1 a.2, .int .i64 t, .int .i64 h] 25)) w1.heap.size 25 #[.complex .f32 a.1 a.2, .int .i64 t, .int .i64 h]) := BlkAt.newAt rfl rfl
  have HL1 := Lib.hid (belA hL (.cells #[.complex .f32 a.1 a.2, .int .i64 t, .int .i64 h] 25))
  generalize hgs : w1.heap.size = gs at *
  generalize hw2 : w1.alloc (.cells #[.complex .f32 a.1 a.2, .int .i64 t, .int .i64 h] 25) = w2 at *
  clear hgs hw2 hL
  have C1 := fun w => SwingSmall_any a t h w
  have C2 := fun w => specSwingSmall_any a t h w
  have C4 := fun w => SwingRest_any a t h w
  cases o : okW a t h with
  | false =>
    rw [o] at C1 C2
    clear o C4
    generalize firstN smallS a t h = r at *
    have hrr : (r != r) = false := by simp
    have hre : (r == r) = true := by simp
    have s0 := HS1.out.cell (k := 0) rfl
    have s1 := HS1.out.cell (k := 1) rfl
    have s2 := HS1.out.cell (k := 2) rfl
    go_wp2_with fail
    refine (C1 _).mono ?_; rintro e w3 ⟨rfl, hb⟩
    have HS2 := Lib.hid (HS1.out.below hb)
    have HL2 := Lib.hid (belT HL1.out hb)
    clear s0 s1 s2
    clear hb HS1 HL1 C1
    have s0 := HS2.out.cell (k := 0) rfl
    have s1 := HS2.out.cell (k := 1) rfl
    have s2 := HS2.out.cell (k := 2) rfl
    go_wp2_with fail
    refine (C2 _).mono ?_; rintro e w4 ⟨rfl, hb⟩
    have HS3 := Lib.hid (HS2.out.below hb)
    have HL3 := Lib.hid (belT HL2.out hb)
    clear s0 s1 s2
    clear hb HS2 HL2 C2
    go_wp2_with fail
    go_ret
    exact ⟨rfl, HL3.out⟩
  | true =>
    obtain ⟨ha, ht, hh⟩ := okW_parts o
    have hr : firstN smallS a t h = ordN (fstN (fun k => smallS (rnS t.toNat h.toNat k a)) 0 401) := by unfold firstN; rw [if_pos o]
    rw [hr, o] at C1 C2
    rw [o] at C4
    clear hr
    cases hq : fstN (fun k => smallS (rnS t.toNat h.toNat k a)) 0 401 with
    | none =>
      rw [hq] at C1 C2
      unfold ordN at C1 C2
      simp only at C1 C2
      clear hq o ha ht hh
      generalize firstN zeroS a t h = r at *
      have s0 := HS1.out.cell (k := 0) rfl
      have s1 := HS1.out.cell (k := 1) rfl
      have s2 := HS1.out.cell (k := 2) rfl
      go_wp2_with fail
      refine (C1 _).mono ?_; rintro e w3 ⟨rfl, hb⟩
      have HS2 := Lib.hid (HS1.out.below hb)
      have HL2 := Lib.hid (belT HL1.out hb)
      clear s0 s1 s2
      clear hb HS1 HL1 C1
      have s0 := HS2.out.cell (k := 0) rfl
      have s1 := HS2.out.cell (k := 1) rfl
      have s2 := HS2.out.cell (k := 2) rfl
      go_wp2_with fail
      refine (C2 _).mono ?_; rintro e w4 ⟨rfl, hb⟩
      have HS3 := Lib.hid (HS2.out.below hb)
      have HL3 := Lib.hid (belT HL2.out hb)
      clear s0 s1 s2
      clear hb HS2 HL2 C2
      have s0 := HS3.out.cell (k := 0) rfl
      have s1 := HS3.out.cell (k := 1) rfl
      have s2 := HS3.out.cell (k := 2) rfl
      go_wp2_with fail
      refine (C4 _).mono ?_; rintro e w5 ⟨rfl, hb⟩
      have HS4 := Lib.hid (HS3.out.below hb)
      have HL4 := Lib.hid (belT HL3.out hb)
      clear s0 s1 s2
      clear hb HS3 HL3 C4
      go_wp2_with fail
      go_ret
      exact ⟨rfl, HL4.out⟩
    | some j =>
      rw [hq] at C1 C2
      unfold ordN at C1 C2
      simp only at C1 C2
      obtain ⟨-, hj, hz, -⟩ := fstN_some hq
      have m1 := mkW_yes o (show (0 : Int) ≤ (j : Int) by omega) (show (j : Int) ≤ 400 by omega)
      have C3 := fun w => SwingAt_any a t h (j : Int) w
      have e3 := swS_yes m1
      rw [Int.toNat_natCast] at e3
      rw [m1, e3] at C3
      have hrest : firstN zeroS a t h < 0 ∨ ∃ i : Nat, firstN zeroS a t h = (i : Int) ∧ j < i := by
        unfold firstN
        rw [if_pos o]
        cases hq2 : fstN (fun k => zeroS (rnS t.toNat h.toNat k a)) 0 401 with
        | none => exact .inl (by unfold ordN; simp)
        | some i =>
          refine .inr ⟨i, rfl, ?_⟩
          obtain ⟨-, -, hzi, -⟩ := fstN_some hq2
          exact Nat.lt_of_not_le fun hle => by
            have := zero_small (zero_later ha hzi j hle)
            rw [hz] at this; cases this
      have f3 := rnS_fin (t := t.toNat) (h := h.toNat) j ha
      have hpt := finS_pt.1 f3
      unfold ptF at hpt
      rw [Bool.and_eq_true] at hpt
      obtain ⟨o0, o1, o2, O0, O1, O2, hoo⟩ := tiny_orders hpt.1
      obtain ⟨q0, q1, q2, Q0, Q1, Q2, hqq⟩ := tiny_orders hpt.2
      have htn : (!(o0 == .eq) && (o1 == .gt) && (o2 == .lt)) = true ∨ (!(q0 == .eq) && (q1 == .gt) && (q2 == .lt)) = true := by
        rw [hoo, hqq]
        unfold smallS at hz
        rwa [Bool.or_eq_true] at hz
      have hjn : ¬ (j : Int) < 0 := by omega
      have hje : ((j : Int) != (j : Int)) = false := by simp
      clear e3 m1 f3 hz hq o ha ht hh hpt hoo hqq
      generalize firstN zeroS a t h = r at *
      generalize rnS t.toNat h.toNat j a = x3 at *
      have HT := Lib.hid htn
      have HR := Lib.hid hrest
      have HO := Lib.hid (And.intro O0 (And.intro O1 (And.intro O2 (And.intro Q0 (And.intro Q1 Q2)))))
      clear htn hrest O0 O1 O2 Q0 Q1 Q2
      have s0 := HS1.out.cell (k := 0) rfl
      have s1 := HS1.out.cell (k := 1) rfl
      have s2 := HS1.out.cell (k := 2) rfl
      go_wp2_with fail
      refine (C1 _).mono ?_; rintro e w3 ⟨rfl, hb⟩
      have HS2 := Lib.hid (HS1.out.below hb)
      have HL2 := Lib.hid (belT HL1.out hb)
      clear s0 s1 s2
      clear hb HS1 HL1 C1
      have s0 := HS2.out.cell (k := 0) rfl
      have s1 := HS2.out.cell (k := 1) rfl
      have s2 := HS2.out.cell (k := 2) rfl
      go_wp2_with fail
      refine (C2 _).mono ?_; rintro e w4 ⟨rfl, hb⟩
      have HS3 := Lib.hid (HS2.out.below hb)
      have HL3 := Lib.hid (belT HL2.out hb)
      clear s0 s1 s2
      clear hb HS2 HL2 C2
      have s0 := HS3.out.cell (k := 0) rfl
      have s1 := HS3.out.cell (k := 1) rfl
      have s2 := HS3.out.cell (k := 2) rfl
      go_wp2_with fail
      refine (C4 _).mono ?_; rintro e w5 ⟨rfl, hb⟩
      have HS4 := Lib.hid (HS3.out.below hb)
      have HL4 := Lib.hid (belT HL3.out hb)
      clear s0 s1 s2
      clear hb HS3 HL3 C4
      have s0 := HS4.out.cell (k := 0) rfl
      have s1 := HS4.out.cell (k := 1) rfl
      have s2 := HS4.out.cell (k := 2) rfl
      go_wp2_with fail
      refine (C3 _).mono ?_; rintro e w6 ⟨rfl, hb⟩
      have HS5 := Lib.hid (HS4.out.below hb)
      have HL5 := Lib.hid (belT HL4.out hb)
      clear s0 s1 s2
      clear hb HS4 HL4 C3
      go_upto_region 14 with fail
      go_cut [14] (fun s14 wr => s14 = .bool true ∧ Aside (Below w.heap.size w wr))
      case first =>
        obtain ⟨O0, O1, O2, Q0, Q1, Q2⟩ := HO.out
        have HLk : Aside (Below w.heap.size w _) := HL5.out
        have ht := HT.out
        clear HO HS5 HT
        cases o0 <;> cases o1 <;> cases o2 <;> first
          | (clear ht Q0 Q1 Q2; go_wp2_with fail; go_meet; case rel => exact ⟨rfl, HLk⟩; done)
          | (simp at ht; cases q0 <;> cases q1 <;> cases q2 <;> first
              | (simp at ht; done)
              | (clear ht; go_wp2_with fail; go_meet; case rel => exact ⟨rfl, HLk⟩))
      case rest =>
        obtain ⟨rfl, hL⟩ := hcut
        have HLz : Hid (Below _ _ _) := Lib.hid hL
        have hr := HR.out
        clear hL HR HT HO HL5 HS5
        rcases hr with hr | ⟨i, rfl, hi⟩
        · go_wp2_with fail
          go_ret
          exact ⟨rfl, HLz.out⟩
        · have h1 : ¬ (i : Int) < 0 := by omega
          have h2 : (j : Int) < (i : Int) := by omega
          go_wp2_with fail
          go_ret
          exact ⟨rfl, HLz.out⟩
end Go.Proofs.Ytpbppgaohfgpbaa
