/-
  The walk of the law FnPath.
-/
import Derived.Test.YtnidiikcnplebaaM31
namespace Go.Proofs.Ytnidiikcnplebaa
set_option maxRecDepth 20000
open Go.ChangeShapes Go.WideShapes Go.ChangeAt Go.RowKit
set_option linter.unusedVariables false
set_option linter.unusedSimpArgs false

set_option maxHeartbeats 4000000 in
theorem lawFnPath_walk (v : Value) (w : World) (h : CodeAt w v) : Calls Try.prog 3 #[v] w (Fine w) := by
  have D := Lib.hid (drawPathValid v w h)
  obtain ⟨pa, pn, pc, rfl, hpn⟩ := code_length h
  clear h
  by_cases hbig : 1048576 < pn
  · have hb : (1048576 : Int) < (pn : Int) := by omega
    go_enter Try.func3, Try.ntmps3
    go_wp2_with fail
    go_ret
    exact fine_same ⟨rfl, rfl⟩
  have hb : ¬ (1048576 : Int) < (pn : Int) := by omega
  go_enter Try.func3, Try.ntmps3
  go_wp2_with fail
  refine D.out.mono ?_; rintro e w1 ⟨v2, xs, rfl, hO, hL⟩
  have hR := ownL_reads hO
  clear D hO
  have T1 := PathValid_any v2 xs w1 hR
  have T2 := fun w h => specPathValid_any v2 xs w h
  cases hx : pvB xs with
  | false =>
    rw [hx] at T1 T2
    clear hx
    go_wp2_with fail
    refine (T1).mono ?_; rintro e w2 ⟨rfl, hb⟩
    replace hR := hR.below hb
    replace hL := below_next hL hb
    clear hb
    go_wp2_with fail
    refine (T2 _ hR).mono ?_; rintro e w3 ⟨rfl, rfl⟩
    go_wp2
    go_ret
    exact ⟨rfl, hL⟩
  | true =>
    obtain ⟨hl1, hl2, -⟩ := pvB_parts hx
    have F := fun w h => PathFar_any v2 v2 xs xs w h h
    have hf1 : farB xs xs = true := farB_yes hx hx rfl
    have hf2 : farR xs xs = 0 := by rw [farR_yes hf1, far_self]
    have T3 := fun k h w v h2 => by have := PathValid_any v (xs.take k) w h2; rw [pvB_take hx (k := k) h] at this; exact this
    rw [hx] at T1 T2
    obtain ⟨g, o, cap, rfl, hc1, hc2, hg, hr⟩ := readsL_shape hR hl1
    have HT := Lib.hid (fun k (hk : k ≤ xs.length) => readsL_take encC_ok hk hc1 hc2 hg hr)
    clear hx hg hr
    go_wp2_with fail
    refine (T1).mono ?_; rintro e w2 ⟨rfl, hb⟩
    replace hR := hR.below hb
    replace hL := below_next hL hb
    have HB2 := Lib.hid hb
    clear hb
    go_wp2_with fail
    refine (T2 _ hR).mono ?_; rintro e w3 ⟨rfl, rfl⟩
    have HB3 := Lib.hid HB2.out
    go_wp2_with fail
    refine (F _ hR).mono ?_; rintro e w4 ⟨r, rfl, hr4, hb⟩
    rw [hf1]
    rw [hf2] at hr4
    replace hL := below_next hL hb
    have HB4 := Lib.hid (below_next HB3.out hb)
    have E0 : FloatKind.f32.format.order r 0 = some Ordering.eq := fs_order hr4 fs_zero
    clear hb hr4 T1 T2 F hf1 hf2
    have HC1 := Lib.hid hc1
    have HC2 := Lib.hid hc2
    simp only [maxLen] at hc2
    clear hR
    by_cases h1 : xs.length = 1
    · rw [h1] at HT ⊢
      clear hc1 HC1
      go_wp2_with fail
      go_ret
      exact ⟨rfl, hL⟩
    · obtain ⟨m, hm⟩ : ∃ m, xs.length = m + 1 := ⟨xs.length - 1, by omega⟩
      have HR := Lib.hid ((HT.out m (by omega)).below HB4.out)
      have C := T3 m (by omega) w4 _ HR.out
      have q1 : IntKind.i64.wrap (((m + 1 : Nat) : Int) - 1) = (m : Int) := by rw [IntKind.wrap_i64]; omega
      have q1' : IntKind.i64.wrap ((m : Int) + 1 - 1) = (m : Int) := by rw [IntKind.wrap_i64]; omega
      have q2 : (0 : Int) ≤ (m : Int) := by omega
      have q3 : (m : Int) ≤ (cap : Int) := by omega
      have q4 : ((m : Int) + 1 == 1) = false := by simp; omega
      have q5 : (((m + 1 : Nat) : Int) == 1) = false := by simp; omega
      rw [hm] at hc1 hl2 ⊢
      clear hm h1 hl1 hl2 HT T3 HC1 HC2 HB2 HB3 HB4
      go_wp2_with fail
      refine C.mono ?_; rintro e w5 ⟨rfl, hb⟩
      replace hL := below_next hL hb
      clear C hb
      go_wp2
      go_ret
      exact ⟨rfl, hL⟩
end Go.Proofs.Ytnidiikcnplebaa
