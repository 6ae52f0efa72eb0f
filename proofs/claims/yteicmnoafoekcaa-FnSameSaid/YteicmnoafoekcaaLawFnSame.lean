/-
  The walk of the law FnSame.
-/
import Derived.Test.YteicmnoafoekcaaLawWheelBase
namespace Go.Proofs.Yteicmnoafoekcaa
set_option maxRecDepth 20000
open Go.ChangeShapes Go.WideShapes Go.ChangeAt Go.RowKit
set_option linter.unusedVariables false
set_option linter.unusedSimpArgs false
theorem sameD_some {a b : List Wh} (h : sameD a b = true) : sameD b a = true ∧ pAt 11 a = pAt 11 b := by
  unfold sameD at h ⊢
  cases hx : tid a with
  | none => rw [hx] at h; simp at h
  | some X =>
    cases hy : tid b with
    | none => rw [hx, hy] at h; simp at h
    | some Y =>
      rw [hx, hy] at h
      have e : X = Y := eqL_true.1 (by simpa [got] using h)
      refine ⟨?_, ?_⟩
      · subst e
        show (true && true && eqL X X) = true
        rw [eqL_same rfl]; rfl
      · rw [← (tid_some hx).2.2.2 11, ← (tid_some hy).2.2.2 11, e]

set_option maxHeartbeats 4000000 in
theorem lawFnSame_walk (v : Value) (w : World) (h : CodeAt w v) : Calls Try.prog 10 #[v] w (Fine w) := by
  have D := Lib.hid (drawDesignSame v w h)
  obtain ⟨pa, pn, pc, rfl, hpn⟩ := code_length h
  clear h
  by_cases hbig : 1048576 < pn
  · have hb : (1048576 : Int) < (pn : Int) := by omega
    go_enter Try.func10, Try.ntmps10
    go_wp2_with fail
    go_ret
    exact fine_same ⟨rfl, rfl⟩
  have hb : ¬ (1048576 : Int) < (pn : Int) := by omega
  go_enter Try.func10, Try.ntmps10
  go_wp2_with fail
  refine D.out.mono ?_; rintro e w1 ⟨v2, v3, ws, ws2, rfl, hR, hR2, hL⟩
  clear D

  have C := DesignSame_any v2 v3 ws ws2 w1 hR hR2
  have D2 := fun w (h : Reads w v2 ws) (h2 : Reads w v3 ws2) => specDesignSame_any v2 v3 ws ws2 w h h2
  cases hs : sameD ws ws2
  · rw [hs] at C D2
    go_wp2_with fail
    refine (C).mono ?_; rintro e w2 ⟨rfl, hbw2⟩
    replace hR := hR.below hbw2
    replace hR2 := hR2.below hbw2
    replace hL := below_next hL hbw2
    clear hbw2
    go_wp2_with fail
    refine (D2 _ hR hR2).mono ?_; rintro e w3 ⟨rfl, hbw3⟩
    replace hR := hR.below hbw3
    replace hR2 := hR2.below hbw3
    replace hL := below_next hL hbw3
    clear hbw3
    clear C D2 hs
    go_wp2
    go_ret
    exact ⟨rfl, hL⟩
  · rw [hs] at C D2
    go_wp2_with fail
    refine (C).mono ?_; rintro e w2 ⟨rfl, hbw2⟩
    replace hR := hR.below hbw2
    replace hR2 := hR2.below hbw2
    replace hL := below_next hL hbw2
    clear hbw2
    go_wp2_with fail
    refine (D2 _ hR hR2).mono ?_; rintro e w3 ⟨rfl, hbw3⟩
    replace hR := hR.below hbw3
    replace hR2 := hR2.below hbw3
    replace hL := below_next hL hbw3
    clear hbw3
    clear C D2
    obtain ⟨f, q, hf, hf2⟩ := know_at ws 11
    obtain ⟨f', q', hf', hf2'⟩ := know_at ws2 11
    have A := DesignAt_any v2 ws 11 w3 hR
    rw [hf] at A
    go_wp2_with fail
    refine (A).mono ?_; rintro e w7 ⟨rfl, hbw7⟩
    replace hR := hR.below hbw7
    replace hR2 := hR2.below hbw7
    replace hL := below_next hL hbw7
    clear hbw7
    go_upto_region 9 with (refine store_new (ty := 32) rfl rfl rfl rfl zero8 info_cyc ?_)
    show Code.wp _ _ _ _ (w7.alloc (.cells (vec 8 f) 32))
    replace hR := reads_box hR (.cells (vec 8 f) 32)
    replace hR2 := reads_box hR2 (.cells (vec 8 f) 32)
    have r_a := RowAt.new w7 8 32 f
    replace hL := hL.alloc hL.size (.cells (vec 8 f) 32)
    generalize w7.heap.size = g_r_a at *
    generalize w7.alloc (.cells (vec 8 f) 32) = W7 at *
    have B := DesignAt_any v3 ws2 11 W7 hR2
    rw [hf'] at B
    go_wp2_with fail
    refine (B).mono ?_; rintro e w8 ⟨rfl, hbw8⟩
    replace hR := hR.below hbw8
    replace hR2 := hR2.below hbw8
    replace r_a := r_a.below hbw8
    replace hL := below_next hL hbw8
    clear hbw8
    go_upto_region 10 with (refine store_new (ty := 32) rfl rfl rfl rfl zero8 info_cyc ?_)
    show Code.wp _ _ _ _ (w8.alloc (.cells (vec 8 f') 32))
    replace hR := reads_box hR (.cells (vec 8 f') 32)
    replace hR2 := reads_box hR2 (.cells (vec 8 f') 32)
    replace r_a := r_a.alloc (.cells (vec 8 f') 32)
    have r_b := RowAt.new w8 8 32 f'
    replace hL := hL.alloc hL.size (.cells (vec 8 f') 32)
    generalize w8.heap.size = g_r_b at *
    generalize w8.alloc (.cells (vec 8 f') 32) = W8 at *
    have EQ := fun w => equal_cyc f f' w
    have hbit : q = true → q' = true → eqv 8 f f' = true := fun e1 e2 => by
      rw [(hf2 e1).2.2, (hf2' e2).2.2, (sameD_some hs).2]
      exact eqv_true fun _ _ => rfl
    have E2 := DesignSame_any v3 v2 ws2 ws W8 hR2 hR
    rw [(sameD_some hs).1] at E2
    clear hf hf2 hf' hf2' hs A B
    go_wp2_with fail
    refine (E2).mono ?_; rintro e w9 ⟨rfl, hbw9⟩
    replace hR := hR.below hbw9
    replace hR2 := hR2.below hbw9
    replace r_a := r_a.below hbw9
    replace r_b := r_b.below hbw9
    replace hL := below_next hL hbw9
    clear hbw9
    clear E2
    cases q
    · go_wp2_with (first | (refine load_row rfl rfl rfl r_a Try.underlying32 rfl info_cyc ?_) | (refine load_row_on (by rfl) rfl rfl r_a Try.underlying32 rfl info_cyc ?_) | (refine load_row rfl rfl rfl r_b Try.underlying32 rfl info_cyc ?_) | (refine load_row_on (by rfl) rfl rfl r_b Try.underlying32 rfl info_cyc ?_))
      go_ret
      exact ⟨rfl, hL⟩
    · cases q'
      · go_wp2_with (first | (refine load_row rfl rfl rfl r_a Try.underlying32 rfl info_cyc ?_) | (refine load_row_on (by rfl) rfl rfl r_a Try.underlying32 rfl info_cyc ?_) | (refine load_row rfl rfl rfl r_b Try.underlying32 rfl info_cyc ?_) | (refine load_row_on (by rfl) rfl rfl r_b Try.underlying32 rfl info_cyc ?_))
        go_ret
        exact ⟨rfl, hL⟩
      · rw [hbit rfl rfl] at EQ
        go_wp2_with (first | (refine load_row rfl rfl rfl r_a Try.underlying32 rfl info_cyc ?_) | (refine load_row_on (by rfl) rfl rfl r_a Try.underlying32 rfl info_cyc ?_) | (refine load_row rfl rfl rfl r_b Try.underlying32 rfl info_cyc ?_) | (refine load_row_on (by rfl) rfl rfl r_b Try.underlying32 rfl info_cyc ?_))
        go_ret
        exact ⟨rfl, hL⟩

end Go.Proofs.Yteicmnoafoekcaa
