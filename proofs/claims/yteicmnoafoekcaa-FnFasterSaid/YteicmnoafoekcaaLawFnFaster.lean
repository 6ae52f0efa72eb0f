/-
  The walk of the law FnFaster.
-/
import Derived.Test.YteicmnoafoekcaaLawWheelBase
namespace Go.Proofs.Yteicmnoafoekcaa
set_option maxRecDepth 20000
open Go.ChangeShapes Go.WideShapes Go.ChangeAt Go.RowKit
set_option linter.unusedVariables false
set_option linter.unusedSimpArgs false

set_option maxHeartbeats 8000000 in
theorem lawFnFaster_walk (v : Value) (w : World) (h : CodeAt w v) : Calls Try.prog 9 #[v] w (Fine w) := by
  have D := Lib.hid (drawDesignFaster v w h)
  obtain ⟨pa, pn, pc, rfl, hpn⟩ := code_length h
  clear h
  by_cases hbig : 1048576 < pn
  · have hb : (1048576 : Int) < (pn : Int) := by omega
    go_enter Try.func9, Try.ntmps9
    go_wp2_with fail
    go_ret
    exact fine_same ⟨rfl, rfl⟩
  have hb : ¬ (1048576 : Int) < (pn : Int) := by omega
  go_enter Try.func9, Try.ntmps9
  go_wp2_with fail
  refine D.out.mono ?_; rintro e w1 ⟨v2, ws, n, rfl, n0, n1, hR, hL⟩
  clear D

  have T1 : Calls Try.prog 43 #[v2, .int .i64 n] w1 (Told w1 (dFast n ws)) := DesignFaster_any v2 n ws w1 hR
  have T2 : ∀ w (h : Reads w v2 ws), Calls Try.prog 44 #[v2, .int .i64 n] w (Told w (dFast n ws)) := fun w h => specDesignFaster_any v2 n ws w h
  cases hx : dFast n ws with
  | none =>
    rw [hx] at T1 T2
    go_wp2_with fail
    refine (T1).mono ?_; rintro e w2 ⟨hbw2, v3, rfl, ho⟩
    replace hR := hR.below hbw2
    replace hL := below_next hL hbw2
    have hO : Reads w2 v3 [] := own_reads ho
    clear ho hbw2
    go_wp2_with fail
    refine (T2 _ hR).mono ?_; rintro e w3 ⟨hbw3, v4, rfl, ho⟩
    replace hR := hR.below hbw3
    replace hO := hO.below hbw3
    replace hL := below_next hL hbw3
    have hW : Reads w3 v4 [] := own_reads ho
    clear ho hbw3
    clear T1 T2
    go_wp2_with fail
    refine (same_self v3 v4 _ _ hO hW).mono ?_; rintro e w4 ⟨rfl, hbw4⟩
    replace hR := hR.below hbw4
    replace hO := hO.below hbw4
    replace hW := hW.below hbw4
    replace hL := below_next hL hbw4
    clear hbw4
    go_wp2_with fail
    refine (same_self v3 v4 _ _ hO hW).mono ?_; rintro e w5 ⟨rfl, hbw5⟩
    replace hR := hR.below hbw5
    replace hO := hO.below hbw5
    replace hW := hW.below hbw5
    replace hL := below_next hL hbw5
    clear hbw5
    go_wp2
    go_ret
    exact ⟨rfl, hL⟩
  | some R =>
    rw [hx] at T1 T2
    go_wp2_with fail
    refine (T1).mono ?_; rintro e w2 ⟨hbw2, v3, rfl, ho⟩
    replace hR := hR.below hbw2
    replace hL := below_next hL hbw2
    have hO : Reads w2 v3 R := own_reads ho
    clear ho hbw2
    go_wp2_with fail
    refine (T2 _ hR).mono ?_; rintro e w3 ⟨hbw3, v4, rfl, ho⟩
    replace hR := hR.below hbw3
    replace hO := hO.below hbw3
    replace hL := below_next hL hbw3
    have hW : Reads w3 v4 R := own_reads ho
    clear ho hbw3
    clear T1 T2
    go_wp2_with fail
    refine (same_self v3 v4 _ _ hO hW).mono ?_; rintro e w4 ⟨rfl, hbw4⟩
    replace hR := hR.below hbw4
    replace hO := hO.below hbw4
    replace hW := hW.below hbw4
    replace hL := below_next hL hbw4
    clear hbw4
    clear hW
    obtain ⟨hn, hx1⟩ := dFast_some hx
    have ht := tmod24 n
    obtain ⟨k, hk0, hk1, hk2, hk3⟩ : ∃ k : Int, (n.tmod 24 + 24).tmod 24 = k ∧ 0 ≤ k ∧ k ≤ 23 ∧ k % 24 = 1 * n % 24 := ⟨_, rfl, by rw [Int.tmod_eq_emod_of_nonneg (by rw [ht]; split <;> omega)]; omega, by rw [Int.tmod_eq_emod_of_nonneg (by rw [ht]; split <;> omega)]; omega, by rw [Int.tmod_eq_emod_of_nonneg (by rw [ht]; split <;> omega), ht]; split <;> omega⟩
    have u1 : -24 < n.tmod 24 ∧ n.tmod 24 < 24 := by rw [ht]; split <;> omega
    have HN := Lib.hid hn
    have HX1 := Lib.hid hx1
    have HK3 := Lib.hid hk3
    clear hn hx1 hk3 hx
    generalize hm : n.tmod 24 = m at *
    clear ht
    have v1 : IntKind.i64.wrap m = m := by rw [IntKind.wrap_i64]; omega
    have v2x : IntKind.i64.wrap (m + 24) = m + 24 := by rw [IntKind.wrap_i64]; omega
    have v3x : IntKind.i64.wrap k = k := by rw [IntKind.wrap_i64]; omega
    obtain ⟨f, q, hf, hf2⟩ := know_at R 1
    obtain ⟨f', q', hf', hf2'⟩ := know_at ws k
    have A := DesignAt_any v3 R 1 w4 hO
    rw [hf] at A
    go_wp2_with fail
    refine (A).mono ?_; rintro e w7 ⟨rfl, hbw7⟩
    replace hR := hR.below hbw7
    replace hO := hO.below hbw7
    replace hL := below_next hL hbw7
    clear hbw7
    go_upto_region 9 with (refine store_new (ty := 32) rfl rfl rfl rfl zero8 info_cyc ?_)
    show Code.wp _ _ _ _ (w7.alloc (.cells (vec 8 f) 32))
    replace hR := reads_box hR (.cells (vec 8 f) 32)
    replace hO := reads_box hO (.cells (vec 8 f) 32)
    have r_a := RowAt.new w7 8 32 f
    replace hL := hL.alloc hL.size (.cells (vec 8 f) 32)
    generalize w7.heap.size = g_r_a at *
    generalize w7.alloc (.cells (vec 8 f) 32) = W7 at *
    have B := DesignAt_any v2 ws k W7 hR
    rw [hf'] at B
    go_wp2_with fail
    refine (B).mono ?_; rintro e w8 ⟨rfl, hbw8⟩
    replace hR := hR.below hbw8
    replace hO := hO.below hbw8
    replace r_a := r_a.below hbw8
    replace hL := below_next hL hbw8
    clear hbw8
    go_upto_region 11 with (refine store_new (ty := 32) rfl rfl rfl rfl zero8 info_cyc ?_)
    show Code.wp _ _ _ _ (w8.alloc (.cells (vec 8 f') 32))
    replace hR := reads_box hR (.cells (vec 8 f') 32)
    replace hO := reads_box hO (.cells (vec 8 f') 32)
    replace r_a := r_a.alloc (.cells (vec 8 f') 32)
    have r_b := RowAt.new w8 8 32 f'
    replace hL := hL.alloc hL.size (.cells (vec 8 f') 32)
    generalize w8.heap.size = g_r_b at *
    generalize w8.alloc (.cells (vec 8 f') 32) = W8 at *
    have EQ := fun w => equal_cyc f f' w
    obtain ⟨hvd, htd, hto, hpa⟩ := dOf_some HX1.out
    have hbit : q = true → q' = true → eqv 8 f f' = true := fun e1 e2 => by
      rw [(hf2 e1).2.2, (hf2' e2).2.2, hpa, pAt_fast 1 n k HK3.out]
      exact eqv_true fun _ _ => rfl
    clear hf hf2 hf' hf2' hvd htd hto hpa A B hk0 hk1 hk2 hm
    cases q
    · go_wp2_with (first | (refine load_row rfl rfl rfl r_a Try.underlying32 rfl info_cyc ?_) | (refine load_row_on (by rfl) rfl rfl r_a Try.underlying32 rfl info_cyc ?_) | (refine load_row rfl rfl rfl r_b Try.underlying32 rfl info_cyc ?_) | (refine load_row_on (by rfl) rfl rfl r_b Try.underlying32 rfl info_cyc ?_))
      go_ret
      exact ⟨rfl, hL⟩
    · cases q'
      · go_wp2_with (first | (refine load_row rfl rfl rfl r_a Try.underlying32 rfl info_cyc ?_) | (refine load_row_on (by rfl) rfl rfl r_a Try.underlying32 rfl info_cyc ?_) | (refine load_row rfl rfl rfl r_b Try.underlying32 rfl info_cyc ?_) | (refine load_row_on (by rfl) rfl rfl r_b Try.underlying32 rfl info_cyc ?_))
        go_ret
        exact ⟨rfl, hL⟩
      · rw [hbit rfl rfl] at EQ
        go_wp2_with (first | (refine load_row rfl rfl rfl r_a Try.underlying32 rfl info_cyc ?_) | (refine load_row_on (by rfl) rfl rfl r_a Try.underlying32 rfl info_cyc ?_) | (refine load_row rfl rfl rfl r_b Try.underlying32 rfl info_cyc ?_) | (refine load_row_on (by rfl) rfl rfl r_b Try.underlying32 rfl info_cyc ?_))
        go_ret
        exact ⟨rfl, hL⟩

end Go.Proofs.Yteicmnoafoekcaa
