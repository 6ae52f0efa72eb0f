/-
  The walk of the law FnDesignBack.
-/
import Derived.Test.YteicmnoafoekcaaLawWheelBase
namespace Go.Proofs.Yteicmnoafoekcaa
set_option maxRecDepth 20000
open Go.ChangeShapes Go.WideShapes Go.ChangeAt Go.RowKit
set_option linter.unusedVariables false
set_option linter.unusedSimpArgs false

set_option maxHeartbeats 8000000 in
theorem lawFnDesignBack_walk (v : Value) (w : World) (h : CodeAt w v) : Calls Try.prog 8 #[v] w (Fine w) := by
  have D := Lib.hid (drawDesignBack v w h)
  obtain ⟨pa, pn, pc, rfl, hpn⟩ := code_length h
  clear h
  by_cases hbig : 1048576 < pn
  · have hb : (1048576 : Int) < (pn : Int) := by omega
    go_enter Try.func8, Try.ntmps8
    go_wp2_with fail
    go_ret
    exact fine_same ⟨rfl, rfl⟩
  have hb : ¬ (1048576 : Int) < (pn : Int) := by omega
  go_enter Try.func8, Try.ntmps8
  go_wp2_with fail
  refine D.out.mono ?_; rintro e w1 ⟨v2, ws, rfl, hR, hL⟩
  clear D

  have T1 : Calls Try.prog 40 #[v2] w1 (Told w1 (dOf (fastW (-1)) ws)) := DesignBack_any v2 ws w1 hR
  have T2 : ∀ w (h : Reads w v2 ws), Calls Try.prog 41 #[v2] w (Told w (dOf (fastW (-1)) ws)) := fun w h => specDesignBack_any v2 ws w h
  cases hx : dOf (fastW (-1)) ws with
  | none =>
    rw [hx] at T1 T2
    go_wp2_with fail
    refine (T1).mono ?_; rintro e w2 ⟨hbw2, v3, rfl, ho⟩
    replace hR := hR.below hbw2
    replace hL := below_next hL hbw2
    have hO : Reads w2 v3 [] := own_reads ho
    clear ho hbw2
    go_wp2_with fail
    refine (T2 _ hR).mono ?_; rintro e w3 ⟨hbw3, v4, rfl, ho⟩
    replace hR := hR.below hbw3
    replace hO := hO.below hbw3
    replace hL := below_next hL hbw3
    have hW : Reads w3 v4 [] := own_reads ho
    clear ho hbw3
    clear T1 T2
    go_wp2_with fail
    refine (same_self v3 v4 _ _ hO hW).mono ?_; rintro e w4 ⟨rfl, hbw4⟩
    replace hR := hR.below hbw4
    replace hO := hO.below hbw4
    replace hW := hW.below hbw4
    replace hL := below_next hL hbw4
    clear hbw4
    go_wp2_with fail
    refine (same_self v3 v4 _ _ hO hW).mono ?_; rintro e w5 ⟨rfl, hbw5⟩
    replace hR := hR.below hbw5
    replace hO := hO.below hbw5
    replace hW := hW.below hbw5
    replace hL := below_next hL hbw5
    clear hbw5
    go_wp2
    go_ret
    exact ⟨rfl, hL⟩
  | some R =>
    rw [hx] at T1 T2
    go_wp2_with fail
    refine (T1).mono ?_; rintro e w2 ⟨hbw2, v3, rfl, ho⟩
    replace hR := hR.below hbw2
    replace hL := below_next hL hbw2
    have hO : Reads w2 v3 R := own_reads ho
    clear ho hbw2
    go_wp2_with fail
    refine (T2 _ hR).mono ?_; rintro e w3 ⟨hbw3, v4, rfl, ho⟩
    replace hR := hR.below hbw3
    replace hO := hO.below hbw3
    replace hL := below_next hL hbw3
    have hW : Reads w3 v4 R := own_reads ho
    clear ho hbw3
    clear T1 T2
    go_wp2_with fail
    refine (same_self v3 v4 _ _ hO hW).mono ?_; rintro e w4 ⟨rfl, hbw4⟩
    replace hR := hR.below hbw4
    replace hO := hO.below hbw4
    replace hW := hW.below hbw4
    replace hL := below_next hL hbw4
    clear hbw4
    clear hW
    have T3 := DesignBack_any v3 R w4 hO
    generalize hx2 : dOf (fastW (-1)) R = o2 at T3
    go_wp2_with fail
    refine (T3).mono ?_; rintro e w5 ⟨hbw5, v5, rfl, ho⟩
    replace hR := hR.below hbw5
    replace hO := hO.below hbw5
    replace hL := below_next hL hbw5
    have hX : Reads w5 v5 (got o2) := own_reads ho
    clear ho hbw5
    have T4 : Calls Try.prog 23 #[v2] w5 (Told w5 (tid ws)) := DesignTidy_any v2 ws w5 hR
    generalize hx3 : tid ws = o3 at T4
    go_wp2_with fail
    refine (T4).mono ?_; rintro e w6 ⟨hbw6, v6, rfl, ho⟩
    replace hR := hR.below hbw6
    replace hO := hO.below hbw6
    replace hX := hX.below hbw6
    replace hL := below_next hL hbw6
    have hY : Reads w6 v6 (got o3) := own_reads ho
    clear ho hbw6
    clear T3 T4
    obtain ⟨f, q, hf, hf2⟩ := know_at R 5
    obtain ⟨f', q', hf', hf2'⟩ := know_at ws 19
    have A := DesignAt_any v3 R 5 w6 hO
    rw [hf] at A
    go_wp2_with fail
    refine (A).mono ?_; rintro e w7 ⟨rfl, hbw7⟩
    replace hR := hR.below hbw7
    replace hO := hO.below hbw7
    replace hX := hX.below hbw7
    replace hY := hY.below hbw7
    replace hL := below_next hL hbw7
    clear hbw7
    go_upto_region 11 with (refine store_new (ty := 32) rfl rfl rfl rfl zero8 info_cyc ?_)
    show Code.wp _ _ _ _ (w7.alloc (.cells (vec 8 f) 32))
    replace hR := reads_box hR (.cells (vec 8 f) 32)
    replace hO := reads_box hO (.cells (vec 8 f) 32)
    replace hX := reads_box hX (.cells (vec 8 f) 32)
    replace hY := reads_box hY (.cells (vec 8 f) 32)
    have r_a := RowAt.new w7 8 32 f
    replace hL := hL.alloc hL.size (.cells (vec 8 f) 32)
    generalize w7.heap.size = g_r_a at *
    generalize w7.alloc (.cells (vec 8 f) 32) = W7 at *
    have B := DesignAt_any v2 ws 19 W7 hR
    rw [hf'] at B
    go_wp2_with fail
    refine (B).mono ?_; rintro e w8 ⟨rfl, hbw8⟩
    replace hR := hR.below hbw8
    replace hO := hO.below hbw8
    replace hX := hX.below hbw8
    replace hY := hY.below hbw8
    replace r_a := r_a.below hbw8
    replace hL := below_next hL hbw8
    clear hbw8
    go_upto_region 12 with (refine store_new (ty := 32) rfl rfl rfl rfl zero8 info_cyc ?_)
    show Code.wp _ _ _ _ (w8.alloc (.cells (vec 8 f') 32))
    replace hR := reads_box hR (.cells (vec 8 f') 32)
    replace hO := reads_box hO (.cells (vec 8 f') 32)
    replace hX := reads_box hX (.cells (vec 8 f') 32)
    replace hY := reads_box hY (.cells (vec 8 f') 32)
    replace r_a := r_a.alloc (.cells (vec 8 f') 32)
    have r_b := RowAt.new w8 8 32 f'
    replace hL := hL.alloc hL.size (.cells (vec 8 f') 32)
    generalize w8.heap.size = g_r_b at *
    generalize w8.alloc (.cells (vec 8 f') 32) = W8 at *
    have EQ := fun w => equal_cyc f f' w
    obtain ⟨hvd, htd, hto, hpa⟩ := dOf_some hx
    have hbit : q = true → q' = true → eqv 8 f f' = true := fun e1 e2 => by
      rw [(hf2 e1).2.2, (hf2' e2).2.2, hpa, pAt_fast 5 (-1) 19 (by omega)]
      exact eqv_true fun _ _ => rfl
    have hsame : o2.isSome = true → o3.isSome = true → got o2 = got o3 := fun e1 e2 => by
      cases o2 with
      | none => cases e1
      | some X =>
        cases o3 with
        | none => cases e2
        | some Y =>
          obtain ⟨-, t1, t2, -⟩ := dOf_some hx2
          obtain ⟨-, t3, t4, -⟩ := tid_some hx3
          have : X = Y := t1.unique t3 fun s => by
            rw [t2, tot_back, hto, tot_back, Int.neg_neg, t4]
          rw [this]
    have SW : o2.isSome = true → o3.isSome = true → ∀ w, Reads w v5 (got o2) → Reads w v6 (got o3) → Calls Try.prog 25 #[v5, v6] w fun e w' => e = .returned (.bool true) ∧ Below w.heap.size w w' := fun e1 e2 w h1 h2 => by
      rw [hsame e1 e2] at h1
      exact same_self v5 v6 _ w h1 h2
    clear hf hf2 hf' hf2' hx hx2 hx3 hvd htd hto hpa hsame A B
    generalize o2.isSome = p at *
    generalize o3.isSome = s at *
    cases p
    · clear SW
      cases q
      · go_wp2_with (first | (refine load_row rfl rfl rfl r_a Try.underlying32 rfl info_cyc ?_) | (refine load_row_on (by rfl) rfl rfl r_a Try.underlying32 rfl info_cyc ?_) | (refine load_row rfl rfl rfl r_b Try.underlying32 rfl info_cyc ?_) | (refine load_row_on (by rfl) rfl rfl r_b Try.underlying32 rfl info_cyc ?_))
        go_ret
        exact ⟨rfl, hL⟩
      · cases q'
        · go_wp2_with (first | (refine load_row rfl rfl rfl r_a Try.underlying32 rfl info_cyc ?_) | (refine load_row_on (by rfl) rfl rfl r_a Try.underlying32 rfl info_cyc ?_) | (refine load_row rfl rfl rfl r_b Try.underlying32 rfl info_cyc ?_) | (refine load_row_on (by rfl) rfl rfl r_b Try.underlying32 rfl info_cyc ?_))
          go_ret
          exact ⟨rfl, hL⟩
        · rw [hbit rfl rfl] at EQ
          go_wp2_with (first | (refine load_row rfl rfl rfl r_a Try.underlying32 rfl info_cyc ?_) | (refine load_row_on (by rfl) rfl rfl r_a Try.underlying32 rfl info_cyc ?_) | (refine load_row rfl rfl rfl r_b Try.underlying32 rfl info_cyc ?_) | (refine load_row_on (by rfl) rfl rfl r_b Try.underlying32 rfl info_cyc ?_))
          go_ret
          exact ⟨rfl, hL⟩
    · cases s
      · clear SW
        cases q
        · go_wp2_with (first | (refine load_row rfl rfl rfl r_a Try.underlying32 rfl info_cyc ?_) | (refine load_row_on (by rfl) rfl rfl r_a Try.underlying32 rfl info_cyc ?_) | (refine load_row rfl rfl rfl r_b Try.underlying32 rfl info_cyc ?_) | (refine load_row_on (by rfl) rfl rfl r_b Try.underlying32 rfl info_cyc ?_))
          go_ret
          exact ⟨rfl, hL⟩
        · cases q'
          · go_wp2_with (first | (refine load_row rfl rfl rfl r_a Try.underlying32 rfl info_cyc ?_) | (refine load_row_on (by rfl) rfl rfl r_a Try.underlying32 rfl info_cyc ?_) | (refine load_row rfl rfl rfl r_b Try.underlying32 rfl info_cyc ?_) | (refine load_row_on (by rfl) rfl rfl r_b Try.underlying32 rfl info_cyc ?_))
            go_ret
            exact ⟨rfl, hL⟩
          · rw [hbit rfl rfl] at EQ
            go_wp2_with (first | (refine load_row rfl rfl rfl r_a Try.underlying32 rfl info_cyc ?_) | (refine load_row_on (by rfl) rfl rfl r_a Try.underlying32 rfl info_cyc ?_) | (refine load_row rfl rfl rfl r_b Try.underlying32 rfl info_cyc ?_) | (refine load_row_on (by rfl) rfl rfl r_b Try.underlying32 rfl info_cyc ?_))
            go_ret
            exact ⟨rfl, hL⟩
      · have SW2 := Lib.hid (SW rfl rfl W8 hX hY)
        clear SW
        go_wp2_with fail
        refine SW2.out.mono ?_; rintro e w9 ⟨rfl, hb9⟩
        replace r_a := r_a.below hb9
        replace r_b := r_b.below hb9
        replace hL := below_next hL hb9
        clear SW2 hb9
        cases q
        · go_wp2_with (first | (refine load_row rfl rfl rfl r_a Try.underlying32 rfl info_cyc ?_) | (refine load_row_on (by rfl) rfl rfl r_a Try.underlying32 rfl info_cyc ?_) | (refine load_row rfl rfl rfl r_b Try.underlying32 rfl info_cyc ?_) | (refine load_row_on (by rfl) rfl rfl r_b Try.underlying32 rfl info_cyc ?_))
          go_ret
          exact ⟨rfl, hL⟩
        · cases q'
          · go_wp2_with (first | (refine load_row rfl rfl rfl r_a Try.underlying32 rfl info_cyc ?_) | (refine load_row_on (by rfl) rfl rfl r_a Try.underlying32 rfl info_cyc ?_) | (refine load_row rfl rfl rfl r_b Try.underlying32 rfl info_cyc ?_) | (refine load_row_on (by rfl) rfl rfl r_b Try.underlying32 rfl info_cyc ?_))
            go_ret
            exact ⟨rfl, hL⟩
          · rw [hbit rfl rfl] at EQ
            go_wp2_with (first | (refine load_row rfl rfl rfl r_a Try.underlying32 rfl info_cyc ?_) | (refine load_row_on (by rfl) rfl rfl r_a Try.underlying32 rfl info_cyc ?_) | (refine load_row rfl rfl rfl r_b Try.underlying32 rfl info_cyc ?_) | (refine load_row_on (by rfl) rfl rfl r_b Try.underlying32 rfl info_cyc ?_))
            go_ret
            exact ⟨rfl, hL⟩

end Go.Proofs.Yteicmnoafoekcaa
