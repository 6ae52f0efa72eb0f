/-
  The walk of the law FnDesignSum.
-/
import Derived.Test.YteicmnoafoekcaaLawWheelBase
import Derived.Test.YteicmnoafoekcaaWheelSum
namespace Go.Proofs.Yteicmnoafoekcaa
set_option maxRecDepth 20000
open Go.ChangeShapes Go.WideShapes Go.ChangeAt Go.RowKit
set_option linter.unusedVariables false
set_option linter.unusedSimpArgs false
theorem dSum_some {A B R : List Wh} (h : dSum A B = some R) : Tidy R ∧ (∀ s, tot s R = tot s (A ++ B)) ∧ ∀ t, pAt t R = pAt t (A ++ B) := by
  unfold dSum at h
  split at h
  · exact tidy_some h
  · cases h

set_option maxHeartbeats 8000000 in
theorem lawFnDesignSum_walk (v : Value) (w : World) (h : CodeAt w v) : Calls Try.prog 6 #[v] w (Fine w) := by
  have D := Lib.hid (drawDesignSum v w h)
  obtain ⟨pa, pn, pc, rfl, hpn⟩ := code_length h
  clear h
  by_cases hbig : 1048576 < pn
  · have hb : (1048576 : Int) < (pn : Int) := by omega
    go_enter Try.func6, Try.ntmps6
    go_wp2_with fail
    go_ret
    exact fine_same ⟨rfl, rfl⟩
  have hb : ¬ (1048576 : Int) < (pn : Int) := by omega
  go_enter Try.func6, Try.ntmps6
  go_wp2_with fail
  refine D.out.mono ?_; rintro e w1 ⟨v2, v3, ws, ws2, rfl, hR, hR2, hL⟩
  clear D

  have T1 : Calls Try.prog 32 #[v2, v3] w1 (Told w1 (dSum ws ws2)) := DesignSum_any v2 v3 ws ws2 w1 hR hR2
  have T2 : ∀ w (h : Reads w v2 ws) (h2 : Reads w v3 ws2), Calls Try.prog 33 #[v2, v3] w (Told w (dSum ws ws2)) := fun w h h2 => specDesignSum_any v2 v3 ws ws2 w h h2
  cases hx : dSum ws ws2 with
  | none =>
    rw [hx] at T1 T2
    go_wp2_with fail
    refine (T1).mono ?_; rintro e w2 ⟨hbw2, v4, rfl, ho⟩
    replace hR := hR.below hbw2
    replace hR2 := hR2.below hbw2
    replace hL := below_next hL hbw2
    have hO : Reads w2 v4 [] := own_reads ho
    clear ho hbw2
    go_wp2_with fail
    refine (T2 _ hR hR2).mono ?_; rintro e w3 ⟨hbw3, v5, rfl, ho⟩
    replace hR := hR.below hbw3
    replace hR2 := hR2.below hbw3
    replace hO := hO.below hbw3
    replace hL := below_next hL hbw3
    have hW : Reads w3 v5 [] := own_reads ho
    clear ho hbw3
    clear T1 T2
    go_wp2_with fail
    refine (same_self v4 v5 _ _ hO hW).mono ?_; rintro e w4 ⟨rfl, hbw4⟩
    replace hR := hR.below hbw4
    replace hR2 := hR2.below hbw4
    replace hO := hO.below hbw4
    replace hW := hW.below hbw4
    replace hL := below_next hL hbw4
    clear hbw4
    go_wp2_with fail
    refine (same_self v4 v5 _ _ hO hW).mono ?_; rintro e w5 ⟨rfl, hbw5⟩
    replace hR := hR.below hbw5
    replace hR2 := hR2.below hbw5
    replace hO := hO.below hbw5
    replace hW := hW.below hbw5
    replace hL := below_next hL hbw5
    clear hbw5
    go_wp2
    go_ret
    exact ⟨rfl, hL⟩
  | some R =>
    rw [hx] at T1 T2
    go_wp2_with fail
    refine (T1).mono ?_; rintro e w2 ⟨hbw2, v4, rfl, ho⟩
    replace hR := hR.below hbw2
    replace hR2 := hR2.below hbw2
    replace hL := below_next hL hbw2
    have hO : Reads w2 v4 R := own_reads ho
    clear ho hbw2
    go_wp2_with fail
    refine (T2 _ hR hR2).mono ?_; rintro e w3 ⟨hbw3, v5, rfl, ho⟩
    replace hR := hR.below hbw3
    replace hR2 := hR2.below hbw3
    replace hO := hO.below hbw3
    replace hL := below_next hL hbw3
    have hW : Reads w3 v5 R := own_reads ho
    clear ho hbw3
    clear T1 T2
    go_wp2_with fail
    refine (same_self v4 v5 _ _ hO hW).mono ?_; rintro e w4 ⟨rfl, hbw4⟩
    replace hR := hR.below hbw4
    replace hR2 := hR2.below hbw4
    replace hO := hO.below hbw4
    replace hW := hW.below hbw4
    replace hL := below_next hL hbw4
    clear hbw4
    clear hW
    have T3 := DesignSum_any v3 v2 ws2 ws w4 hR2 hR
    generalize hx2 : dSum ws2 ws = o2 at T3
    go_wp2_with fail
    refine (T3).mono ?_; rintro e w5 ⟨hbw5, v6, rfl, ho⟩
    replace hR := hR.below hbw5
    replace hR2 := hR2.below hbw5
    replace hO := hO.below hbw5
    replace hL := below_next hL hbw5
    have hX : Reads w5 v6 (got o2) := own_reads ho
    clear ho hbw5
    clear T3
    obtain ⟨f1, q1, hf1, hk1⟩ := know_at ws 5
    obtain ⟨f2, q2, hf2, hk2⟩ := know_at ws2 5
    obtain ⟨f3, q3, hf3, hk3⟩ := know_at R 5
    obtain ⟨h, y, hh, hh2⟩ : ∃ (h : Nat → Int) (y : Bool), ans (okc f1 && okc f2) (add f1 f2) = .tuple #[.agg (vec 8 h), .bool y] ∧ (y = true → h = add f1 f2) := ⟨if (okc f1 && okc f2) && okc (add f1 f2) then add f1 f2 else nul, (okc f1 && okc f2) && okc (add f1 f2), rfl, fun e => by rw [if_pos e]⟩
    have A1 := DesignAt_any v2 ws 5 w5 hR
    rw [hf1] at A1
    go_wp2_with fail
    refine (A1).mono ?_; rintro e w6 ⟨rfl, hbw6⟩
    replace hR := hR.below hbw6
    replace hR2 := hR2.below hbw6
    replace hO := hO.below hbw6
    replace hX := hX.below hbw6
    replace hL := below_next hL hbw6
    clear hbw6
    go_upto_region 10 with (refine store_new (ty := 32) rfl rfl rfl rfl zero8 info_cyc ?_)
    show Code.wp _ _ _ _ (w6.alloc (.cells (vec 8 f1) 32))
    replace hR := reads_box hR (.cells (vec 8 f1) 32)
    replace hR2 := reads_box hR2 (.cells (vec 8 f1) 32)
    replace hO := reads_box hO (.cells (vec 8 f1) 32)
    replace hX := reads_box hX (.cells (vec 8 f1) 32)
    have r_a := RowAt.new w6 8 32 f1
    replace hL := hL.alloc hL.size (.cells (vec 8 f1) 32)
    generalize w6.heap.size = g_r_a at *
    generalize w6.alloc (.cells (vec 8 f1) 32) = W6 at *
    have A2 := DesignAt_any v3 ws2 5 W6 hR2
    rw [hf2] at A2
    go_wp2_with fail
    refine (A2).mono ?_; rintro e w7 ⟨rfl, hbw7⟩
    replace hR := hR.below hbw7
    replace hR2 := hR2.below hbw7
    replace hO := hO.below hbw7
    replace hX := hX.below hbw7
    replace r_a := r_a.below hbw7
    replace hL := below_next hL hbw7
    clear hbw7
    go_upto_region 11 with (refine store_new (ty := 32) rfl rfl rfl rfl zero8 info_cyc ?_)
    show Code.wp _ _ _ _ (w7.alloc (.cells (vec 8 f2) 32))
    replace hR := reads_box hR (.cells (vec 8 f2) 32)
    replace hR2 := reads_box hR2 (.cells (vec 8 f2) 32)
    replace hO := reads_box hO (.cells (vec 8 f2) 32)
    replace hX := reads_box hX (.cells (vec 8 f2) 32)
    replace r_a := r_a.alloc (.cells (vec 8 f2) 32)
    have r_b := RowAt.new w7 8 32 f2
    replace hL := hL.alloc hL.size (.cells (vec 8 f2) 32)
    generalize w7.heap.size = g_r_b at *
    generalize w7.alloc (.cells (vec 8 f2) 32) = W7 at *
    have A3 := DesignAt_any v4 R 5 W7 hO
    rw [hf3] at A3
    go_wp2_with fail
    refine (A3).mono ?_; rintro e w8 ⟨rfl, hbw8⟩
    replace hR := hR.below hbw8
    replace hR2 := hR2.below hbw8
    replace hO := hO.below hbw8
    replace hX := hX.below hbw8
    replace r_a := r_a.below hbw8
    replace r_b := r_b.below hbw8
    replace hL := below_next hL hbw8
    clear hbw8
    go_upto_region 12 with (refine store_new (ty := 32) rfl rfl rfl rfl zero8 info_cyc ?_)
    show Code.wp _ _ _ _ (w8.alloc (.cells (vec 8 f3) 32))
    replace hR := reads_box hR (.cells (vec 8 f3) 32)
    replace hR2 := reads_box hR2 (.cells (vec 8 f3) 32)
    replace hO := reads_box hO (.cells (vec 8 f3) 32)
    replace hX := reads_box hX (.cells (vec 8 f3) 32)
    replace r_a := r_a.alloc (.cells (vec 8 f3) 32)
    replace r_b := r_b.alloc (.cells (vec 8 f3) 32)
    have r_c := RowAt.new w8 8 32 f3
    replace hL := hL.alloc hL.size (.cells (vec 8 f3) 32)
    generalize w8.heap.size = g_r_c at *
    generalize w8.alloc (.cells (vec 8 f3) 32) = W8 at *
    have CA := fun w => CycAdd_any f1 f2 w
    rw [hh] at CA
    clear A1 A2 A3
    go_wp2_with (first | (refine load_row rfl rfl rfl r_a Try.underlying32 rfl info_cyc ?_) | (refine load_row_on (by rfl) rfl rfl r_a Try.underlying32 rfl info_cyc ?_) | (refine load_row rfl rfl rfl r_b Try.underlying32 rfl info_cyc ?_) | (refine load_row_on (by rfl) rfl rfl r_b Try.underlying32 rfl info_cyc ?_))
    refine (CA _).mono ?_; rintro e w9 ⟨rfl, hbw9⟩
    replace hR := hR.below hbw9
    replace hR2 := hR2.below hbw9
    replace hO := hO.below hbw9
    replace hX := hX.below hbw9
    replace r_a := r_a.below hbw9
    replace r_b := r_b.below hbw9
    replace r_c := r_c.below hbw9
    replace hL := below_next hL hbw9
    clear hbw9
    go_upto_region 13 with (refine store_new (ty := 32) rfl rfl rfl rfl zero8 info_cyc ?_)
    show Code.wp _ _ _ _ (w9.alloc (.cells (vec 8 h) 32))
    replace hR := reads_box hR (.cells (vec 8 h) 32)
    replace hR2 := reads_box hR2 (.cells (vec 8 h) 32)
    replace hO := reads_box hO (.cells (vec 8 h) 32)
    replace hX := reads_box hX (.cells (vec 8 h) 32)
    replace r_a := r_a.alloc (.cells (vec 8 h) 32)
    replace r_b := r_b.alloc (.cells (vec 8 h) 32)
    replace r_c := r_c.alloc (.cells (vec 8 h) 32)
    have r_d := RowAt.new w9 8 32 h
    replace hL := hL.alloc hL.size (.cells (vec 8 h) 32)
    generalize w9.heap.size = g_r_d at *
    generalize w9.alloc (.cells (vec 8 h) 32) = W9 at *
    clear r_a r_b CA
    have EQ := fun w => equal_cyc f3 h w
    obtain ⟨htd, hto, hpa⟩ := dSum_some hx
    have hbit : q1 = true → q2 = true → q3 = true → y = true → eqv 8 f3 h = true := fun e1 e2 e3 e4 => by
      rw [(hk3 e3).2.2, hh2 e4, (hk1 e1).2.2, (hk2 e2).2.2, hpa, pAt_append, add_up]
      exact eqv_true fun _ _ => rfl
    have hsame : o2.isSome = true → got o2 = R := fun e1 => by
      cases o2 with
      | none => cases e1
      | some X =>
        obtain ⟨t1, t2, -⟩ := dSum_some hx2
        exact t1.unique htd fun s => by rw [t2, hto, tot_append, tot_append, V.add_comm]
    have SW : o2.isSome = true → ∀ w, Reads w v6 (got o2) → Reads w v4 R → Calls Try.prog 25 #[v6, v4] w fun e w' => e = .returned (.bool true) ∧ Below w.heap.size w w' := fun e1 w h1 h2 => by
      rw [hsame e1] at h1
      exact same_self v6 v4 _ w h1 h2
    clear hf1 hf2 hf3 hk1 hk2 hk3 hh hh2 hx hx2 htd hto hpa hsame
    generalize o2.isSome = p at *
    cases p
    · clear SW
      cases q1
      · go_wp2_with (first | (refine load_row rfl rfl rfl r_c Try.underlying32 rfl info_cyc ?_) | (refine load_row_on (by rfl) rfl rfl r_c Try.underlying32 rfl info_cyc ?_) | (refine load_row rfl rfl rfl r_d Try.underlying32 rfl info_cyc ?_) | (refine load_row_on (by rfl) rfl rfl r_d Try.underlying32 rfl info_cyc ?_))
        go_ret
        exact ⟨rfl, hL⟩
      · cases q2
        · go_wp2_with (first | (refine load_row rfl rfl rfl r_c Try.underlying32 rfl info_cyc ?_) | (refine load_row_on (by rfl) rfl rfl r_c Try.underlying32 rfl info_cyc ?_) | (refine load_row rfl rfl rfl r_d Try.underlying32 rfl info_cyc ?_) | (refine load_row_on (by rfl) rfl rfl r_d Try.underlying32 rfl info_cyc ?_))
          go_ret
          exact ⟨rfl, hL⟩
        · cases q3
          · go_wp2_with (first | (refine load_row rfl rfl rfl r_c Try.underlying32 rfl info_cyc ?_) | (refine load_row_on (by rfl) rfl rfl r_c Try.underlying32 rfl info_cyc ?_) | (refine load_row rfl rfl rfl r_d Try.underlying32 rfl info_cyc ?_) | (refine load_row_on (by rfl) rfl rfl r_d Try.underlying32 rfl info_cyc ?_))
            go_ret
            exact ⟨rfl, hL⟩
          · cases y
            · go_wp2_with (first | (refine load_row rfl rfl rfl r_c Try.underlying32 rfl info_cyc ?_) | (refine load_row_on (by rfl) rfl rfl r_c Try.underlying32 rfl info_cyc ?_) | (refine load_row rfl rfl rfl r_d Try.underlying32 rfl info_cyc ?_) | (refine load_row_on (by rfl) rfl rfl r_d Try.underlying32 rfl info_cyc ?_))
              go_ret
              exact ⟨rfl, hL⟩
            · rw [hbit rfl rfl rfl rfl] at EQ
              go_wp2_with (first | (refine load_row rfl rfl rfl r_c Try.underlying32 rfl info_cyc ?_) | (refine load_row_on (by rfl) rfl rfl r_c Try.underlying32 rfl info_cyc ?_) | (refine load_row rfl rfl rfl r_d Try.underlying32 rfl info_cyc ?_) | (refine load_row_on (by rfl) rfl rfl r_d Try.underlying32 rfl info_cyc ?_))
              go_ret
              exact ⟨rfl, hL⟩
    · have SW2 := Lib.hid (SW rfl W9 hX hO)
      clear SW
      go_wp2_with fail
      refine SW2.out.mono ?_; rintro e w10 ⟨rfl, hb10⟩
      replace r_c := r_c.below hb10
      replace r_d := r_d.below hb10
      replace hL := below_next hL hb10
      clear SW2 hb10
      cases q1
      · go_wp2_with (first | (refine load_row rfl rfl rfl r_c Try.underlying32 rfl info_cyc ?_) | (refine load_row_on (by rfl) rfl rfl r_c Try.underlying32 rfl info_cyc ?_) | (refine load_row rfl rfl rfl r_d Try.underlying32 rfl info_cyc ?_) | (refine load_row_on (by rfl) rfl rfl r_d Try.underlying32 rfl info_cyc ?_))
        go_ret
        exact ⟨rfl, hL⟩
      · cases q2
        · go_wp2_with (first | (refine load_row rfl rfl rfl r_c Try.underlying32 rfl info_cyc ?_) | (refine load_row_on (by rfl) rfl rfl r_c Try.underlying32 rfl info_cyc ?_) | (refine load_row rfl rfl rfl r_d Try.underlying32 rfl info_cyc ?_) | (refine load_row_on (by rfl) rfl rfl r_d Try.underlying32 rfl info_cyc ?_))
          go_ret
          exact ⟨rfl, hL⟩
        · cases q3
          · go_wp2_with (first | (refine load_row rfl rfl rfl r_c Try.underlying32 rfl info_cyc ?_) | (refine load_row_on (by rfl) rfl rfl r_c Try.underlying32 rfl info_cyc ?_) | (refine load_row rfl rfl rfl r_d Try.underlying32 rfl info_cyc ?_) | (refine load_row_on (by rfl) rfl rfl r_d Try.underlying32 rfl info_cyc ?_))
            go_ret
            exact ⟨rfl, hL⟩
          · cases y
            · go_wp2_with (first | (refine load_row rfl rfl rfl r_c Try.underlying32 rfl info_cyc ?_) | (refine load_row_on (by rfl) rfl rfl r_c Try.underlying32 rfl info_cyc ?_) | (refine load_row rfl rfl rfl r_d Try.underlying32 rfl info_cyc ?_) | (refine load_row_on (by rfl) rfl rfl r_d Try.underlying32 rfl info_cyc ?_))
              go_ret
              exact ⟨rfl, hL⟩
            · rw [hbit rfl rfl rfl rfl] at EQ
              go_wp2_with (first | (refine load_row rfl rfl rfl r_c Try.underlying32 rfl info_cyc ?_) | (refine load_row_on (by rfl) rfl rfl r_c Try.underlying32 rfl info_cyc ?_) | (refine load_row rfl rfl rfl r_d Try.underlying32 rfl info_cyc ?_) | (refine load_row_on (by rfl) rfl rfl r_d Try.underlying32 rfl info_cyc ?_))
              go_ret
              exact ⟨rfl, hL⟩

end Go.Proofs.Yteicmnoafoekcaa
