/-
  The walk of the law FnDesignAt.
-/
import Derived.Test.YteicmnoafoekcaaLawWheelBase
namespace Go.Proofs.Yteicmnoafoekcaa
set_option maxRecDepth 20000
open Go.ChangeShapes Go.WideShapes Go.ChangeAt Go.RowKit
set_option linter.unusedVariables false
set_option linter.unusedSimpArgs false

set_option maxHeartbeats 4000000 in
theorem lawFnDesignAt_walk (v : Value) (w : World) (h : CodeAt w v) : Calls Try.prog 5 #[v] w (Fine w) := by
  have D := Lib.hid (drawDesignAt v w h)
  obtain ⟨pa, pn, pc, rfl, hpn⟩ := code_length h
  clear h
  by_cases hbig : 1048576 < pn
  · have hb : (1048576 : Int) < (pn : Int) := by omega
    go_enter Try.func5, Try.ntmps5
    go_wp2_with fail
    go_ret
    exact fine_same ⟨rfl, rfl⟩
  have hb : ¬ (1048576 : Int) < (pn : Int) := by omega
  go_enter Try.func5, Try.ntmps5
  go_wp2_with fail
  refine D.out.mono ?_; rintro e w1 ⟨v2, ws, n, rfl, n0, n1, hR, hL⟩
  clear D

  obtain ⟨f, q, hf, hf2⟩ := know_at ws n
  have A := fun w h => DesignAt_any v2 ws n w h
  have B := fun w h => specDesignAt_any v2 ws n w h
  rw [hf] at A B
  have EQ : ∀ w, (Op.equalIn 10000 32 (.agg (vec 8 f)) (.agg (vec 8 f))).run Try.prog w = .ok true w := fun w => by
    rw [equal_cyc, eqv_true fun _ _ => rfl]
  clear hf
  go_wp2_with fail
  refine (A _ hR).mono ?_; rintro e w2 ⟨rfl, hbw2⟩
  replace hR := hR.below hbw2
  replace hL := below_next hL hbw2
  clear hbw2
  go_upto_region 5 with (refine store_new (ty := 32) rfl rfl rfl rfl zero8 info_cyc ?_)
  show Code.wp _ _ _ _ (w2.alloc (.cells (vec 8 f) 32))
  replace hR := reads_box hR (.cells (vec 8 f) 32)
  have r_a := RowAt.new w2 8 32 f
  replace hL := hL.alloc hL.size (.cells (vec 8 f) 32)
  generalize w2.heap.size = g_r_a at *
  generalize w2.alloc (.cells (vec 8 f) 32) = W2 at *
  go_wp2_with fail
  refine (B _ hR).mono ?_; rintro e w3 ⟨rfl, hbw3⟩
  replace hR := hR.below hbw3
  replace r_a := r_a.below hbw3
  replace hL := below_next hL hbw3
  clear hbw3
  go_upto_region 6 with (refine store_new (ty := 32) rfl rfl rfl rfl zero8 info_cyc ?_)
  show Code.wp _ _ _ _ (w3.alloc (.cells (vec 8 f) 32))
  replace hR := reads_box hR (.cells (vec 8 f) 32)
  replace r_a := r_a.alloc (.cells (vec 8 f) 32)
  have r_b := RowAt.new w3 8 32 f
  replace hL := hL.alloc hL.size (.cells (vec 8 f) 32)
  generalize w3.heap.size = g_r_b at *
  generalize w3.alloc (.cells (vec 8 f) 32) = W3 at *
  clear A B
  cases q
  · clear hf2
    go_wp2_with (first | (refine load_row rfl rfl rfl r_a Try.underlying32 rfl info_cyc ?_) | (refine load_row_on (by rfl) rfl rfl r_a Try.underlying32 rfl info_cyc ?_) | (refine load_row rfl rfl rfl r_b Try.underlying32 rfl info_cyc ?_) | (refine load_row_on (by rfl) rfl rfl r_b Try.underlying32 rfl info_cyc ?_))
    go_ret
    exact ⟨rfl, hL⟩
  · obtain ⟨hvd, hok, hfe⟩ := hf2 rfl
    have HFE := Lib.hid hfe
    have HOK := Lib.hid hok
    clear hf2 hfe hok hvd
    have T1 : Calls Try.prog 29 #[v2, .int .i64 7] W3 (Told W3 (dOf (turnW 7) ws)) := DesignTurned_yes v2 7 (by omega) ws W3 hR
    generalize hx : dOf (turnW 7) ws = o at T1
    replace T1 := Lib.hid T1
    go_wp2_with (first | (refine load_row rfl rfl rfl r_a Try.underlying32 rfl info_cyc ?_) | (refine load_row_on (by rfl) rfl rfl r_a Try.underlying32 rfl info_cyc ?_) | (refine load_row rfl rfl rfl r_b Try.underlying32 rfl info_cyc ?_) | (refine load_row_on (by rfl) rfl rfl r_b Try.underlying32 rfl info_cyc ?_))
    refine (T1.out).mono ?_; rintro e w5 ⟨hbw5, v5, rfl, ho⟩
    replace hR := hR.below hbw5
    replace r_a := r_a.below hbw5
    replace hL := below_next hL hbw5
    have hT : Reads w5 v5 (got o) := own_reads ho
    clear ho hbw5
    clear T1 r_b EQ
    obtain ⟨f', q', hf', hf2'⟩ := know_at (got o) n
    have A2 := DesignAt_any v5 (got o) n w5 hT
    rw [hf'] at A2
    go_wp2_with fail
    refine (A2).mono ?_; rintro e w6 ⟨rfl, hbw6⟩
    replace hR := hR.below hbw6
    replace hT := hT.below hbw6
    replace r_a := r_a.below hbw6
    replace hL := below_next hL hbw6
    clear hbw6
    clear A2
    go_upto_region 10 with (refine store_new (ty := 32) rfl rfl rfl rfl zero8 info_cyc ?_)
    show Code.wp _ _ _ _ (w6.alloc (.cells (vec 8 f') 32))
    replace hR := reads_box hR (.cells (vec 8 f') 32)
    replace hT := reads_box hT (.cells (vec 8 f') 32)
    replace r_a := r_a.alloc (.cells (vec 8 f') 32)
    have r_c := RowAt.new w6 8 32 f'
    replace hL := hL.alloc hL.size (.cells (vec 8 f') 32)
    generalize w6.heap.size = g_r_c at *
    generalize w6.alloc (.cells (vec 8 f') 32) = W6 at *
    obtain ⟨h, r, hh, hh2⟩ : ∃ (h : Nat → Int) (r : Bool), ans true (trn f 7) = .tuple #[.agg (vec 8 h), .bool r] ∧ (r = true → h = trn f 7) := ⟨if true && okc (trn f 7) then trn f 7 else nul, true && okc (trn f 7), rfl, fun e => by rw [if_pos e]⟩
    have C := fun w => CycTurned_yes f 7 HOK.out (by omega) w
    rw [hh] at C
    go_wp2_with (first | (refine load_row rfl rfl rfl r_a Try.underlying32 rfl info_cyc ?_) | (refine load_row_on (by rfl) rfl rfl r_a Try.underlying32 rfl info_cyc ?_))
    refine (C _).mono ?_; rintro e w7 ⟨rfl, hbw7⟩
    replace hR := hR.below hbw7
    replace hT := hT.below hbw7
    replace r_a := r_a.below hbw7
    replace r_c := r_c.below hbw7
    replace hL := below_next hL hbw7
    clear hbw7
    clear C
    go_upto_region 11 with (refine store_new (ty := 32) rfl rfl rfl rfl zero8 info_cyc ?_)
    show Code.wp _ _ _ _ (w7.alloc (.cells (vec 8 h) 32))
    replace hR := reads_box hR (.cells (vec 8 h) 32)
    replace hT := reads_box hT (.cells (vec 8 h) 32)
    replace r_a := r_a.alloc (.cells (vec 8 h) 32)
    replace r_c := r_c.alloc (.cells (vec 8 h) 32)
    have r_d := RowAt.new w7 8 32 h
    replace hL := hL.alloc hL.size (.cells (vec 8 h) 32)
    generalize w7.heap.size = g_r_d at *
    generalize w7.alloc (.cells (vec 8 h) 32) = W7 at *
    have EQ2 := fun w => equal_cyc f' h w
    have hbit : o.isSome = true → q' = true → r = true → eqv 8 f' h = true := fun e1 e2 e3 => by
      cases o with
      | none => cases e1
      | some R =>
        obtain ⟨-, -, -, hp⟩ := dOf_some hx
        rw [(hf2' e2).2.2, hh2 e3, HFE.out]
        show eqv 8 (pAt n R).up _ = true
        rw [hp, pAt_turned]
        refine eqv_true fun j hj => ?_
        rw [← tV_trn _ (by omega : (7 : Nat) ≤ 23)]
        exact up_dn _ j hj
    clear hf' hf2' hh hh2 hx
    generalize o.isSome = p at *
    cases p
    · go_wp2_with (first | (refine load_row rfl rfl rfl r_c Try.underlying32 rfl info_cyc ?_) | (refine load_row_on (by rfl) rfl rfl r_c Try.underlying32 rfl info_cyc ?_) | (refine load_row rfl rfl rfl r_d Try.underlying32 rfl info_cyc ?_) | (refine load_row_on (by rfl) rfl rfl r_d Try.underlying32 rfl info_cyc ?_))
      go_ret
      exact ⟨rfl, hL⟩
    · cases q'
      · go_wp2_with (first | (refine load_row rfl rfl rfl r_c Try.underlying32 rfl info_cyc ?_) | (refine load_row_on (by rfl) rfl rfl r_c Try.underlying32 rfl info_cyc ?_) | (refine load_row rfl rfl rfl r_d Try.underlying32 rfl info_cyc ?_) | (refine load_row_on (by rfl) rfl rfl r_d Try.underlying32 rfl info_cyc ?_))
        go_ret
        exact ⟨rfl, hL⟩
      · cases r
        · go_wp2_with (first | (refine load_row rfl rfl rfl r_c Try.underlying32 rfl info_cyc ?_) | (refine load_row_on (by rfl) rfl rfl r_c Try.underlying32 rfl info_cyc ?_) | (refine load_row rfl rfl rfl r_d Try.underlying32 rfl info_cyc ?_) | (refine load_row_on (by rfl) rfl rfl r_d Try.underlying32 rfl info_cyc ?_))
          go_ret
          exact ⟨rfl, hL⟩
        · rw [hbit rfl rfl rfl] at EQ2
          go_wp2_with (first | (refine load_row rfl rfl rfl r_c Try.underlying32 rfl info_cyc ?_) | (refine load_row_on (by rfl) rfl rfl r_c Try.underlying32 rfl info_cyc ?_) | (refine load_row rfl rfl rfl r_d Try.underlying32 rfl info_cyc ?_) | (refine load_row_on (by rfl) rfl rfl r_d Try.underlying32 rfl info_cyc ?_))
          go_ret
          exact ⟨rfl, hL⟩

end Go.Proofs.Yteicmnoafoekcaa
