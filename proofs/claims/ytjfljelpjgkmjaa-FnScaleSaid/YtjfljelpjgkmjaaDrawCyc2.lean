/-
  The draws of whole points and of points that are often real.
-/
import Derived.Test.YtjfljelpjgkmjaaDrawCyc
import Derived.Test.YtjfljelpjgkmjaaCycX
namespace Go.Proofs.Ytjfljelpjgkmjaa
set_option maxRecDepth 20000
open Go.ChangeShapes Go.WideShapes Go.ChangeAt Go.RowKit
set_option linter.unusedVariables false
set_option linter.unusedSimpArgs false

theorem drawCycGauss (v : Value) (w : World) (h : CodeAt w v) : Calls Try.prog 49 #[v] w (Drew2 w (-20) 20 (-20) 2000020) := by
  have O := Lib.hid (open_any v w h)
  clear h
  go_enter Try.func49, Try.ntmps49
  go_wp2_with fail
  refine O.out.mono ?_; rintro e w1 ⟨rfl, hr, hb⟩
  have z0 := hb.size
  have z1 := hr.lt
  have P1 := Lib.hid (pick_any _ _ 41 w1 hr (by omega) (by omega))
  clear hr O
  go_wp2_with fail
  refine P1.out.mono ?_; rintro e w2 ⟨x, rfl, x0, x1, hr2, hg2⟩
  have z2 := hg2.size
  have v1 : IntKind.i64.wrap (x - 20) = x - 20 := by rw [IntKind.wrap_i64]; omega
  have P2 := Lib.hid (pick_any _ _ 41 w2 hr2 (by omega) (by omega))
  clear hr2 P1
  go_wp2_with fail
  refine P2.out.mono ?_; rintro e w3 ⟨y, rfl, y0, y1, hr3, hg3⟩
  have z3 := hg3.size
  have v2 : IntKind.i64.wrap (y - 20) = y - 20 := by rw [IntKind.wrap_i64]; omega
  have P3 := Lib.hid (pick_any _ _ 20 w3 hr3 (by omega) (by omega))
  clear hr3 P2
  go_wp2_with fail
  refine P3.out.mono ?_; rintro e w4 ⟨m, rfl, m0, m1, hr4, hg4⟩
  clear hr4 P3
  have e1 := rare_factor m0 m1
  obtain ⟨q, hq, hq0, hq1⟩ : ∃ q : Int, (if m = 19 then (1 : Int) else 0) = q ∧ 0 ≤ q ∧ q ≤ 1 := ⟨_, rfl, by split <;> omega, by split <;> omega⟩
  rw [hq] at e1
  have e1' : m / 19 = q := by rw [← e1, Int.tdiv_eq_ediv_of_nonneg m0]
  have v3 : IntKind.i64.wrap q = q := by rw [IntKind.wrap_i64]; omega
  have v4 : IntKind.i64.wrap (q * 2000000) = q * 2000000 := by rw [IntKind.wrap_i64]; omega
  have v5 : IntKind.i64.wrap (y - 20 + q * 2000000) = y - 20 + q * 2000000 := by rw [IntKind.wrap_i64]; omega
  have HB := Lib.hid (below_only (below_only (below_only hb hg2 (by omega) (Nat.le_refl _)) hg3 (by omega) (Nat.le_refl _)) hg4 (by omega) (Nat.le_refl _))
  clear hb hg2 hg3 hg4
  go_wp2_with fail
  go_ret2
  exact ⟨x - 20, y - 20 + q * 2000000, rfl, by omega, by omega, by omega, by omega, HB.out⟩

set_option maxHeartbeats 1000000 in
theorem drawCycReal (v : Value) (w : World) (hc : CodeAt w v) : Calls Try.prog 52 #[v] w (DrewOne w) := by
  have hO : RowAt (w.alloc (.cells (vec 8 nul) 25)) w.heap.size 8 25 nul := RowAt.newAt rfl rfl
  have hz : w.heap.size < (w.alloc (.cells (vec 8 nul) 25)).heap.size := by simp
  have hL : Below w.heap.size w (w.alloc (.cells (vec 8 nul) 25)) := (Below.refl _ _).alloc (Nat.le_refl _) _
  have hv := hc.alloc (.cells (vec 8 nul) 25)
  go_enter Try.func52, Try.ntmps52
  go_upto_region 1 with fail
  show Code.wp _ _ _ _ (w.alloc (.cells (vec 8 nul) 25))
  generalize w.alloc (.cells (vec 8 nul) 25) = W at *
  have O := Lib.hid (open_any v W hv)
  clear hc hv
  go_wp2_with fail
  refine O.out.mono ?_; rintro e w1 ⟨rfl, hr, hb⟩
  have hO := hO.below hb
  have hL := below_next hL hb
  have z0 := hL.size
  have D := Lib.hid (cyc_drawn _ _ w1 hr (by omega))
  clear O hr hb
  generalize W.heap.size = R at *
  go_wp2_with fail
  refine D.out.mono ?_; rintro e w2 ⟨a, q, rfl, hq, hr2, hg2⟩
  have hO := hO.only hg2 (by omega)
  have hL := below_only hL hg2 z0 (by omega)
  have z2 := hL.size
  have zr := hr2.lt
  have zo := hO.lt
  clear D hg2
  go_upto_region 3 with (refine store_row rfl rfl rfl rfl (RowAt.newAt zero8 rfl) info_cyc ?_)
  show Code.wp _ _ _ _ (sole w2 a 25)
  have hO := sole_keep hO a 25
  have hA := sole_first w2 a 25
  have hL := sole_below hL a 25
  have hr : Rd (sole w2 a 25) R q := (hr2.alloc _).setRow zr _
  generalize w2.heap.size = g at *
  generalize sole w2 a 25 = W3 at *
  have z3 := hL.size
  clear hr2
  obtain ⟨c, v1, S1, -⟩ := both_CycMirror a
  obtain ⟨d, v2, S2, -⟩ := both_CycAdd a c
  have ho : w.heap.size < g := by omega
  have hRg : R < g := by omega
  go_wp2_with (refine load_row rfl rfl rfl hA Try.underlying25 rfl info_cyc ?_)
  refine (S1 _).mono ?_; rintro e w4 ⟨rfl, hb⟩
  have hO := hO.below hb
  have hA := hA.below hb
  have hL := below_next hL hb
  have hr := hr.below hb
  have zr := hr.lt
  clear hb S1 z3
  go_upto_region 4 with (refine store_row rfl rfl rfl rfl (RowAt.newAt zero8 rfl) info_cyc ?_)
  show Code.wp _ _ _ _ (sole w4 c 25)
  have hO := sole_keep hO c 25
  have hA := sole_keep hA c 25
  have hB := sole_first w4 c 25
  have hL := sole_below hL c 25
  have hr : Rd (sole w4 c 25) R q := (hr.alloc _).setRow zr _
  generalize w4.heap.size = g2 at *
  generalize sole w4 c 25 = W5 at *
  go_wp2_with (first | (refine load_row rfl rfl rfl hA Try.underlying25 rfl info_cyc ?_) | (refine load_row rfl rfl rfl hB Try.underlying25 rfl info_cyc ?_))
  refine (S2 _).mono ?_; rintro e w6 ⟨rfl, hb⟩
  have hO := hO.below hb
  have hA := hA.below hb
  have hL := below_next hL hb
  have hr := hr.below hb
  have zr := hr.lt
  clear hb S2 hB
  go_upto_region 5 with (refine store_row rfl rfl rfl rfl (RowAt.newAt zero8 rfl) info_cyc ?_)
  show Code.wp _ _ _ _ (sole w6 d 25)
  have hO := sole_keep hO d 25
  have hA := sole_keep hA d 25
  have hD := sole_first w6 d 25
  have hL := sole_below hL d 25
  have hr : Rd (sole w6 d 25) R q := (hr.alloc _).setRow zr _
  generalize w6.heap.size = g3 at *
  generalize sole w6 d 25 = W7 at *
  cases v1
  · go_wp2_with (first | (refine load_row rfl rfl rfl hA Try.underlying25 rfl info_cyc ?_) | (refine store_row rfl rfl rfl rfl hO info_cyc ?_))
    refine bodyPost_ret (results_row rfl rfl hO.setRow Try.underlying25 rfl info_cyc) rfl ?_
    exact ⟨_, rfl, below_setRow hL (Nat.le_refl _) _⟩
  cases v2
  · go_wp2_with (first | (refine load_row rfl rfl rfl hA Try.underlying25 rfl info_cyc ?_) | (refine store_row rfl rfl rfl rfl hO info_cyc ?_))
    refine bodyPost_ret (results_row rfl rfl hO.setRow Try.underlying25 rfl info_cyc) rfl ?_
    exact ⟨_, rfl, below_setRow hL (Nat.le_refl _) _⟩
  have z7 := hL.size
  have P3 := Lib.hid (pick_any R q 2 W7 hr (by omega) (by omega))
  clear hr
  go_wp2_with fail
  refine P3.out.mono ?_; rintro e w8 ⟨k, rfl, k0, k1, hr8, hg8⟩
  have hO := hO.only hg8 (by omega)
  have hA := hA.only hg8 (by omega)
  have hDlt := hD.lt
  by_cases hk : k = 0
  · subst hk
    have hne : g3 ≠ R := by omega
    have hD := hD.only hg8 hne
    have hL := below_only hL hg8 z7 (by omega)
    clear P3 hg8 hr8 hA
    go_wp2_with (first | (refine load_row rfl rfl rfl hD Try.underlying25 rfl info_cyc ?_) | (refine store_row rfl rfl rfl rfl hO info_cyc ?_))
    refine bodyPost_ret (results_row rfl rfl hO.setRow Try.underlying25 rfl info_cyc) rfl ?_
    exact ⟨_, rfl, below_setRow hL (Nat.le_refl _) _⟩
  · have hk' : (k == 0) = false := by simpa using hk
    have hL := below_only hL hg8 z7 (by omega)
    clear P3 hg8 hr8 hD
    go_wp2_with (first | (refine load_row rfl rfl rfl hA Try.underlying25 rfl info_cyc ?_) | (refine store_row rfl rfl rfl rfl hO info_cyc ?_))
    refine bodyPost_ret (results_row rfl rfl hO.setRow Try.underlying25 rfl info_cyc) rfl ?_
    exact ⟨_, rfl, below_setRow hL (Nat.le_refl _) _⟩
end Go.Proofs.Ytjfljelpjgkmjaa
