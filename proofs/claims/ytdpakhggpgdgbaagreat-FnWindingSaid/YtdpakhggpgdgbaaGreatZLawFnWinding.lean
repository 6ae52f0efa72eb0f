/-
  The walk of the law FnWinding.
-/
import Derived.Test.YtdpakhggpgdgbaaGreatM25
import Derived.Test.YtdpakhggpgdgbaaGreatM22
import Derived.Test.YtdpakhggpgdgbaaGreatM21
namespace Go.Proofs.YtdpakhggpgdgbaaGreat
set_option maxRecDepth 20000
open Go.ChangeShapes Go.WideShapes Go.ChangeAt Go.RowKit
set_option linter.unusedVariables false
set_option linter.unusedSimpArgs false

theorem drawPolyWinding (v : Value) (w : World) (hc : CodeAt w v) : Calls Tryz.prog 12 #[v] w (DrewPP w) := by
  have hQ : RowAt (w.alloc (.cells (vec 8 nul) 40)) w.heap.size 8 40 nul := RowAt.newAt rfl rfl
  have hL : Below w.heap.size w (w.alloc (.cells (vec 8 nul) 40)) := (Below.refl _ _).alloc (Nat.le_refl _) _
  have hz : w.heap.size < (w.alloc (.cells (vec 8 nul) 40)).heap.size := by simp
  have hv := hc.alloc (.cells (vec 8 nul) 40)
  go_enter Tryz.func12, Tryz.ntmps12
  go_upto_region 1 with fail
  show Code.wp _ _ _ _ (w.alloc (.cells (vec 8 nul) 40))
  generalize w.alloc (.cells (vec 8 nul) 40) = W at *
  have D := Lib.hid (around_drawn v W hv)
  clear hc hv
  go_wp2_with fail
  refine D.out.mono ?_; rintro e w2 ⟨v2, xs, c, rfl, hl, ho, hb⟩
  have hQ2 := hQ.below hb
  have hL2 := below_next hL hb
  clear D hb hQ hL
  go_wp2_with (refine store_row (g := w.heap.size) rfl rfl rfl rfl hQ2 info_cyc ?_)
  refine bodyPost_ret (results_tmp_row rfl rfl (hQ2.setRow (f' := c.up)) Tryz.underlying40 rfl info_cyc) rfl ?_
  exact ⟨_, xs, c, rfl, hl, own_lower (own_setRow ho (g := w.heap.size) (by omega) _) (by omega), below_setRow hL2 (g := w.heap.size) (Nat.le_refl _) _⟩

set_option maxHeartbeats 8000000 in
theorem lawFnWinding_walk (v : Value) (w : World) (h : CodeAt w v) : Calls Tryz.prog 4 #[v] w (Fine w) := by
  have D := Lib.hid (drawPolyWinding v w h)
  obtain ⟨pa, pn, pc, rfl, hpn⟩ := code_length h
  clear h
  by_cases hbig : 1048576 < pn
  · have hb : (1048576 : Int) < (pn : Int) := by omega
    go_enter Tryz.func4, Tryz.ntmps4
    go_wp2_with fail
    go_ret
    exact fine_same ⟨rfl, rfl⟩
  have hb : ¬ (1048576 : Int) < (pn : Int) := by omega
  go_enter Tryz.func4, Tryz.ntmps4
  go_wp2_with fail
  refine D.out.mono ?_; rintro e w1 ⟨v2, xs, c, rfl, hl48, hR, hL⟩
  clear D
  replace hR := ownL_reads hR
  go_upto_region 4 with (refine store_row rfl rfl rfl rfl (RowAt.newAt zero8 rfl) info_cyc ?_)
  show Code.wp _ _ _ _ (sole w1 c.up 40)
  have r_c := sole_first w1 c.up 40
  replace hL := sole_below hL c.up 40
  replace hR := hR.below (sole_below (Below.refl _ w1) c.up 40)
  generalize w1.heap.size = g_c at *
  generalize sole w1 c.up 40 = W1 at *
  have T1 := fun w h => PolyWinding_any v2 xs c w h
  have T2 := fun w h => specPolyWinding_any v2 xs c w h
  cases hx : windO xs c with
  | none =>
    rw [hx, toldZ_none] at T1 T2
    clear hx
    go_wp2_with (first | (refine load_row (g := g_c) rfl rfl rfl r_c Tryz.underlying40 rfl info_cyc ?_) | (refine load_row_on (g := g_c) (by kernel_rfl) rfl rfl r_c Tryz.underlying40 rfl info_cyc ?_))
    refine (T1 _ hR).mono ?_; rintro e w2 ⟨rfl, hb⟩
    replace r_c := r_c.below hb
    replace hR := hR.below hb
    replace hL := below_next hL hb
    clear hb
    go_wp2_with (first | (refine load_row (g := g_c) rfl rfl rfl r_c Tryz.underlying40 rfl info_cyc ?_) | (refine load_row_on (g := g_c) (by kernel_rfl) rfl rfl r_c Tryz.underlying40 rfl info_cyc ?_))
    refine (T2 _ hR).mono ?_; rintro e w3 ⟨rfl, hb⟩
    replace r_c := r_c.below hb
    replace hR := hR.below hb
    replace hL := below_next hL hb
    clear hb
    go_wp2
    go_ret
    exact ⟨rfl, hL⟩
  | some m =>
    obtain ⟨hok, hsm, hon, hm⟩ := wind_some hx
    have hln := polyOk_len hok
    have hms : -48 ≤ m ∧ m ≤ 48 := by have := windZ_small (P := PQ xs) (c := qv c.up) (n := xs.length); omega
    have hmw : IntKind.i64.wrap (-m) = -m := by rw [IntKind.wrap_i64]; omega
    have hmm : (m != m) = false := by simp
    have hmn : ((-m) == (-m)) = true := by simp
    have B1 := fun w h => PolyBack_any v2 xs w h
    rw [back_yes hok] at B1
    have K1 := fun v w h => PolyWinding_any v xs.reverse c w h
    rw [wind_rev hx, toldZ_some] at K1
    have K2 := fun w h => PolyConvex_any v2 xs w h
    have HC := Lib.hid (fun h => conv_wind (xs := xs) (c := c) (m := m) h hx)
    have K3 := fun w h => PolyOn_any v2 xs c w h
    rw [hon] at K3
    rw [hx, toldZ_some] at T1 T2
    clear hx hok hsm hon hm
    go_wp2_with (first | (refine load_row (g := g_c) rfl rfl rfl r_c Tryz.underlying40 rfl info_cyc ?_) | (refine load_row_on (g := g_c) (by kernel_rfl) rfl rfl r_c Tryz.underlying40 rfl info_cyc ?_))
    refine (T1 _ hR).mono ?_; rintro e w2 ⟨rfl, hb⟩
    replace r_c := r_c.below hb
    replace hR := hR.below hb
    replace hL := below_next hL hb
    clear hb
    go_wp2_with (first | (refine load_row (g := g_c) rfl rfl rfl r_c Tryz.underlying40 rfl info_cyc ?_) | (refine load_row_on (g := g_c) (by kernel_rfl) rfl rfl r_c Tryz.underlying40 rfl info_cyc ?_))
    refine (T2 _ hR).mono ?_; rintro e w3 ⟨rfl, hb⟩
    replace r_c := r_c.below hb
    replace hR := hR.below hb
    replace hL := below_next hL hb
    clear hb
    go_wp2_with (first | (refine load_row (g := g_c) rfl rfl rfl r_c Tryz.underlying40 rfl info_cyc ?_) | (refine load_row_on (g := g_c) (by kernel_rfl) rfl rfl r_c Tryz.underlying40 rfl info_cyc ?_))
    refine (B1 _ hR).mono ?_; rintro e w4 ⟨hb, v3, rfl, ho3⟩
    replace r_c := r_c.below hb
    replace hR := hR.below hb
    replace hL := below_next hL hb
    clear hb
    have hS := ownL_reads ho3
    change ReadsL encV _ v3 xs.reverse at hS
    clear ho3
    go_wp2_with (first | (refine load_row (g := g_c) rfl rfl rfl r_c Tryz.underlying40 rfl info_cyc ?_) | (refine load_row_on (g := g_c) (by kernel_rfl) rfl rfl r_c Tryz.underlying40 rfl info_cyc ?_))
    refine (K1 v3 _ hS).mono ?_; rintro e w5 ⟨rfl, hb⟩
    replace r_c := r_c.below hb
    replace hR := hR.below hb
    replace hS := hS.below hb
    replace hL := below_next hL hb
    clear hb
    clear hS K1 B1 T1 T2
    cases hcv : convB xs with
    | false =>
      rw [hcv] at K2
      clear hcv
      go_wp2_with (first | (refine load_row (g := g_c) rfl rfl rfl r_c Tryz.underlying40 rfl info_cyc ?_) | (refine load_row_on (g := g_c) (by kernel_rfl) rfl rfl r_c Tryz.underlying40 rfl info_cyc ?_))
      refine (K2 _ hR).mono ?_; rintro e w6 ⟨rfl, hb⟩
      replace r_c := r_c.below hb
      replace hR := hR.below hb
      replace hL := below_next hL hb
      clear hb
      go_wp2_with (first | (refine load_row (g := g_c) rfl rfl rfl r_c Tryz.underlying40 rfl info_cyc ?_) | (refine load_row_on (g := g_c) (by kernel_rfl) rfl rfl r_c Tryz.underlying40 rfl info_cyc ?_))
      refine (K3 _ hR).mono ?_; rintro e w7 ⟨rfl, hb⟩
      replace r_c := r_c.below hb
      replace hR := hR.below hb
      replace hL := below_next hL hb
      clear hb
      go_wp2
      go_ret
      exact ⟨rfl, hL⟩
    | true =>
      obtain ⟨hm1, hm2⟩ := HC.out hcv
      rw [hcv] at K2
      clear hcv
      go_wp2_with (first | (refine load_row (g := g_c) rfl rfl rfl r_c Tryz.underlying40 rfl info_cyc ?_) | (refine load_row_on (g := g_c) (by kernel_rfl) rfl rfl r_c Tryz.underlying40 rfl info_cyc ?_))
      refine (K2 _ hR).mono ?_; rintro e w6 ⟨rfl, hb⟩
      replace r_c := r_c.below hb
      replace hR := hR.below hb
      replace hL := below_next hL hb
      clear hb
      go_wp2_with (first | (refine load_row (g := g_c) rfl rfl rfl r_c Tryz.underlying40 rfl info_cyc ?_) | (refine load_row_on (g := g_c) (by kernel_rfl) rfl rfl r_c Tryz.underlying40 rfl info_cyc ?_))
      refine (K3 _ hR).mono ?_; rintro e w7 ⟨rfl, hb⟩
      replace r_c := r_c.below hb
      replace hR := hR.below hb
      replace hL := below_next hL hb
      clear hb
      go_wp2
      go_ret
      exact ⟨rfl, hL⟩

end Go.Proofs.YtdpakhggpgdgbaaGreat
