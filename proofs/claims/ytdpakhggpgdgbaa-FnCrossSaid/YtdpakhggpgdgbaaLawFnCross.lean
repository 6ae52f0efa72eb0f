/-
  The walk of the law FnCross.
-/
import Derived.Test.YtdpakhggpgdgbaaM30
import Derived.Test.YtdpakhggpgdgbaaM16
import Derived.Test.YtdpakhggpgdgbaaM20
namespace Go.Proofs.Ytdpakhggpgdgbaa
set_option maxRecDepth 20000
open Go.ChangeShapes Go.WideShapes Go.ChangeAt Go.RowKit
set_option linter.unusedVariables false
set_option linter.unusedSimpArgs false

theorem drawPolyCross (v : Value) (w : World) (hc : CodeAt w v) : Calls Try.prog 25 #[v] w (DrewPts w) := by
  have hO := pair_first w 32
  have hQ : RowAt ((w.alloc (.cells (vec 8 nul) 32)).alloc (.cells (vec 8 nul) 32)) (w.heap.size + 1) 8 32 nul := RowAt.newAt rfl (by simp)
  have hL : Below w.heap.size w ((w.alloc (.cells (vec 8 nul) 32)).alloc (.cells (vec 8 nul) 32)) := ((Below.refl _ _).alloc (Nat.le_refl _) _).alloc (by simp) _
  have hv := (hc.alloc (.cells (vec 8 nul) 32)).alloc (.cells (vec 8 nul) 32)
  go_enter Try.func25, Try.ntmps25
  go_upto_region 1 with fail
  show Code.wp _ _ _ _ ((w.alloc (.cells (vec 8 nul) 32)).alloc (.cells (vec 8 nul) 32))
  generalize (w.alloc (.cells (vec 8 nul) 32)).alloc (.cells (vec 8 nul) 32) = W at *
  have D := Lib.hid (points_drawn v W hv)
  clear hc hv
  go_wp2_with fail
  refine D.out.mono ?_; rintro e w2 ⟨a, b, rfl, hb⟩
  have hO := hO.below hb
  have hQ := hQ.below hb
  have hL := below_next hL hb
  clear D hb
  have hQ2 := hQ.rowOther w.heap.size (vec 8 a) (by omega)
  have HO := Lib.hid ((hO.setRow (f' := a)).rowOther (w.heap.size + 1) (vec 8 b) (by omega))
  have HQ := Lib.hid (hQ2.setRow (f' := b))
  have HL := Lib.hid (below_setRow (below_setRow hL (g := w.heap.size) (Nat.le_refl _) (vec 8 a)) (g := w.heap.size + 1) (by omega) (vec 8 b))
  clear hQ hL
  go_wp2_with (first | (refine store_row (g := w.heap.size) rfl rfl rfl rfl hO info_cyc ?_) | (refine store_row (g := w.heap.size + 1) rfl rfl rfl rfl hQ2 info_cyc ?_))
  refine bodyPost_ret (results_row_row rfl rfl rfl HO.out HQ.out Try.underlying32 rfl info_cyc) rfl ?_
  exact ⟨_, _, rfl, HL.out⟩

set_option maxHeartbeats 8000000 in
theorem lawFnCross_walk (v : Value) (w : World) (h : CodeAt w v) : Calls Try.prog 4 #[v] w (Fine w) := by
  have D := Lib.hid (drawPolyCross v w h)
  obtain ⟨pa, pn, pc, rfl, hpn⟩ := code_length h
  clear h
  by_cases hbig : 1048576 < pn
  · have hb : (1048576 : Int) < (pn : Int) := by omega
    go_enter Try.func4, Try.ntmps4
    go_wp2_with fail
    go_ret
    exact fine_same ⟨rfl, rfl⟩
  have hb : ¬ (1048576 : Int) < (pn : Int) := by omega
  go_enter Try.func4, Try.ntmps4
  go_wp2_with fail
  refine D.out.mono ?_; rintro e w1 ⟨a, b, rfl, hL⟩
  clear D
  have hS6 := pair_first w1 32
  have hS7 := pair_second w1 a 32
  go_upto_region 4 with (first | (refine store_row (g := w1.heap.size) rfl rfl rfl rfl hS6 info_cyc ?_) | (refine store_row (g := w1.heap.size + 1) rfl rfl rfl rfl hS7 info_cyc ?_))
  clear hS6 hS7
  show Code.wp _ _ _ _ (two w1 a b 32)
  have r_a := two_first w1 a b 32
  have r_b := two_second w1 a b 32
  replace hL := two_below hL a b 32
  generalize w1.heap.size = g_a at *
  generalize two w1 a b 32 = W1 at *
  have IM := fun w => PolyCross_any a b w
  have SP := fun w => specPolyCross_any a b w
  obtain ⟨c, v, hcv, hk⟩ := tls_some (smallF 1000 a && smallF 1000 b) (crs a b)
  rw [hcv] at IM SP
  have HK := Lib.hid hk
  clear hk hcv
  go_wp2_with (first | (refine load_row (g := g_a) rfl rfl rfl r_a Try.underlying32 rfl info_cyc ?_) | (refine load_row rfl rfl rfl r_b Try.underlying32 rfl info_cyc ?_))
  refine (IM _).mono ?_; rintro e w2 ⟨rfl, hb⟩
  replace r_a := r_a.below hb
  replace r_b := r_b.below hb
  replace hL := below_next hL hb
  clear hb
  go_upto_region 5 with (refine store_row rfl rfl rfl rfl (RowAt.newAt zero4 rfl) info_surd ?_)
  show Code.wp _ _ _ _ (sole4 w2 c 37)
  replace r_a := sole_keep4 r_a c 37
  replace r_b := sole_keep4 r_b c 37
  have r_out := sole_first4 w2 c 37
  replace hL := sole_below4 hL c 37
  generalize w2.heap.size = g_out at *
  generalize sole4 w2 c 37 = W_out at *
  go_wp2_with (first | (refine load_row (g := g_a) rfl rfl rfl r_a Try.underlying32 rfl info_cyc ?_) | (refine load_row rfl rfl rfl r_b Try.underlying32 rfl info_cyc ?_) | (refine load_row (g := g_out) rfl rfl rfl r_out Try.underlying37 rfl info_surd ?_))
  refine (SP _).mono ?_; rintro e w3 ⟨rfl, hb⟩
  replace r_a := r_a.below hb
  replace r_b := r_b.below hb
  replace r_out := r_out.below hb
  replace hL := below_next hL hb
  clear hb
  go_upto_region 6 with (refine store_row rfl rfl rfl rfl (RowAt.newAt zero4 rfl) info_surd ?_)
  show Code.wp _ _ _ _ (sole4 w3 c 37)
  replace r_a := sole_keep4 r_a c 37
  replace r_b := sole_keep4 r_b c 37
  replace r_out := sole_keep4 r_out c 37
  have r_want := sole_first4 w3 c 37
  replace hL := sole_below4 hL c 37
  generalize w3.heap.size = g_want at *
  generalize sole4 w3 c 37 = W_want at *
  have p0 := r_out.cell (k := 0) (by omega)
  have p1 := r_out.cell (k := 1) (by omega)
  have p2 := r_out.cell (k := 2) (by omega)
  have p3 := r_out.cell (k := 3) (by omega)
  have q0 := r_want.cell (k := 0) (by omega)
  have q1 := r_want.cell (k := 1) (by omega)
  have q2 := r_want.cell (k := 2) (by omega)
  have q3 := r_want.cell (k := 3) (by omega)
  have EQ := fun w => eqs_cells c w
  cases v
  · go_wp2_with fail
    go_ret
    exact ⟨rfl, hL⟩
  go_upto_region 8 with fail
  clear EQ q0 q1 q2 q3 r_want
  obtain ⟨hab, hok, hc⟩ := HK.out rfl
  rw [← hc] at hok
  rw [Bool.and_eq_true] at hab
  obtain ⟨d, hd⟩ : ∃ d : Nat → Int, ∀ j, d j = -c j := ⟨_, fun _ => rfl⟩
  have hdo := okf_neg4 hd hok
  have n0 := okf_wrap hd hok 0 (by omega)
  have n1 := okf_wrap hd hok 1 (by omega)
  have n2 := okf_wrap hd hok 2 (by omega)
  have n3 := okf_wrap hd hok 3 (by omega)
  have K1 := fun w => PolyCross_any b a w
  have e1 : tls (smallF 1000 b && smallF 1000 a) (crs b a) = .tuple #[.agg (vec 4 d), .bool true] := tls_is (d := d) (fun j hj => by rw [hd, hc]; exact crs_swap a b j hj) (by rw [hab.1, hab.2, hdo]; rfl)
  rw [e1] at K1
  have K2 := fun w => PolyCross_any a a w
  have e2 : tls (smallF 1000 a && smallF 1000 a) (crs a a) = .tuple #[.agg (vec 4 nul), .bool true] := tls_is (d := nul) (fun j hj => crs_self a j hj) (by rw [hab.1, okf_nul4]; rfl)
  rw [e2] at K2
  clear e1 e2 hab hok hc hd hdo HK
  go_wp2_with (first | (refine load_row (g := g_a) rfl rfl rfl r_a Try.underlying32 rfl info_cyc ?_) | (refine load_row rfl rfl rfl r_b Try.underlying32 rfl info_cyc ?_) | (refine load_row (g := g_out) rfl rfl rfl r_out Try.underlying37 rfl info_surd ?_))
  refine (K1 _).mono ?_; rintro e w4 ⟨rfl, hb⟩
  replace r_a := r_a.below hb
  replace r_b := r_b.below hb
  replace r_out := r_out.below hb
  replace hL := below_next hL hb
  clear hb
  go_upto_region 9 with (refine store_row rfl rfl rfl rfl (RowAt.newAt zero4 rfl) info_surd ?_)
  show Code.wp _ _ _ _ (sole4 w4 d 37)
  replace r_a := sole_keep4 r_a d 37
  replace r_b := sole_keep4 r_b d 37
  replace r_out := sole_keep4 r_out d 37
  have r_x := sole_first4 w4 d 37
  replace hL := sole_below4 hL d 37
  generalize w4.heap.size = g_x at *
  generalize sole4 w4 d 37 = W_x at *
  go_wp2_with (first | (refine load_row (g := g_a) rfl rfl rfl r_a Try.underlying32 rfl info_cyc ?_) | (refine load_row rfl rfl rfl r_b Try.underlying32 rfl info_cyc ?_) | (refine load_row (g := g_out) rfl rfl rfl r_out Try.underlying37 rfl info_surd ?_) | (refine load_row (g := g_x) rfl rfl rfl r_x Try.underlying37 rfl info_surd ?_))
  refine (K2 _).mono ?_; rintro e w5 ⟨rfl, hb⟩
  replace r_a := r_a.below hb
  replace r_b := r_b.below hb
  replace r_out := r_out.below hb
  replace r_x := r_x.below hb
  replace hL := below_next hL hb
  clear hb
  go_upto_region 10 with (refine store_row rfl rfl rfl rfl (RowAt.newAt zero4 rfl) info_surd ?_)
  show Code.wp _ _ _ _ (sole4 w5 nul 37)
  replace r_a := sole_keep4 r_a nul 37
  replace r_b := sole_keep4 r_b nul 37
  replace r_out := sole_keep4 r_out nul 37
  replace r_x := sole_keep4 r_x nul 37
  have r_y := sole_first4 w5 nul 37
  replace hL := sole_below4 hL nul 37
  generalize w5.heap.size = g_y at *
  generalize sole4 w5 nul 37 = W_y at *
  clear p0 p1 p2 p3
  have p0 := r_out.cell (k := 0) (by omega)
  have p1 := r_out.cell (k := 1) (by omega)
  have p2 := r_out.cell (k := 2) (by omega)
  have p3 := r_out.cell (k := 3) (by omega)
  have x0 := r_x.cell (k := 0) (by omega)
  have x1 := r_x.cell (k := 1) (by omega)
  have x2 := r_x.cell (k := 2) (by omega)
  have x3 := r_x.cell (k := 3) (by omega)
  have y0 := r_y.cell (k := 0) (by omega)
  have y1 := r_y.cell (k := 1) (by omega)
  have y2 := r_y.cell (k := 2) (by omega)
  have y3 := r_y.cell (k := 3) (by omega)
  have EQ := fun w => eqs_cells d w
  have EQ2 := fun w => eqs_nul w
  go_wp2_with fail
  go_ret
  exact ⟨rfl, hL⟩

end Go.Proofs.Ytdpakhggpgdgbaa
