/-
  The walk of the law FnConvex.
-/
import Derived.Test.YtdpakhggpgdgbaaGreatM25
import Derived.Test.YtdpakhggpgdgbaaGreatM21
import Derived.Test.YtdpakhggpgdgbaaGreatM22
namespace Go.Proofs.YtdpakhggpgdgbaaGreat
set_option maxRecDepth 20000
open Go.ChangeShapes Go.WideShapes Go.ChangeAt Go.RowKit
set_option linter.unusedVariables false
set_option linter.unusedSimpArgs false

theorem drawPolyConvex (v : Value) (w : World) (h : CodeAt w v) : Calls Tryz.prog 5 #[v] w (DrewPoly w) := by
  have O := Lib.hid (open_any v w h)
  clear h
  go_enter Tryz.func5, Tryz.ntmps5
  go_wp2_with fail
  refine O.out.mono ?_; rintro e w1 ⟨rfl, hr, hb⟩
  have D := Lib.hid (poly_drawn _ _ w1 hr (by omega))
  have z1 := hr.lt
  clear hr O
  go_wp2_with fail
  refine D.out.mono ?_; rintro e w2 ⟨v2, xs, q, rfl, hq, hl, hr2, hg2, ho2⟩
  have HB := Lib.hid (below_only hb hg2 hb.size (Nat.le_refl _))
  have HO := Lib.hid ho2
  clear D hb hr2 hg2 ho2
  go_wp2
  go_ret
  exact ⟨v2, xs, rfl, hl, HO.out, HB.out⟩

set_option maxHeartbeats 8000000 in
theorem lawFnConvex_walk (v : Value) (w : World) (h : CodeAt w v) : Calls Tryz.prog 3 #[v] w (Fine w) := by
  have D := Lib.hid (drawPolyConvex v w h)
  obtain ⟨pa, pn, pc, rfl, hpn⟩ := code_length h
  clear h
  by_cases hbig : 1048576 < pn
  · have hb : (1048576 : Int) < (pn : Int) := by omega
    go_enter Tryz.func3, Tryz.ntmps3
    go_wp2_with fail
    go_ret
    exact fine_same ⟨rfl, rfl⟩
  have hb : ¬ (1048576 : Int) < (pn : Int) := by omega
  go_enter Tryz.func3, Tryz.ntmps3
  go_wp2_with fail
  refine D.out.mono ?_; rintro e w1 ⟨v2, xs, rfl, hl48, hR, hL⟩
  clear D
  have T1 := PolyConvex_any v2 xs w1 hR
  have T2 := fun w h => specPolyConvex_any v2 xs w h
  cases hx : convB xs with
  | false =>
    rw [hx] at T1 T2
    clear hx
    go_wp2_with fail
    refine (T1).mono ?_; rintro e w2 ⟨rfl, hb⟩
    replace hR := hR.below hb
    replace hL := below_next hL hb
    clear hb
    go_wp2_with fail
    refine (T2 _ hR).mono ?_; rintro e w3 ⟨rfl, hb⟩
    replace hR := hR.below hb
    replace hL := below_next hL hb
    clear hb
    go_wp2
    go_ret
    exact ⟨rfl, hL⟩
  | true =>
    have hok := (conv_asked hx).1
    have hln := polyOk_len hok
    obtain ⟨L, hL2⟩ := bends_yes hok
    have hLn := (bends_some hL2).2.1
    have hA := Lib.hid (conv_area hx hL2)
    have B1 := fun w h => PolyBack_any v2 xs w h
    rw [back_yes hok] at B1
    have B2 := fun w h => PolyBends_any v2 xs w h
    rw [hL2] at B2
    have B3 := fun w h => PolyArea_any v2 xs w h
    rw [hok] at B3
    have B5 := fun v w h => PolyConvex_any v xs.reverse w h
    rw [conv_rev hx] at B5
    rw [hx] at T1 T2
    clear hx hL2 hok
    go_wp2_with fail
    refine (T1).mono ?_; rintro e w2 ⟨rfl, hb⟩
    replace hR := hR.below hb
    replace hL := below_next hL hb
    clear hb
    go_wp2_with fail
    refine (T2 _ hR).mono ?_; rintro e w3 ⟨rfl, hb⟩
    replace hR := hR.below hb
    replace hL := below_next hL hb
    clear hb
    go_wp2_with fail
    refine (B1 _ hR).mono ?_; rintro e w4 ⟨hb, v3, rfl, ho3⟩
    replace hR := hR.below hb
    replace hL := below_next hL hb
    clear hb
    have hS := ownL_reads ho3
    change ReadsL encV _ v3 xs.reverse at hS
    clear ho3
    go_wp2_with fail
    refine (B2 _ hR).mono ?_; rintro e w5 ⟨hb, v6, rfl, hI6⟩
    replace hR := hR.below hb
    replace hS := hS.below hb
    replace hL := below_next hL hb
    clear hb
    change OwnL encI 1 _ _ _ v6 L at hI6
    obtain ⟨g6, c6, rfl, hg6, hc6⟩ := ints_at hI6 hLn hln.1
    have HC6 := Lib.hid (hc6 0 _ hA.out)
    clear hI6 hc6 hLn hA T1 T2 B1 B2
    have hB6 : Below w5.heap.size w5 w5 := Below.refl _ _
    cases hv : okf (areaV xs) with
    | false =>
      rw [ans_bad4 hv] at B3
      have B4 := fun w => SurdSign_yes (a := nul) (z := sgf nul) okf_nul4 rfl w
      clear hv
      go_wp2_with fail
      refine (B3 _ hR).mono ?_; rintro e w6 ⟨rfl, hb⟩
      replace hS := hS.below hb
      replace hL := below_next hL hb
      replace hB6 := below_next hB6 hb
      clear hb hR B3
      go_upto_region 11 with (refine store_row rfl rfl rfl rfl (RowAt.newAt zero4 rfl) info_surd ?_)
      show Code.wp _ _ _ _ (sole4 w6 nul 32)
      have r_ar := sole_first4 w6 nul 32
      replace hL := sole_below4 hL nul 32
      replace hB6 := sole_below4 hB6 nul 32
      replace hS := hS.below (sole_below4 (Below.refl _ w6) nul 32)
      generalize w6.heap.size = g_ar at *
      generalize sole4 w6 nul 32 = W_ar at *
      go_wp2_with (refine load_row (g := g_ar) rfl rfl rfl r_ar Tryz.underlying32 rfl info_surd ?_)
      refine (B4 _).mono ?_; rintro e w7 ⟨rfl, hb⟩
      replace hS := hS.below hb
      replace hL := below_next hL hb
      replace hB6 := below_next hB6 hb
      clear hb r_ar B4
      go_wp2_with fail
      refine (B5 _ _ hS).mono ?_; rintro e w8 ⟨rfl, hb⟩
      replace hL := below_next hL hb
      replace hB6 := below_next hB6 hb
      clear hb hS B5
      have hcell := (World.cell?_of_block (hB6.block g6 hg6)).trans HC6.out
      go_wp2
      go_ret
      exact ⟨rfl, hL⟩
    | true =>
      rw [ans_yes4 hv] at B3
      have B4 := fun w => SurdSign_yes (a := areaV xs) (z := sgf (areaV xs)) hv rfl w
      generalize areaV xs = f at *
      generalize hz : sgf f = z at *
      have hzz : (z == z) = true := by simp
      have hln0 : (0 : Int) < (xs.length : Int) := by omega
      clear hv hz
      go_wp2_with fail
      refine (B3 _ hR).mono ?_; rintro e w6 ⟨rfl, hb⟩
      replace hS := hS.below hb
      replace hL := below_next hL hb
      replace hB6 := below_next hB6 hb
      clear hb hR B3
      go_upto_region 11 with (refine store_row rfl rfl rfl rfl (RowAt.newAt zero4 rfl) info_surd ?_)
      show Code.wp _ _ _ _ (sole4 w6 f 32)
      have r_ar := sole_first4 w6 f 32
      replace hL := sole_below4 hL f 32
      replace hB6 := sole_below4 hB6 f 32
      replace hS := hS.below (sole_below4 (Below.refl _ w6) f 32)
      generalize w6.heap.size = g_ar at *
      generalize sole4 w6 f 32 = W_ar at *
      go_wp2_with (refine load_row (g := g_ar) rfl rfl rfl r_ar Tryz.underlying32 rfl info_surd ?_)
      refine (B4 _).mono ?_; rintro e w7 ⟨rfl, hb⟩
      replace hS := hS.below hb
      replace hL := below_next hL hb
      replace hB6 := below_next hB6 hb
      clear hb r_ar B4
      go_wp2_with fail
      refine (B5 _ _ hS).mono ?_; rintro e w8 ⟨rfl, hb⟩
      replace hL := below_next hL hb
      replace hB6 := below_next hB6 hb
      clear hb hS B5
      have hcell := (World.cell?_of_block (hB6.block g6 hg6)).trans HC6.out
      go_wp2
      go_ret
      exact ⟨rfl, hL⟩

end Go.Proofs.YtdpakhggpgdgbaaGreat
