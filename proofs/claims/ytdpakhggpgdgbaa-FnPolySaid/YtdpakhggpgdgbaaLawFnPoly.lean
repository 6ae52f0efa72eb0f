/-
  The walk of the law FnPoly.
-/
import Derived.Test.YtdpakhggpgdgbaaM29
import Derived.Test.YtdpakhggpgdgbaaM16
import Derived.Test.YtdpakhggpgdgbaaM18
import Derived.Test.YtdpakhggpgdgbaaM20
namespace Go.Proofs.Ytdpakhggpgdgbaa
set_option maxRecDepth 20000
open Go.ChangeShapes Go.WideShapes Go.ChangeAt Go.RowKit
set_option linter.unusedVariables false
set_option linter.unusedSimpArgs false

theorem drawPolyValid (v : Value) (w : World) (h : CodeAt w v) : Calls Try.prog 19 #[v] w (DrewPoly w) := by
  have O := Lib.hid (open_any v w h)
  clear h
  go_enter Try.func19, Try.ntmps19
  go_wp2_with fail
  refine O.out.mono ?_; rintro e w1 ⟨rfl, hr, hb⟩
  have D := Lib.hid (poly_drawn _ _ w1 hr (by omega))
  have z1 := hr.lt
  clear hr O
  go_wp2_with fail
  refine D.out.mono ?_; rintro e w2 ⟨v2, xs, q, rfl, hq, hl, hr2, hg2, ho2⟩
  have HB := Lib.hid (below_only hb hg2 hb.size (Nat.le_refl _))
  have HO := Lib.hid ho2
  clear D hb hr2 hg2 ho2
  go_wp2
  go_ret
  exact ⟨v2, xs, rfl, hl, HO.out, HB.out⟩

set_option maxHeartbeats 8000000 in
theorem lawFnPoly_walk (v : Value) (w : World) (h : CodeAt w v) : Calls Try.prog 3 #[v] w (Fine w) := by
  have D := Lib.hid (drawPolyValid v w h)
  obtain ⟨pa, pn, pc, rfl, hpn⟩ := code_length h
  clear h
  by_cases hbig : 1048576 < pn
  · have hb : (1048576 : Int) < (pn : Int) := by omega
    go_enter Try.func3, Try.ntmps3
    go_wp2_with fail
    go_ret
    exact fine_same ⟨rfl, rfl⟩
  have hb : ¬ (1048576 : Int) < (pn : Int) := by omega
  go_enter Try.func3, Try.ntmps3
  go_wp2_with fail
  refine D.out.mono ?_; rintro e w1 ⟨v2, xs, rfl, hl48, hR, hL⟩
  clear D
  have T1 := PolyValid_any v2 xs w1 hR
  have T2 := fun w h => specPolyValid_any v2 xs w h
  cases hx : polyOk xs with
  | false =>
    rw [hx] at T1 T2
    clear hx
    go_wp2_with fail
    refine (T1).mono ?_; rintro e w2 ⟨rfl, hb⟩
    replace hR := hR.below hb
    replace hL := below_next hL hb
    clear hb
    go_wp2_with fail
    refine (T2 _ hR).mono ?_; rintro e w3 ⟨rfl, hb⟩
    replace hR := hR.below hb
    replace hL := below_next hL hb
    clear hb
    go_wp2
    go_ret
    exact ⟨rfl, hL⟩
  | true =>
    have HX := Lib.hid hx
    have hln := polyOk_len hx
    have O1 := fun w h => PolyOn_any v2 xs (at' xs 0) w h
    have O2 := fun w h => PolyOn_any v2 xs (at' xs (xs.length - 1)) w h
    rw [on_corner hx (by omega)] at O1 O2
    have B1 := fun w h => PolyBack_any v2 xs w h
    have B2 := fun v w h => PolyBack_any v xs.reverse w h
    rw [back_yes hx] at B1
    rw [back_twice hx] at B2
    rw [hx] at T1 T2
    clear hx HX
    go_wp2_with fail
    refine (T1).mono ?_; rintro e w2 ⟨rfl, hb⟩
    replace hR := hR.below hb
    replace hL := below_next hL hb
    clear hb
    go_wp2_with fail
    refine (T2 _ hR).mono ?_; rintro e w3 ⟨rfl, hb⟩
    replace hR := hR.below hb
    replace hL := below_next hL hb
    clear hb
    go_wp2_with fail
    refine (B1 _ hR).mono ?_; rintro e w4 ⟨hb, v3, rfl, ho3⟩
    replace hR := hR.below hb
    replace hL := below_next hL hb
    clear hb
    have hS := ownL_reads ho3
    change ReadsL encV _ v3 xs.reverse at hS
    clear ho3
    go_wp2_with fail
    refine (B2 v3 _ hS).mono ?_; rintro e w5 ⟨hb, v4, rfl, ho4⟩
    replace hR := hR.below hb
    replace hS := hS.below hb
    replace hL := below_next hL hb
    clear hb
    have hU := ownL_reads ho4
    change ReadsL encV _ v4 xs at hU
    clear ho4
    clear hS
    go_wp2_with fail
    refine (sameC_self v4 v2 xs _ hU hR).mono ?_; rintro e w6 ⟨rfl, hb⟩
    replace hR := hR.below hb
    replace hU := hU.below hb
    replace hL := below_next hL hb
    clear hb
    clear hU
    obtain ⟨g, o, cap, rfl, -, hp0⟩ := reads_point hR (k := 0) (by omega)
    have hl0 : (0 : Int) < (xs.length : Int) := by omega
    have HPK := Lib.hid hp0
    clear hp0
    go_wp2_with (first | (refine load_part_on (T := 32) (f := (at' xs 0).up) (by kernel_rfl) rfl rfl HPK.out Try.underlying32 rfl info_cyc ?_) | (refine load_part (T := 32) (f := (at' xs 0).up) rfl rfl rfl HPK.out Try.underlying32 rfl info_cyc ?_))
    refine (O1 _ hR).mono ?_; rintro e w7 ⟨rfl, hb⟩
    replace hR := hR.below hb
    replace hL := below_next hL hb
    clear hb
    clear HPK
    obtain ⟨g', o', cap', eg, -, hp1⟩ := reads_point hR (k := xs.length - 1) (by omega)
    simp only [Value.slice.injEq, Option.some.injEq, Addr.mk.injEq, and_true, true_and] at eg
    obtain ⟨⟨rfl, rfl⟩, rfl⟩ := eg
    obtain ⟨m, hm⟩ : ∃ m, xs.length - 1 = m := ⟨_, rfl⟩
    have hmz : (xs.length : Int) - 1 = (m : Int) := by omega
    have hmw : IntKind.i64.wrap (m : Int) = (m : Int) := by rw [IntKind.wrap_i64]; omega
    have hml : (m : Int) < (xs.length : Int) := by omega
    rw [hm] at O2 hp1
    have HPK := Lib.hid hp1
    clear hp1 hm
    go_wp2_with (first | (refine load_part_on (T := 32) (f := (at' xs m).up) (by kernel_rfl) rfl rfl HPK.out Try.underlying32 rfl info_cyc ?_) | (refine load_part (T := 32) (f := (at' xs m).up) rfl rfl rfl HPK.out Try.underlying32 rfl info_cyc ?_))
    refine (O2 _ hR).mono ?_; rintro e w8 ⟨rfl, hb⟩
    replace hR := hR.below hb
    replace hL := below_next hL hb
    clear hb
    go_wp2
    go_ret
    exact ⟨rfl, hL⟩

end Go.Proofs.Ytdpakhggpgdgbaa
