/-
  The walk of the law FnSquares.
-/
import Derived.Test.YtdgbpdeimckbfaaLawRowSq
import Derived.Test.YtdgbpdeimckbfaaM32
import Derived.Test.YtdgbpdeimckbfaaM34
import Derived.Test.YtdgbpdeimckbfaaM31
namespace Go.Proofs.Ytdgbpdeimckbfaa
set_option maxRecDepth 20000
open Go.ChangeShapes Go.WideShapes Go.ChangeAt Go.RowKit
set_option linter.unusedVariables false
set_option linter.unusedSimpArgs false

set_option maxHeartbeats 8000000 in
theorem lawFnSquares_walk (v : Value) (w : World) (h : CodeAt w v) : Calls Try.prog 11 #[v] w (Fine w) := by
  have D := Lib.hid (drawRowSquares v w h)
  obtain ⟨pa, pn, pc, rfl, hpn⟩ := code_length h
  clear h
  by_cases hbig : 1048576 < pn
  · have hb : (1048576 : Int) < (pn : Int) := by omega
    go_enter Try.func11, Try.ntmps11
    go_wp2_with fail
    go_ret
    exact fine_same ⟨rfl, rfl⟩
  have hb : ¬ (1048576 : Int) < (pn : Int) := by omega
  go_enter Try.func11, Try.ntmps11
  go_wp2_with fail
  refine D.out.mono ?_; rintro e w1 ⟨v2, xs, rfl, hR, hL⟩
  clear D hb
  have T1 := RowSquares_any _ xs w1 hR
  have T2 := fun w (h : ReadsL encV w v2 xs) => specRowSquares_any _ xs w h
  unfold surdO at T1 T2
  cases hx : sqR xs with
  | none =>
    rw [hx] at T1 T2
    go_wp2_with fail
    refine (T1).mono ?_; rintro e w2 ⟨rfl, hb⟩
    replace hR := hR.below hb
    replace hL := below_next hL hb
    clear hb
    go_upto_region 5 with (refine store_new (n := 4) (ty := 43) (f' := nul) rfl rfl rfl rfl zero4 info_surd ?_)
    show Code.wp _ _ _ _ (w2.alloc (.cells (vec 4 nul) 43))
    replace hR := readsL_box hR (.cells (vec 4 nul) 43)
    have rO := RowAt.new w2 4 43 nul
    replace hL := hL.alloc hL.size (.cells (vec 4 nul) 43)
    generalize w2.heap.size = g_rO at *
    generalize w2.alloc (.cells (vec 4 nul) 43) = B2 at *
    have T3 := T2 _ hR
    go_wp2_with fail
    refine (T3).mono ?_; rintro e w3 ⟨rfl, hb⟩
    replace hR := hR.below hb
    replace rO := rO.below hb
    replace hL := below_next hL hb
    clear hb
    go_upto_region 6 with (refine store_new (n := 4) (ty := 43) (f' := nul) rfl rfl rfl rfl zero4 info_surd ?_)
    show Code.wp _ _ _ _ (w3.alloc (.cells (vec 4 nul) 43))
    replace rO := rO.alloc (.cells (vec 4 nul) 43)
    replace hR := readsL_box hR (.cells (vec 4 nul) 43)
    have rW := RowAt.new w3 4 43 nul
    replace hL := hL.alloc hL.size (.cells (vec 4 nul) 43)
    generalize w3.heap.size = g_rW at *
    generalize w3.alloc (.cells (vec 4 nul) 43) = B3 at *
    have EQ := fun w => eqS nul w
    clear T1 T2 T3 hx hR
    go_wp2_with (first | (refine load4_on (g := g_rW) rfl rfl rfl rW Try.underlying43 rfl info_surd ?_) | (refine load4_on (g := g_rO) rfl rfl rfl rO Try.underlying43 rfl info_surd ?_))
    go_ret
    exact ⟨rfl, hL⟩
  | some f =>
    rw [hx] at T1 T2
    go_wp2_with fail
    refine (T1).mono ?_; rintro e w2 ⟨rfl, hb⟩
    replace hR := hR.below hb
    replace hL := below_next hL hb
    clear hb
    go_upto_region 5 with (refine store_new (n := 4) (ty := 43) (f' := f) rfl rfl rfl rfl zero4 info_surd ?_)
    show Code.wp _ _ _ _ (w2.alloc (.cells (vec 4 f) 43))
    replace hR := readsL_box hR (.cells (vec 4 f) 43)
    have rO := RowAt.new w2 4 43 f
    replace hL := hL.alloc hL.size (.cells (vec 4 f) 43)
    generalize w2.heap.size = g_rO at *
    generalize w2.alloc (.cells (vec 4 f) 43) = B2 at *
    have T3 := T2 _ hR
    go_wp2_with fail
    refine (T3).mono ?_; rintro e w3 ⟨rfl, hb⟩
    replace hR := hR.below hb
    replace rO := rO.below hb
    replace hL := below_next hL hb
    clear hb
    go_upto_region 6 with (refine store_new (n := 4) (ty := 43) (f' := f) rfl rfl rfl rfl zero4 info_surd ?_)
    show Code.wp _ _ _ _ (w3.alloc (.cells (vec 4 f) 43))
    replace rO := rO.alloc (.cells (vec 4 f) 43)
    replace hR := readsL_box hR (.cells (vec 4 f) 43)
    have rW := RowAt.new w3 4 43 f
    replace hL := hL.alloc hL.size (.cells (vec 4 f) 43)
    generalize w3.heap.size = g_rW at *
    generalize w3.alloc (.cells (vec 4 f) 43) = B3 at *
    clear T1 T2 T3
    have EQ := fun w => eqS f w
    go_upto_region 8 with (first | (refine load4_on (g := g_rW) rfl rfl rfl rW Try.underlying43 rfl info_surd ?_) | (refine load4_on (g := g_rO) rfl rfl rfl rO Try.underlying43 rfl info_surd ?_))
    clear rW
    have hk := (sqO_some hx).1
    have hs := say_sign hx
    obtain ⟨z, hz⟩ : ∃ z, sgf f = z := ⟨_, rfl⟩
    rw [hz] at hs
    have SG := fun w => SurdSign_yes (sqR_ok hx) hz w
    clear hz
    go_wp2_with (first | (refine load4_on (g := g_rO) rfl rfl rfl rO Try.underlying43 rfl info_surd ?_))
    refine (SG _).mono ?_; rintro e w4 ⟨rfl, hb⟩
    replace hR := hR.below hb
    replace rO := rO.below hb
    replace hL := below_next hL hb
    clear hb SG
    have T3 := RowShift_any _ 1 xs w4 hR
    rw [shO_one hk] at T3
    go_wp2_with fail
    refine (T3).mono ?_; rintro e w5 ⟨hb, vX, rfl, ho⟩
    replace hR := hR.below hb
    replace rO := rO.below hb
    replace hL := below_next hL hb
    have hX : ReadsL encV w5 vX (shL 1 xs) := ownL_reads ho
    clear hb ho
    clear T3
    have T3 := RowSquares_any vX (shL 1 xs) w5 hX
    unfold surdO at T3
    cases hy : sqR (shL 1 xs) with
    | none =>
      rw [hy] at T3
      go_wp2_with fail
      refine (T3).mono ?_; rintro e w6 ⟨rfl, hb⟩
      replace hR := hR.below hb
      replace rO := rO.below hb
      replace hX := hX.below hb
      replace hL := below_next hL hb
      clear hb
      clear T3 hX hR
      go_upto_region 11 with (refine store_new (n := 4) (ty := 43) (f' := nul) rfl rfl rfl rfl zero4 info_surd ?_)
      show Code.wp _ _ _ _ (w6.alloc (.cells (vec 4 nul) 43))
      replace rO := rO.alloc (.cells (vec 4 nul) 43)
      have rY := RowAt.new w6 4 43 nul
      replace hL := hL.alloc hL.size (.cells (vec 4 nul) 43)
      generalize w6.heap.size = g_rY at *
      generalize w6.alloc (.cells (vec 4 nul) 43) = B6 at *
      clear hx hy hk EQ
      go_wp2
      go_ret
      exact ⟨rfl, hL⟩
    | some t =>
      rw [hy] at T3
      have et : vec 4 t = vec 4 f := vec_same fun j hj => say_shifted hx hy j hj
      simp only [Option.getD_some, p4, et] at T3
      clear et
      go_wp2_with fail
      refine (T3).mono ?_; rintro e w6 ⟨rfl, hb⟩
      replace hR := hR.below hb
      replace rO := rO.below hb
      replace hX := hX.below hb
      replace hL := below_next hL hb
      clear hb
      clear T3 hX hR
      clear hx hy hk
      go_upto_region 11 with (refine store_new (n := 4) (ty := 43) (f' := f) rfl rfl rfl rfl zero4 info_surd ?_)
      show Code.wp _ _ _ _ (w6.alloc (.cells (vec 4 f) 43))
      replace rO := rO.alloc (.cells (vec 4 f) 43)
      have rY := RowAt.new w6 4 43 f
      replace hL := hL.alloc hL.size (.cells (vec 4 f) 43)
      generalize w6.heap.size = g_rY at *
      generalize w6.alloc (.cells (vec 4 f) 43) = B6 at *
      go_wp2_with (first | (refine load4_on (g := g_rY) rfl rfl rfl rY Try.underlying43 rfl info_surd ?_) | (refine load4_on (g := g_rO) rfl rfl rfl rO Try.underlying43 rfl info_surd ?_))
      go_ret
      exact ⟨rfl, hL⟩

end Go.Proofs.Ytdgbpdeimckbfaa
