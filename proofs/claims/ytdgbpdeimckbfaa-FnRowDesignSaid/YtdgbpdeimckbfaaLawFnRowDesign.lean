/-
  The walk of the law FnRowDesign.
-/
import Derived.Test.YtdgbpdeimckbfaaLawRowBase
import Derived.Test.YtdgbpdeimckbfaaLawWheelBase
import Derived.Test.YtdgbpdeimckbfaaM31
import Derived.Test.YtdgbpdeimckbfaaM32
import Derived.Test.YtdgbpdeimckbfaaM34
namespace Go.Proofs.Ytdgbpdeimckbfaa
set_option maxRecDepth 20000
open Go.ChangeShapes Go.WideShapes Go.ChangeAt Go.RowKit
set_option linter.unusedVariables false
set_option linter.unusedSimpArgs false

set_option maxHeartbeats 8000000 in
theorem lawFnRowDesign_walk (v : Value) (w : World) (h : CodeAt w v) : Calls Try.prog 12 #[v] w (Fine w) := by
  have D := Lib.hid (drawRowDesign v w h)
  obtain ⟨pa, pn, pc, rfl, hpn⟩ := code_length h
  clear h
  by_cases hbig : 1048576 < pn
  · have hb : (1048576 : Int) < (pn : Int) := by omega
    go_enter Try.func12, Try.ntmps12
    go_wp2_with fail
    go_ret
    exact fine_same ⟨rfl, rfl⟩
  have hb : ¬ (1048576 : Int) < (pn : Int) := by omega
  go_enter Try.func12, Try.ntmps12
  go_wp2_with fail
  refine D.out.mono ?_; rintro e w1 ⟨v2, xs, rfl, hR, hL⟩
  clear D hb
  obtain ⟨pl, cl, rfl⟩ := readsL_form hR
  have T1 := RowDesign_any _ xs w1 hR
  have T2 := fun w (h : ReadsL encV w (.slice pl xs.length cl) xs) => specRowDesign_any _ xs w h
  cases hx : rwO xs with
  | none =>
    rw [hx] at T1 T2
    go_wp2_with fail
    refine (T1).mono ?_; rintro e w2 ⟨hb, vO, rfl, ho⟩
    replace hR := hR.below hb
    replace hL := below_next hL hb
    have hO : Reads w2 vO ([]) := own_reads ho
    clear hb ho
    go_wp2_with fail
    refine (T2 _ hR).mono ?_; rintro e w3 ⟨hb, vW, rfl, ho⟩
    replace hR := hR.below hb
    replace hO := hO.below hb
    replace hL := below_next hL hb
    have hW : Reads w3 vW ([]) := own_reads ho
    clear hb ho
    clear T1 T2
    go_wp2_with fail
    refine (same_self vO vW _ _ hO hW).mono ?_; rintro e w4 ⟨rfl, hb⟩
    replace hR := hR.below hb
    replace hO := hO.below hb
    replace hW := hW.below hb
    replace hL := below_next hL hb
    clear hb
    go_wp2_with fail
    refine (same_self vO vW _ _ hO hW).mono ?_; rintro e w5 ⟨rfl, hb⟩
    replace hR := hR.below hb
    replace hO := hO.below hb
    replace hW := hW.below hb
    replace hL := below_next hL hb
    clear hb
    go_wp2
    go_ret
    exact ⟨rfl, hL⟩
  | some R =>
    rw [hx] at T1 T2
    go_wp2_with fail
    refine (T1).mono ?_; rintro e w2 ⟨hb, vO, rfl, ho⟩
    replace hR := hR.below hb
    replace hL := below_next hL hb
    have hO : Reads w2 vO (R) := own_reads ho
    clear hb ho
    go_wp2_with fail
    refine (T2 _ hR).mono ?_; rintro e w3 ⟨hb, vW, rfl, ho⟩
    replace hR := hR.below hb
    replace hO := hO.below hb
    replace hL := below_next hL hb
    have hW : Reads w3 vW (R) := own_reads ho
    clear hb ho
    clear T1 T2
    go_wp2_with fail
    refine (same_self vO vW _ _ hO hW).mono ?_; rintro e w4 ⟨rfl, hb⟩
    replace hR := hR.below hb
    replace hO := hO.below hb
    replace hW := hW.below hb
    replace hL := below_next hL hb
    clear hb
    clear hW
    have hok : rowOk xs = true := by obtain ⟨U, hU, -⟩ := rwO_some hx; exact (trO_some hU).1
    have T3 := RowOf_any vO (xs.length : Int) R w4 hO
    generalize hx2 : rdO R (xs.length : Int) = o2 at T3
    go_wp2_with fail
    refine (T3).mono ?_; rintro e w5 ⟨hb, vX, rfl, ho⟩
    replace hR := hR.below hb
    replace hO := hO.below hb
    replace hL := below_next hL hb
    have hX : ReadsL encV w5 vX (gotL o2) := ownL_reads ho
    clear hb ho
    have T4 := lawScaled_any _ (xs.length : Int) (by have := (rowOk_short hok).2; omega) xs (rowOk_all hok) (by have := (rowOk_short hok).2; omega) w5 hR
    generalize hx3 : scO (xs.length : Int) xs = o3 at T4
    go_wp2_with fail
    refine (T4).mono ?_; rintro e w6 ⟨hb, vY, rfl, hY⟩
    replace hR := hR.below hb
    replace hO := hO.below hb
    replace hX := hX.below hb
    replace hL := below_next hL hb
    clear hb
    clear T3 T4
    cases o2 with
    | none =>
      go_wp2
      go_ret
      exact ⟨rfl, hL⟩
    | some X =>
      cases o3 with
      | none =>
        go_wp2
        go_ret
        exact ⟨rfl, hL⟩
      | some Y =>
        obtain rfl : X = Y := say_design hx hx2 hx3
        replace hY := hY X rfl
        clear hx hx2 hx3 hok
        go_wp2_with fail
        refine (sameC_self vX vY X _ hX hY).mono ?_; rintro e w7 ⟨rfl, hb⟩
        replace hR := hR.below hb
        replace hO := hO.below hb
        replace hX := hX.below hb
        replace hL := below_next hL hb
        clear hb
        go_wp2
        go_ret
        exact ⟨rfl, hL⟩

end Go.Proofs.Ytdgbpdeimckbfaa
