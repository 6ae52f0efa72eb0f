/-
  The walk of the law FnRowTimes.
-/
import Derived.Test.YtdgbpdeimckbfaaLawRowBase
import Derived.Test.YtdgbpdeimckbfaaM32
import Derived.Test.YtdgbpdeimckbfaaM34
import Derived.Test.YtdgbpdeimckbfaaM31
namespace Go.Proofs.Ytdgbpdeimckbfaa
set_option maxRecDepth 20000
open Go.ChangeShapes Go.WideShapes Go.ChangeAt Go.RowKit
set_option linter.unusedVariables false
set_option linter.unusedSimpArgs false

set_option maxHeartbeats 8000000 in
theorem lawFnRowTimes_walk (v : Value) (w : World) (h : CodeAt w v) : Calls Try.prog 9 #[v] w (Fine w) := by
  have D := Lib.hid (drawRowTimes v w h)
  obtain ⟨pa, pn, pc, rfl, hpn⟩ := code_length h
  clear h
  by_cases hbig : 1048576 < pn
  · have hb : (1048576 : Int) < (pn : Int) := by omega
    go_enter Try.func9, Try.ntmps9
    go_wp2_with fail
    go_ret
    exact fine_same ⟨rfl, rfl⟩
  have hb : ¬ (1048576 : Int) < (pn : Int) := by omega
  go_enter Try.func9, Try.ntmps9
  go_wp2_with fail
  refine D.out.mono ?_; rintro e w1 ⟨v2, v3, xs, ys, rfl, hR, hR2, hL⟩
  clear D hb
  obtain ⟨pl, cl, rfl⟩ := readsL_form hR
  obtain ⟨pl2, cl2, rfl⟩ := readsL_form hR2
  have T1 := RowTimes_any _ _ xs ys w1 hR hR2
  have T2 := fun w (h : ReadsL encV w (.slice pl xs.length cl) xs) (h2 : ReadsL encV w (.slice pl2 ys.length cl2) ys) => specRowTimes_any _ _ xs ys w h h2
  cases hx : tmO xs ys with
  | none =>
    rw [hx] at T1 T2
    go_wp2_with fail
    refine (T1).mono ?_; rintro e w2 ⟨hb, vO, rfl, ho⟩
    replace hR := hR.below hb
    replace hR2 := hR2.below hb
    replace hL := below_next hL hb
    have hO : ReadsL encV w2 vO ([]) := ownL_reads ho
    clear hb ho
    go_wp2_with fail
    refine (T2 _ hR hR2).mono ?_; rintro e w3 ⟨hb, vW, rfl, ho⟩
    replace hR := hR.below hb
    replace hR2 := hR2.below hb
    replace hO := hO.below hb
    replace hL := below_next hL hb
    have hW : ReadsL encV w3 vW ([]) := ownL_reads ho
    clear hb ho
    clear T1 T2
    go_wp2_with fail
    refine (sameC_self vO vW _ _ hO hW).mono ?_; rintro e w4 ⟨rfl, hb⟩
    replace hR := hR.below hb
    replace hR2 := hR2.below hb
    replace hO := hO.below hb
    replace hW := hW.below hb
    replace hL := below_next hL hb
    clear hb
    go_wp2_with fail
    refine (sameC_self vO vW _ _ hO hW).mono ?_; rintro e w5 ⟨rfl, hb⟩
    replace hR := hR.below hb
    replace hR2 := hR2.below hb
    replace hO := hO.below hb
    replace hW := hW.below hb
    replace hL := below_next hL hb
    clear hb
    go_wp2
    go_ret
    exact ⟨rfl, hL⟩
  | some R =>
    rw [hx] at T1 T2
    go_wp2_with fail
    refine (T1).mono ?_; rintro e w2 ⟨hb, vO, rfl, ho⟩
    replace hR := hR.below hb
    replace hR2 := hR2.below hb
    replace hL := below_next hL hb
    have hO : ReadsL encV w2 vO (R) := ownL_reads ho
    clear hb ho
    go_wp2_with fail
    refine (T2 _ hR hR2).mono ?_; rintro e w3 ⟨hb, vW, rfl, ho⟩
    replace hR := hR.below hb
    replace hR2 := hR2.below hb
    replace hO := hO.below hb
    replace hL := below_next hL hb
    have hW : ReadsL encV w3 vW (R) := ownL_reads ho
    clear hb ho
    clear T1 T2
    go_wp2_with fail
    refine (sameC_self vO vW _ _ hO hW).mono ?_; rintro e w4 ⟨rfl, hb⟩
    replace hR := hR.below hb
    replace hR2 := hR2.below hb
    replace hO := hO.below hb
    replace hW := hW.below hb
    replace hL := below_next hL hb
    clear hb
    clear hW
    obtain ⟨po, co, rfl⟩ := readsL_form hO
    have hlen := (tmO_some hx).2.1
    have hle : ((R.length : Int) == (xs.length : Int)) = true := by rw [hlen]; simp
    clear hlen
    have T3 := RowTimes_any _ _ ys xs w4 hR2 hR
    rw [tmO_comm, hx] at T3
    clear hx
    go_wp2_with fail
    refine (T3).mono ?_; rintro e w5 ⟨hb, vX, rfl, ho⟩
    replace hR := hR.below hb
    replace hR2 := hR2.below hb
    replace hO := hO.below hb
    replace hL := below_next hL hb
    have hX : ReadsL encV w5 vX (R) := ownL_reads ho
    clear hb ho
    clear T3
    go_wp2_with fail
    refine (sameC_self vX _ _ _ hX hO).mono ?_; rintro e w6 ⟨rfl, hb⟩
    replace hR := hR.below hb
    replace hR2 := hR2.below hb
    replace hO := hO.below hb
    replace hX := hX.below hb
    replace hL := below_next hL hb
    clear hb
    go_wp2
    go_ret
    exact ⟨rfl, hL⟩

end Go.Proofs.Ytdgbpdeimckbfaa
