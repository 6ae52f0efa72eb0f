/-
  The walk of the law FnCircular.
-/
import Derived.Test.YtdgbpdeimckbfaaLawRowBase
import Derived.Test.YtdgbpdeimckbfaaM32
import Derived.Test.YtdgbpdeimckbfaaM34
import Derived.Test.YtdgbpdeimckbfaaM31
namespace Go.Proofs.Ytdgbpdeimckbfaa
set_option maxRecDepth 20000
open Go.ChangeShapes Go.WideShapes Go.ChangeAt Go.RowKit
set_option linter.unusedVariables false
set_option linter.unusedSimpArgs false

set_option maxHeartbeats 8000000 in
theorem lawFnCircular_walk (v : Value) (w : World) (h : CodeAt w v) : Calls Try.prog 10 #[v] w (Fine w) := by
  have D := Lib.hid (drawRowCircular v w h)
  obtain ⟨pa, pn, pc, rfl, hpn⟩ := code_length h
  clear h
  by_cases hbig : 1048576 < pn
  · have hb : (1048576 : Int) < (pn : Int) := by omega
    go_enter Try.func10, Try.ntmps10
    go_wp2_with fail
    go_ret
    exact fine_same ⟨rfl, rfl⟩
  have hb : ¬ (1048576 : Int) < (pn : Int) := by omega
  go_enter Try.func10, Try.ntmps10
  go_wp2_with fail
  refine D.out.mono ?_; rintro e w1 ⟨v2, v3, xs, ys, rfl, hR, hR2, hL⟩
  clear D hb
  have T1 := RowCircular_any _ _ xs ys w1 hR hR2
  have T2 := fun w (h : ReadsL encV w v2 xs) (h2 : ReadsL encV w v3 ys) => specRowCircular_any _ _ xs ys w h h2
  cases hx : crO xs ys with
  | none =>
    rw [hx] at T1 T2
    go_wp2_with fail
    refine (T1).mono ?_; rintro e w2 ⟨hb, vO, rfl, ho⟩
    replace hR := hR.below hb
    replace hR2 := hR2.below hb
    replace hL := below_next hL hb
    have hO : ReadsL encV w2 vO ([]) := ownL_reads ho
    clear hb ho
    go_wp2_with fail
    refine (T2 _ hR hR2).mono ?_; rintro e w3 ⟨hb, vW, rfl, ho⟩
    replace hR := hR.below hb
    replace hR2 := hR2.below hb
    replace hO := hO.below hb
    replace hL := below_next hL hb
    have hW : ReadsL encV w3 vW ([]) := ownL_reads ho
    clear hb ho
    clear T1 T2
    go_wp2_with fail
    refine (sameC_self vO vW _ _ hO hW).mono ?_; rintro e w4 ⟨rfl, hb⟩
    replace hR := hR.below hb
    replace hR2 := hR2.below hb
    replace hO := hO.below hb
    replace hW := hW.below hb
    replace hL := below_next hL hb
    clear hb
    go_wp2_with fail
    refine (sameC_self vO vW _ _ hO hW).mono ?_; rintro e w5 ⟨rfl, hb⟩
    replace hR := hR.below hb
    replace hR2 := hR2.below hb
    replace hO := hO.below hb
    replace hW := hW.below hb
    replace hL := below_next hL hb
    clear hb
    go_wp2
    go_ret
    exact ⟨rfl, hL⟩
  | some R =>
    rw [hx] at T1 T2
    go_wp2_with fail
    refine (T1).mono ?_; rintro e w2 ⟨hb, vO, rfl, ho⟩
    replace hR := hR.below hb
    replace hR2 := hR2.below hb
    replace hL := below_next hL hb
    have hO : ReadsL encV w2 vO (R) := ownL_reads ho
    clear hb ho
    go_wp2_with fail
    refine (T2 _ hR hR2).mono ?_; rintro e w3 ⟨hb, vW, rfl, ho⟩
    replace hR := hR.below hb
    replace hR2 := hR2.below hb
    replace hO := hO.below hb
    replace hL := below_next hL hb
    have hW : ReadsL encV w3 vW (R) := ownL_reads ho
    clear hb ho
    clear T1 T2
    go_wp2_with fail
    refine (sameC_self vO vW _ _ hO hW).mono ?_; rintro e w4 ⟨rfl, hb⟩
    replace hR := hR.below hb
    replace hR2 := hR2.below hb
    replace hO := hO.below hb
    replace hW := hW.below hb
    replace hL := below_next hL hb
    clear hb
    clear hW
    have T3 := RowCircular_any _ _ ys xs w4 hR2 hR
    generalize hy0 : crO ys xs = o0 at T3
    go_wp2_with fail
    refine (T3).mono ?_; rintro e w5 ⟨hb, vX, rfl, ho⟩
    replace hR := hR.below hb
    replace hR2 := hR2.below hb
    replace hO := hO.below hb
    replace hL := below_next hL hb
    have hX : ReadsL encV w5 vX (gotL o0) := ownL_reads ho
    clear hb ho
    clear T3
    have T3 := TransformOf_any _ xs w5 hR
    generalize hy1 : trF xs = o1 at T3
    go_wp2_with fail
    refine (T3).mono ?_; rintro e w6 ⟨hb, vU, rfl, ho⟩
    replace hR := hR.below hb
    replace hR2 := hR2.below hb
    replace hO := hO.below hb
    replace hX := hX.below hb
    replace hL := below_next hL hb
    have hU : ReadsL encV w6 vU (gotL o1) := ownL_reads ho
    clear hb ho
    clear T3
    have T3 := TransformOf_any _ ys w6 hR2
    generalize hy2 : trF ys = o2 at T3
    go_wp2_with fail
    refine (T3).mono ?_; rintro e w7 ⟨hb, vV, rfl, ho⟩
    replace hR := hR.below hb
    replace hR2 := hR2.below hb
    replace hO := hO.below hb
    replace hX := hX.below hb
    replace hU := hU.below hb
    replace hL := below_next hL hb
    have hV : ReadsL encV w7 vV (gotL o2) := ownL_reads ho
    clear hb ho
    clear T3
    have T3 := TransformOf_any _ R w7 hO
    generalize hy3 : trF R = o3 at T3
    go_wp2_with fail
    refine (T3).mono ?_; rintro e w8 ⟨hb, vT, rfl, ho⟩
    replace hR := hR.below hb
    replace hR2 := hR2.below hb
    replace hO := hO.below hb
    replace hX := hX.below hb
    replace hU := hU.below hb
    replace hV := hV.below hb
    replace hL := below_next hL hb
    have hT : ReadsL encV w8 vT (gotL o3) := ownL_reads ho
    clear hb ho
    clear T3
    have T3 := RowTimes_any _ _ (gotL o1) (gotL o2) w8 hU hV
    generalize hy4 : tmO (gotL o1) (gotL o2) = o4 at T3
    go_wp2_with fail
    refine (T3).mono ?_; rintro e w9 ⟨hb, vZ, rfl, ho⟩
    replace hR := hR.below hb
    replace hR2 := hR2.below hb
    replace hO := hO.below hb
    replace hX := hX.below hb
    replace hU := hU.below hb
    replace hV := hV.below hb
    replace hT := hT.below hb
    replace hL := below_next hL hb
    have hZ : ReadsL encV w9 vZ (gotL o4) := ownL_reads ho
    clear hb ho
    clear T3
    have hS1 : ∀ X, o0 = some X → X = R := fun X e => by subst e; exact say_comm hx hy0
    have hS2 : ∀ A B C D, o1 = some A → o2 = some B → o3 = some C → o4 = some D → C = D := fun A B C D e1 e2 e3 e4 => by subst e1 e2 e3 e4; exact say_circ hx hy1 hy2 hy3 hy4
    clear hx hy0 hy1 hy2 hy3 hy4
    cases o0 with
    | none =>
      cases o1 with
      | none =>
        go_wp2
        go_ret
        exact ⟨rfl, hL⟩
      | some A =>
        cases o2 with
        | none =>
          go_wp2
          go_ret
          exact ⟨rfl, hL⟩
        | some B =>
          cases o3 with
          | none =>
            go_wp2
            go_ret
            exact ⟨rfl, hL⟩
          | some C =>
            cases o4 with
            | none =>
              go_wp2
              go_ret
              exact ⟨rfl, hL⟩
            | some D =>
              obtain rfl := hS2 A B C D rfl rfl rfl rfl
              clear hS1 hS2
              go_wp2_with fail
              refine (sameC_self vT vZ C _ hT hZ).mono ?_; rintro e w10 ⟨rfl, hb⟩
              replace hR := hR.below hb
              replace hR2 := hR2.below hb
              replace hO := hO.below hb
              replace hX := hX.below hb
              replace hU := hU.below hb
              replace hV := hV.below hb
              replace hT := hT.below hb
              replace hZ := hZ.below hb
              replace hL := below_next hL hb
              clear hb
              go_wp2
              go_ret
              exact ⟨rfl, hL⟩
    | some X =>
      obtain rfl := hS1 X rfl
      cases o1 with
      | none =>
        go_wp2_with fail
        refine (sameC_self vX vO X _ hX hO).mono ?_; rintro e w10 ⟨rfl, hb⟩
        replace hR := hR.below hb
        replace hR2 := hR2.below hb
        replace hO := hO.below hb
        replace hX := hX.below hb
        replace hU := hU.below hb
        replace hV := hV.below hb
        replace hT := hT.below hb
        replace hZ := hZ.below hb
        replace hL := below_next hL hb
        clear hb
        go_wp2
        go_ret
        exact ⟨rfl, hL⟩
      | some A =>
        cases o2 with
        | none =>
          go_wp2_with fail
          refine (sameC_self vX vO X _ hX hO).mono ?_; rintro e w10 ⟨rfl, hb⟩
          replace hR := hR.below hb
          replace hR2 := hR2.below hb
          replace hO := hO.below hb
          replace hX := hX.below hb
          replace hU := hU.below hb
          replace hV := hV.below hb
          replace hT := hT.below hb
          replace hZ := hZ.below hb
          replace hL := below_next hL hb
          clear hb
          go_wp2
          go_ret
          exact ⟨rfl, hL⟩
        | some B =>
          cases o3 with
          | none =>
            go_wp2_with fail
            refine (sameC_self vX vO X _ hX hO).mono ?_; rintro e w10 ⟨rfl, hb⟩
            replace hR := hR.below hb
            replace hR2 := hR2.below hb
            replace hO := hO.below hb
            replace hX := hX.below hb
            replace hU := hU.below hb
            replace hV := hV.below hb
            replace hT := hT.below hb
            replace hZ := hZ.below hb
            replace hL := below_next hL hb
            clear hb
            go_wp2
            go_ret
            exact ⟨rfl, hL⟩
          | some C =>
            cases o4 with
            | none =>
              go_wp2_with fail
              refine (sameC_self vX vO X _ hX hO).mono ?_; rintro e w10 ⟨rfl, hb⟩
              replace hR := hR.below hb
              replace hR2 := hR2.below hb
              replace hO := hO.below hb
              replace hX := hX.below hb
              replace hU := hU.below hb
              replace hV := hV.below hb
              replace hT := hT.below hb
              replace hZ := hZ.below hb
              replace hL := below_next hL hb
              clear hb
              go_wp2
              go_ret
              exact ⟨rfl, hL⟩
            | some D =>
              obtain rfl := hS2 A B C D rfl rfl rfl rfl
              clear hS1 hS2
              go_wp2_with fail
              refine (sameC_self vX vO X _ hX hO).mono ?_; rintro e w10 ⟨rfl, hb⟩
              replace hR := hR.below hb
              replace hR2 := hR2.below hb
              replace hO := hO.below hb
              replace hX := hX.below hb
              replace hU := hU.below hb
              replace hV := hV.below hb
              replace hT := hT.below hb
              replace hZ := hZ.below hb
              replace hL := below_next hL hb
              clear hb
              go_wp2_with fail
              refine (sameC_self vT vZ C _ hT hZ).mono ?_; rintro e w11 ⟨rfl, hb⟩
              replace hR := hR.below hb
              replace hR2 := hR2.below hb
              replace hO := hO.below hb
              replace hX := hX.below hb
              replace hU := hU.below hb
              replace hV := hV.below hb
              replace hT := hT.below hb
              replace hZ := hZ.below hb
              replace hL := below_next hL hb
              clear hb
              go_wp2
              go_ret
              exact ⟨rfl, hL⟩

end Go.Proofs.Ytdgbpdeimckbfaa
