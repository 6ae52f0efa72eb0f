/-
  The walk of the law FnRow.
-/
import Derived.Test.YtdgbpdeimckbfaaLawRowBase
import Derived.Test.YtdgbpdeimckbfaaM32
import Derived.Test.YtdgbpdeimckbfaaM34
import Derived.Test.YtdgbpdeimckbfaaM31
namespace Go.Proofs.Ytdgbpdeimckbfaa
set_option maxRecDepth 20000
open Go.ChangeShapes Go.WideShapes Go.ChangeAt Go.RowKit
set_option linter.unusedVariables false
set_option linter.unusedSimpArgs false

set_option maxHeartbeats 8000000 in
theorem lawFnRow_walk (v : Value) (w : World) (h : CodeAt w v) : Calls Try.prog 3 #[v] w (Fine w) := by
  have D := Lib.hid (drawRowValid v w h)
  obtain ⟨pa, pn, pc, rfl, hpn⟩ := code_length h
  clear h
  by_cases hbig : 1048576 < pn
  · have hb : (1048576 : Int) < (pn : Int) := by omega
    go_enter Try.func3, Try.ntmps3
    go_wp2_with fail
    go_ret
    exact fine_same ⟨rfl, rfl⟩
  have hb : ¬ (1048576 : Int) < (pn : Int) := by omega
  go_enter Try.func3, Try.ntmps3
  go_wp2_with fail
  refine D.out.mono ?_; rintro e w1 ⟨v2, xs, rfl, hR, hL⟩
  clear D hb
  obtain ⟨pl, cl, rfl⟩ := readsL_form hR
  have C := RowValid_any _ xs w1 hR
  have C2 := fun w (h : ReadsL encV w (.slice pl xs.length cl) xs) => specRowValid_any _ xs w h
  cases hk : rowOk xs
  · rw [hk] at C C2
    go_wp2_with fail
    refine (C).mono ?_; rintro e w2 ⟨rfl, hb⟩
    replace hR := hR.below hb
    replace hL := below_next hL hb
    clear hb
    go_wp2_with fail
    refine (C2 _ hR).mono ?_; rintro e w3 ⟨rfl, hb⟩
    replace hR := hR.below hb
    replace hL := below_next hL hb
    clear hb
    clear C C2
    go_wp2
    go_ret
    exact ⟨rfl, hL⟩
  · rw [hk] at C C2
    go_wp2_with fail
    refine (C).mono ?_; rintro e w2 ⟨rfl, hb⟩
    replace hR := hR.below hb
    replace hL := below_next hL hb
    clear hb
    go_wp2_with fail
    refine (C2 _ hR).mono ?_; rintro e w3 ⟨rfl, hb⟩
    replace hR := hR.below hb
    replace hL := below_next hL hb
    clear hb
    clear C C2
    obtain ⟨h1, hd, h24⟩ := rowLen_in (rowOk_len hk)
    have T3 := RowShift_any _ 0 xs w3 hR
    rw [shO_home hk] at T3
    go_wp2_with fail
    refine (T3).mono ?_; rintro e w4 ⟨hb, vX, rfl, ho⟩
    replace hR := hR.below hb
    replace hL := below_next hL hb
    have hX : ReadsL encV w4 vX (xs) := ownL_reads ho
    clear hb ho
    clear T3
    obtain ⟨m, hm⟩ : ∃ m, xs.length % 24 = m := ⟨_, rfl⟩
    have e1 : (xs.length : Int).tmod 24 = (m : Int) := by rw [Int.tmod_eq_emod_of_nonneg (by omega), ← hm]; simp
    have T3 := RowShift_any _ (m : Int) xs w4 hR
    rw [shO_round hk hm] at T3
    clear hm
    go_wp2_with fail
    refine (T3).mono ?_; rintro e w5 ⟨hb, vY, rfl, ho⟩
    replace hR := hR.below hb
    replace hX := hX.below hb
    replace hL := below_next hL hb
    have hY : ReadsL encV w5 vY (xs) := ownL_reads ho
    clear hb ho
    clear T3
    have e2 : (24 : Int).tmod (xs.length : Int) = 0 := by
      have h := congrArg (fun z : Nat => (z : Int)) hd
      rw [Int.tmod_eq_emod_of_nonneg (by decide)]; simpa using h
    have e3 : ¬ (xs.length : Int) = 0 := by omega
    clear hk hd
    go_wp2_with fail
    refine (sameC_self vX _ _ _ hX hR).mono ?_; rintro e w6 ⟨rfl, hb⟩
    replace hR := hR.below hb
    replace hX := hX.below hb
    replace hY := hY.below hb
    replace hL := below_next hL hb
    clear hb
    go_wp2_with fail
    refine (sameC_self vY _ _ _ hY hR).mono ?_; rintro e w7 ⟨rfl, hb⟩
    replace hR := hR.below hb
    replace hX := hX.below hb
    replace hY := hY.below hb
    replace hL := below_next hL hb
    clear hb
    go_wp2
    go_ret
    exact ⟨rfl, hL⟩

end Go.Proofs.Ytdgbpdeimckbfaa
