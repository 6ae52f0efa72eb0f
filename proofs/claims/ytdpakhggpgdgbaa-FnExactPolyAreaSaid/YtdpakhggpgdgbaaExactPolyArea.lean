/-
  The walk of the law FnExactPolyArea.
-/
import Derived.Test.YtdpakhggpgdgbaaM17
import Derived.Test.YtdpakhggpgdgbaaM20
namespace Go.Proofs.Ytdpakhggpgdgbaa
set_option maxRecDepth 20000
open Go.ChangeShapes Go.WideShapes Go.ChangeAt Go.RowKit
set_option linter.unusedVariables false
set_option linter.unusedSimpArgs false

set_option maxHeartbeats 8000000 in
theorem exactPolyArea_walk (v : Value) (ws : List V) (w : World) (hD : LiesL encV w v ws) : Calls Try.prog 12 #[v] w (Fine w) := by
  have HD := Lib.hid hD
  clear hD
  have SP := fun (u : Value) (x : World) (h : ReadsL encV x u ws) => specPolyArea_any u ws x h
  have IM := fun (u : Value) (x : World) (h : ReadsL encV x u ws) => PolyArea_any u ws x h
  obtain ⟨f, q, hfq⟩ : ∃ (f : Nat → Int) (q : Bool), tls (polyOk ws) (areaV ws) = .tuple #[p4 f, .bool q] := by
    unfold tls; split <;> exact ⟨_, _, rfl⟩
  rw [hfq] at SP IM
  clear hfq
  have hbb : (q != q) = false := by simp
  by_cases hn : (ws.length : Int) ≤ 1048576
  · have hq : ¬ (1048576 : Int) - (ws.length : Int) < 0 := by omega
    have hn1 : ws.length ≤ 1048576 := by omega
    clear hn
    go_enter Try.func12, Try.ntmps12
    go_wp2_with fail
    refine (szCycs_yes v ws 1048576 _ HD.out (by omega) (by omega)).mono ?_; rintro e x ⟨rfl, rfl⟩
    go_wp2_with fail
    refine (toCycs_any v ws _ HD.out hn1).mono ?_; rintro e w1 ⟨hb, t1, rfl, hT1⟩
    have hL := hb
    clear hb
    go_wp2_with fail
    refine ((SP t1 _ (ownL_reads hT1))).mono ?_; rintro e w2 ⟨rfl, hb⟩
    replace hT1 := rows_below hT1 hb
    replace hL := below_next hL hb
    clear hb
    clear hT1
    go_upto_region 6 with (refine store_new (ty := 37) rfl rfl rfl rfl zero4 info_surd ?_)
    show Code.wp _ _ _ _ (w2.alloc (.cells (vec 4 f) 37))
    have rA := RowAt.new w2 4 37 f
    replace hL := hL.alloc hL.size (.cells (vec 4 f) 37)
    generalize w2.heap.size = g_rA at *
    generalize w2.alloc (.cells (vec 4 f) 37) = w3 at *
    go_wp2_with fail
    refine (toCycs_any v ws _ (HD.out.below hL) hn1).mono ?_; rintro e w4 ⟨hb, vX, rfl, hX⟩
    replace rA := rA.below hb
    replace hL := below_next hL hb
    clear hb
    go_wp2_with fail
    refine ((IM vX _ (ownL_reads hX))).mono ?_; rintro e w5 ⟨rfl, hb⟩
    replace rA := rA.below hb
    replace hX := rows_below hX hb
    replace hL := below_next hL hb
    clear hb
    go_upto_region 8 with (refine store_new (ty := 37) rfl rfl rfl rfl zero4 info_surd ?_)
    show Code.wp _ _ _ _ (w5.alloc (.cells (vec 4 f) 37))
    replace rA := rA.alloc (.cells (vec 4 f) 37)
    replace hX : World.ownsRow _ _ _ _ _ _ _ := World.ownsRow.alloc hX (.cells (vec 4 f) 37)
    have rB := RowAt.new w5 4 37 f
    replace hL := hL.alloc hL.size (.cells (vec 4 f) 37)
    generalize w5.heap.size = g_rB at *
    generalize w5.alloc (.cells (vec 4 f) 37) = w6 at *
    go_wp2_with (first | (refine load_row (g := g_rB) rfl rfl rfl rB Try.underlying37 rfl info_surd ?_) | (refine load_row (g := g_rA) rfl rfl rfl rA Try.underlying37 rfl info_surd ?_))
    refine (eqSurdR_yes f _).mono ?_; rintro e w7 ⟨rfl, hb⟩
    replace rA := rA.below hb
    replace hX := rows_below hX hb
    replace rB := rB.below hb
    replace hL := below_next hL hb
    clear hb
    clear rA rB
    go_wp2_with fail
    refine (toCycs_any v ws _ (HD.out.below hL) hn1).mono ?_; rintro e w8 ⟨hb, t1, rfl, hT1⟩
    replace hX := rows_below hX hb
    replace hL := below_next hL hb
    clear hb
    go_wp2_with fail
    refine (eqCycs_yes vX t1 _ _ (ownL_reads hX) (ownL_reads hT1)).mono ?_; rintro e w9 ⟨rfl, hb⟩
    replace hX := rows_below hX hb
    replace hT1 := rows_below hT1 hb
    replace hL := below_next hL hb
    clear hb
    clear hT1
    go_wp2
    go_ret
    exact ⟨rfl, hL⟩
  · go_enter Try.func12, Try.ntmps12
    go_wp2_with fail
    refine (szCycs_no v ws 1048576 _ HD.out (by omega) (by omega) (by omega)).mono ?_; rintro e x ⟨rfl, rfl⟩
    go_wp2
    go_ret
    exact ⟨rfl, Below.refl _ _⟩

end Go.Proofs.Ytdpakhggpgdgbaa
