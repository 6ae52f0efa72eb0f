/-
  The walk of the law FnExactDesignCentre.
-/
import Derived.Test.YtdbokcbbpegilaaM16
import Derived.Test.YtdbokcbbpegilaaM32
namespace Go.Proofs.Ytdbokcbbpegilaa
set_option maxRecDepth 20000
open Go.ChangeShapes Go.WideShapes Go.ChangeAt Go.RowKit
set_option linter.unusedVariables false
set_option linter.unusedSimpArgs false

set_option maxHeartbeats 8000000 in
theorem exactDesignCentre_walk (v : Value) (ws : List Wh) (w : World) (hD : Lies w v ws) : Calls Try.prog 16 #[v] w (Fine w) := by
  have HD := Lib.hid hD
  clear hD
  have SP := fun (u : Value) (x : World) (h : Reads x u ws) => specDesignCentre_any u ws x h
  have IM := fun (u : Value) (x : World) (h : Reads x u ws) => DesignCentre_any u ws x h
  obtain ⟨f, q, hf⟩ : ∃ (f : Nat → Int) (q : Bool), pointO (cenO ws) = .tuple #[.agg (vec 8 f), .bool q] := ⟨_, _, rfl⟩
  rw [hf] at SP IM
  clear hf
  have hbb : (q != q) = false := by simp
  by_cases hn : (ws.length : Int) ≤ 1048576
  · have hq : ¬ (1048576 : Int) - (ws.length : Int) < 0 := by omega
    have hn1 : ws.length ≤ 1048576 := by omega
    clear hn
    go_enter Try.func16, Try.ntmps16
    go_wp2_with fail
    refine (szWheels_yes v ws 1048576 _ HD.out (by omega) (by omega)).mono ?_; rintro e x ⟨rfl, rfl⟩
    go_wp2_with fail
    refine (toWheels_any v ws _ HD.out hn1).mono ?_; rintro e w1 ⟨hb, t1, rfl, hT1⟩
    have hL := hb
    clear hb
    go_wp2_with fail
    refine ((SP t1 _ (own_reads hT1))).mono ?_; rintro e w2 ⟨rfl, hb⟩
    replace hT1 := own_below hT1 hb
    replace hL := below_next hL hb
    clear hb
    clear hT1
    go_upto_region 6 with (refine store_new (ty := 41) rfl rfl rfl rfl zero8 info_cyc ?_)
    show Code.wp _ _ _ _ (w2.alloc (.cells (vec 8 f) 41))
    have rA := RowAt.new w2 8 41 f
    replace hL := hL.alloc hL.size (.cells (vec 8 f) 41)
    generalize w2.heap.size = g_rA at *
    generalize w2.alloc (.cells (vec 8 f) 41) = w3 at *
    go_wp2_with fail
    refine (toWheels_any v ws _ (HD.out.kept hL) hn1).mono ?_; rintro e w4 ⟨hb, vX, rfl, hX⟩
    replace rA := rA.below hb
    replace hL := below_next hL hb
    clear hb
    go_wp2_with fail
    refine ((IM vX _ (own_reads hX))).mono ?_; rintro e w5 ⟨rfl, hb⟩
    replace rA := rA.below hb
    replace hX := own_below hX hb
    replace hL := below_next hL hb
    clear hb
    go_upto_region 8 with (refine store_new (ty := 41) rfl rfl rfl rfl zero8 info_cyc ?_)
    show Code.wp _ _ _ _ (w5.alloc (.cells (vec 8 f) 41))
    replace rA := rA.alloc (.cells (vec 8 f) 41)
    replace hX : World.ownsRow _ _ _ _ _ _ _ := World.ownsRow.alloc hX (.cells (vec 8 f) 41)
    have rB := RowAt.new w5 8 41 f
    replace hL := hL.alloc hL.size (.cells (vec 8 f) 41)
    generalize w5.heap.size = g_rB at *
    generalize w5.alloc (.cells (vec 8 f) 41) = w6 at *
    go_wp2_with (first | (refine load_row (g := g_rB) rfl rfl rfl rB Try.underlying41 rfl info_cyc ?_) | (refine load_row (g := g_rA) rfl rfl rfl rA Try.underlying41 rfl info_cyc ?_))
    refine (eqCyc_yes f _).mono ?_; rintro e w7 ⟨rfl, hb⟩
    replace rA := rA.below hb
    replace hX := own_below hX hb
    replace rB := rB.below hb
    replace hL := below_next hL hb
    clear hb
    clear rA rB
    go_wp2_with fail
    refine (toWheels_any v ws _ (HD.out.kept hL) hn1).mono ?_; rintro e w8 ⟨hb, t1, rfl, hT1⟩
    replace hX := own_below hX hb
    replace hL := below_next hL hb
    clear hb
    go_wp2_with fail
    refine (eqWheels_yes vX t1 _ _ (own_reads hX) (own_reads hT1)).mono ?_; rintro e w9 ⟨rfl, hb⟩
    replace hX := own_below hX hb
    replace hT1 := own_below hT1 hb
    replace hL := below_next hL hb
    clear hb
    clear hT1
    go_wp2
    go_ret
    exact ⟨rfl, hL⟩
  · go_enter Try.func16, Try.ntmps16
    go_wp2_with fail
    refine (szWheels_no v ws 1048576 _ HD.out (by omega) (by omega) (by omega)).mono ?_; rintro e x ⟨rfl, rfl⟩
    go_wp2
    go_ret
    exact ⟨rfl, Below.refl _ _⟩

end Go.Proofs.Ytdbokcbbpegilaa
