/-
  Contracts of impl's calculations with exact points, third part: products, turned and mirrored points, roots.
  Contracts of impl's calculations with exact points, fourth part: pairs, differences, real points.
  Contracts of impl's calculations with exact points, fifth part: differences and real points.
  Contracts of spec's calculations with exact points.
-/
import Derived.Test.YtibhlaojinedoaaM01
import Derived.Deep.RegionHeld3
import Derived.Deep.DeepCutAuto
/- Contracts of impl's calculations with exact points, third part: products, turned and mirrored points, roots. -/
namespace Go.Proofs.Ytibhlaojinedoaa
set_option maxRecDepth 20000
open Go.ChangeShapes Go.WideShapes Go.ChangeAt Go.RowKit
set_option linter.unusedVariables false
set_option linter.unusedSimpArgs false

end Go.Proofs.Ytibhlaojinedoaa
/- Contracts of impl's calculations with exact points, fourth part: pairs, differences, real points. -/
namespace Go.Proofs.Ytibhlaojinedoaa
set_option maxRecDepth 20000
open Go.ChangeShapes Go.WideShapes Go.ChangeAt Go.RowKit
set_option linter.unusedVariables false
set_option linter.unusedSimpArgs false

end Go.Proofs.Ytibhlaojinedoaa
/- Contracts of impl's calculations with exact points, fifth part: differences and real points. -/
namespace Go.Proofs.Ytibhlaojinedoaa
set_option maxRecDepth 20000
open Go.ChangeShapes Go.WideShapes Go.ChangeAt Go.RowKit
set_option linter.unusedVariables false
set_option linter.unusedSimpArgs false

theorem size_cycE (a : Nat → Int) : (Try.prog.info? 80).map (·.size) = some (lst 8 a).length := by rw [lst_length]; exact info_cyc

end Go.Proofs.Ytibhlaojinedoaa
/- Contracts of spec's calculations with exact points. -/
namespace Go.Proofs.Ytibhlaojinedoaa
set_option maxRecDepth 20000
open Go.ChangeShapes Go.WideShapes Go.ChangeAt Go.RowKit
set_option linter.unusedVariables false
set_option linter.unusedSimpArgs false

theorem specValid_any (a : Nat → Int) (w : World) :
    Calls Try.prog 52 #[pt a] w fun e w' => e = .returned (.bool (okc a)) ∧ Below w.heap.size w w' := by
  have sa := vec_size 8 a
  unfold pt
  go_enter Try.func52, Try.ntmps52
  go_upto_region 1 with fail
  show Code.wp _ _ _ _ (box0 w a 80)
  obtain ⟨hA, hL⟩ := box0_facts w a 80
  generalize box0 w a 80 = W at *
  go_wp2_with fail
  go_loopw [3] (fun i wr => ∃ k : Nat, k ≤ 8 ∧ i = .int .i64 k ∧ (∀ j, j < k → -1000000 ≤ a j ∧ a j ≤ 1000000) ∧ RowAt wr w.heap.size 8 80 a ∧ Below w.heap.size w wr) (fun i _ => 8 - (intOf i).toNat)
  case atStart => exact ⟨0, Nat.zero_le _, rfl, fun j hj => absurd hj (by omega), hA, hL⟩
  case round =>
    clear hA hL
    obtain ⟨k, hk, rfl, hin, hA, hL⟩ := hrel
    by_cases hlt : k < 8
    · have hlt' : (k : Int) < 8 := by omega
      have hk0 : (0 : Int) ≤ (k : Int) := by omega
      have cA := hA.cell hlt
      have HA := Lib.hid hA
      have HL := Lib.hid hL
      have HI := Lib.hid hin
      clear hA hL hin
      by_cases hc : -1000000 ≤ a k ∧ a k ≤ 1000000
      · have G := fun w => in_yes (a k) (-1000000) 1000000 hc.1 hc.2 w
        go_wp2_with fail
        refine (G _).mono ?_; rintro e w' ⟨rfl, rfl⟩
        clear G
        go_wp2_with fail
        go_roundw
        case rel => exact ⟨k + 1, by omega, by go_num, upto_succ HI.out hc, HA.out, HL.out⟩
        case measure => simp [intOf]; omega
      · have G := fun w => in_no (a k) (-1000000) 1000000 (by omega) w
        go_wp2_with fail
        refine (G _).mono ?_; rintro e w' ⟨rfl, rfl⟩
        clear G
        go_wp2_with fail
        go_ret
        exact ⟨ret_bool (okc_not hlt hc).symm, HL.out⟩
    · obtain rfl : k = 8 := by omega
      have HL := Lib.hid hL; have HI := Lib.hid hin
      clear hA hL hin
      go_wp2_with fail
      go_ret
      exact ⟨ret_bool (inR_okc HI.out).symm, HL.out⟩

theorem specDone_any (a : Nat → Int) (w : World) :
    Calls Try.prog 54 #[pt a] w fun e w' => e = .returned (ans true a) ∧ Below w.heap.size w w' := by
  have sa := vec_size 8 a
  have V := fun w => specValid_any a w
  cases hv : okc a
  · rw [ans_bad hv]
    rw [hv] at V
    unfold pt at *
    go_enter Try.func54, Try.ntmps54
    go_upto_region 1 with fail
    show Code.wp _ _ _ _ (box1 w a 80 80)
    obtain ⟨hA, hO, hL⟩ := box1_facts w a 80 80
    generalize box1 w a 80 80 = W at *
    go_wp2_with (refine load_row rfl rfl rfl hA Try.underlying80 rfl info_cyc ?_)
    refine (V _).mono ?_; rintro e w2 ⟨rfl, hb2⟩
    have hO3 := hO.below hb2
    have hL3 := below_next hL hb2
    clear hA hO hL hb2 V
    go_wp2_with (refine store_row rfl rfl rfl (show _ = Value.agg (vec 8 nul) from rfl) hO3 info_cyc ?_)
    refine bodyPost_ret (results_row_tmp rfl rfl hO3.setRow Try.underlying80 rfl info_cyc) rfl ?_
    exact ⟨rfl, below_setRow hL3 (by omega) _⟩
  · rw [ans_yes hv]
    rw [hv] at V
    unfold pt at *
    go_enter Try.func54, Try.ntmps54
    go_upto_region 1 with fail
    show Code.wp _ _ _ _ (box1 w a 80 80)
    obtain ⟨hA, hO, hL⟩ := box1_facts w a 80 80
    generalize box1 w a 80 80 = W at *
    go_wp2_with (refine load_row rfl rfl rfl hA Try.underlying80 rfl info_cyc ?_)
    refine (V _).mono ?_; rintro e w2 ⟨rfl, hb2⟩
    have hA3 := hA.below hb2
    have hO3 := hO.below hb2
    have hL3 := below_next hL hb2
    clear hA hO hL hb2 V
    go_wp2_with (first | (refine load_row rfl rfl rfl hA3 Try.underlying80 rfl info_cyc ?_) | (refine store_row rfl rfl rfl rfl hO3 info_cyc ?_))
    refine bodyPost_ret (results_row_tmp rfl rfl hO3.setRow Try.underlying80 rfl info_cyc) rfl ?_
    exact ⟨rfl, below_setRow hL3 (by omega) _⟩

/-- The first k numbers one place on. -/
def shf (a : Nat → Int) (k : Nat) : Nat → Int := fun j => if j = 0 then 0 else if j ≤ k then a (j - 1) else 0
theorem shf_zero (a : Nat → Int) (j : Nat) : nul j = shf a 0 j := by
  simp only [nul, shf]
  by_cases h : j = 0
  · rw [if_pos h]
  · rw [if_neg h, if_neg (by omega)]
theorem shf_step (a : Nat → Int) (k j : Nat) : upd (shf a k) (k + 1) (a k) j = shf a (k + 1) j := by
  simp only [upd, shf]
  by_cases h1 : j = k + 1
  · subst h1; simp
  · rw [if_neg h1]
    by_cases h2 : j = 0
    · rw [if_pos h2, if_pos h2]
    · rw [if_neg h2, if_neg h2]
      by_cases h3 : j ≤ k
      · rw [if_pos h3, if_pos (by omega)]
      · rw [if_neg h3, if_neg (by omega)]
theorem shf_stp (a : Nat → Int) : ∀ j, j < 8 → upd (upd (shf a 7) 4 (a 3 + a 7)) 0 (-a 7) j = stp a j := by
  intro j hj
  simp only [upd, stp, shf]
  by_cases h1 : j = 0
  · rw [if_pos h1, if_pos h1]
  · rw [if_neg h1, if_neg h1, if_neg h1]
    by_cases h2 : j = 4
    · rw [if_pos h2, if_pos h2]
    · rw [if_neg h2, if_neg h2, if_pos (by omega)]

set_option maxHeartbeats 800000 in
theorem specStep_any (a : Nat → Int) (ha : ∀ j, j < 8 → -4000000000000000000 ≤ a j ∧ a j ≤ 4000000000000000000) (w : World) :
    Calls Try.prog 74 #[pt a] w fun e w' => e = .returned (pt (stp a)) ∧ Below w.heap.size w w' := by
  have sa := vec_size 8 a
  unfold pt at *
  go_enter Try.func74, Try.ntmps74
  go_upto_region 2 with fail
  show Code.wp _ _ _ _ ((box1 w a 80 80).alloc (.cells (vec 8 nul) 80))
  obtain ⟨hA, hO, hL⟩ := box1_facts w a 80 80
  have zE := hO.lt
  have hsz : (box1 w a 80 80).heap.size = w.heap.size + 1 + 1 := by simp [box1]
  have hA := hA.alloc (.cells (vec 8 nul) 80)
  have hO := hO.alloc (.cells (vec 8 nul) 80)
  have hL := hL.alloc (by omega) (.cells (vec 8 nul) 80)
  have hE : RowAt ((box1 w a 80 80).alloc (.cells (vec 8 nul) 80)) (w.heap.size + 1 + 1) 8 80 nul := RowAt.newAt rfl hsz
  clear zE hsz
  generalize (box1 w a 80 80).alloc (.cells (vec 8 nul) 80) = W at *
  go_wp2_with fail
  go_loopw [4] (fun i wr => ∃ k : Nat, k ≤ 7 ∧ i = .int .i64 (k + 1) ∧ RowAt wr w.heap.size 8 80 a ∧ RowAt wr (w.heap.size + 1) 8 80 nul ∧ RowAt wr (w.heap.size + 1 + 1) 8 80 (shf a k) ∧ Below w.heap.size w wr) (fun i _ => 8 - (intOf i).toNat)
  case atStart => exact ⟨0, Nat.zero_le _, rfl, hA, hO, hE.same (fun j _ => shf_zero a j), hL⟩
  case round =>
    clear hA hO hE hL
    obtain ⟨k, hk, rfl, hA, hO, hE, hL⟩ := hrel
    by_cases hlt : k < 7
    · have hlt' : (k : Int) + 1 < 8 := by omega
      have hk0 : (0 : Int) ≤ (k : Int) := by omega
      have hk8 : (k : Int) < 8 := by omega
      have hk1 : (0 : Int) ≤ (k : Int) + 1 := by omega
      have t1 : ((k : Int) + 1).toNat = k + 1 := by omega
      have v0 : IntKind.i64.wrap ((k : Int) + 1 - 1) = (k : Int) := by rw [IntKind.wrap_i64]; omega
      have v1 : IntKind.i64.wrap (k : Int) = (k : Int) := by rw [IntKind.wrap_i64]; omega
      have cA := hA.cell (k := k) (by omega)
      have cE := hE.cell (k := k + 1) (by omega)
      have fE := hE.free (k + 1)
      have hE3 := (hE.set (k := k + 1) (by omega) (a k)).same (fun j _ => shf_step a k j)
      have HE := Lib.hid hE3
      have HA := Lib.hid (hA.other ⟨w.heap.size + 1 + 1, k + 1, none⟩ (.int .i64 (a k)) (by simp; try omega))
      have HO := Lib.hid (hO.other ⟨w.heap.size + 1 + 1, k + 1, none⟩ (.int .i64 (a k)) (by simp; try omega))
      have HL := Lib.hid (hL.setCell (p := ⟨w.heap.size + 1 + 1, k + 1, none⟩) (by simp; omega) (.int .i64 (a k)))
      clear hA hO hE hL hE3
      generalize shf a k (k + 1) = y at cE
      go_wp2_with fail
      go_roundw
      case rel => exact ⟨k + 1, by omega, by go_num, HA.out, HO.out, HE.out, HL.out⟩
      case measure => simp [intOf]; omega
    · obtain rfl : k = 7 := by omega
      have b3 := ha 3 (by omega)
      have b7 := ha 7 (by omega)
      have cA := hA.cell (k := 7) (by omega)
      have c4 : _ = some (Value.int .i64 (a 3)) := hE.cell (k := 4) (by omega)
      have f4 := hE.free 4
      have hE4 := hE.set (k := 4) (by omega) (a 3 + a 7)
      have c0 : _ = some (Value.int .i64 0) := hE4.cell (k := 0) (by omega)
      have f0 := hE4.free 0
      have hE5 := (hE4.set (k := 0) (by omega) (-a 7)).same (shf_stp a)
      have hO5 := (hO.other ⟨w.heap.size + 1 + 1, 4, none⟩ (.int .i64 (a 3 + a 7)) (by simp)).other ⟨w.heap.size + 1 + 1, 0, none⟩ (.int .i64 (-a 7)) (by simp)
      have hA4 := hA.other ⟨w.heap.size + 1 + 1, 4, none⟩ (.int .i64 (a 3 + a 7)) (by simp; try omega)
      have cA4 := hA4.cell (k := 7) (by omega)
      have hL5 := (hL.setCell (p := ⟨w.heap.size + 1 + 1, 4, none⟩) (by simp; omega) (.int .i64 (a 3 + a 7))).setCell (p := ⟨w.heap.size + 1 + 1, 0, none⟩) (by simp; omega) (.int .i64 (-a 7))
      have HE := Lib.hid hE5
      have HO := Lib.hid hO5
      have HL := Lib.hid hL5
      clear hA hO hE hL hE4 hE5 hO5 hA4 hL5 ha
      generalize a 3 = x3 at *
      generalize a 7 = x7 at *
      go_upto_region 8 with fail
      go_wp2_with (first | (refine load_row (ty := 80) rfl rfl rfl HE.out Try.underlying80 rfl info_cyc ?_) | (refine store_row (ty := 80) rfl rfl rfl rfl HO.out info_cyc ?_))
      refine bodyPost_ret (results_row rfl rfl HO.out.setRow Try.underlying80 rfl info_cyc) rfl ?_
      exact ⟨rfl, below_setRow HL.out (by omega) _⟩
end Go.Proofs.Ytibhlaojinedoaa
