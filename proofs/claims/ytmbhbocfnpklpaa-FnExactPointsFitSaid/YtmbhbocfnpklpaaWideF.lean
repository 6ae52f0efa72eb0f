/-
  Contracts of PointsFit on both sides.
-/
import Derived.Test.YtmbhbocfnpklpaaWideX
import Derived.Deep.RegionHeld3
namespace Go.Proofs.Ytmbhbocfnpklpaa
set_option maxRecDepth 20000
open Go.ChangeShapes Go.WideShapes Go.ChangeAt Go.RowKit
set_option linter.unusedVariables false
set_option linter.unusedSimpArgs false

/-- What a point's two widths say of each other. -/
def fitb (a : Nat → Int) : Bool := compare (vsr a 8) (vwr a 8) == .eq && compare (vsi a 8) (vwi a 8) == .eq
theorem fit_eq {a : Nat → Int} (va : okc a = true) : ∃ p q, (∀ w, (convert 37 24 (cs (spr a 8) (spi a 8))).run Try.prog w = .ok (cw p q) w) ∧
    (∀ t w, (binOp .eql t (cw p q) (cw (wpr a 8) (wpi a 8))).run Try.prog w = .ok (.bool (fitb a)) w) := by
  obtain ⟨p, q, hp, hq, vp, vq⟩ := single_val va
  have hv := wide_val (okc_inR va) 8 (Nat.le_refl _)
  exact ⟨p, q, fun w => run_wider hp hq w, fun t w => run_ceq (order_val vp hv.1.1) (order_val vq hv.2.1) t w⟩
theorem PointsFit_no (a : Nat → Int) (va : okc a = false) (w : World) :
    Calls Try.prog 38 #[pt a] w fun e w' => e = .returned (.bool false) ∧ Below w.heap.size w w' := by
  have sa := vec_size 8 a
  have P : ∀ w, Calls Try.prog 54 #[pt a] w fun e w' => e = .returned (.tuple #[pt nul, .bool false]) ∧ Below w.heap.size w w' := fun w => exactOf_no a va w
  unfold pt at *
  go_enter Try.func38, Try.ntmps38
  go_wp2_with (refine load_row rfl rfl rfl (RowAt.newAt rfl rfl) Try.underlying30 rfl info_cyc ?_)
  refine (P _).mono ?_; rintro e w2 ⟨rfl, hb2⟩
  have hL2 := wb_next (wb_one _ _) hb2
  clear hb2 P
  go_upto_region 2 with (refine store_row rfl rfl rfl rfl (RowAt.newAt zero8 rfl) info_exact ?_)
  show Code.wp _ _ _ _ (sole w2 nul 68)
  have hL3 := sole_below hL2 nul 68
  clear hL2
  generalize sole w2 nul 68 = W at *
  refine wp_region_held_drew (S := fun w' => Below w.heap.size w w') (by kernel_rfl) hL3.drew (fun hHeld => ?_)
  clear hL3
  refine wpAnyH_take (i := 0) (oi := _) (v := .bool false) rfl (by kernel_rfl) (by kernel_rfl) (by kernel_rfl) (fun _ _ _ h => h) (Or.inl ⟨by rfl, fun w h => by go_simp⟩) hHeld ?_
  try simp only [Act.put, List.setIfInBounds_toArray, List.set_cons_zero, List.set_cons_succ, List.getElem_toArray, List.getElem_cons_succ, List.getElem_cons_zero]
  refine wpAnyH_take (i := 1) (oi := _) (v := .bool false) rfl (by kernel_rfl) (by kernel_rfl) (by kernel_rfl) (fun _ _ _ h => h) (Or.inl ⟨by rfl, fun w h => by go_simp⟩) hHeld ?_
  try simp only [Act.put, List.setIfInBounds_toArray, List.set_cons_zero, List.set_cons_succ, List.getElem_toArray, List.getElem_cons_succ, List.getElem_cons_zero]
  refine wpAnyH_take (i := 2) (oi := _) (v := undef) rfl (by kernel_rfl) (by kernel_rfl) (by kernel_rfl) (fun _ _ _ h => h) (Or.inr ⟨by rfl, rfl⟩) hHeld ?_
  try simp only [Act.put, List.setIfInBounds_toArray, List.set_cons_zero, List.set_cons_succ, List.getElem_toArray, List.getElem_cons_succ, List.getElem_cons_zero]
  refine wpAnyH_take (i := 3) (oi := _) (v := undef) rfl (by kernel_rfl) (by kernel_rfl) (by kernel_rfl) (fun _ _ _ h => h) (Or.inr ⟨by rfl, rfl⟩) hHeld ?_
  try simp only [Act.put, List.setIfInBounds_toArray, List.set_cons_zero, List.set_cons_succ, List.getElem_toArray, List.getElem_cons_succ, List.getElem_cons_zero]
  refine wpAnyH_take (i := 4) (oi := _) (v := undef) rfl (by kernel_rfl) (by kernel_rfl) (by kernel_rfl) (fun _ _ _ h => h) (Or.inr ⟨by rfl, rfl⟩) hHeld ?_
  try simp only [Act.put, List.setIfInBounds_toArray, List.set_cons_zero, List.set_cons_succ, List.getElem_toArray, List.getElem_cons_succ, List.getElem_cons_zero]
  refine wpAnyH_take (i := 5) (oi := _) (v := undef) rfl (by kernel_rfl) (by kernel_rfl) (by kernel_rfl) (fun _ _ _ h => h) (Or.inr ⟨by rfl, rfl⟩) hHeld ?_
  try simp only [Act.put, List.setIfInBounds_toArray, List.set_cons_zero, List.set_cons_succ, List.getElem_toArray, List.getElem_cons_succ, List.getElem_cons_zero]
  refine wpAnyH_take (i := 6) (oi := _) (v := undef) rfl (by kernel_rfl) (by kernel_rfl) (by kernel_rfl) (fun _ _ _ h => h) (Or.inr ⟨by rfl, rfl⟩) hHeld ?_
  try simp only [Act.put, List.setIfInBounds_toArray, List.set_cons_zero, List.set_cons_succ, List.getElem_toArray, List.getElem_cons_succ, List.getElem_cons_zero]
  refine wpAnyH_take (i := 7) (oi := _) (v := undef) rfl (by kernel_rfl) (by kernel_rfl) (by kernel_rfl) (fun _ _ _ h => h) (Or.inr ⟨by rfl, rfl⟩) hHeld ?_
  try simp only [Act.put, List.setIfInBounds_toArray, List.set_cons_zero, List.set_cons_succ, List.getElem_toArray, List.getElem_cons_succ, List.getElem_cons_zero]
  refine wpAnyH_take (i := 8) (oi := _) (v := .bool false) rfl (by kernel_rfl) (by kernel_rfl) (by kernel_rfl) (fun _ _ _ h => h) (Or.inl ⟨by rfl, fun w h => by go_simp⟩) hHeld ?_
  try simp only [Act.put, List.setIfInBounds_toArray, List.set_cons_zero, List.set_cons_succ, List.getElem_toArray, List.getElem_cons_succ, List.getElem_cons_zero]
  refine wpAnyH_take (i := 9) (oi := _) (v := .bool false) rfl (by kernel_rfl) (by kernel_rfl) (by kernel_rfl) (fun _ _ _ h => h) (Or.inl ⟨by rfl, fun w h => by go_simp⟩) hHeld ?_
  try simp only [Act.put, List.setIfInBounds_toArray, List.set_cons_zero, List.set_cons_succ, List.getElem_toArray, List.getElem_cons_succ, List.getElem_cons_zero]
  refine wpAnyH_done (by kernel_rfl) ?_ _
  go_wp2_with fail
  go_ret
  exact ⟨rfl, hHeld⟩
theorem PointsFit_yes (a : Nat → Int) (va : okc a = true) (w : World) :
    Calls Try.prog 38 #[pt a] w fun e w' => e = .returned (.bool (fitb a)) ∧ Below w.heap.size w w' := by
  have sa := vec_size 8 a
  have P : ∀ w, Calls Try.prog 54 #[pt a] w fun e w' => e = .returned (.tuple #[pt a, .bool true]) ∧ Below w.heap.size w w' := fun w => exactOf_yes a va w
  have M1 := fun w => singlePoint_any a (okc_inR va) w
  have M2 := fun w => widePoint_any a (okc_inR va) w
  obtain ⟨p, q, RC, RE⟩ := fit_eq va
  generalize fitb a = v at *
  generalize wpr a 8 = x1 at *
  generalize wpi a 8 = y1 at *
  generalize spr a 8 = x2 at *
  generalize spi a 8 = y2 at *
  unfold pt cw cs at *
  go_enter Try.func38, Try.ntmps38
  go_wp2_with (refine load_row rfl rfl rfl (RowAt.newAt rfl rfl) Try.underlying30 rfl info_cyc ?_)
  refine (P _).mono ?_; rintro e w2 ⟨rfl, hb2⟩
  have hL2 := wb_next (wb_one _ _) hb2
  clear hb2 P
  go_upto_region 2 with (refine store_row rfl rfl rfl rfl (RowAt.newAt zero8 rfl) info_exact ?_)
  show Code.wp _ _ _ _ (sole w2 a 68)
  have hA3 := sole_first w2 a 68
  have hL3 := sole_below hL2 a 68
  clear hL2
  generalize sole w2 a 68 = W at *
  generalize w2.heap.size = g at *
  refine wp_region_held_drew (S := fun w' => RowAt w' g 8 68 a ∧ Below w.heap.size w w') (by kernel_rfl) ⟨hA3.drew1, hL3.drew⟩ (fun hHeld => ?_)
  clear hA3 hL3
  refine wpAnyH_take (i := 0) (oi := _) (v := .bool true) rfl (by kernel_rfl) (by kernel_rfl) (by kernel_rfl) (fun _ _ _ h => h) (Or.inl ⟨by rfl, fun w h => by go_simp⟩) hHeld ?_
  try simp only [Act.put, List.setIfInBounds_toArray, List.set_cons_zero, List.set_cons_succ, List.getElem_toArray, List.getElem_cons_succ, List.getElem_cons_zero]
  refine wpAnyH_take (i := 1) (oi := _) (v := .bool true) rfl (by kernel_rfl) (by kernel_rfl) (by kernel_rfl) (fun _ _ _ h => h) (Or.inl ⟨by rfl, fun w h => by go_simp⟩) hHeld ?_
  try simp only [Act.put, List.setIfInBounds_toArray, List.set_cons_zero, List.set_cons_succ, List.getElem_toArray, List.getElem_cons_succ, List.getElem_cons_zero]
  refine wpAnyH_take (i := 2) (oi := _) (v := .agg (vec 8 a)) rfl (by kernel_rfl) (by kernel_rfl) (by kernel_rfl) (fun _ _ _ h => h) (yieldsIf_load_mid (by rfl) _ _ rfl _ _ rfl _ _ (fun w h => h.1.range) Try.underlying68 rfl (size_exact a)) hHeld ?_
  try simp only [Act.put, List.setIfInBounds_toArray, List.set_cons_zero, List.set_cons_succ, List.getElem_toArray, List.getElem_cons_succ, List.getElem_cons_zero]
  refine wpAnyH_take (i := 5) (oi := _) (v := .agg (vec 8 a)) rfl (by kernel_rfl) (by kernel_rfl) (by kernel_rfl) (fun _ _ _ h => h) (yieldsIf_load_mid (by rfl) _ _ rfl _ _ rfl _ _ (fun w h => h.1.range) Try.underlying68 rfl (size_exact a)) hHeld ?_
  try simp only [Act.put, List.setIfInBounds_toArray, List.set_cons_zero, List.set_cons_succ, List.getElem_toArray, List.getElem_cons_succ, List.getElem_cons_zero]
  refine wpAnyH_ready (rs := [3]) (by kernel_rfl) (by simp) ?_
  refine AllReadyH.cons (o := _) rfl (fun K hK => ?_) AllReadyH.nil
  go_simp
  refine (M1 _).mono ?_; rintro e w3 ⟨rfl, hb2⟩
  go_wp2_with fail
  obtain ⟨h1, h2⟩ := hHeld
  refine hK.out _ _ ⟨h1.below hb2, wb_next h2 hb2⟩ (fun hHeld => ?_)
  clear hK K h1 h2 hb2
  try simp only [Act.put, List.setIfInBounds_toArray, List.set_cons_zero, List.set_cons_succ, List.getElem_toArray, List.getElem_cons_succ, List.getElem_cons_zero]
  refine wpAnyH_take (i := 4) (oi := _) (v := .complex .f64 p q) rfl (by kernel_rfl) (by kernel_rfl) (by kernel_rfl) (fun _ _ _ h => h) (Or.inl ⟨by rfl, fun w h => by go_simp⟩) hHeld ?_
  try simp only [Act.put, List.setIfInBounds_toArray, List.set_cons_zero, List.set_cons_succ, List.getElem_toArray, List.getElem_cons_succ, List.getElem_cons_zero]
  refine wpAnyH_ready (rs := [6]) (by kernel_rfl) (by simp) ?_
  refine AllReadyH.cons (o := _) rfl (fun K hK => ?_) AllReadyH.nil
  go_simp
  refine (M2 _).mono ?_; rintro e w4 ⟨rfl, hb2⟩
  go_wp2_with fail
  obtain ⟨h1, h2⟩ := hHeld
  refine hK.out _ _ ⟨h1.below hb2, wb_next h2 hb2⟩ (fun hHeld => ?_)
  clear hK K h1 h2 hb2
  try simp only [Act.put, List.setIfInBounds_toArray, List.set_cons_zero, List.set_cons_succ, List.getElem_toArray, List.getElem_cons_succ, List.getElem_cons_zero]
  refine wpAnyH_take (i := 7) (oi := _) (v := .bool v) rfl (by kernel_rfl) (by kernel_rfl) (by kernel_rfl) (fun _ _ _ h => h) (Or.inl ⟨by rfl, fun w h => by go_simp⟩) hHeld ?_
  try simp only [Act.put, List.setIfInBounds_toArray, List.set_cons_zero, List.set_cons_succ, List.getElem_toArray, List.getElem_cons_succ, List.getElem_cons_zero]
  refine wpAnyH_take (i := 8) (oi := _) (v := .bool v) rfl (by kernel_rfl) (by kernel_rfl) (by kernel_rfl) (fun _ _ _ h => h) (Or.inl ⟨by rfl, fun w h => by go_simp⟩) hHeld ?_
  try simp only [Act.put, List.setIfInBounds_toArray, List.set_cons_zero, List.set_cons_succ, List.getElem_toArray, List.getElem_cons_succ, List.getElem_cons_zero]
  refine wpAnyH_take (i := 9) (oi := _) (v := .bool v) rfl (by kernel_rfl) (by kernel_rfl) (by kernel_rfl) (fun _ _ _ h => h) (Or.inl ⟨by rfl, fun w h => by go_simp⟩) hHeld ?_
  try simp only [Act.put, List.setIfInBounds_toArray, List.set_cons_zero, List.set_cons_succ, List.getElem_toArray, List.getElem_cons_succ, List.getElem_cons_zero]
  refine wpAnyH_done (by kernel_rfl) ?_ _
  go_wp2_with fail
  go_ret
  exact ⟨rfl, hHeld.2⟩
theorem PointsFit_any (a : Nat → Int) (w : World) :
    Calls Try.prog 38 #[pt a] w fun e w' => e = .returned (.bool (okc a && fitb a)) ∧ Below w.heap.size w w' := by
  cases va : okc a
  · exact PointsFit_no a va w
  · exact PointsFit_yes a va w
theorem specPointsFit_no (a : Nat → Int) (va : okc a = false) (w : World) :
    Calls Try.prog 40 #[pt a] w fun e w' => e = .returned (.bool false) ∧ Below w.heap.size w w' := by
  have sa := vec_size 8 a
  have M1 := fun w => specWidePoint_no a va w
  have M2 := fun w => specSinglePoint_no a va w
  unfold pt cw cs at *
  go_enter Try.func40, Try.ntmps40
  go_upto_region 1 with fail
  show Code.wp _ _ _ _ (box0 w a 30)
  obtain ⟨hA, hL⟩ := box0_facts w a 30
  generalize box0 w a 30 = W at *
  go_wp2_with (refine load_row rfl rfl rfl hA Try.underlying30 rfl info_cyc ?_)
  refine (M1 _).mono ?_; rintro e w2 ⟨rfl, hb2⟩
  have hA2 := hA.below hb2; have hL2 := wb_next hL hb2
  clear hb2 hA hL M1
  go_wp2_with (refine load_row rfl rfl rfl hA2 Try.underlying30 rfl info_cyc ?_)
  refine (M2 _).mono ?_; rintro e w3 ⟨rfl, hb2⟩
  have hL3 := wb_next hL2 hb2
  clear hb2 hA2 hL2 M2
  go_wp2_with fail
  go_ret
  exact ⟨rfl, hL3⟩
theorem specPointsFit_yes (a : Nat → Int) (va : okc a = true) (w : World) :
    Calls Try.prog 40 #[pt a] w fun e w' => e = .returned (.bool (fitb a)) ∧ Below w.heap.size w w' := by
  have sa := vec_size 8 a
  have M1 := fun w => specWidePoint_yes a va w
  have M2 := fun w => specSinglePoint_yes a va w
  obtain ⟨p, q, RC, RE⟩ := fit_eq va
  generalize fitb a = v at *
  generalize wpr a 8 = x1 at *
  generalize wpi a 8 = y1 at *
  generalize spr a 8 = x2 at *
  generalize spi a 8 = y2 at *
  unfold pt cw cs at *
  go_enter Try.func40, Try.ntmps40
  go_upto_region 1 with fail
  show Code.wp _ _ _ _ (box0 w a 30)
  obtain ⟨hA, hL⟩ := box0_facts w a 30
  generalize box0 w a 30 = W at *
  go_wp2_with (refine load_row rfl rfl rfl hA Try.underlying30 rfl info_cyc ?_)
  refine (M1 _).mono ?_; rintro e w2 ⟨rfl, hb2⟩
  have hA2 := hA.below hb2; have hL2 := wb_next hL hb2
  clear hb2 hA hL M1
  go_wp2_with (refine load_row rfl rfl rfl hA2 Try.underlying30 rfl info_cyc ?_)
  refine (M2 _).mono ?_; rintro e w3 ⟨rfl, hb2⟩
  have hL3 := wb_next hL2 hb2
  clear hb2 hA2 hL2 M2
  go_wp2_with (first | rw [RC] | rw [RE])
  go_ret
  exact ⟨rfl, hL3⟩
theorem specPointsFit_any (a : Nat → Int) (w : World) :
    Calls Try.prog 40 #[pt a] w fun e w' => e = .returned (.bool (okc a && fitb a)) ∧ Below w.heap.size w w' := by
  cases va : okc a
  · exact specPointsFit_no a va w
  · exact specPointsFit_yes a va w
theorem exactPointsFit_walk (a : Nat → Int) (w : World) : Calls Try.prog 14 #[pt a] w (Fine w) := by
  have sa := vec_size 8 a
  have SP := fun w => specPointsFit_any a w
  have IM := fun w => PointsFit_any a w
  generalize (okc a && fitb a) = v at *
  have hne : (v != v) = false := by cases v <;> rfl
  have P := fun w => toCyc_any a w
  unfold pt at *
  go_enter Try.func14, Try.ntmps14
  go_upto_region 1 with fail
  show Code.wp _ _ _ _ (box0 w a 56)
  obtain ⟨hA, hL⟩ := box0_facts w a 56
  generalize box0 w a 56 = W at *
  go_wp2_with (refine load_row rfl rfl rfl hA Try.underlying56 rfl info_law ?_)
  refine (P _).mono ?_; rintro e w2 ⟨rfl, hb2⟩
  have hA2 := hA.below hb2; have hL2 := wb_next hL hb2
  clear hb2 hA hL
  go_wp2_with fail
  refine (SP _).mono ?_; rintro e w3 ⟨rfl, hb2⟩
  have hA3 := hA2.below hb2; have hL3 := wb_next hL2 hb2
  clear hb2 SP hA2 hL2
  go_wp2_with (refine load_row rfl rfl rfl hA3 Try.underlying56 rfl info_law ?_)
  refine (P _).mono ?_; rintro e w4 ⟨rfl, hb2⟩
  have hL4 := wb_next hL3 hb2
  clear hb2 hA3 hL3 P
  go_wp2_with fail
  refine (IM _).mono ?_; rintro e w5 ⟨rfl, hb2⟩
  have hL5 := wb_next hL4 hb2
  clear hb2 IM hL4
  go_wp2_with fail
  go_ret
  exact ⟨rfl, hL5⟩
end Go.Proofs.Ytmbhbocfnpklpaa
