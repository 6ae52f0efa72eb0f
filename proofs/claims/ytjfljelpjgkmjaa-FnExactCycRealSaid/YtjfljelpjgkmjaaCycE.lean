/-
  Contracts of impl's calculations with exact points, fifth part: differences and real points.
-/
import Derived.Test.YtjfljelpjgkmjaaCycD
namespace Go.Proofs.Ytjfljelpjgkmjaa
set_option maxRecDepth 20000
open Go.ChangeShapes Go.WideShapes Go.ChangeAt Go.RowKit
set_option linter.unusedVariables false
set_option linter.unusedSimpArgs false

theorem size_exact (a : Nat → Int) : (Try.prog.info? 54).map (·.size) = some (lst 8 a).length := by rw [lst_length]; exact info_exact
theorem size_cycE (a : Nat → Int) : (Try.prog.info? 25).map (·.size) = some (lst 8 a).length := by rw [lst_length]; exact info_cyc

theorem less_any (a b : Nat → Int) (ha : InR a) (hb : InR b) (w : World) :
    Calls Try.prog 76 #[pt a, pt b] w fun e w' => e = .returned (pt (sub a b)) ∧ Below w.heap.size w w' := by
  have sa := vec_size 8 a
  have sb := vec_size 8 b
  have CS := fun w => scaled_any b (-1) (fun j hj => by have := hb j hj; simp only [tms]; omega) w
  have CP := fun w => plus_any a (scl (-1) b) (fun j hj => by have := ha j hj; omega) (fun j hj => by have := hb j hj; simp only [scl]; omega) w
  have es : pt (add a (scl (-1) b)) = pt (sub a b) := pt_same (fun j _ => by simp only [add, sub, scl]; omega)
  rw [es] at CP
  generalize scl (-1) b = b' at *
  clear es
  unfold pt at *
  go_enter Try.func76, Try.ntmps76
  go_upto_region 1 with fail
  show Code.wp _ _ _ _ (box2 w a b 54 54)
  obtain ⟨hA, hB, hO, hL⟩ := box2_facts w a b 54 54
  generalize box2 w a b 54 54 = W at *
  refine wp_region_held_drew (S := fun w' => RowAt w' w.heap.size 8 54 a ∧ RowAt w' (w.heap.size + 1) 8 54 b ∧ (∃ f, RowAt w' (w.heap.size + 1 + 1) 8 54 f) ∧ Below w.heap.size w w') (by kernel_rfl) ⟨hA.drew1, hB.drew1, ⟨_, hO.drew1⟩, hL.drew⟩ (fun hHeld => ?_)
  clear hA hB hO hL
  refine wpAnyH_take (i := 0) (oi := _) (v := .agg (vec 8 a)) rfl (by kernel_rfl) (by kernel_rfl) (by kernel_rfl) (fun _ _ _ h => h) (yieldsIf_load_mid (by rfl) _ _ rfl _ _ rfl _ _ (fun w h => h.1.range) Try.underlying54 rfl (size_exact a)) hHeld ?_
  try simp only [Act.put, List.setIfInBounds_toArray, List.set_cons_zero, List.set_cons_succ]
  refine wpAnyH_take (i := 1) (oi := _) (v := .agg (vec 8 b)) rfl (by kernel_rfl) (by kernel_rfl) (by kernel_rfl) (fun _ _ _ h => h) (yieldsIf_load_mid (by rfl) _ _ rfl _ _ rfl _ _ (fun w h => h.2.1.range) Try.underlying54 rfl (size_exact b)) hHeld ?_
  try simp only [Act.put, List.setIfInBounds_toArray, List.set_cons_zero, List.set_cons_succ]
  refine wpAnyH_ready (rs := [2]) (by kernel_rfl) (by simp) ?_
  refine AllReadyH.cons (o := _) rfl (fun K hK => ?_) AllReadyH.nil
  go_simp
  refine (CS _).mono ?_; rintro e w2 ⟨rfl, hb2⟩
  go_wp2_with fail
  obtain ⟨h1, h2, ⟨_, h3⟩, h4⟩ := hHeld
  refine hK.out _ _ ⟨h1.below hb2, h2.below hb2, ⟨_, h3.below hb2⟩, below_next h4 hb2⟩ (fun hHeld => ?_)
  clear hK K h1 h2 h3 h4 hb2
  try simp only [Act.put, List.setIfInBounds_toArray, List.set_cons_zero, List.set_cons_succ]
  refine wpAnyH_ready (rs := [3]) (by kernel_rfl) (by simp) ?_
  refine AllReadyH.cons (o := _) rfl (fun K hK => ?_) AllReadyH.nil
  go_simp
  refine (CP _).mono ?_; rintro e w3 ⟨rfl, hb2⟩
  go_wp2_with fail
  obtain ⟨h1, h2, ⟨_, h3⟩, h4⟩ := hHeld
  have k3 := h3.below hb2
  have k4 := below_next h4 hb2
  refine hK.out _ _ ⟨h1.below hb2, h2.below hb2, ⟨_, k3⟩, k4⟩ (fun hHeld => ?_)
  clear hK K h1 h2 h3 h4 hb2
  try simp only [Act.put, List.setIfInBounds_toArray, List.set_cons_zero, List.set_cons_succ]
  refine wpAnyH_ready (rs := [4]) (by kernel_rfl) (by simp) ?_
  refine AllReadyH.cons (o := _) rfl (fun K hK => ?_) AllReadyH.nil
  rw [if_pos (by rfl)]
  refine store_step rfl rfl rfl k3 info_exact ?_
  obtain ⟨h1, h2, _, _⟩ := hHeld
  have m3 := k3.setRow (f' := sub a b)
  have m4 := below_setRow k4 (g := w.heap.size + 1 + 1) (by omega) (vec 8 (sub a b))
  refine hK.out _ _ ⟨h1.rowOther _ _ (by omega), h2.rowOther _ _ (by omega), ⟨_, m3⟩, m4⟩ (fun hHeld => ?_)
  clear hK K
  try simp only [Act.put, List.setIfInBounds_toArray, List.set_cons_zero, List.set_cons_succ]
  refine wpAnyH_done (by kernel_rfl) ?_ _
  go_wp2_with fail
  refine bodyPost_ret (results_row rfl rfl m3 Try.underlying54 rfl info_exact) rfl ?_
  exact ⟨rfl, m4⟩

theorem isReal_any (a : Nat → Int) (ha : InR a) (w : World) :
    Calls Try.prog 79 #[pt a] w fun e w' => e = .returned (.bool (rl a)) ∧ Below w.heap.size w w' := by
  have sa := vec_size 8 a
  have CM := fun w => mirrored_any a ha w
  have EQ := fun w => equal_exact a (mir a) w
  rw [eqv_comm] at EQ
  have er : eqv 8 (mir a) a = rl a := rfl
  simp only [er] at EQ
  unfold pt at *
  go_enter Try.func79, Try.ntmps79
  go_upto_region 1 with fail
  show Code.wp _ _ _ _ (box0 w a 54)
  obtain ⟨hA, hL⟩ := box0_facts w a 54
  generalize box0 w a 54 = W at *
  refine wp_region_held_drew (S := fun w' => RowAt w' w.heap.size 8 54 a ∧ Below w.heap.size w w') (by kernel_rfl) ⟨hA.drew1, hL.drew⟩ (fun hHeld => ?_)
  clear hA hL
  refine wpAnyH_take (i := 0) (oi := _) (v := .agg (vec 8 a)) rfl (by kernel_rfl) (by kernel_rfl) (by kernel_rfl) (fun _ _ _ h => h) (yieldsIf_load_mid (by rfl) _ _ rfl _ _ rfl _ _ (fun w h => h.1.range) Try.underlying54 rfl (size_exact a)) hHeld ?_
  try simp only [Act.put, List.setIfInBounds_toArray, List.set_cons_zero, List.set_cons_succ]
  refine wpAnyH_take (i := 1) (oi := _) (v := .agg (vec 8 a)) rfl (by kernel_rfl) (by kernel_rfl) (by kernel_rfl) (fun _ _ _ h => h) (yieldsIf_load_mid (by rfl) _ _ rfl _ _ rfl _ _ (fun w h => h.1.range) Try.underlying54 rfl (size_exact a)) hHeld ?_
  try simp only [Act.put, List.setIfInBounds_toArray, List.set_cons_zero, List.set_cons_succ]
  refine wpAnyH_ready (rs := [2]) (by kernel_rfl) (by simp) ?_
  refine AllReadyH.cons (o := _) rfl (fun K hK => ?_) AllReadyH.nil
  go_simp
  refine (CM _).mono ?_; rintro e w2 ⟨rfl, hb2⟩
  go_wp2_with fail
  obtain ⟨h1, h4⟩ := hHeld
  refine hK.out _ _ ⟨h1.below hb2, below_next h4 hb2⟩ (fun hHeld => ?_)
  clear hK K h1 h4 hb2
  try simp only [Act.put, List.setIfInBounds_toArray, List.set_cons_zero, List.set_cons_succ]
  refine wpAnyH_ready (rs := [3]) (by kernel_rfl) (by simp) ?_
  refine AllReadyH.cons (o := _) rfl (fun K hK => ?_) AllReadyH.nil
  go_simp
  have hH := hHeld
  refine hK.out _ _ hHeld (fun hHeld => ?_)
  clear hK K
  try simp only [Act.put, List.setIfInBounds_toArray, List.set_cons_zero, List.set_cons_succ]
  refine wpAnyH_ready (rs := [4]) (by kernel_rfl) (by simp) ?_
  refine AllReadyH.cons (o := _) rfl (fun K hK => ?_) AllReadyH.nil
  go_simp
  refine hK.out _ _ hHeld (fun hHeld => ?_)
  clear hK K
  try simp only [Act.put, List.setIfInBounds_toArray, List.set_cons_zero, List.set_cons_succ]
  refine wpAnyH_done (by kernel_rfl) ?_ _
  go_wp2_with fail
  go_ret
  exact ⟨rfl, hHeld.2⟩
end Go.Proofs.Ytjfljelpjgkmjaa
