/-
  Contracts of impl's calculations with exact points, fifth part: differences and real points.
-/
import Derived.Test.YtcdlenphgenejaaCycD
namespace Go.Proofs.Ytcdlenphgenejaa
set_option maxRecDepth 20000
open Go.ChangeShapes Go.WideShapes Go.ChangeAt Go.RowKit
set_option linter.unusedVariables false
set_option linter.unusedSimpArgs false

theorem size_exact (a : Nat → Int) : (Try.prog.info? 68).map (·.size) = some (lst 8 a).length := by rw [lst_length]; exact info_exact
theorem size_cyc (a : Nat → Int) : (Try.prog.info? 34).map (·.size) = some (lst 8 a).length := by rw [lst_length]; exact info_cyc

theorem isReal_any (a : Nat → Int) (ha : InR a) (w : World) :
    Calls Try.prog 69 #[pt a] w fun e w' => e = .returned (.bool (rl a)) ∧ Below w.heap.size w w' := by
  have sa := vec_size 8 a
  have CM := fun w => mirrored_any a ha w
  have EQ := fun w => equal_exact a (mir a) w
  rw [eqv_comm] at EQ
  have er : eqv 8 (mir a) a = rl a := rfl
  simp only [er] at EQ
  unfold pt at *
  go_enter Try.func69, Try.ntmps69
  go_upto_region 1 with fail
  show Code.wp _ _ _ _ (box0 w a 68)
  obtain ⟨hA, hL⟩ := box0_facts w a 68
  generalize box0 w a 68 = W at *
  refine wp_region_held_drew (S := fun w' => RowAt w' w.heap.size 8 68 a ∧ Below w.heap.size w w') (by kernel_rfl) ⟨hA.drew1, hL.drew⟩ (fun hHeld => ?_)
  clear hA hL
  refine wpAnyH_take (i := 0) (oi := _) (v := .agg (vec 8 a)) rfl (by kernel_rfl) (by kernel_rfl) (by kernel_rfl) (fun _ _ _ h => h) (yieldsIf_load_mid (by rfl) _ _ rfl _ _ rfl _ _ (fun w h => h.1.range) Try.underlying68 rfl (size_exact a)) hHeld ?_
  try simp only [Act.put, List.setIfInBounds_toArray, List.set_cons_zero, List.set_cons_succ]
  refine wpAnyH_take (i := 1) (oi := _) (v := .agg (vec 8 a)) rfl (by kernel_rfl) (by kernel_rfl) (by kernel_rfl) (fun _ _ _ h => h) (yieldsIf_load_mid (by rfl) _ _ rfl _ _ rfl _ _ (fun w h => h.1.range) Try.underlying68 rfl (size_exact a)) hHeld ?_
  try simp only [Act.put, List.setIfInBounds_toArray, List.set_cons_zero, List.set_cons_succ]
  refine wpAnyH_ready (rs := [2]) (by kernel_rfl) (by simp) ?_
  refine AllReadyH.cons (o := _) rfl (fun K hK => ?_) AllReadyH.nil
  go_simp
  refine (CM _).mono ?_; rintro e w2 ⟨rfl, hb2⟩
  go_wp2_with fail
  obtain ⟨h1, h4⟩ := hHeld
  refine hK.out _ _ ⟨h1.below hb2, below_next h4 hb2⟩ (fun hHeld => ?_)
  clear hK K h1 h4 hb2
  try simp only [Act.put, List.setIfInBounds_toArray, List.set_cons_zero, List.set_cons_succ]
  refine wpAnyH_ready (rs := [3]) (by kernel_rfl) (by simp) ?_
  refine AllReadyH.cons (o := _) rfl (fun K hK => ?_) AllReadyH.nil
  go_simp
  have hH := hHeld
  refine hK.out _ _ hHeld (fun hHeld => ?_)
  clear hK K
  try simp only [Act.put, List.setIfInBounds_toArray, List.set_cons_zero, List.set_cons_succ]
  refine wpAnyH_ready (rs := [4]) (by kernel_rfl) (by simp) ?_
  refine AllReadyH.cons (o := _) rfl (fun K hK => ?_) AllReadyH.nil
  go_simp
  refine hK.out _ _ hHeld (fun hHeld => ?_)
  clear hK K
  try simp only [Act.put, List.setIfInBounds_toArray, List.set_cons_zero, List.set_cons_succ]
  refine wpAnyH_done (by kernel_rfl) ?_ _
  go_wp2_with fail
  go_ret
  exact ⟨rfl, hHeld.2⟩
end Go.Proofs.Ytcdlenphgenejaa
