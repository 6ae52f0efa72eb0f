/-
  impl: designs later.
-/
import Derived.Test.YtdbokcbbpegilaaM12
/- impl: designs later. -/
namespace Go.Proofs.Ytdbokcbbpegilaa
set_option maxRecDepth 20000
open Go.ChangeShapes Go.WideShapes Go.ChangeAt Go.RowKit
set_option linter.unusedVariables false
set_option linter.unusedSimpArgs false

set_option maxHeartbeats 1000000 in
theorem clater_any (c : Wh) (t : Nat) (ht : t ≤ 23) (hs : inS c.s = true) (hr : okv c.r = true) (w : World) :
    Calls Try.prog 63 #[wh c, .int .i64 t] w fun e w' => e = .returned (wh (laterW t c)) ∧ Below w.heap.size w w' := by
  have C := fun w => at_any c t ht hs hr w
  have e1 : wh (laterW t c) = wh ⟨c.s, dn (tV (tm t c.s) c.r).up⟩ := by rw [dn_up]; rfl
  rw [e1]
  clear e1 hs hr
  generalize tV (tm t c.s) c.r = r at *
  go_enter Try.func63, Try.ntmps63
  go_upto_region 1 with fail
  show Code.wp _ _ _ _ (boxC w c 9 72)
  obtain ⟨hA, hO, hL⟩ := boxC_facts w c 9 72
  generalize boxC w c 9 72 = W at *
  refine wp_region_held_drew (S := fun w' => RowAt w' w.heap.size 9 72 (wf c) ∧ (∃ f, RowAt w' (w.heap.size + 1) 9 72 f) ∧ Below w.heap.size w w') (by kernel_rfl) ⟨hA.drew1, ⟨_, hO.drew1⟩, hL.drew⟩ (fun hHeld => ?_)
  clear hA hO hL
  refine wpAnyH_take (i := 0) (oi := _) (v := .pointer (some ⟨w.heap.size, 0, none⟩)) rfl (by kernel_rfl) (by kernel_rfl) (by kernel_rfl) (fun _ _ _ h => h) (Or.inl ⟨by rfl, fun w h => by go_simp⟩) hHeld ?_
  try simp only [Act.put, List.setIfInBounds_toArray, List.set_cons_zero, List.set_cons_succ, List.getElem_toArray, List.getElem_cons_succ, List.getElem_cons_zero]
  refine wpAnyH_take (i := 1) (oi := _) (v := .int .i64 c.s) rfl (by kernel_rfl) (by kernel_rfl) (by kernel_rfl) (fun _ _ _ h => h) (Or.inl ⟨by rfl, fun w h => by have hcell := row_speed h.1; go_simp⟩) hHeld ?_
  try simp only [Act.put, List.setIfInBounds_toArray, List.set_cons_zero, List.set_cons_succ, List.getElem_toArray, List.getElem_cons_succ, List.getElem_cons_zero]
  refine wpAnyH_take (i := 2) (oi := _) (v := .agg (vec 9 (wf c))) rfl (by kernel_rfl) (by kernel_rfl) (by kernel_rfl) (fun _ _ _ h => h) (yieldsIf_load_mid (by rfl) _ _ rfl _ _ rfl _ _ ((fun w h => h.1.range)) Try.underlying72 rfl (size_circle c)) hHeld ?_
  try simp only [Act.put, List.setIfInBounds_toArray, List.set_cons_zero, List.set_cons_succ, List.getElem_toArray, List.getElem_cons_succ, List.getElem_cons_zero]
  refine wpAnyH_take (i := 3) (oi := _) (v := .int .i64 t) rfl (by kernel_rfl) (by kernel_rfl) (by kernel_rfl) (fun _ _ _ h => h) (Or.inl ⟨by rfl, fun w h => by go_simp⟩) hHeld ?_
  try simp only [Act.put, List.setIfInBounds_toArray, List.set_cons_zero, List.set_cons_succ, List.getElem_toArray, List.getElem_cons_succ, List.getElem_cons_zero]
  refine wpAnyH_ready (rs := [4]) (by kernel_rfl) (by simp) ?_
  refine AllReadyH.cons (o := _) rfl (fun K hK => ?_) AllReadyH.nil
  go_simp
  refine (C _).mono ?_; rintro e w1 ⟨rfl, hb1⟩
  go_wp2_with fail
  obtain ⟨h1, ⟨_, h2⟩, h3⟩ := hHeld
  refine hK.out _ _ ⟨h1.below hb1, ⟨_, h2.below hb1⟩, below_next h3 hb1⟩ (fun hHeld => ?_)
  clear hK K
  try simp only [Act.put, List.setIfInBounds_toArray, List.set_cons_zero, List.set_cons_succ, List.getElem_toArray, List.getElem_cons_succ, List.getElem_cons_zero]
  clear h1 h2 h3 hb1
  refine wpAnyH_take (i := 5) (oi := _) (v := wh ⟨c.s, dn r.up⟩) rfl (by kernel_rfl) (by kernel_rfl) (by kernel_rfl) (fun _ _ _ h => h) (Or.inl ⟨by rfl, fun w h => yields_build built_circle rfl rfl rfl⟩) hHeld ?_
  try simp only [Act.put, List.setIfInBounds_toArray, List.set_cons_zero, List.set_cons_succ, List.getElem_toArray, List.getElem_cons_succ, List.getElem_cons_zero]
  refine wpAnyH_ready (rs := [6]) (by kernel_rfl) (by simp) ?_
  refine AllReadyH.cons (o := _) rfl (fun K hK => ?_) AllReadyH.nil
  rw [if_pos (by rfl)]
  obtain ⟨h1, ⟨_, h2⟩, h3⟩ := hHeld
  refine store_step (f' := wf ⟨c.s, dn r.up⟩) rfl rfl rfl h2 info_circle ?_
  have hG := h2.setRow (f' := wf ⟨c.s, dn r.up⟩)
  have hF := below_setRow h3 (g := w.heap.size + 1) (by omega) (vec 9 (wf ⟨c.s, dn r.up⟩))
  refine hK.out _ _ ⟨h1.rowOther _ _ (by omega), ⟨_, hG⟩, hF⟩ (fun hHeld => ?_)
  clear hK K
  try simp only [Act.put, List.setIfInBounds_toArray, List.set_cons_zero, List.set_cons_succ, List.getElem_toArray, List.getElem_cons_succ, List.getElem_cons_zero]
  clear h1 h2 h3 hHeld
  refine wpAnyH_done (by kernel_rfl) ?_ _
  go_wp2_with fail
  refine bodyPost_ret (results_row rfl rfl hG Try.underlying72 rfl info_circle) rfl ?_
  exact ⟨rfl, hF⟩

theorem enters_later : ∀ args w, (callFunc 62 args).run Try.prog w = .ok (.enter 62 args) w := enters_of Try.func62 (by kernel_rfl) rfl
theorem laterBox (c : Wh) (t g : Nat) (ht : t ≤ 23) (hs : inS c.s = true) (hr : okv c.r = true) (w : World) (hg : w.cell? ⟨g, 0, none⟩ = some (.int .i64 t)) (hl : g < w.heap.size) :
    Calls Try.prog 62 #[wh c, .pointer (some ⟨g, 0, none⟩)] w fun e w' => e = .returned (wh (laterW t c)) ∧ Below w.heap.size w w' := by
  have C := fun w => clater_any c t ht hs hr w
  generalize laterW t c = d at *
  obtain ⟨hA, hO, hL⟩ := boxC_facts w c 9 72
  have hc := (hL.cell (p := ⟨g, 0, none⟩) hl).trans hg
  go_enter Try.func62, Try.ntmps62
  go_upto_region 1 with fail
  show Code.wp _ _ _ _ (boxC w c 9 72)
  generalize boxC w c 9 72 = W at *
  have HA := Lib.hid hA
  have HO := Lib.hid hO
  have HL := Lib.hid hL
  clear hA hO hL
  go_wp2_with (first | (refine load_row (ty := 72) rfl rfl rfl HA.out Try.underlying72 rfl info_circle ?_))
  refine (C _).mono ?_; rintro e w1 ⟨rfl, hb1⟩
  have HO1 := Lib.hid (HO.out.below hb1)
  have HL1 := Lib.hid (below_next HL.out hb1)
  clear hb1 C hc
  go_wp2_with (first | (refine store_row (ty := 72) rfl rfl rfl rfl HO1.out info_circle ?_))
  refine bodyPost_ret (results_row rfl rfl HO1.out.setRow Try.underlying72 rfl info_circle) rfl ?_
  exact ⟨rfl, below_setRow HL1.out (by omega) _⟩

set_option maxHeartbeats 1000000 in
theorem DesignLater_yes (v : Value) (t : Nat) (ht : t ≤ 23) (ws : List Wh) (w : World) (hv : Reads w v ws) : Calls Try.prog 21 #[v, .int .i64 t] w (Told w (dOf (laterW t) ws)) := by
  have C := changedDesign_any 62 #[.pointer (some ⟨w.heap.size, 0, none⟩)] (laterW t) v ws (w.alloc (.cells #[.int .i64 t] 3)) (reads_box hv _) enters_later fun c h3 h4 =>
    ⟨big_tV h4 (tm_lt t c.s), fun w' hb => laterBox c t w.heap.size ht h3 h4 w' ((hb.cell (p := ⟨w.heap.size, 0, none⟩) (by simp)).trans (box_cell w _)) (by have := hb.size; simp at this; omega)⟩
  generalize dOf (laterW t) ws = o at *
  have C := Lib.hid C
  have I := fun w => isTurn_yes (t : Int) (by omega) (by omega) w
  clear hv
  go_enter Try.func21, Try.ntmps21
  go_wp2_with fail
  refine (I _).mono ?_; rintro e w1 ⟨rfl, rfl⟩
  clear I
  go_wp2_with fail
  refine C.out.mono ?_; intro e w1 hT
  obtain ⟨hb1, v1, rfl, ho1⟩ := told_box hT
  have H := Lib.hid (show Told w o (.returned (.tuple #[v1, .bool o.isSome])) w1 from ⟨hb1, v1, rfl, ho1⟩)
  clear C hb1 ho1 hT
  go_wp2
  go_ret2
  exact H.out

end Go.Proofs.Ytdbokcbbpegilaa
