/-
  A polygon and a point out of a code.
-/
import Derived.Test.YtdpakhggpgdgbaaM28
import Derived.Test.YtdpakhggpgdgbaaM16
/- A polygon and a point out of a code. -/
namespace Go.Proofs.Ytdpakhggpgdgbaa
set_option maxRecDepth 20000
open Go.ChangeShapes Go.WideShapes Go.ChangeAt Go.RowKit
set_option linter.unusedVariables false
set_option linter.unusedSimpArgs false

/-- What a function hands back: a register and a row. -/
theorem results_tmp_row {P : Program} {fn : Func} {p q : Tmp} {ty : TypeId} {tmps : Array Value} {w : World} {g n : Nat} {T : TypeId} {f : Nat → Int} {d : TypeDesc} (h : fn.results = #[.tmp q, .cell p ty]) (hp : tmps.getD p undef = .pointer (some ⟨g, 0, none⟩)) (hg : RowAt w g n T f) (hu : P.underlying ty = some d)
    (hd : (match d with | .struct _ | .array _ _ => true | _ => false) = true) (hi : (P.info? ty).map (·.size) = some n) : (results fn tmps).run P w = .ok (.tuple #[tmps.getD q undef, .agg (vec n f)]) w := by
  have hp' : tmps[p]?.getD undef = .pointer (some ⟨g, 0, none⟩) := by simpa using hp
  simp [results, h, hp', asAddr, run_row hg hu hd hi, Sem.run_bind]
/-- A list stays where another block is written. -/
theorem own_setRow {w : World} {B T n K g : Nat} {v : Value} {cs : List Value} (h : w.ownsRow B T K v n cs) (hg : g < B) (xs : Array Value) : (w.setRow g xs).ownsRow B T K v n cs := by
  refine ⟨h.1, ?_⟩
  rcases h.2 with h0 | ⟨g', cap, cur, e, hB, hh, rest⟩
  · exact .inl h0
  · exact .inr ⟨g', cap, cur, e, hB, (setRow_other _ _ _ _ (by omega)).trans hh, rest⟩
theorem own_shapeB {w : World} {B T : Nat} {v : Value} {xs : List V} (h : OwnL encV 8 w B T v xs) (h1 : 1 ≤ xs.length) : ∃ g cap, v = .slice (some ⟨g, 0, none⟩) xs.length cap ∧ B ≤ g ∧ g < w.heap.size ∧ w.rangeAt g 0 (flt encV xs) := by
  obtain ⟨p, cap, e, h2, h3, h4, h5⟩ := ownL_reads h
  rcases h.2 with ⟨rfl, h0⟩ | ⟨g, cap2, cur, rfl, hB, hg, rest⟩
  · simp only [Value.slice.injEq] at e
    omega
  · simp only [Value.slice.injEq] at e
    obtain ⟨rfl, -, rfl⟩ := e
    obtain ⟨g', o', e2, hlt, hr⟩ := h5 (by simp)
    simp only [Option.some.injEq, Addr.mk.injEq, and_true] at e2
    obtain ⟨rfl, rfl⟩ := e2
    exact ⟨_, _, rfl, hB, hlt, hr⟩
/-- A polygon and a point out of a code. -/
def DrewPP (w : World) (e : Ending) (w' : World) : Prop := ∃ (v : Value) (xs : List V) (c : V), e = .returned (.tuple #[v, pt c.up]) ∧ xs.length ≤ 48 ∧ OwnL encV 8 w' w.heap.size 32 v xs ∧ Below w.heap.size w w'

set_option maxHeartbeats 4000000 in
theorem around_drawn (v : Value) (w : World) (hc : CodeAt w v) : Calls Try.prog 81 #[v] w (DrewPP w) := by
  have hQ : RowAt (w.alloc (.cells (vec 8 nul) 32)) w.heap.size 8 32 nul := RowAt.newAt rfl rfl
  have hL : Below w.heap.size w (w.alloc (.cells (vec 8 nul) 32)) := (Below.refl _ _).alloc (Nat.le_refl _) _
  have hz : w.heap.size < (w.alloc (.cells (vec 8 nul) 32)).heap.size := by simp
  have hv := hc.alloc (.cells (vec 8 nul) 32)
  go_enter Try.func81, Try.ntmps81
  go_upto_region 1 with fail
  show Code.wp _ _ _ _ (w.alloc (.cells (vec 8 nul) 32))
  generalize w.alloc (.cells (vec 8 nul) 32) = W at *
  have O := Lib.hid (open_any v W hv)
  clear hc hv
  go_wp2_with fail
  refine O.out.mono ?_; rintro e w1 ⟨rfl, hr, hb⟩
  have hQ := hQ.below hb
  have hL := below_next hL hb
  have D := Lib.hid (poly_owned _ _ w1 hr (by omega))
  have z1 := hr.lt
  have z0 := hb.size
  clear O hr hb
  generalize W.heap.size = R at *
  go_wp2_with fail
  refine D.out.mono ?_; rintro e w2 ⟨v2, xs, q, rfl, hq, hl, hr2, hg2, ho2⟩
  have hQ := hQ.only hg2 (by omega)
  have hL := below_only hL hg2 hL.size (by omega)
  clear D
  obtain ⟨p, cc, rfl⟩ : ∃ p cc, v2 = .slice p xs.length cc := by obtain ⟨p, cc, e, -⟩ := ownL_reads ho2; exact ⟨p, cc, e⟩
  have P6 := Lib.hid (pick_any R q 6 w2 hr2 (by omega) (by omega))
  have HQ2 := Lib.hid hQ; have HL2 := Lib.hid hL; have HO2 := Lib.hid ho2; have HR2 := Lib.hid hr2
  have hle2 : w1.heap.size ≤ w2.heap.size := hg2.size
  clear hQ hL ho2 hr2 hg2
  go_upto_region 3 with fail
  go_cut [17] from 6 (fun s17 wx => ∃ (q : Nat) (b : Bool), s17 = .bool b ∧ q ≤ 700 ∧ (b = true → 1 ≤ xs.length) ∧ Aside (Rd wx R q) ∧ Aside (OwnL encV 8 wx w1.heap.size 32 (.slice p xs.length cc) xs) ∧ Aside (RowAt wx w.heap.size 8 32 nul) ∧ Aside (Below w.heap.size w wx))
  case first =>
    by_cases hn : 0 < xs.length
    · have hnz : (0 : Int) < (xs.length : Int) := by omega
      have hne : ¬ xs = [] := by intro e; rw [e] at hn; simp at hn
      go_wp2_with fail
      refine P6.out.mono ?_; rintro e w3 ⟨k, rfl, k0, k1, hr3, hg3⟩
      have HR3 := Lib.hid hr3
      have HO3 := Lib.hid (rows_keptR HO2.out hg3 z1)
      have HQ3 := Lib.hid (HQ2.out.only hg3 (by omega))
      have HL3 := Lib.hid (below_only HL2.out hg3 HL2.out.size (by omega))
      clear P6 hr3 hg3 HR2 HO2 HQ2 HL2
      go_wp2
      go_meet
      case rel => exact ⟨q + 1, _, rfl, by omega, fun _ => hn, HR3, HO3, HQ3, HL3⟩
    · have he : xs = [] := List.length_eq_zero_iff.1 (by omega)
      subst he
      go_wp2
      go_meet
      case rel => exact ⟨q, false, rfl, by omega, fun e => (by cases e), HR2, HO2, HQ2, HL2⟩
  case rest =>
  clear P6 HQ2 HL2 HO2 HR2
  obtain ⟨q0, b, rfl, hq0, hb1, HR, HO, HQ, HL⟩ := hcut
  cases b with
  | true =>
    have hn := hb1 rfl
    have hnz : (0 : Int) < (xs.length : Int) := by omega
    obtain ⟨g, cap, e, hgB, hglt, hra⟩ := own_shapeB HO.out hn
    simp only [Value.slice.injEq, true_and] at e
    obtain ⟨rfl, rfl⟩ := e
    have hzz := HL.out.size
    have P4 := Lib.hid (pick_any R q0 xs.length wc.drew HR.out (by omega) (by omega))
    have HOd := Lib.hid (rows_below HO.out (Below.refl _ _).drew)
    have HQd := Lib.hid HQ.out.drew1
    have HLd := Lib.hid HL.out.drew
    have hrd : wc.drew.rangeAt g 0 (flt encV xs) := range_kept8 hra hglt (Below.refl _ _).drew
    have hsz : wc.drew.heap.size = wc.heap.size := rfl
    clear hra HO HQ HL HR hb1
    go_upto_region 4 with fail
    refine wp_region_held_drew (S := fun w' => w'.rangeAt g 0 (flt encV xs)) (by kernel_rfl) hrd (fun hHeld => ?_)
    clear hrd
    refine wpAnyH_take (i := 0) (oi := _) (v := .slice (some ⟨g, 0, none⟩) xs.length cc) rfl (by kernel_rfl) (by kernel_rfl) (by kernel_rfl) (fun _ _ _ h => h) (Or.inl ⟨by rfl, fun w h => by go_simp⟩) hHeld ?_
    try simp only [Act.put, List.setIfInBounds_toArray, List.set_cons_zero, List.set_cons_succ, List.getElem_toArray, List.getElem_cons_succ, List.getElem_cons_zero]
    refine wpAnyH_take (i := 1) (oi := _) (v := .slice (some ⟨g, 0, none⟩) xs.length cc) rfl (by kernel_rfl) (by kernel_rfl) (by kernel_rfl) (fun _ _ _ h => h) (Or.inl ⟨by rfl, fun w h => by go_simp⟩) hHeld ?_
    try simp only [Act.put, List.setIfInBounds_toArray, List.set_cons_zero, List.set_cons_succ, List.getElem_toArray, List.getElem_cons_succ, List.getElem_cons_zero]
    refine wpAnyH_take (i := 2) (oi := _) (v := .pointer (some ⟨R, 0, none⟩)) rfl (by kernel_rfl) (by kernel_rfl) (by kernel_rfl) (fun _ _ _ h => h) (Or.inl ⟨by rfl, fun w h => by go_simp⟩) hHeld ?_
    try simp only [Act.put, List.setIfInBounds_toArray, List.set_cons_zero, List.set_cons_succ, List.getElem_toArray, List.getElem_cons_succ, List.getElem_cons_zero]
    refine wpAnyH_take (i := 3) (oi := _) (v := .slice (some ⟨g, 0, none⟩) xs.length cc) rfl (by kernel_rfl) (by kernel_rfl) (by kernel_rfl) (fun _ _ _ h => h) (Or.inl ⟨by rfl, fun w h => by go_simp⟩) hHeld ?_
    try simp only [Act.put, List.setIfInBounds_toArray, List.set_cons_zero, List.set_cons_succ, List.getElem_toArray, List.getElem_cons_succ, List.getElem_cons_zero]
    refine wpAnyH_take (i := 4) (oi := _) (v := .int .i64 xs.length) rfl (by kernel_rfl) (by kernel_rfl) (by kernel_rfl) (fun _ _ _ h => h) (Or.inl ⟨by rfl, fun w h => by go_simp⟩) hHeld ?_
    try simp only [Act.put, List.setIfInBounds_toArray, List.set_cons_zero, List.set_cons_succ, List.getElem_toArray, List.getElem_cons_succ, List.getElem_cons_zero]
    refine wpAnyH_ready (rs := [5]) (by kernel_rfl) (by simp) ?_
    refine AllReadyH.cons (o := _) rfl (fun K hK => ?_) AllReadyH.nil
    go_simp
    refine P4.out.mono ?_; rintro e w4 ⟨k, rfl, k0, k1, hr4, hg4⟩
    obtain ⟨j, rfl⟩ : ∃ j : Nat, k = j := ⟨k.toNat, by omega⟩
    have hj : j < xs.length := by omega
    obtain ⟨a, hat⟩ : ∃ a, xs[j]? = some a := ⟨_, List.getElem?_eq_getElem hj⟩
    have hjz : (j : Int) < (xs.length : Int) := by omega
    have hO4 := rows_keptR HOd.out hg4 z1
    have hQ4 := HQd.out.only hg4 (by omega)
    have hL4 := below_only HLd.out hg4 (by rw [hsz]; exact hzz) (by omega)
    have hra4 : w4.rangeAt g 0 (flt encV xs) := fun i u hu => hg4.cell (hHeld i u hu) (by simp; omega)
    clear P4 HOd HQd HLd hg4 hr4 hHeld
    go_wp2_with fail
    refine hK.out _ _ hra4 (fun hHeld => ?_)
    clear hK K
    try simp only [Act.put, List.setIfInBounds_toArray, List.set_cons_zero, List.set_cons_succ, List.getElem_toArray, List.getElem_cons_succ, List.getElem_cons_zero]
    clear hra4
    refine wpAnyH_take (i := 8) (oi := _) (v := .slice (some ⟨g, 0, none⟩) xs.length cc) rfl (by kernel_rfl) (by kernel_rfl) (by kernel_rfl) (fun _ _ _ h => h) (Or.inl ⟨by rfl, fun w h => by go_simp⟩) hHeld ?_
    try simp only [Act.put, List.setIfInBounds_toArray, List.set_cons_zero, List.set_cons_succ, List.getElem_toArray, List.getElem_cons_succ, List.getElem_cons_zero]
    refine wpAnyH_take (i := 6) (oi := _) (v := .pointer (some ⟨g, j * 8, none⟩)) rfl (by kernel_rfl) (by kernel_rfl) (by kernel_rfl) (fun _ _ _ h => h) (Or.inl ⟨by rfl, fun w h => by go_simp⟩) hHeld ?_
    try simp only [Act.put, List.setIfInBounds_toArray, List.set_cons_zero, List.set_cons_succ, List.getElem_toArray, List.getElem_cons_succ, List.getElem_cons_zero]
    refine wpAnyH_take (i := 7) (oi := _) (v := .agg (vec 8 a.up)) rfl (by kernel_rfl) (by kernel_rfl) (by kernel_rfl) (fun _ _ _ h => h) (yieldsIf_load_mid (by rfl) _ _ rfl _ _ rfl _ _ ((fun w h => by have := cells_part encV_ok h hat; rwa [Nat.zero_add] at this)) Try.underlying32 rfl (size_cyc a.up)) hHeld ?_
    try simp only [Act.put, List.setIfInBounds_toArray, List.set_cons_zero, List.set_cons_succ, List.getElem_toArray, List.getElem_cons_succ, List.getElem_cons_zero]
    refine wpAnyH_ready (rs := [9]) (by kernel_rfl) (by simp) ?_
    refine AllReadyH.cons (o := _) rfl (fun K hK => ?_) AllReadyH.nil
    rw [if_pos (by rfl)]
    refine store_step (f' := a.up) rfl rfl rfl hQ4 info_cyc ?_
    have hO5 := own_setRow hO4 (g := w.heap.size) (by omega) (vec 8 a.up)
    have hQ5 := hQ4.setRow (f' := a.up)
    have hL5 := below_setRow hL4 (g := w.heap.size) (Nat.le_refl _) (vec 8 a.up)
    have hgne : g ≠ w.heap.size := by omega
    have hra5 : (w4.setRow w.heap.size (vec 8 a.up)).rangeAt g 0 (flt encV xs) := fun i u hu => (World.cell?_of_block (setRow_other _ _ _ _ hgne)).trans (hHeld i u hu)
    refine hK.out _ _ hra5 (fun hHeld => ?_)
    clear hK K
    try simp only [Act.put, List.setIfInBounds_toArray, List.set_cons_zero, List.set_cons_succ, List.getElem_toArray, List.getElem_cons_succ, List.getElem_cons_zero]
    clear hra5
    refine wpAnyH_done (by kernel_rfl) ?_ _
    go_wp2_with fail
    refine bodyPost_ret (results_tmp_row rfl rfl hQ5 Try.underlying32 rfl info_cyc) rfl ?_
    exact ⟨_, xs, a, rfl, hl, own_lower hO5 (by omega), hL5⟩
  | false =>
    clear hb1
    have P2 := Lib.hid (pick_any R q0 2 wc HR.out (by omega) (by omega))
    have hzz := HL.out.size
    clear HR
    go_wp2_with fail
    refine P2.out.mono ?_; rintro e w3 ⟨k, rfl, k0, k1, hr3, hg3⟩
    have HO3 := Lib.hid (rows_keptR HO.out hg3 z1)
    have HQ3 := Lib.hid (HQ.out.only hg3 (by omega))
    have HL3 := Lib.hid (below_only HL.out hg3 hzz (by omega))
    have hz3 := HL3.out.size
    clear P2 hg3 HO HQ HL
    by_cases e0 : k = 0
    · subst e0
      have P5 := Lib.hid (pick_any R (q0 + 1) 5 w3 hr3 (by omega) (by omega))
      clear hr3
      go_wp2_with fail
      refine P5.out.mono ?_; rintro e w4 ⟨k2, rfl, k20, k21, hr4, hg4⟩
      obtain ⟨u, hu⟩ : ∃ u : Int, k2 - 2 = u := ⟨_, rfl⟩
      have wu : IntKind.i64.wrap u = u := by rw [IntKind.wrap_i64]; omega
      have P7 := Lib.hid (pick_any R (q0 + 1 + 1) 5 w4 hr4 (by omega) (by omega))
      have HO4 := Lib.hid (rows_keptR HO3.out hg4 z1)
      have HQ4 := Lib.hid (HQ3.out.only hg4 (by omega))
      have HL4 := Lib.hid (below_only HL3.out hg4 hz3 (by omega))
      have hz4 := HL4.out.size
      clear P5 hr4 hg4 HO3 HQ3 HL3
      go_wp2_with fail
      refine P7.out.mono ?_; rintro e w5 ⟨k3, rfl, k30, k31, hr5, hg5⟩
      obtain ⟨x, hx⟩ : ∃ x : Int, k3 - 2 = x := ⟨_, rfl⟩
      have wx : IntKind.i64.wrap x = x := by rw [IntKind.wrap_i64]; omega
      have G := Lib.hid (gaussV u x w5)
      have HO5 := Lib.hid (rows_keptR HO4.out hg5 z1)
      have HQ5 := Lib.hid (HQ4.out.only hg5 (by omega))
      have HL5 := Lib.hid (below_only HL4.out hg5 hz4 (by omega))
      clear P7 hr5 hg5 HO4 HQ4 HL4
      go_wp2_with fail
      refine G.out.mono ?_; rintro e w6 ⟨rfl, hb6⟩
      have hO6 := rows_below HO5.out hb6
      have hQ6 := HQ5.out.below hb6
      have hL6 := below_next HL5.out hb6
      generalize dn (gau u x) = a at *
      clear G HO5 HQ5 HL5 hb6
      go_wp2_with (refine store_row (g := w.heap.size) rfl rfl rfl rfl hQ6 info_cyc ?_)
      refine bodyPost_ret (results_tmp_row rfl rfl (hQ6.setRow (f' := a.up)) Try.underlying32 rfl info_cyc) rfl ?_
      exact ⟨_, xs, a, rfl, hl, own_lower (own_setRow hO6 (g := w.heap.size) (by omega) _) (by omega), below_setRow hL6 (g := w.heap.size) (Nat.le_refl _) _⟩
    · have e0' : (k == 0) = false := by simpa using e0
      have C := Lib.hid (cycV_drawn R (q0 + 1) w3 hr3 (by omega))
      clear hr3
      go_wp2_with fail
      refine C.out.mono ?_; rintro e w4 ⟨a, q3, rfl, hq3, hr4, hg4⟩
      have hO6 := rows_keptR HO3.out hg4 z1
      have hQ6 := HQ3.out.only hg4 (by omega)
      have hL6 := below_only HL3.out hg4 hz3 (by omega)
      clear C hr4 hg4 HO3 HQ3 HL3
      go_wp2_with (refine store_row (g := w.heap.size) rfl rfl rfl rfl hQ6 info_cyc ?_)
      refine bodyPost_ret (results_tmp_row rfl rfl (hQ6.setRow (f' := a.up)) Try.underlying32 rfl info_cyc) rfl ?_
      exact ⟨_, xs, a, rfl, hl, own_lower (own_setRow hO6 (g := w.heap.size) (by omega) _) (by omega), below_setRow hL6 (g := w.heap.size) (Nat.le_refl _) _⟩

end Go.Proofs.Ytdpakhggpgdgbaa
