/-
  How spec draws surds.
-/
import Derived.Test.YtcdlenphgenejaaSurdE
import Derived.Test.YtcdlenphgenejaaDrawCyc
namespace Go.Proofs.Ytcdlenphgenejaa
set_option maxRecDepth 20000
open Go.ChangeShapes Go.WideShapes Go.ChangeAt Go.RowKit
set_option linter.unusedVariables false
set_option linter.unusedSimpArgs false

/-- The surds that are drawn. -/
def Shape (a : Nat → Int) : Prop :=
  a = f4 99 (-70) 0 0 ∨ (∃ k : Int, 0 ≤ k ∧ k < 3 ∧ a = f4 0 (-56) 97 (-28 + k)) ∨ a = f4 10000001 0 0 0 ∨ a = f4 0 0 0 0 ∨
    ∃ x y z u : Int, (0 ≤ x ∧ x < 41) ∧ (0 ≤ y ∧ y < 21) ∧ (0 ≤ z ∧ z < 21) ∧ (0 ≤ u ∧ u < 21) ∧ a = f4 (x - 20) (y - 10) (z - 10) (u - 10)
/-- A surd drawn from a reader: at most c picks; only the reader's block turns. -/
def DrewSd (w : World) (R p c : Nat) (e : Ending) (w' : World) : Prop :=
  ∃ (a : Nat → Int) (q : Nat), e = .returned (p4 a) ∧ Shape a ∧ q ≤ p + c ∧ Rd w' R q ∧ w.grownBy w' (some R)
set_option maxHeartbeats 1000000 in
theorem surd_drawn (R p : Nat) (w : World) (h : Rd w R p) (hp : p ≤ 900000) :
    Calls Try.prog 49 #[.pointer (some ⟨R, 0, none⟩)] w (DrewSd w R p 20) := by
  have hlt := h.lt
  have hO : RowAt (w.alloc (.cells (vec 4 nul) 24)) w.heap.size 4 24 nul := RowAt.newAt rfl rfl
  have hR := h.alloc (.cells (vec 4 nul) 24)
  have hg := World.grownBy_alloc w (.cells (vec 4 nul) 24) (some R)
  go_enter Try.func49, Try.ntmps49
  go_upto_region 1 with fail
  show Code.wp _ _ _ _ (w.alloc (.cells (vec 4 nul) 24))
  generalize w.alloc (.cells (vec 4 nul) 24) = W at *
  have P1 := Lib.hid (pick_any R p 12 W hR (by omega) (by omega))
  clear h
  go_wp2_with fail
  refine P1.out.mono ?_; rintro e w1 ⟨k, rfl, k0, k1, hr1, hg1⟩
  have hO := hO.only hg1 (by omega)
  have hg := only_trans' hg hg1
  clear P1 hR hg1
  by_cases e0 : k = 0
  · subst e0
    go_wp2_with (refine store_row rfl rfl rfl (show _ = Value.agg (vec 4 (f4 99 (-70) 0 0)) from rfl) hO info_surd ?_)
    refine bodyPost_ret (results_row rfl rfl hO.setRow Try.underlying24 rfl info_surd) rfl ?_
    exact ⟨_, _, rfl, .inl rfl, by omega, hr1.setRow hlt _, only_setRow hg (Nat.le_refl _) _⟩
  have e0' : (k == 0) = false := by simpa using e0
  by_cases e1 : k = 1
  · subst e1
    have P2 := Lib.hid (pick_any R (p + 1) 3 w1 hr1 (by omega) (by omega))
    go_wp2_with fail
    refine P2.out.mono ?_; rintro e w2 ⟨r, rfl, r0, r1, hr2, hg2⟩
    have hO := hO.only hg2 (by omega)
    have hg := only_trans' hg hg2
    clear P2 hr1 hg2
    go_wp2_with (refine store_row rfl rfl rfl (show _ = Value.agg (vec 4 (f4 0 (-56) 97 (-28 + r))) from rfl) hO info_surd ?_)
    refine bodyPost_ret (results_row rfl rfl hO.setRow Try.underlying24 rfl info_surd) rfl ?_
    exact ⟨_, _, rfl, .inr (.inl ⟨r, r0, r1, rfl⟩), by omega, hr2.setRow hlt _, only_setRow hg (Nat.le_refl _) _⟩
  have e1' : (k == 1) = false := by simpa using e1
  by_cases e2 : k = 2
  · subst e2
    go_wp2_with (refine store_row rfl rfl rfl (show _ = Value.agg (vec 4 (f4 10000001 0 0 0)) from rfl) hO info_surd ?_)
    refine bodyPost_ret (results_row rfl rfl hO.setRow Try.underlying24 rfl info_surd) rfl ?_
    exact ⟨_, _, rfl, .inr (.inr (.inl rfl)), by omega, hr1.setRow hlt _, only_setRow hg (Nat.le_refl _) _⟩
  have e2' : (k == 2) = false := by simpa using e2
  by_cases e3 : k = 3
  · subst e3
    go_wp2_with (refine store_row rfl rfl rfl (show _ = Value.agg (vec 4 (f4 0 0 0 0)) from rfl) hO info_surd ?_)
    refine bodyPost_ret (results_row rfl rfl hO.setRow Try.underlying24 rfl info_surd) rfl ?_
    exact ⟨_, _, rfl, .inr (.inr (.inr (.inl rfl))), by omega, hr1.setRow hlt _, only_setRow hg (Nat.le_refl _) _⟩
  have e3' : (k == 3) = false := by simpa using e3
  have P2 := Lib.hid (pick_any R (p + 1) 41 w1 hr1 (by omega) (by omega))
  go_wp2_with fail
  refine P2.out.mono ?_; rintro e w2 ⟨x, rfl, x0, x1, hr2, hg2⟩
  have hO := hO.only hg2 (by omega)
  have hg := only_trans' hg hg2
  clear P2 hr1 hg2
  have P3 := Lib.hid (pick_any R (p + 1 + 1) 21 w2 hr2 (by omega) (by omega))
  go_wp2_with fail
  refine P3.out.mono ?_; rintro e w3 ⟨y, rfl, y0, y1, hr3, hg3⟩
  have hO := hO.only hg3 (by omega)
  have hg := only_trans' hg hg3
  clear P3 hr2 hg3
  have P4 := Lib.hid (pick_any R (p + 1 + 1 + 1) 21 w3 hr3 (by omega) (by omega))
  go_wp2_with fail
  refine P4.out.mono ?_; rintro e w4 ⟨z, rfl, z0, z1, hr4, hg4⟩
  have hO := hO.only hg4 (by omega)
  have hg := only_trans' hg hg4
  clear P4 hr3 hg4
  have P5 := Lib.hid (pick_any R (p + 1 + 1 + 1 + 1) 21 w4 hr4 (by omega) (by omega))
  go_wp2_with fail
  refine P5.out.mono ?_; rintro e w5 ⟨u, rfl, u0, u1, hr5, hg5⟩
  have hO := hO.only hg5 (by omega)
  have hg := only_trans' hg hg5
  clear P5 hr4 hg5
  go_wp2_with (refine store_row rfl rfl rfl (show _ = Value.agg (vec 4 (f4 (x - 20) (y - 10) (z - 10) (u - 10))) from rfl) hO info_surd ?_)
  refine bodyPost_ret (results_row rfl rfl hO.setRow Try.underlying24 rfl info_surd) rfl ?_
  exact ⟨_, _, rfl, .inr (.inr (.inr (.inr ⟨x, y, z, u, ⟨x0, x1⟩, ⟨y0, y1⟩, ⟨z0, z1⟩, ⟨u0, u1⟩, rfl⟩))), by omega, hr5.setRow hlt _, only_setRow hg (Nat.le_refl _) _⟩
def DrewSurd (w : World) (e : Ending) (w' : World) : Prop := ∃ a : Nat → Int, e = .returned (p4 a) ∧ Shape a ∧ Below w.heap.size w w'
def DrewSurds (w : World) (e : Ending) (w' : World) : Prop := ∃ a b : Nat → Int, e = .returned (.tuple #[p4 a, p4 b]) ∧ Below w.heap.size w w'
theorem drawSurdValid (v : Value) (w : World) (hc : CodeAt w v) : Calls Try.prog 15 #[v] w (DrewSurd w) := by
  have hO : RowAt (w.alloc (.cells (vec 4 nul) 24)) w.heap.size 4 24 nul := RowAt.newAt rfl rfl
  have hz : w.heap.size < (w.alloc (.cells (vec 4 nul) 24)).heap.size := by simp
  have hL : Below w.heap.size w (w.alloc (.cells (vec 4 nul) 24)) := (Below.refl _ _).alloc (Nat.le_refl _) _
  have hv := hc.alloc (.cells (vec 4 nul) 24)
  go_enter Try.func15, Try.ntmps15
  go_upto_region 1 with fail
  show Code.wp _ _ _ _ (w.alloc (.cells (vec 4 nul) 24))
  generalize w.alloc (.cells (vec 4 nul) 24) = W at *
  have O := Lib.hid (open_any v W hv)
  clear hc hv
  go_wp2_with fail
  refine O.out.mono ?_; rintro e w1 ⟨rfl, hr, hb⟩
  have hO := hO.below hb
  have hL := below_next hL hb
  have z0 := hL.size
  have zb := hb.size
  have D := Lib.hid (surd_drawn _ _ w1 hr (by omega))
  clear O hr
  go_wp2_with fail
  refine D.out.mono ?_; rintro e w2 ⟨a, q, rfl, hsha, hq, hr2, hg2⟩
  have hO := hO.only hg2 (by omega)
  have hL := below_only hL hg2 z0 (by omega)
  clear D
  go_wp2_with (refine store_row rfl rfl rfl rfl hO info_surd ?_)
  refine bodyPost_ret (results_row rfl rfl hO.setRow Try.underlying24 rfl info_surd) rfl ?_
  exact ⟨_, rfl, hsha, below_setRow hL (Nat.le_refl _) _⟩

theorem drawSurdSign (v : Value) (w : World) (hc : CodeAt w v) : Calls Try.prog 35 #[v] w (DrewSurd w) := by
  have hO : RowAt (w.alloc (.cells (vec 4 nul) 24)) w.heap.size 4 24 nul := RowAt.newAt rfl rfl
  have hz : w.heap.size < (w.alloc (.cells (vec 4 nul) 24)).heap.size := by simp
  have hL : Below w.heap.size w (w.alloc (.cells (vec 4 nul) 24)) := (Below.refl _ _).alloc (Nat.le_refl _) _
  have hv := hc.alloc (.cells (vec 4 nul) 24)
  go_enter Try.func35, Try.ntmps35
  go_upto_region 1 with fail
  show Code.wp _ _ _ _ (w.alloc (.cells (vec 4 nul) 24))
  generalize w.alloc (.cells (vec 4 nul) 24) = W at *
  have O := Lib.hid (open_any v W hv)
  clear hc hv
  go_wp2_with fail
  refine O.out.mono ?_; rintro e w1 ⟨rfl, hr, hb⟩
  have hO := hO.below hb
  have hL := below_next hL hb
  have z0 := hL.size
  have zb := hb.size
  have D := Lib.hid (surd_drawn _ _ w1 hr (by omega))
  clear O hr
  go_wp2_with fail
  refine D.out.mono ?_; rintro e w2 ⟨a, q, rfl, hsha, hq, hr2, hg2⟩
  have hO := hO.only hg2 (by omega)
  have hL := below_only hL hg2 z0 (by omega)
  clear D
  go_wp2_with (refine store_row rfl rfl rfl rfl hO info_surd ?_)
  refine bodyPost_ret (results_row rfl rfl hO.setRow Try.underlying24 rfl info_surd) rfl ?_
  exact ⟨_, rfl, hsha, below_setRow hL (Nat.le_refl _) _⟩

theorem drawSurdWhole (v : Value) (w : World) (hc : CodeAt w v) : Calls Try.prog 43 #[v] w (DrewSurd w) := by
  have hO : RowAt (w.alloc (.cells (vec 4 nul) 24)) w.heap.size 4 24 nul := RowAt.newAt rfl rfl
  have hz : w.heap.size < (w.alloc (.cells (vec 4 nul) 24)).heap.size := by simp
  have hL : Below w.heap.size w (w.alloc (.cells (vec 4 nul) 24)) := (Below.refl _ _).alloc (Nat.le_refl _) _
  have hv := hc.alloc (.cells (vec 4 nul) 24)
  go_enter Try.func43, Try.ntmps43
  go_upto_region 1 with fail
  show Code.wp _ _ _ _ (w.alloc (.cells (vec 4 nul) 24))
  generalize w.alloc (.cells (vec 4 nul) 24) = W at *
  have O := Lib.hid (open_any v W hv)
  clear hc hv
  go_wp2_with fail
  refine O.out.mono ?_; rintro e w1 ⟨rfl, hr, hb⟩
  have hO := hO.below hb
  have hL := below_next hL hb
  have z0 := hL.size
  have zb := hb.size
  have D := Lib.hid (surd_drawn _ _ w1 hr (by omega))
  clear O hr
  go_wp2_with fail
  refine D.out.mono ?_; rintro e w2 ⟨a, q, rfl, hsha, hq, hr2, hg2⟩
  have hO := hO.only hg2 (by omega)
  have hL := below_only hL hg2 z0 (by omega)
  clear D
  go_wp2_with (refine store_row rfl rfl rfl rfl hO info_surd ?_)
  refine bodyPost_ret (results_row rfl rfl hO.setRow Try.underlying24 rfl info_surd) rfl ?_
  exact ⟨_, rfl, hsha, below_setRow hL (Nat.le_refl _) _⟩

theorem drawSurdRe (v : Value) (w : World) (hc : CodeAt w v) : Calls Try.prog 20 #[v] w (DrewOne w) := by
  have hO : RowAt (w.alloc (.cells (vec 8 nul) 34)) w.heap.size 8 34 nul := RowAt.newAt rfl rfl
  have hz : w.heap.size < (w.alloc (.cells (vec 8 nul) 34)).heap.size := by simp
  have hL : Below w.heap.size w (w.alloc (.cells (vec 8 nul) 34)) := (Below.refl _ _).alloc (Nat.le_refl _) _
  have hv := hc.alloc (.cells (vec 8 nul) 34)
  go_enter Try.func20, Try.ntmps20
  go_upto_region 1 with fail
  show Code.wp _ _ _ _ (w.alloc (.cells (vec 8 nul) 34))
  generalize w.alloc (.cells (vec 8 nul) 34) = W at *
  have O := Lib.hid (open_any v W hv)
  clear hc hv
  go_wp2_with fail
  refine O.out.mono ?_; rintro e w1 ⟨rfl, hr, hb⟩
  have hO := hO.below hb
  have hL := below_next hL hb
  have z0 := hL.size
  have zb := hb.size
  have D := Lib.hid (cyc_drawn _ _ w1 hr (by omega))
  clear O hr
  go_wp2_with fail
  refine D.out.mono ?_; rintro e w2 ⟨a, q, rfl, hq, hr2, hg2⟩
  have hO := hO.only hg2 (by omega)
  have hL := below_only hL hg2 z0 (by omega)
  clear D
  go_wp2_with (refine store_row rfl rfl rfl rfl hO info_cyc ?_)
  refine bodyPost_ret (results_row rfl rfl hO.setRow Try.underlying34 rfl info_cyc) rfl ?_
  exact ⟨_, rfl, below_setRow hL (Nat.le_refl _) _⟩

theorem drawSurdIm (v : Value) (w : World) (hc : CodeAt w v) : Calls Try.prog 26 #[v] w (DrewOne w) := by
  have hO : RowAt (w.alloc (.cells (vec 8 nul) 34)) w.heap.size 8 34 nul := RowAt.newAt rfl rfl
  have hz : w.heap.size < (w.alloc (.cells (vec 8 nul) 34)).heap.size := by simp
  have hL : Below w.heap.size w (w.alloc (.cells (vec 8 nul) 34)) := (Below.refl _ _).alloc (Nat.le_refl _) _
  have hv := hc.alloc (.cells (vec 8 nul) 34)
  go_enter Try.func26, Try.ntmps26
  go_upto_region 1 with fail
  show Code.wp _ _ _ _ (w.alloc (.cells (vec 8 nul) 34))
  generalize w.alloc (.cells (vec 8 nul) 34) = W at *
  have O := Lib.hid (open_any v W hv)
  clear hc hv
  go_wp2_with fail
  refine O.out.mono ?_; rintro e w1 ⟨rfl, hr, hb⟩
  have hO := hO.below hb
  have hL := below_next hL hb
  have z0 := hL.size
  have zb := hb.size
  have D := Lib.hid (cyc_drawn _ _ w1 hr (by omega))
  clear O hr
  go_wp2_with fail
  refine D.out.mono ?_; rintro e w2 ⟨a, q, rfl, hq, hr2, hg2⟩
  have hO := hO.only hg2 (by omega)
  have hL := below_only hL hg2 z0 (by omega)
  clear D
  go_wp2_with (refine store_row rfl rfl rfl rfl hO info_cyc ?_)
  refine bodyPost_ret (results_row rfl rfl hO.setRow Try.underlying34 rfl info_cyc) rfl ?_
  exact ⟨_, rfl, below_setRow hL (Nat.le_refl _) _⟩

theorem drawSurdNorm (v : Value) (w : World) (hc : CodeAt w v) : Calls Try.prog 40 #[v] w (DrewOne w) := by
  have hO : RowAt (w.alloc (.cells (vec 8 nul) 34)) w.heap.size 8 34 nul := RowAt.newAt rfl rfl
  have hz : w.heap.size < (w.alloc (.cells (vec 8 nul) 34)).heap.size := by simp
  have hL : Below w.heap.size w (w.alloc (.cells (vec 8 nul) 34)) := (Below.refl _ _).alloc (Nat.le_refl _) _
  have hv := hc.alloc (.cells (vec 8 nul) 34)
  go_enter Try.func40, Try.ntmps40
  go_upto_region 1 with fail
  show Code.wp _ _ _ _ (w.alloc (.cells (vec 8 nul) 34))
  generalize w.alloc (.cells (vec 8 nul) 34) = W at *
  have O := Lib.hid (open_any v W hv)
  clear hc hv
  go_wp2_with fail
  refine O.out.mono ?_; rintro e w1 ⟨rfl, hr, hb⟩
  have hO := hO.below hb
  have hL := below_next hL hb
  have z0 := hL.size
  have zb := hb.size
  have D := Lib.hid (cyc_drawn _ _ w1 hr (by omega))
  clear O hr
  go_wp2_with fail
  refine D.out.mono ?_; rintro e w2 ⟨a, q, rfl, hq, hr2, hg2⟩
  have hO := hO.only hg2 (by omega)
  have hL := below_only hL hg2 z0 (by omega)
  clear D
  go_wp2_with (refine store_row rfl rfl rfl rfl hO info_cyc ?_)
  refine bodyPost_ret (results_row rfl rfl hO.setRow Try.underlying34 rfl info_cyc) rfl ?_
  exact ⟨_, rfl, below_setRow hL (Nat.le_refl _) _⟩

set_option maxHeartbeats 800000 in
theorem surds_drawn (v : Value) (w : World) (hc : CodeAt w v) : Calls Try.prog 70 #[v] w (DrewSurds w) := by
  have hO := pair_first4 w 24
  have hQ : RowAt ((w.alloc (.cells (vec 4 nul) 24)).alloc (.cells (vec 4 nul) 24)) (w.heap.size + 1) 4 24 nul := RowAt.newAt rfl (by simp)
  have hz : w.heap.size + 1 < ((w.alloc (.cells (vec 4 nul) 24)).alloc (.cells (vec 4 nul) 24)).heap.size := by simp
  have hL : Below w.heap.size w ((w.alloc (.cells (vec 4 nul) 24)).alloc (.cells (vec 4 nul) 24)) := ((Below.refl _ _).alloc (Nat.le_refl _) _).alloc (by simp) _
  have hv := (hc.alloc (.cells (vec 4 nul) 24)).alloc (.cells (vec 4 nul) 24)
  go_enter Try.func70, Try.ntmps70
  go_upto_region 1 with fail
  show Code.wp _ _ _ _ ((w.alloc (.cells (vec 4 nul) 24)).alloc (.cells (vec 4 nul) 24))
  generalize (w.alloc (.cells (vec 4 nul) 24)).alloc (.cells (vec 4 nul) 24) = W at *
  have O := Lib.hid (open_any v W hv)
  clear hc hv
  go_wp2_with fail
  refine O.out.mono ?_; rintro e w1 ⟨rfl, hr, hb⟩
  have hO := hO.below hb
  have hQ := hQ.below hb
  have hL := below_next hL hb
  have z0 := hL.size
  have D := Lib.hid (surd_drawn _ _ w1 hr (by omega))
  clear O hr hb
  generalize W.heap.size = R at *
  go_wp2_with fail
  refine D.out.mono ?_; rintro e w2 ⟨a, q, rfl, hsha, hq, hr2, hg2⟩
  have hO := hO.only hg2 (by omega)
  have hQ := hQ.only hg2 (by omega)
  have hL := below_only hL hg2 z0 (by omega)
  have z2 := hL.size
  have zr := hr2.lt
  have zq := hQ.lt
  clear D hg2
  go_upto_region 3 with (refine store_row rfl rfl rfl rfl (RowAt.newAt zero4 rfl) info_surd ?_)
  show Code.wp _ _ _ _ (sole4 w2 a 24)
  have hO := sole_keep4 hO a 24
  have hQ := sole_keep4 hQ a 24
  have hA := sole_first4 w2 a 24
  have hL := sole_below4 hL a 24
  have hr : Rd (sole4 w2 a 24) R q := (hr2.alloc _).setRow zr _
  generalize w2.heap.size = g at *
  generalize sole4 w2 a 24 = W3 at *
  have z3 := hL.size
  clear hr2
  have D : Hid (Calls Try.prog 49 #[.pointer (some ⟨R, 0, none⟩)] W3.drew (DrewSd W3.drew R q 20)) := Lib.hid (surd_drawn R q W3.drew hr (by omega))
  have HO := Lib.hid hO.drew1; have HQ := Lib.hid hQ.drew1; have HL := Lib.hid hL.drew
  refine wp_region_held_drew (S := fun w' => RowAt w' g 4 24 a) (by kernel_rfl) hA.drew1 (fun hHeld => ?_)
  clear hO hQ hL hA hr
  refine wpAnyH_take (i := 0) (oi := _) (v := .agg (vec 4 a)) rfl (by kernel_rfl) (by kernel_rfl) (by kernel_rfl) (fun _ _ _ h => h) (yieldsIf_load_mid (by rfl) _ _ rfl _ _ rfl _ _ (fun w h => h.range) Try.underlying24 rfl (size_surd a)) hHeld ?_
  try simp only [Act.put, List.setIfInBounds_toArray, List.set_cons_zero, List.set_cons_succ, List.getElem_toArray, List.getElem_cons_succ, List.getElem_cons_zero]
  refine wpAnyH_take (i := 1) (oi := _) (v := .pointer (some ⟨R, 0, none⟩)) rfl (by kernel_rfl) (by kernel_rfl) (by kernel_rfl) (fun _ _ _ h => h) (Or.inl ⟨by rfl, fun w h => by go_simp⟩) hHeld ?_
  try simp only [Act.put, List.setIfInBounds_toArray, List.set_cons_zero, List.set_cons_succ, List.getElem_toArray, List.getElem_cons_succ, List.getElem_cons_zero]
  refine wpAnyH_ready (rs := [2]) (by kernel_rfl) (by simp) ?_
  refine AllReadyH.cons (o := _) rfl (fun K hK => ?_) AllReadyH.nil
  go_simp
  refine D.out.mono ?_; rintro e w4 ⟨b, q', rfl, hshb, hq', hr4, hg4⟩
  have hO := HO.out.only hg4 (by omega)
  have hQ := HQ.out.only hg4 (by omega)
  have hL := below_only HL.out hg4 z3 (by omega)
  have hA := hHeld.only hg4 (by omega)
  clear D HO HQ HL hg4 hHeld
  have hQ2 := hQ.rowOther w.heap.size (vec 4 a) (by omega)
  have hO2 := hO.setRow (f' := a)
  have HO := hO2.rowOther (w.heap.size + 1) (vec 4 b) (by omega)
  have HQ := hQ2.setRow (f' := b)
  have HL := (below_setRow (below_setRow hL (g := w.heap.size) (Nat.le_refl _) (vec 4 a)) (g := w.heap.size + 1) (by omega) (vec 4 b))
  go_wp2_with fail
  refine hK.out _ _ hA (fun hHeld => ?_)
  clear hK K
  try simp only [Act.put, List.setIfInBounds_toArray, List.set_cons_zero, List.set_cons_succ, List.getElem_toArray, List.getElem_cons_succ, List.getElem_cons_zero]
  refine wpAnyH_ready (rs := [3]) (by kernel_rfl) (by simp) ?_
  refine AllReadyH.cons (o := _) rfl (fun K hK => ?_) AllReadyH.nil
  rw [if_pos (by rfl)]
  refine store_step rfl rfl rfl hO info_surd ?_
  refine hK.out _ _ (hHeld.rowOther _ _ (by omega)) (fun hHeld => ?_)
  clear hK K
  try simp only [Act.put, List.setIfInBounds_toArray, List.set_cons_zero, List.set_cons_succ, List.getElem_toArray, List.getElem_cons_succ, List.getElem_cons_zero]
  refine wpAnyH_ready (rs := [4]) (by kernel_rfl) (by simp) ?_
  refine AllReadyH.cons (o := _) rfl (fun K hK => ?_) AllReadyH.nil
  rw [if_pos (by rfl)]
  refine store_step rfl rfl rfl hQ2 info_surd ?_
  refine hK.out _ _ (hHeld.rowOther _ _ (by omega)) (fun hHeld => ?_)
  clear hK K
  try simp only [Act.put, List.setIfInBounds_toArray, List.set_cons_zero, List.set_cons_succ, List.getElem_toArray, List.getElem_cons_succ, List.getElem_cons_zero]
  refine wpAnyH_done (by kernel_rfl) ?_ _
  go_wp2_with fail
  refine bodyPost_ret (results_row_row rfl rfl rfl HO HQ Try.underlying24 rfl info_surd) rfl ?_
  exact ⟨_, _, rfl, HL⟩

theorem drawSurdAdd (v : Value) (w : World) (hc : CodeAt w v) : Calls Try.prog 29 #[v] w (DrewSurds w) := by
  have hO := pair_first4 w 24
  have hQ : RowAt ((w.alloc (.cells (vec 4 nul) 24)).alloc (.cells (vec 4 nul) 24)) (w.heap.size + 1) 4 24 nul := RowAt.newAt rfl (by simp)
  have hL : Below w.heap.size w ((w.alloc (.cells (vec 4 nul) 24)).alloc (.cells (vec 4 nul) 24)) := ((Below.refl _ _).alloc (Nat.le_refl _) _).alloc (by simp) _
  have hv := (hc.alloc (.cells (vec 4 nul) 24)).alloc (.cells (vec 4 nul) 24)
  go_enter Try.func29, Try.ntmps29
  go_upto_region 1 with fail
  show Code.wp _ _ _ _ ((w.alloc (.cells (vec 4 nul) 24)).alloc (.cells (vec 4 nul) 24))
  generalize (w.alloc (.cells (vec 4 nul) 24)).alloc (.cells (vec 4 nul) 24) = W at *
  have D := Lib.hid (surds_drawn v W hv)
  clear hc hv
  go_wp2_with fail
  refine D.out.mono ?_; rintro e w2 ⟨a, b, rfl, hb⟩
  have hO := hO.below hb
  have hQ := hQ.below hb
  have hL := below_next hL hb
  clear D hb
  have hQ2 := hQ.rowOther w.heap.size (vec 4 a) (by omega)
  have HO := Lib.hid ((hO.setRow (f' := a)).rowOther (w.heap.size + 1) (vec 4 b) (by omega))
  have HQ := Lib.hid (hQ2.setRow (f' := b))
  have HL := Lib.hid (below_setRow (below_setRow hL (g := w.heap.size) (Nat.le_refl _) (vec 4 a)) (g := w.heap.size + 1) (by omega) (vec 4 b))
  clear hQ hL
  go_wp2_with (first | (refine store_row (g := w.heap.size) rfl rfl rfl rfl hO info_surd ?_) | (refine store_row (g := w.heap.size + 1) rfl rfl rfl rfl hQ2 info_surd ?_))
  refine bodyPost_ret (results_row_row rfl rfl rfl HO.out HQ.out Try.underlying24 rfl info_surd) rfl ?_
  exact ⟨_, _, rfl, HL.out⟩

theorem drawSurdTimes (v : Value) (w : World) (hc : CodeAt w v) : Calls Try.prog 32 #[v] w (DrewSurds w) := by
  have hO := pair_first4 w 24
  have hQ : RowAt ((w.alloc (.cells (vec 4 nul) 24)).alloc (.cells (vec 4 nul) 24)) (w.heap.size + 1) 4 24 nul := RowAt.newAt rfl (by simp)
  have hL : Below w.heap.size w ((w.alloc (.cells (vec 4 nul) 24)).alloc (.cells (vec 4 nul) 24)) := ((Below.refl _ _).alloc (Nat.le_refl _) _).alloc (by simp) _
  have hv := (hc.alloc (.cells (vec 4 nul) 24)).alloc (.cells (vec 4 nul) 24)
  go_enter Try.func32, Try.ntmps32
  go_upto_region 1 with fail
  show Code.wp _ _ _ _ ((w.alloc (.cells (vec 4 nul) 24)).alloc (.cells (vec 4 nul) 24))
  generalize (w.alloc (.cells (vec 4 nul) 24)).alloc (.cells (vec 4 nul) 24) = W at *
  have D := Lib.hid (surds_drawn v W hv)
  clear hc hv
  go_wp2_with fail
  refine D.out.mono ?_; rintro e w2 ⟨a, b, rfl, hb⟩
  have hO := hO.below hb
  have hQ := hQ.below hb
  have hL := below_next hL hb
  clear D hb
  have hQ2 := hQ.rowOther w.heap.size (vec 4 a) (by omega)
  have HO := Lib.hid ((hO.setRow (f' := a)).rowOther (w.heap.size + 1) (vec 4 b) (by omega))
  have HQ := Lib.hid (hQ2.setRow (f' := b))
  have HL := Lib.hid (below_setRow (below_setRow hL (g := w.heap.size) (Nat.le_refl _) (vec 4 a)) (g := w.heap.size + 1) (by omega) (vec 4 b))
  clear hQ hL
  go_wp2_with (first | (refine store_row (g := w.heap.size) rfl rfl rfl rfl hO info_surd ?_) | (refine store_row (g := w.heap.size + 1) rfl rfl rfl rfl hQ2 info_surd ?_))
  refine bodyPost_ret (results_row_row rfl rfl rfl HO.out HQ.out Try.underlying24 rfl info_surd) rfl ?_
  exact ⟨_, _, rfl, HL.out⟩

theorem drawSurdCompare (v : Value) (w : World) (hc : CodeAt w v) : Calls Try.prog 38 #[v] w (DrewSurds w) := by
  have hO := pair_first4 w 24
  have hQ : RowAt ((w.alloc (.cells (vec 4 nul) 24)).alloc (.cells (vec 4 nul) 24)) (w.heap.size + 1) 4 24 nul := RowAt.newAt rfl (by simp)
  have hL : Below w.heap.size w ((w.alloc (.cells (vec 4 nul) 24)).alloc (.cells (vec 4 nul) 24)) := ((Below.refl _ _).alloc (Nat.le_refl _) _).alloc (by simp) _
  have hv := (hc.alloc (.cells (vec 4 nul) 24)).alloc (.cells (vec 4 nul) 24)
  go_enter Try.func38, Try.ntmps38
  go_upto_region 1 with fail
  show Code.wp _ _ _ _ ((w.alloc (.cells (vec 4 nul) 24)).alloc (.cells (vec 4 nul) 24))
  generalize (w.alloc (.cells (vec 4 nul) 24)).alloc (.cells (vec 4 nul) 24) = W at *
  have D := Lib.hid (surds_drawn v W hv)
  clear hc hv
  go_wp2_with fail
  refine D.out.mono ?_; rintro e w2 ⟨a, b, rfl, hb⟩
  have hO := hO.below hb
  have hQ := hQ.below hb
  have hL := below_next hL hb
  clear D hb
  have hQ2 := hQ.rowOther w.heap.size (vec 4 a) (by omega)
  have HO := Lib.hid ((hO.setRow (f' := a)).rowOther (w.heap.size + 1) (vec 4 b) (by omega))
  have HQ := Lib.hid (hQ2.setRow (f' := b))
  have HL := Lib.hid (below_setRow (below_setRow hL (g := w.heap.size) (Nat.le_refl _) (vec 4 a)) (g := w.heap.size + 1) (by omega) (vec 4 b))
  clear hQ hL
  go_wp2_with (first | (refine store_row (g := w.heap.size) rfl rfl rfl rfl hO info_surd ?_) | (refine store_row (g := w.heap.size + 1) rfl rfl rfl rfl hQ2 info_surd ?_))
  refine bodyPost_ret (results_row_row rfl rfl rfl HO.out HQ.out Try.underlying24 rfl info_surd) rfl ?_
  exact ⟨_, _, rfl, HL.out⟩

end Go.Proofs.Ytcdlenphgenejaa
