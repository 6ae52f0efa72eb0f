/-
  The draws of exact points out of a code.
-/
import Derived.Test.YtjfljelpjgkmjaaCycV
import Derived.Test.YtjfljelpjgkmjaaDrawTurn
namespace Go.Proofs.Ytjfljelpjgkmjaa
set_option maxRecDepth 20000
open Go.ChangeShapes Go.WideShapes Go.ChangeAt Go.RowKit
set_option linter.unusedVariables false
set_option linter.unusedSimpArgs false

theorem only_below {w w' : World} (h : Below w.heap.size w w') (row : Option Nat) : w.grownBy w' row := ⟨h.os, h.tape, h.output, h.size, fun i hi _ => h.block i hi⟩
theorem only_setRow {a w : World} {row : Option Nat} (h : a.grownBy w row) {g : Nat} (hg : a.heap.size ≤ g) (cs : Array Value) : a.grownBy (w.setRow g cs) row :=
  ⟨h.os, h.tape, h.output, by simpa using h.size, fun i hi hne => (setRow_other w g i cs (by omega)).trans (h.block i hi hne)⟩
theorem only_setCell {a w : World} {row : Option Nat} (h : a.grownBy w row) {g : Nat} (hg : a.heap.size ≤ g) (k : Nat) (v : Value) : a.grownBy (w.setCell ⟨g, k, none⟩ v) row :=
  ⟨h.os, h.tape, h.output, by simpa [World.setCell] using h.size, fun i hi hne => (heap_setCell_other w ⟨g, k, none⟩ i v (by simp; omega)).trans (h.block i hi hne)⟩
theorem Rd.setRow {w : World} {R p : Nat} (h : Rd w R p) {g : Nat} (hg : R < g) (cs : Array Value) : Rd (w.setRow g cs) R p :=
  h.keep (row := some g) ⟨rfl, rfl, rfl, by simp, fun i hi hne => setRow_other w g i cs (by rintro rfl; exact hne rfl)⟩ (fun x e => by cases e; exact hg)
theorem Rd.setCell {w : World} {R p : Nat} (h : Rd w R p) {g : Nat} (hg : R < g) (k : Nat) (v : Value) : Rd (w.setCell ⟨g, k, none⟩ v) R p :=
  h.keep (row := some g) ⟨rfl, rfl, rfl, by simp [World.setCell], fun i hi hne => heap_setCell_other w ⟨g, k, none⟩ i v (by rintro rfl; exact hne rfl)⟩ (fun x e => by cases e; exact hg)
theorem Rd.below {w w' : World} {R p : Nat} (h : Rd w R p) (hb : Below w.heap.size w w') : Rd w' R p := h.keep (row := none) (only_below hb none) (fun x e => by cases e)
theorem RowAt.only {w w' : World} {g n R : Nat} {T : TypeId} {f : Nat → Int} (h : RowAt w g n T f) (hg : w.grownBy w' (some R)) (hne : g ≠ R) : RowAt w' g n T f :=
  (hg.block g h.lt (by simpa using hne)).trans h

/-- A point drawn from a reader: at most c picks; only the reader's block turns. -/
def DrewPt (w : World) (R p c : Nat) (e : Ending) (w' : World) : Prop :=
  ∃ (a : Nat → Int) (q : Nat), e = .returned (pt a) ∧ q ≤ p + c ∧ Rd w' R q ∧ w.grownBy w' (some R)

set_option maxHeartbeats 1000000 in
theorem cyc_drawn (R p : Nat) (w : World) (h : Rd w R p) (hp : p ≤ 900000) :
    Calls Try.prog 56 #[.pointer (some ⟨R, 0, none⟩)] w (DrewPt w R p 20) := by
  have hlt := h.lt
  have hO := pair_first w 25
  have hE : RowAt ((w.alloc (.cells (vec 8 nul) 25)).alloc (.cells (vec 8 nul) 25)) (w.heap.size + 1) 8 25 nul := RowAt.newAt rfl (by simp)
  have hR := (h.alloc (.cells (vec 8 nul) 25)).alloc (.cells (vec 8 nul) 25)
  have hg := only_alloc (World.grownBy_alloc w (.cells (vec 8 nul) 25) (some R)) (.cells (vec 8 nul) 25)
  go_enter Try.func56, Try.ntmps56
  go_upto_region 2 with fail
  show Code.wp _ _ _ _ ((w.alloc (.cells (vec 8 nul) 25)).alloc (.cells (vec 8 nul) 25))
  generalize (w.alloc (.cells (vec 8 nul) 25)).alloc (.cells (vec 8 nul) 25) = W at *
  have P1 := Lib.hid (pick_any R p 8 W hR (by omega) (by omega))
  clear h
  go_wp2_with fail
  refine P1.out.mono ?_; rintro e w1 ⟨k, rfl, k0, k1, hr1, hg1⟩
  have hO := hO.only hg1 (by omega)
  have hE := hE.only hg1 (by omega)
  have hg := only_trans' hg hg1
  clear P1 hR hg1
  by_cases e0 : k = 0
  · subst e0
    have P2 := Lib.hid (pick_any R (p + 1) 24 w1 hr1 (by omega) (by omega))
    go_wp2_with fail
    refine P2.out.mono ?_; rintro e w2 ⟨r, rfl, r0, r1, hr2, hg2⟩
    have hO := hO.only hg2 (by omega)
    have hg := only_trans' hg hg2
    clear P2 hr1 hg2 hE
    obtain ⟨n, rfl⟩ : ∃ n : Nat, r = n := ⟨r.toNat, by omega⟩
    have S := fun w => specRoot_yes n (by omega) w
    go_wp2_with fail
    refine (S _).mono ?_; rintro e w3 ⟨rfl, hb3⟩
    have hO := hO.below hb3
    have hg := only_trans' hg (only_below hb3 (some R))
    have hr := hr2.below hb3
    clear S hr2
    have zg := hg.size
    have zr := hr.lt
    go_upto_region 5 with (refine store_row rfl rfl rfl rfl (RowAt.newAt zero8 rfl) info_cyc ?_)
    show Code.wp _ _ _ _ (sole w3 (trn one n) 25)
    have hO := sole_keep hO (trn one n) 25
    have hI := sole_first w3 (trn one n) 25
    have hg : w.grownBy (sole w3 (trn one n) 25) (some R) := only_setRow (only_alloc hg _) zg _
    have hr : Rd (sole w3 (trn one n) 25) R _ := (hr.alloc _).setRow zr _
    generalize sole w3 (trn one n) 25 = W4 at *
    go_wp2_with (first | (refine load_row rfl rfl rfl hI Try.underlying25 rfl info_cyc ?_) | (refine store_row rfl rfl rfl rfl hO info_cyc ?_))
    refine bodyPost_ret (results_row rfl rfl hO.setRow Try.underlying25 rfl info_cyc) rfl ?_
    exact ⟨_, _, rfl, by omega, hr.setRow hlt _, only_setRow hg (Nat.le_refl _) _⟩
  have e0' : (k == 0) = false := by simpa using e0
  by_cases e1 : k = 1
  · subst e1
    have P2 := Lib.hid (pick_any R (p + 1) 9 w1 hr1 (by omega) (by omega))
    go_wp2_with fail
    refine P2.out.mono ?_; rintro e w2 ⟨r, rfl, r0, r1, hr2, hg2⟩
    have hO := hO.only hg2 (by omega)
    have hg := only_trans' hg hg2
    have P3 := Lib.hid (pick_any R (p + 1 + 1) 9 w2 hr2 (by omega) (by omega))
    clear P2 hr1 hg2 hE hr2
    have v1 : IntKind.i64.wrap (r - 4) = r - 4 := by rw [IntKind.wrap_i64]; omega
    go_wp2_with fail
    refine P3.out.mono ?_; rintro e w3 ⟨s, rfl, s0, s1, hr3, hg3⟩
    have hO := hO.only hg3 (by omega)
    have hg := only_trans' hg hg3
    clear P3 hg3
    have v2 : IntKind.i64.wrap (s - 4) = s - 4 := by rw [IntKind.wrap_i64]; omega
    have S := fun w => specGaussIn_any (r - 4) (s - 4) w
    go_wp2_with fail
    refine (S _).mono ?_; rintro e w4 ⟨rfl, hb4⟩
    have hO := hO.below hb4
    have hg := only_trans' hg (only_below hb4 (some R))
    have hr := hr3.below hb4
    clear S hr3
    go_wp2_with (refine store_row rfl rfl rfl rfl hO info_cyc ?_)
    refine bodyPost_ret (results_row rfl rfl hO.setRow Try.underlying25 rfl info_cyc) rfl ?_
    exact ⟨_, _, rfl, by omega, hr.setRow hlt _, only_setRow hg (Nat.le_refl _) _⟩
  have e1' : (k == 1) = false := by simpa using e1
  by_cases e2 : k = 2
  · subst e2
    go_wp2_with (first | (refine load_row rfl rfl rfl hE Try.underlying25 rfl info_cyc ?_) | (refine store_row rfl rfl rfl rfl hO info_cyc ?_))
    refine bodyPost_ret (results_row rfl rfl hO.setRow Try.underlying25 rfl info_cyc) rfl ?_
    exact ⟨_, _, rfl, by omega, hr1.setRow hlt _, only_setRow hg (Nat.le_refl _) _⟩
  have e2' : (k == 2) = false := by simpa using e2
  have P2 := Lib.hid (pick_any R (p + 1) 3 w1 hr1 (by omega) (by omega))
  go_wp2_with fail
  refine P2.out.mono ?_; rintro e w2 ⟨m, rfl, m0, m1, hr2, hg2⟩
  have hO := hO.only hg2 (by omega)
  have hE := hE.only hg2 (by omega)
  have hg := only_trans' hg hg2
  clear P2 hr1 hg2
  have v1 : IntKind.i64.wrap (1 + m) = 1 + m := by rw [IntKind.wrap_i64]; omega
  go_wp2_with fail
  go_loopw [7] (fun i wr => ∃ (j q : Nat) (f : Nat → Int), (j : Int) ≤ 1 + m ∧ i = .int .i64 j ∧ q = p + 2 + 2 * j ∧ Rd wr R q ∧ RowAt wr w.heap.size 8 25 nul ∧ RowAt wr (w.heap.size + 1) 8 25 f ∧ w.grownBy wr (some R)) (fun i _ => 4 - (intOf i).toNat)
  case atStart => exact ⟨0, _, _, by omega, rfl, rfl, hr2, hO, hE, hg⟩
  case round =>
    clear hr2 hO hE hg
    obtain ⟨j, q, f, hj, rfl, hq, hr, hO, hE, hg⟩ := hrel
    by_cases hlt2 : (j : Int) < 1 + m
    · have P3 := Lib.hid (pick_any R q 8 wr hr (by omega) (by omega))
      go_wp2_with fail
      refine P3.out.mono ?_; rintro e w3 ⟨s, rfl, s0, s1, hr3, hg3⟩
      have hO := hO.only hg3 (by omega)
      have hE := hE.only hg3 (by omega)
      have hg := only_trans' hg hg3
      have P4 := Lib.hid (pick_any R (q + 1) 9 w3 hr3 (by omega) (by omega))
      clear P3 hr hg3 hr3
      go_wp2_with fail
      refine P4.out.mono ?_; rintro e w4 ⟨u, rfl, u0, u1, hr4, hg4⟩
      have hO := hO.only hg4 (by omega)
      have hE := hE.only hg4 (by omega)
      have hg := only_trans' hg hg4
      clear P4 hg4
      obtain ⟨n, rfl⟩ : ∃ n : Nat, s = n := ⟨s.toNat, by omega⟩
      have v2 : IntKind.i64.wrap (u - 4) = u - 4 := by rw [IntKind.wrap_i64]; omega
      have cE := hE.cell (k := n) (by omega)
      have fE := hE.free n
      have HE := Lib.hid (hE.set (k := n) (by omega) (u - 4))
      have HO := Lib.hid (hO.other ⟨w.heap.size + 1, n, none⟩ (.int .i64 (u - 4)) (by simp))
      have HG := Lib.hid (only_setCell hg (g := w.heap.size + 1) (by omega) n (.int .i64 (u - 4)))
      have HR := Lib.hid (hr4.setCell (g := w.heap.size + 1) (by omega) n (.int .i64 (u - 4)))
      clear hO hE hg hr4
      generalize f n = y at cE
      go_wp2_with fail
      go_roundw
      case rel => exact ⟨j + 1, _, _, by omega, by go_num, by omega, HR.out, HO.out, HE.out, HG.out⟩
      case measure => simp [intOf]; omega
    · have P3 := Lib.hid (pick_any R q 30 wr hr (by omega) (by omega))
      go_wp2_with fail
      refine P3.out.mono ?_; rintro e w3 ⟨s, rfl, s0, s1, hr3, hg3⟩
      have hO := hO.only hg3 (by omega)
      have hE := hE.only hg3 (by omega)
      have hg := only_trans' hg hg3
      clear P3 hr hg3
      by_cases x0 : s = 0
      · subst x0
        have cE := hE.cell (k := 0) (by omega)
        have fE := hE.free 0
        have HE := Lib.hid (hE.set (k := 0) (by omega) 1000001)
        have HO := Lib.hid (hO.other ⟨w.heap.size + 1, 0, none⟩ (.int .i64 1000001) (by simp))
        have HG := Lib.hid (only_setCell hg (g := w.heap.size + 1) (by omega) 0 (.int .i64 1000001))
        have HR := Lib.hid (hr3.setCell (g := w.heap.size + 1) (by omega) 0 (.int .i64 1000001))
        clear hO hE hg hr3
        generalize f 0 = y at cE
        go_upto_region 20 with fail
        go_wp2_with (first | (refine load_row rfl rfl rfl HE.out Try.underlying25 rfl info_cyc ?_) | (refine store_row rfl rfl rfl rfl HO.out info_cyc ?_))
        refine bodyPost_ret (results_row rfl rfl HO.out.setRow Try.underlying25 rfl info_cyc) rfl ?_
        exact ⟨_, _, rfl, by omega, HR.out.setRow hlt _, only_setRow HG.out (Nat.le_refl _) _⟩
      have x0' : (s == 0) = false := by simpa using x0
      by_cases x1 : s = 1
      · subst x1
        have cE := hE.cell (k := 7) (by omega)
        have fE := hE.free 7
        have HE := Lib.hid (hE.set (k := 7) (by omega) 1000000)
        have HO := Lib.hid (hO.other ⟨w.heap.size + 1, 7, none⟩ (.int .i64 1000000) (by simp))
        have HG := Lib.hid (only_setCell hg (g := w.heap.size + 1) (by omega) 7 (.int .i64 1000000))
        have HR := Lib.hid (hr3.setCell (g := w.heap.size + 1) (by omega) 7 (.int .i64 1000000))
        clear hO hE hg hr3
        generalize f 7 = y at cE
        go_upto_region 20 with fail
        go_wp2_with (first | (refine load_row rfl rfl rfl HE.out Try.underlying25 rfl info_cyc ?_) | (refine store_row rfl rfl rfl rfl HO.out info_cyc ?_))
        refine bodyPost_ret (results_row rfl rfl HO.out.setRow Try.underlying25 rfl info_cyc) rfl ?_
        exact ⟨_, _, rfl, by omega, HR.out.setRow hlt _, only_setRow HG.out (Nat.le_refl _) _⟩
      have x1' : (s == 1) = false := by simpa using x1
      go_wp2_with (first | (refine load_row rfl rfl rfl hE Try.underlying25 rfl info_cyc ?_) | (refine store_row rfl rfl rfl rfl hO info_cyc ?_))
      refine bodyPost_ret (results_row rfl rfl hO.setRow Try.underlying25 rfl info_cyc) rfl ?_
      exact ⟨_, _, rfl, by omega, hr3.setRow hlt _, only_setRow hg (Nat.le_refl _) _⟩
theorem CodeAt.alloc {w : World} {v : Value} (h : CodeAt w v) (o : Obj) : CodeAt (w.alloc o) v := by
  rcases h with h | ⟨b, off, len, cap, zs, h0, hb, h1, h2, h3, hc, hz⟩
  · exact .inl h
  · exact .inr ⟨b, off, len, cap, zs, h0, by simp; omega, h1, h2, h3, fun i hi => (World.cell?_alloc_past _ _ _ hb).trans (hc i hi), hz⟩
/-- A point drawn out of a code. -/
def DrewOne (w : World) (e : Ending) (w' : World) : Prop := ∃ a : Nat → Int, e = .returned (pt a) ∧ Below w.heap.size w w'
/-- Two points drawn out of a code. -/
def DrewPts (w : World) (e : Ending) (w' : World) : Prop := ∃ a b : Nat → Int, e = .returned (.tuple #[pt a, pt b]) ∧ Below w.heap.size w w'
/-- A point and a number drawn out of a code. -/
def DrewPtInt (w : World) (lo hi : Int) (e : Ending) (w' : World) : Prop := ∃ (a : Nat → Int) (n : Int), e = .returned (.tuple #[pt a, .int .i64 n]) ∧ lo ≤ n ∧ n ≤ hi ∧ Below w.heap.size w w'
theorem results_row_row {P : Program} {fn : Func} {p q : Tmp} {ty : TypeId} {tmps : Array Value} {w : World} {g g' n : Nat} {T T' : TypeId} {f f' : Nat → Int} {d : TypeDesc} (h : fn.results = #[.cell p ty, .cell q ty]) (hp : tmps.getD p undef = .pointer (some ⟨g, 0, none⟩)) (hq : tmps.getD q undef = .pointer (some ⟨g', 0, none⟩)) (hg : RowAt w g n T f) (hg' : RowAt w g' n T' f')
    (hu : P.underlying ty = some d) (hd : (match d with | .struct _ | .array _ _ => true | _ => false) = true) (hi : (P.info? ty).map (·.size) = some n) :
    (results fn tmps).run P w = .ok (.tuple #[.agg (vec n f), .agg (vec n f')]) w := results_row2 h hp hq hg hg' hu hd hi hu hd hi

theorem drawCycValid (v : Value) (w : World) (hc : CodeAt w v) : Calls Try.prog 24 #[v] w (DrewOne w) := by
  have hO : RowAt (w.alloc (.cells (vec 8 nul) 25)) w.heap.size 8 25 nul := RowAt.newAt rfl rfl
  have hz : w.heap.size < (w.alloc (.cells (vec 8 nul) 25)).heap.size := by simp
  have hL : Below w.heap.size w (w.alloc (.cells (vec 8 nul) 25)) := (Below.refl _ _).alloc (Nat.le_refl _) _
  have hv := hc.alloc (.cells (vec 8 nul) 25)
  go_enter Try.func24, Try.ntmps24
  go_upto_region 1 with fail
  show Code.wp _ _ _ _ (w.alloc (.cells (vec 8 nul) 25))
  generalize w.alloc (.cells (vec 8 nul) 25) = W at *
  have O := Lib.hid (open_any v W hv)
  clear hc hv
  go_wp2_with fail
  refine O.out.mono ?_; rintro e w1 ⟨rfl, hr, hb⟩
  have hO := hO.below hb
  have hL := below_next hL hb
  have z0 := hL.size
  have zb := hb.size
  have D := Lib.hid (cyc_drawn _ _ w1 hr (by omega))
  clear O hr
  go_wp2_with fail
  refine D.out.mono ?_; rintro e w2 ⟨a, q, rfl, hq, hr2, hg2⟩
  have hO := hO.only hg2 (by omega)
  have hL := below_only hL hg2 z0 (by omega)
  clear D
  go_wp2_with (refine store_row rfl rfl rfl rfl hO info_cyc ?_)
  refine bodyPost_ret (results_row rfl rfl hO.setRow Try.underlying25 rfl info_cyc) rfl ?_
  exact ⟨_, rfl, below_setRow hL (Nat.le_refl _) _⟩

theorem drawCycMirror (v : Value) (w : World) (hc : CodeAt w v) : Calls Try.prog 44 #[v] w (DrewOne w) := by
  have hO : RowAt (w.alloc (.cells (vec 8 nul) 25)) w.heap.size 8 25 nul := RowAt.newAt rfl rfl
  have hz : w.heap.size < (w.alloc (.cells (vec 8 nul) 25)).heap.size := by simp
  have hL : Below w.heap.size w (w.alloc (.cells (vec 8 nul) 25)) := (Below.refl _ _).alloc (Nat.le_refl _) _
  have hv := hc.alloc (.cells (vec 8 nul) 25)
  go_enter Try.func44, Try.ntmps44
  go_upto_region 1 with fail
  show Code.wp _ _ _ _ (w.alloc (.cells (vec 8 nul) 25))
  generalize w.alloc (.cells (vec 8 nul) 25) = W at *
  have O := Lib.hid (open_any v W hv)
  clear hc hv
  go_wp2_with fail
  refine O.out.mono ?_; rintro e w1 ⟨rfl, hr, hb⟩
  have hO := hO.below hb
  have hL := below_next hL hb
  have z0 := hL.size
  have zb := hb.size
  have D := Lib.hid (cyc_drawn _ _ w1 hr (by omega))
  clear O hr
  go_wp2_with fail
  refine D.out.mono ?_; rintro e w2 ⟨a, q, rfl, hq, hr2, hg2⟩
  have hO := hO.only hg2 (by omega)
  have hL := below_only hL hg2 z0 (by omega)
  clear D
  go_wp2_with (refine store_row rfl rfl rfl rfl hO info_cyc ?_)
  refine bodyPost_ret (results_row rfl rfl hO.setRow Try.underlying25 rfl info_cyc) rfl ?_
  exact ⟨_, rfl, below_setRow hL (Nat.le_refl _) _⟩

set_option maxHeartbeats 800000 in
theorem points_drawn (v : Value) (w : World) (hc : CodeAt w v) : Calls Try.prog 73 #[v] w (DrewPts w) := by
  have hO := pair_first w 25
  have hQ : RowAt ((w.alloc (.cells (vec 8 nul) 25)).alloc (.cells (vec 8 nul) 25)) (w.heap.size + 1) 8 25 nul := RowAt.newAt rfl (by simp)
  have hz : w.heap.size + 1 < ((w.alloc (.cells (vec 8 nul) 25)).alloc (.cells (vec 8 nul) 25)).heap.size := by simp
  have hL : Below w.heap.size w ((w.alloc (.cells (vec 8 nul) 25)).alloc (.cells (vec 8 nul) 25)) := ((Below.refl _ _).alloc (Nat.le_refl _) _).alloc (by simp) _
  have hv := (hc.alloc (.cells (vec 8 nul) 25)).alloc (.cells (vec 8 nul) 25)
  go_enter Try.func73, Try.ntmps73
  go_upto_region 1 with fail
  show Code.wp _ _ _ _ ((w.alloc (.cells (vec 8 nul) 25)).alloc (.cells (vec 8 nul) 25))
  generalize (w.alloc (.cells (vec 8 nul) 25)).alloc (.cells (vec 8 nul) 25) = W at *
  have O := Lib.hid (open_any v W hv)
  clear hc hv
  go_wp2_with fail
  refine O.out.mono ?_; rintro e w1 ⟨rfl, hr, hb⟩
  have hO := hO.below hb
  have hQ := hQ.below hb
  have hL := below_next hL hb
  have z0 := hL.size
  have D := Lib.hid (cyc_drawn _ _ w1 hr (by omega))
  clear O hr hb
  generalize W.heap.size = R at *
  go_wp2_with fail
  refine D.out.mono ?_; rintro e w2 ⟨a, q, rfl, hq, hr2, hg2⟩
  have hO := hO.only hg2 (by omega)
  have hQ := hQ.only hg2 (by omega)
  have hL := below_only hL hg2 z0 (by omega)
  have z2 := hL.size
  have zr := hr2.lt
  have zq := hQ.lt
  clear D hg2
  go_upto_region 3 with (refine store_row rfl rfl rfl rfl (RowAt.newAt zero8 rfl) info_cyc ?_)
  show Code.wp _ _ _ _ (sole w2 a 25)
  have hO := sole_keep hO a 25
  have hQ := sole_keep hQ a 25
  have hA := sole_first w2 a 25
  have hL := sole_below hL a 25
  have hr : Rd (sole w2 a 25) R q := (hr2.alloc _).setRow zr _
  generalize w2.heap.size = g at *
  generalize sole w2 a 25 = W3 at *
  have z3 := hL.size
  clear hr2
  have D : Hid (Calls Try.prog 56 #[.pointer (some ⟨R, 0, none⟩)] W3.drew (DrewPt W3.drew R q 20)) := Lib.hid (cyc_drawn R q W3.drew hr (by omega))
  have HO := Lib.hid hO.drew1; have HQ := Lib.hid hQ.drew1; have HL := Lib.hid hL.drew
  refine wp_region_held_drew (S := fun w' => RowAt w' g 8 25 a) (by kernel_rfl) hA.drew1 (fun hHeld => ?_)
  clear hO hQ hL hA hr
  refine wpAnyH_take (i := 0) (oi := _) (v := .agg (vec 8 a)) rfl (by kernel_rfl) (by kernel_rfl) (by kernel_rfl) (fun _ _ _ h => h) (yieldsIf_load_mid (by rfl) _ _ rfl _ _ rfl _ _ (fun w h => h.range) Try.underlying25 rfl (size_cyc a)) hHeld ?_
  try simp only [Act.put, List.setIfInBounds_toArray, List.set_cons_zero, List.set_cons_succ, List.getElem_toArray, List.getElem_cons_succ, List.getElem_cons_zero]
  refine wpAnyH_take (i := 1) (oi := _) (v := .pointer (some ⟨R, 0, none⟩)) rfl (by kernel_rfl) (by kernel_rfl) (by kernel_rfl) (fun _ _ _ h => h) (Or.inl ⟨by rfl, fun w h => by go_simp⟩) hHeld ?_
  try simp only [Act.put, List.setIfInBounds_toArray, List.set_cons_zero, List.set_cons_succ, List.getElem_toArray, List.getElem_cons_succ, List.getElem_cons_zero]
  refine wpAnyH_ready (rs := [2]) (by kernel_rfl) (by simp) ?_
  refine AllReadyH.cons (o := _) rfl (fun K hK => ?_) AllReadyH.nil
  go_simp
  refine D.out.mono ?_; rintro e w4 ⟨b, q', rfl, hq', hr4, hg4⟩
  have hO := HO.out.only hg4 (by omega)
  have hQ := HQ.out.only hg4 (by omega)
  have hL := below_only HL.out hg4 z3 (by omega)
  have hA := hHeld.only hg4 (by omega)
  clear D HO HQ HL hg4 hHeld
  have hQ2 := hQ.rowOther w.heap.size (vec 8 a) (by omega)
  have hO2 := hO.setRow (f' := a)
  have HO := hO2.rowOther (w.heap.size + 1) (vec 8 b) (by omega)
  have HQ := hQ2.setRow (f' := b)
  have HL := (below_setRow (below_setRow hL (g := w.heap.size) (Nat.le_refl _) (vec 8 a)) (g := w.heap.size + 1) (by omega) (vec 8 b))
  go_wp2_with fail
  refine hK.out _ _ hA (fun hHeld => ?_)
  clear hK K
  try simp only [Act.put, List.setIfInBounds_toArray, List.set_cons_zero, List.set_cons_succ, List.getElem_toArray, List.getElem_cons_succ, List.getElem_cons_zero]
  refine wpAnyH_ready (rs := [3]) (by kernel_rfl) (by simp) ?_
  refine AllReadyH.cons (o := _) rfl (fun K hK => ?_) AllReadyH.nil
  rw [if_pos (by rfl)]
  refine store_step rfl rfl rfl hO info_cyc ?_
  refine hK.out _ _ (hHeld.rowOther _ _ (by omega)) (fun hHeld => ?_)
  clear hK K
  try simp only [Act.put, List.setIfInBounds_toArray, List.set_cons_zero, List.set_cons_succ, List.getElem_toArray, List.getElem_cons_succ, List.getElem_cons_zero]
  refine wpAnyH_ready (rs := [4]) (by kernel_rfl) (by simp) ?_
  refine AllReadyH.cons (o := _) rfl (fun K hK => ?_) AllReadyH.nil
  rw [if_pos (by rfl)]
  refine store_step rfl rfl rfl hQ2 info_cyc ?_
  refine hK.out _ _ (hHeld.rowOther _ _ (by omega)) (fun hHeld => ?_)
  clear hK K
  try simp only [Act.put, List.setIfInBounds_toArray, List.set_cons_zero, List.set_cons_succ, List.getElem_toArray, List.getElem_cons_succ, List.getElem_cons_zero]
  refine wpAnyH_done (by kernel_rfl) ?_ _
  go_wp2_with fail
  refine bodyPost_ret (results_row_row rfl rfl rfl HO HQ Try.underlying25 rfl info_cyc) rfl ?_
  exact ⟨_, _, rfl, HL⟩

theorem drawCycAdd (v : Value) (w : World) (hc : CodeAt w v) : Calls Try.prog 35 #[v] w (DrewPts w) := by
  have hO := pair_first w 25
  have hQ : RowAt ((w.alloc (.cells (vec 8 nul) 25)).alloc (.cells (vec 8 nul) 25)) (w.heap.size + 1) 8 25 nul := RowAt.newAt rfl (by simp)
  have hL : Below w.heap.size w ((w.alloc (.cells (vec 8 nul) 25)).alloc (.cells (vec 8 nul) 25)) := ((Below.refl _ _).alloc (Nat.le_refl _) _).alloc (by simp) _
  have hv := (hc.alloc (.cells (vec 8 nul) 25)).alloc (.cells (vec 8 nul) 25)
  go_enter Try.func35, Try.ntmps35
  go_upto_region 1 with fail
  show Code.wp _ _ _ _ ((w.alloc (.cells (vec 8 nul) 25)).alloc (.cells (vec 8 nul) 25))
  generalize (w.alloc (.cells (vec 8 nul) 25)).alloc (.cells (vec 8 nul) 25) = W at *
  have D := Lib.hid (points_drawn v W hv)
  clear hc hv
  go_wp2_with fail
  refine D.out.mono ?_; rintro e w2 ⟨a, b, rfl, hb⟩
  have hO := hO.below hb
  have hQ := hQ.below hb
  have hL := below_next hL hb
  clear D hb
  have hQ2 := hQ.rowOther w.heap.size (vec 8 a) (by omega)
  have HO := Lib.hid ((hO.setRow (f' := a)).rowOther (w.heap.size + 1) (vec 8 b) (by omega))
  have HQ := Lib.hid (hQ2.setRow (f' := b))
  have HL := Lib.hid (below_setRow (below_setRow hL (g := w.heap.size) (Nat.le_refl _) (vec 8 a)) (g := w.heap.size + 1) (by omega) (vec 8 b))
  clear hQ hL
  go_wp2_with (first | (refine store_row (g := w.heap.size) rfl rfl rfl rfl hO info_cyc ?_) | (refine store_row (g := w.heap.size + 1) rfl rfl rfl rfl hQ2 info_cyc ?_))
  refine bodyPost_ret (results_row_row rfl rfl rfl HO.out HQ.out Try.underlying25 rfl info_cyc) rfl ?_
  exact ⟨_, _, rfl, HL.out⟩

theorem drawCycLess (v : Value) (w : World) (hc : CodeAt w v) : Calls Try.prog 38 #[v] w (DrewPts w) := by
  have hO := pair_first w 25
  have hQ : RowAt ((w.alloc (.cells (vec 8 nul) 25)).alloc (.cells (vec 8 nul) 25)) (w.heap.size + 1) 8 25 nul := RowAt.newAt rfl (by simp)
  have hL : Below w.heap.size w ((w.alloc (.cells (vec 8 nul) 25)).alloc (.cells (vec 8 nul) 25)) := ((Below.refl _ _).alloc (Nat.le_refl _) _).alloc (by simp) _
  have hv := (hc.alloc (.cells (vec 8 nul) 25)).alloc (.cells (vec 8 nul) 25)
  go_enter Try.func38, Try.ntmps38
  go_upto_region 1 with fail
  show Code.wp _ _ _ _ ((w.alloc (.cells (vec 8 nul) 25)).alloc (.cells (vec 8 nul) 25))
  generalize (w.alloc (.cells (vec 8 nul) 25)).alloc (.cells (vec 8 nul) 25) = W at *
  have D := Lib.hid (points_drawn v W hv)
  clear hc hv
  go_wp2_with fail
  refine D.out.mono ?_; rintro e w2 ⟨a, b, rfl, hb⟩
  have hO := hO.below hb
  have hQ := hQ.below hb
  have hL := below_next hL hb
  clear D hb
  have hQ2 := hQ.rowOther w.heap.size (vec 8 a) (by omega)
  have HO := Lib.hid ((hO.setRow (f' := a)).rowOther (w.heap.size + 1) (vec 8 b) (by omega))
  have HQ := Lib.hid (hQ2.setRow (f' := b))
  have HL := Lib.hid (below_setRow (below_setRow hL (g := w.heap.size) (Nat.le_refl _) (vec 8 a)) (g := w.heap.size + 1) (by omega) (vec 8 b))
  clear hQ hL
  go_wp2_with (first | (refine store_row (g := w.heap.size) rfl rfl rfl rfl hO info_cyc ?_) | (refine store_row (g := w.heap.size + 1) rfl rfl rfl rfl hQ2 info_cyc ?_))
  refine bodyPost_ret (results_row_row rfl rfl rfl HO.out HQ.out Try.underlying25 rfl info_cyc) rfl ?_
  exact ⟨_, _, rfl, HL.out⟩

theorem drawCycTimes (v : Value) (w : World) (hc : CodeAt w v) : Calls Try.prog 40 #[v] w (DrewPts w) := by
  have hO := pair_first w 25
  have hQ : RowAt ((w.alloc (.cells (vec 8 nul) 25)).alloc (.cells (vec 8 nul) 25)) (w.heap.size + 1) 8 25 nul := RowAt.newAt rfl (by simp)
  have hL : Below w.heap.size w ((w.alloc (.cells (vec 8 nul) 25)).alloc (.cells (vec 8 nul) 25)) := ((Below.refl _ _).alloc (Nat.le_refl _) _).alloc (by simp) _
  have hv := (hc.alloc (.cells (vec 8 nul) 25)).alloc (.cells (vec 8 nul) 25)
  go_enter Try.func40, Try.ntmps40
  go_upto_region 1 with fail
  show Code.wp _ _ _ _ ((w.alloc (.cells (vec 8 nul) 25)).alloc (.cells (vec 8 nul) 25))
  generalize (w.alloc (.cells (vec 8 nul) 25)).alloc (.cells (vec 8 nul) 25) = W at *
  have D := Lib.hid (points_drawn v W hv)
  clear hc hv
  go_wp2_with fail
  refine D.out.mono ?_; rintro e w2 ⟨a, b, rfl, hb⟩
  have hO := hO.below hb
  have hQ := hQ.below hb
  have hL := below_next hL hb
  clear D hb
  have hQ2 := hQ.rowOther w.heap.size (vec 8 a) (by omega)
  have HO := Lib.hid ((hO.setRow (f' := a)).rowOther (w.heap.size + 1) (vec 8 b) (by omega))
  have HQ := Lib.hid (hQ2.setRow (f' := b))
  have HL := Lib.hid (below_setRow (below_setRow hL (g := w.heap.size) (Nat.le_refl _) (vec 8 a)) (g := w.heap.size + 1) (by omega) (vec 8 b))
  clear hQ hL
  go_wp2_with (first | (refine store_row (g := w.heap.size) rfl rfl rfl rfl hO info_cyc ?_) | (refine store_row (g := w.heap.size + 1) rfl rfl rfl rfl hQ2 info_cyc ?_))
  refine bodyPost_ret (results_row_row rfl rfl rfl HO.out HQ.out Try.underlying25 rfl info_cyc) rfl ?_
  exact ⟨_, _, rfl, HL.out⟩

theorem drawRoot (v : Value) (w : World) (h : CodeAt w v) : Calls Try.prog 29 #[v] w (Drew1 w (-1) 100) := by
  have O := Lib.hid (open_any v w h)
  clear h
  go_enter Try.func29, Try.ntmps29
  go_wp2_with fail
  refine O.out.mono ?_; rintro e w1 ⟨rfl, hr, hb⟩
  have z1 := hr.lt
  have T1 := Lib.hid (turn_drawn _ _ w1 hr (by omega))
  clear hr O
  go_wp2_with fail
  refine T1.out.mono ?_; rintro e w2 ⟨a, q, rfl, a0, a1, hq, hr2, hg2⟩
  clear T1
  go_wp2_with fail
  go_ret
  exact ⟨_, rfl, a0, a1, below_only hb hg2 (by omega) (Nat.le_refl _)⟩

/-- Nothing, one or not: the rare factor of a draw. -/
theorem rare_factor {k : Int} (h0 : 0 ≤ k) (h1 : k < 20) : Int.tdiv k 19 = (if k = 19 then 1 else 0) := by
  rw [Int.tdiv_eq_ediv_of_nonneg h0]
  split <;> omega

set_option maxHeartbeats 800000 in
theorem drawCycTurned (v : Value) (w : World) (hc : CodeAt w v) : Calls Try.prog 42 #[v] w (DrewPtInt w (-1) 100) := by
  have hO : RowAt (w.alloc (.cells (vec 8 nul) 25)) w.heap.size 8 25 nul := RowAt.newAt rfl rfl
  have hz : w.heap.size < (w.alloc (.cells (vec 8 nul) 25)).heap.size := by simp
  have hL : Below w.heap.size w (w.alloc (.cells (vec 8 nul) 25)) := (Below.refl _ _).alloc (Nat.le_refl _) _
  have hv := hc.alloc (.cells (vec 8 nul) 25)
  go_enter Try.func42, Try.ntmps42
  go_upto_region 1 with fail
  show Code.wp _ _ _ _ (w.alloc (.cells (vec 8 nul) 25))
  generalize w.alloc (.cells (vec 8 nul) 25) = W at *
  have O := Lib.hid (open_any v W hv)
  clear hc hv
  go_wp2_with fail
  refine O.out.mono ?_; rintro e w1 ⟨rfl, hr, hb⟩
  have hO := hO.below hb
  have hL := below_next hL hb
  have z0 := hL.size
  have D := Lib.hid (cyc_drawn _ _ w1 hr (by omega))
  clear O hr hb
  generalize W.heap.size = R at *
  go_wp2_with fail
  refine D.out.mono ?_; rintro e w2 ⟨a, q, rfl, hq, hr2, hg2⟩
  have hO := hO.only hg2 (by omega)
  have hL := below_only hL hg2 z0 (by omega)
  have z2 := hL.size
  have zr := hr2.lt
  have zo := hO.lt
  clear D hg2
  go_upto_region 3 with (refine store_row rfl rfl rfl rfl (RowAt.newAt zero8 rfl) info_cyc ?_)
  show Code.wp _ _ _ _ (sole w2 a 25)
  have hO := sole_keep hO a 25
  have hA := sole_first w2 a 25
  have hL := sole_below hL a 25
  have hr : Rd (sole w2 a 25) R q := (hr2.alloc _).setRow zr _
  generalize w2.heap.size = g at *
  generalize sole w2 a 25 = W3 at *
  have z3 := hL.size
  clear hr2
  have D : Hid (Calls Try.prog 65 #[.pointer (some ⟨R, 0, none⟩)] W3.drew (Drew W3.drew R q 2 (-1) 100)) := Lib.hid (turn_drawn R q W3.drew hr (by omega))
  have HO := Lib.hid hO.drew1; have HL := Lib.hid hL.drew
  refine wp_region_held_drew (S := fun w' => RowAt w' g 8 25 a) (by kernel_rfl) hA.drew1 (fun hHeld => ?_)
  clear hO hL hA hr
  refine wpAnyH_take (i := 0) (oi := _) (v := .agg (vec 8 a)) rfl (by kernel_rfl) (by kernel_rfl) (by kernel_rfl) (fun _ _ _ h => h) (yieldsIf_load_mid (by rfl) _ _ rfl _ _ rfl _ _ (fun w h => h.range) Try.underlying25 rfl (size_cyc a)) hHeld ?_
  try simp only [Act.put, List.setIfInBounds_toArray, List.set_cons_zero, List.set_cons_succ, List.getElem_toArray, List.getElem_cons_succ, List.getElem_cons_zero]
  refine wpAnyH_take (i := 1) (oi := _) (v := .pointer (some ⟨R, 0, none⟩)) rfl (by kernel_rfl) (by kernel_rfl) (by kernel_rfl) (fun _ _ _ h => h) (Or.inl ⟨by rfl, fun w h => by go_simp⟩) hHeld ?_
  try simp only [Act.put, List.setIfInBounds_toArray, List.set_cons_zero, List.set_cons_succ, List.getElem_toArray, List.getElem_cons_succ, List.getElem_cons_zero]
  refine wpAnyH_ready (rs := [2]) (by kernel_rfl) (by simp) ?_
  refine AllReadyH.cons (o := _) rfl (fun K hK => ?_) AllReadyH.nil
  go_simp
  refine D.out.mono ?_; rintro e w4 ⟨n, q', rfl, n0, n1, hq', hr4, hg4⟩
  have hO := HO.out.only hg4 (by omega)
  have hL := below_only HL.out hg4 z3 (by omega)
  have hA := hHeld.only hg4 (by omega)
  clear D HO HL hg4 hHeld
  have HO := hO.setRow (f' := a)
  have HL := below_setRow hL (g := w.heap.size) (Nat.le_refl _) (vec 8 a)
  go_wp2_with fail
  refine hK.out _ _ hA (fun hHeld => ?_)
  clear hK K
  try simp only [Act.put, List.setIfInBounds_toArray, List.set_cons_zero, List.set_cons_succ, List.getElem_toArray, List.getElem_cons_succ, List.getElem_cons_zero]
  refine wpAnyH_ready (rs := [3]) (by kernel_rfl) (by simp) ?_
  refine AllReadyH.cons (o := _) rfl (fun K hK => ?_) AllReadyH.nil
  rw [if_pos (by rfl)]
  refine store_step rfl rfl rfl hO info_cyc ?_
  refine hK.out _ _ (hHeld.rowOther _ _ (by omega)) (fun hHeld => ?_)
  clear hK K
  try simp only [Act.put, List.setIfInBounds_toArray, List.set_cons_zero, List.set_cons_succ, List.getElem_toArray, List.getElem_cons_succ, List.getElem_cons_zero]
  refine wpAnyH_take (i := 4) (oi := _) (v := .int .i64 n) rfl (by kernel_rfl) (by kernel_rfl) (by kernel_rfl) (fun _ _ _ h => h) (Or.inl ⟨by rfl, fun w h => by go_simp⟩) hHeld ?_
  try simp only [Act.put, List.setIfInBounds_toArray, List.set_cons_zero, List.set_cons_succ, List.getElem_toArray, List.getElem_cons_succ, List.getElem_cons_zero]
  refine wpAnyH_done (by kernel_rfl) ?_ _
  go_wp2_with fail
  refine bodyPost_ret (results_row_tmp rfl rfl HO Try.underlying25 rfl info_cyc) rfl ?_
  exact ⟨_, _, rfl, n0, n1, HL⟩

set_option maxHeartbeats 800000 in
theorem drawCycScale (v : Value) (w : World) (hc : CodeAt w v) : Calls Try.prog 47 #[v] w (DrewPtInt w (-10) 2000010) := by
  have hO : RowAt (w.alloc (.cells (vec 8 nul) 25)) w.heap.size 8 25 nul := RowAt.newAt rfl rfl
  have hz : w.heap.size < (w.alloc (.cells (vec 8 nul) 25)).heap.size := by simp
  have hL : Below w.heap.size w (w.alloc (.cells (vec 8 nul) 25)) := (Below.refl _ _).alloc (Nat.le_refl _) _
  have hv := hc.alloc (.cells (vec 8 nul) 25)
  go_enter Try.func47, Try.ntmps47
  go_upto_region 1 with fail
  show Code.wp _ _ _ _ (w.alloc (.cells (vec 8 nul) 25))
  generalize w.alloc (.cells (vec 8 nul) 25) = W at *
  have O := Lib.hid (open_any v W hv)
  clear hc hv
  go_wp2_with fail
  refine O.out.mono ?_; rintro e w1 ⟨rfl, hr, hb⟩
  have hO := hO.below hb
  have hL := below_next hL hb
  have z0 := hL.size
  have D := Lib.hid (cyc_drawn _ _ w1 hr (by omega))
  clear O hr hb
  generalize W.heap.size = R at *
  go_wp2_with fail
  refine D.out.mono ?_; rintro e w2 ⟨a, q, rfl, hq, hr2, hg2⟩
  have hO := hO.only hg2 (by omega)
  have hL := below_only hL hg2 z0 (by omega)
  have z2 := hL.size
  have zr := hr2.lt
  have zo := hO.lt
  clear D hg2
  go_upto_region 3 with (refine store_row rfl rfl rfl rfl (RowAt.newAt zero8 rfl) info_cyc ?_)
  show Code.wp _ _ _ _ (sole w2 a 25)
  have hO := sole_keep hO a 25
  have hA := sole_first w2 a 25
  have hL := sole_below hL a 25
  have hr : Rd (sole w2 a 25) R q := (hr2.alloc _).setRow zr _
  generalize w2.heap.size = g at *
  generalize sole w2 a 25 = W3 at *
  have z3 := hL.size
  clear hr2
  have D : Hid (Calls Try.prog 80 #[.pointer (some ⟨R, 0, none⟩), .int .i64 21] W3.drew (Picked W3.drew R (q + 1) 21)) := Lib.hid (pick_any R q 21 W3.drew hr (by omega) (by omega))
  have HO := Lib.hid hO.drew1; have HL := Lib.hid hL.drew
  refine wp_region_held_drew (S := fun w' => RowAt w' g 8 25 a) (by kernel_rfl) hA.drew1 (fun hHeld => ?_)
  clear hO hL hA hr
  refine wpAnyH_take (i := 0) (oi := _) (v := .agg (vec 8 a)) rfl (by kernel_rfl) (by kernel_rfl) (by kernel_rfl) (fun _ _ _ h => h) (yieldsIf_load_mid (by rfl) _ _ rfl _ _ rfl _ _ (fun w h => h.range) Try.underlying25 rfl (size_cyc a)) hHeld ?_
  try simp only [Act.put, List.setIfInBounds_toArray, List.set_cons_zero, List.set_cons_succ, List.getElem_toArray, List.getElem_cons_succ, List.getElem_cons_zero]
  refine wpAnyH_take (i := 1) (oi := _) (v := .pointer (some ⟨R, 0, none⟩)) rfl (by kernel_rfl) (by kernel_rfl) (by kernel_rfl) (fun _ _ _ h => h) (Or.inl ⟨by rfl, fun w h => by go_simp⟩) hHeld ?_
  try simp only [Act.put, List.setIfInBounds_toArray, List.set_cons_zero, List.set_cons_succ, List.getElem_toArray, List.getElem_cons_succ, List.getElem_cons_zero]
  refine wpAnyH_take (i := 4) (oi := _) (v := .pointer (some ⟨R, 0, none⟩)) rfl (by kernel_rfl) (by kernel_rfl) (by kernel_rfl) (fun _ _ _ h => h) (Or.inl ⟨by rfl, fun w h => by go_simp⟩) hHeld ?_
  try simp only [Act.put, List.setIfInBounds_toArray, List.set_cons_zero, List.set_cons_succ, List.getElem_toArray, List.getElem_cons_succ, List.getElem_cons_zero]
  refine wpAnyH_ready (rs := [2]) (by kernel_rfl) (by simp) ?_
  refine AllReadyH.cons (o := _) rfl (fun K hK => ?_) AllReadyH.nil
  go_simp
  refine D.out.mono ?_; rintro e w4 ⟨n, rfl, n0, n1, hr4, hg4⟩
  have hO := HO.out.only hg4 (by omega)
  have hL := below_only HL.out hg4 z3 (by omega)
  have z4 := hL.size
  have hA := hHeld.only hg4 (by omega)
  have D2 : Hid (Calls Try.prog 80 #[.pointer (some ⟨R, 0, none⟩), .int .i64 20] w4 (Picked w4 R (q + 1 + 1) 20)) := Lib.hid (pick_any R (q + 1) 20 w4 hr4 (by omega) (by omega))
  clear D HO HL hg4 hHeld hr4
  have HO := Lib.hid hO; have HL := Lib.hid hL
  clear hO hL
  have v1 : IntKind.i64.wrap (n - 10) = n - 10 := by rw [IntKind.wrap_i64]; omega
  go_wp2_with fail
  refine hK.out _ _ hA (fun hHeld => ?_)
  clear hK K hA
  try simp only [Act.put, List.setIfInBounds_toArray, List.set_cons_zero, List.set_cons_succ, List.getElem_toArray, List.getElem_cons_succ, List.getElem_cons_zero]
  refine wpAnyH_take (i := 3) (oi := _) (v := .int .i64 (n - 10)) rfl (by kernel_rfl) (by kernel_rfl) (by kernel_rfl) (fun _ _ _ h => h) (Or.inl ⟨by rfl, fun w h => by go_simp⟩) hHeld ?_
  try simp only [Act.put, List.setIfInBounds_toArray, List.set_cons_zero, List.set_cons_succ, List.getElem_toArray, List.getElem_cons_succ, List.getElem_cons_zero]
  refine wpAnyH_ready (rs := [5]) (by kernel_rfl) (by simp) ?_
  refine AllReadyH.cons (o := _) rfl (fun K hK => ?_) AllReadyH.nil
  go_simp
  refine D2.out.mono ?_; rintro e w5 ⟨m, rfl, m0, m1, hr5, hg5⟩
  have hO := HO.out.only hg5 (by omega)
  have hL := below_only HL.out hg5 z4 (by omega)
  have hA := hHeld.only hg5 (by omega)
  clear D2 HO HL hg5 hHeld hr5
  have HO := hO.setRow (f' := a)
  have HL := below_setRow hL (g := w.heap.size) (Nat.le_refl _) (vec 8 a)
  go_wp2_with fail
  refine hK.out _ _ hA (fun hHeld => ?_)
  clear hK K hA
  have e1 := rare_factor m0 m1
  obtain ⟨x, hx, hx0, hx1⟩ : ∃ x : Int, (if m = 19 then (1 : Int) else 0) = x ∧ 0 ≤ x ∧ x ≤ 1 := ⟨_, rfl, by split <;> omega, by split <;> omega⟩
  rw [hx] at e1
  have e1' : m / 19 = x := by rw [← e1, Int.tdiv_eq_ediv_of_nonneg m0]
  have v2 : IntKind.i64.wrap x = x := by rw [IntKind.wrap_i64]; omega
  have v3 : IntKind.i64.wrap (x * 2000000) = x * 2000000 := by rw [IntKind.wrap_i64]; omega
  have v4 : IntKind.i64.wrap (n - 10 + x * 2000000) = n - 10 + x * 2000000 := by rw [IntKind.wrap_i64]; omega
  try simp only [Act.put, List.setIfInBounds_toArray, List.set_cons_zero, List.set_cons_succ, List.getElem_toArray, List.getElem_cons_succ, List.getElem_cons_zero]
  refine wpAnyH_take (i := 6) (oi := _) (v := .int .i64 x) rfl (by kernel_rfl) (by kernel_rfl) (by kernel_rfl) (fun _ _ _ h => h) (Or.inl ⟨by rfl, fun w h => by go_simp⟩) hHeld ?_
  try simp only [Act.put, List.setIfInBounds_toArray, List.set_cons_zero, List.set_cons_succ, List.getElem_toArray, List.getElem_cons_succ, List.getElem_cons_zero]
  refine wpAnyH_take (i := 7) (oi := _) (v := .int .i64 (x * 2000000)) rfl (by kernel_rfl) (by kernel_rfl) (by kernel_rfl) (fun _ _ _ h => h) (Or.inl ⟨by rfl, fun w h => by go_simp⟩) hHeld ?_
  try simp only [Act.put, List.setIfInBounds_toArray, List.set_cons_zero, List.set_cons_succ, List.getElem_toArray, List.getElem_cons_succ, List.getElem_cons_zero]
  refine wpAnyH_take (i := 8) (oi := _) (v := .int .i64 (n - 10 + x * 2000000)) rfl (by kernel_rfl) (by kernel_rfl) (by kernel_rfl) (fun _ _ _ h => h) (Or.inl ⟨by rfl, fun w h => by go_simp⟩) hHeld ?_
  try simp only [Act.put, List.setIfInBounds_toArray, List.set_cons_zero, List.set_cons_succ, List.getElem_toArray, List.getElem_cons_succ, List.getElem_cons_zero]
  refine wpAnyH_ready (rs := [9]) (by kernel_rfl) (by simp) ?_
  refine AllReadyH.cons (o := _) rfl (fun K hK => ?_) AllReadyH.nil
  rw [if_pos (by rfl)]
  refine store_step rfl rfl rfl hO info_cyc ?_
  refine hK.out _ _ (hHeld.rowOther _ _ (by omega)) (fun hHeld => ?_)
  clear hK K
  try simp only [Act.put, List.setIfInBounds_toArray, List.set_cons_zero, List.set_cons_succ, List.getElem_toArray, List.getElem_cons_succ, List.getElem_cons_zero]
  refine wpAnyH_take (i := 10) (oi := _) (v := .int .i64 (n - 10 + x * 2000000)) rfl (by kernel_rfl) (by kernel_rfl) (by kernel_rfl) (fun _ _ _ h => h) (Or.inl ⟨by rfl, fun w h => by go_simp⟩) hHeld ?_
  try simp only [Act.put, List.setIfInBounds_toArray, List.set_cons_zero, List.set_cons_succ, List.getElem_toArray, List.getElem_cons_succ, List.getElem_cons_zero]
  refine wpAnyH_done (by kernel_rfl) ?_ _
  go_wp2_with fail
  refine bodyPost_ret (results_row_tmp rfl rfl HO Try.underlying25 rfl info_cyc) rfl ?_
  exact ⟨_, _, rfl, by omega, by omega, HL⟩
end Go.Proofs.Ytjfljelpjgkmjaa
