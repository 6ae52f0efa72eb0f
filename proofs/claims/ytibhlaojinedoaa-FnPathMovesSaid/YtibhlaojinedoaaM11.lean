/-
  The draws of chapter 1: turns and fractions out of a code.
  The draws of exact points out of a code.
  The draws of whole points and of points that are often real.
  What the walks of the laws of exact points share.
-/
import Derived.Test.YtibhlaojinedoaaM03
import Derived.Test.YtibhlaojinedoaaM04
/- The draws of chapter 1: turns and fractions out of a code. -/
namespace Go.Proofs.Ytibhlaojinedoaa
set_option maxRecDepth 20000
open Go.ChangeShapes Go.WideShapes Go.ChangeAt Go.RowKit
set_option linter.unusedVariables false
set_option linter.unusedSimpArgs false

/-- A number drawn from a reader: its bounds; at most c picks; only the reader's block turns. -/
def Drew (w : World) (R p c : Nat) (lo hi : Int) (e : Ending) (w' : World) : Prop :=
  ∃ (k : Int) (q : Nat), e = .returned (.int .i64 k) ∧ lo ≤ k ∧ k ≤ hi ∧ q ≤ p + c ∧ Rd w' R q ∧ w.grownBy w' (some R)

/-- Two numbers drawn out of a code: nothing that lay has turned. -/
def Drew2 (w : World) (lo hi lo' hi' : Int) (e : Ending) (w' : World) : Prop :=
  ∃ (a b : Int), e = .returned (.tuple #[.int .i64 a, .int .i64 b]) ∧ lo ≤ a ∧ a ≤ hi ∧ lo' ≤ b ∧ b ≤ hi' ∧ Below w.heap.size w w'
/-- One number drawn out of a code. -/
def Drew1 (w : World) (lo hi : Int) (e : Ending) (w' : World) : Prop :=
  ∃ (a : Int), e = .returned (.int .i64 a) ∧ lo ≤ a ∧ a ≤ hi ∧ Below w.heap.size w w'

/-- The denominators that are drawn, as they lie. -/
abbrev denCells : Array Value := #[.int .i64 1, .int .i64 2, .int .i64 3, .int .i64 4, .int .i64 6, .int .i64 8, .int .i64 12, .int .i64 24, .int .i64 5, .int .i64 0, .int .i64 (-1)]
theorem den_at (k : Nat) (hk : k < 11) : ∃ d : Int, denCells[k]? = some (.int .i64 d) ∧ -1 ≤ d ∧ d ≤ 24 := by
  have key : ∀ j : Fin 11, ∃ d : Fin 26, denCells[j.val]? = some (.int .i64 ((d.val : Int) - 1)) := by
    intro j
    match j with
    | 0 => exact ⟨2, rfl⟩
    | 1 => exact ⟨3, rfl⟩
    | 2 => exact ⟨4, rfl⟩
    | 3 => exact ⟨5, rfl⟩
    | 4 => exact ⟨7, rfl⟩
    | 5 => exact ⟨9, rfl⟩
    | 6 => exact ⟨13, rfl⟩
    | 7 => exact ⟨25, rfl⟩
    | 8 => exact ⟨6, rfl⟩
    | 9 => exact ⟨1, rfl⟩
    | 10 => exact ⟨0, rfl⟩
  obtain ⟨d, hd⟩ := key ⟨k, hk⟩
  exact ⟨_, hd, by omega, by omega⟩
/-- What a pick out of the list hands back, the list laid ahead of it or behind it. -/
def PickDen (W : World) (R p : Nat) (cell : World → Nat → Option Value) (e : Ending) (w' : World) : Prop :=
  ∃ (k : Nat) (d : Int), e = .returned (.int .i64 k) ∧ (k : Int) < 11 ∧ -1 ≤ d ∧ d ≤ 24 ∧ cell w' k = some (.int .i64 d) ∧ Hid (Rd w' R p) ∧ Hid (W.grownBy w' (some R))
theorem denA (W : World) (R p : Nat) (h : Rd W R p) (hp : p ≤ 900000) : Calls Try.prog 16 #[.pointer (some ⟨R, 0, none⟩), .int .i64 11] (W.alloc (.cells denCells 3)).drew
    (PickDen W R (p + 1) fun w' k => w'.cell? ⟨W.heap.size, k, none⟩) := by
  have hlt := h.lt
  have hd : Rd (W.alloc (.cells denCells 3)).drew R p := (h.alloc _).keep (row := none) ⟨rfl, rfl, rfl, Nat.le_refl _, fun _ _ _ => rfl⟩ (fun g e => by cases e)
  refine (pick_any R p 11 _ hd (by omega) (by omega)).mono ?_
  rintro e w' ⟨k, rfl, k0, k1, hr, hg⟩
  obtain ⟨j, rfl⟩ : ∃ j : Nat, k = j := ⟨k.toNat, by omega⟩
  obtain ⟨d, hd, d0, d1⟩ := den_at j (by omega)
  refine ⟨j, d, rfl, by omega, d0, d1, ?_, Lib.hid hr, Lib.hid ?_⟩
  · exact hg.cell (a := ⟨W.heap.size, j, none⟩) ((World.cell?_alloc_at _ _ _ _ rfl).trans hd) (by simp; omega)
  · exact only_trans' (b := (W.alloc (.cells denCells 3)).drew) ⟨rfl, rfl, rfl, by simp [World.drew], fun i hi _ => Below.heap_alloc W _ i hi⟩ hg
theorem denB (W : World) (R p : Nat) (h : Rd W R p) (hp : p ≤ 900000) : Calls Try.prog 16 #[.pointer (some ⟨R, 0, none⟩), .int .i64 11] W.drew
    (PickDen W R (p + 1) fun w' k => (w'.alloc (.cells denCells 3)).cell? ⟨w'.heap.size, k, none⟩) := by
  have hd : Rd W.drew R p := h.keep (row := none) ⟨rfl, rfl, rfl, Nat.le_refl _, fun _ _ _ => rfl⟩ (fun g e => by cases e)
  refine (pick_any R p 11 _ hd (by omega) (by omega)).mono ?_
  rintro e w' ⟨k, rfl, k0, k1, hr, hg⟩
  obtain ⟨j, rfl⟩ : ∃ j : Nat, k = j := ⟨k.toNat, by omega⟩
  obtain ⟨d, hd, d0, d1⟩ := den_at j (by omega)
  refine ⟨j, d, rfl, by omega, d0, d1, (World.cell?_alloc_at _ _ _ _ rfl).trans hd, Lib.hid hr, Lib.hid ?_⟩
  exact only_trans' (b := W.drew) ⟨rfl, rfl, rfl, Nat.le_refl _, fun _ _ _ => rfl⟩ hg

end Go.Proofs.Ytibhlaojinedoaa
/- The draws of exact points out of a code. -/
namespace Go.Proofs.Ytibhlaojinedoaa
set_option maxRecDepth 20000
open Go.ChangeShapes Go.WideShapes Go.ChangeAt Go.RowKit
set_option linter.unusedVariables false
set_option linter.unusedSimpArgs false

theorem only_below {w w' : World} (h : Below w.heap.size w w') (row : Option Nat) : w.grownBy w' row := ⟨h.os, h.tape, h.output, h.size, fun i hi _ => h.block i hi⟩
theorem only_setRow {a w : World} {row : Option Nat} (h : a.grownBy w row) {g : Nat} (hg : a.heap.size ≤ g) (cs : Array Value) : a.grownBy (w.setRow g cs) row :=
  ⟨h.os, h.tape, h.output, by simpa using h.size, fun i hi hne => (setRow_other w g i cs (by omega)).trans (h.block i hi hne)⟩
theorem only_setCell {a w : World} {row : Option Nat} (h : a.grownBy w row) {g : Nat} (hg : a.heap.size ≤ g) (k : Nat) (v : Value) : a.grownBy (w.setCell ⟨g, k, none⟩ v) row :=
  ⟨h.os, h.tape, h.output, by simpa [World.setCell] using h.size, fun i hi hne => (heap_setCell_other w ⟨g, k, none⟩ i v (by simp; omega)).trans (h.block i hi hne)⟩
theorem Rd.setRow {w : World} {R p : Nat} (h : Rd w R p) {g : Nat} (hg : R < g) (cs : Array Value) : Rd (w.setRow g cs) R p :=
  h.keep (row := some g) ⟨rfl, rfl, rfl, by simp, fun i hi hne => setRow_other w g i cs (by rintro rfl; exact hne rfl)⟩ (fun x e => by cases e; exact hg)
theorem Rd.setCell {w : World} {R p : Nat} (h : Rd w R p) {g : Nat} (hg : R < g) (k : Nat) (v : Value) : Rd (w.setCell ⟨g, k, none⟩ v) R p :=
  h.keep (row := some g) ⟨rfl, rfl, rfl, by simp [World.setCell], fun i hi hne => heap_setCell_other w ⟨g, k, none⟩ i v (by rintro rfl; exact hne rfl)⟩ (fun x e => by cases e; exact hg)
theorem Rd.below {w w' : World} {R p : Nat} (h : Rd w R p) (hb : Below w.heap.size w w') : Rd w' R p := h.keep (row := none) (only_below hb none) (fun x e => by cases e)
theorem RowAt.only {w w' : World} {g n R : Nat} {T : TypeId} {f : Nat → Int} (h : RowAt w g n T f) (hg : w.grownBy w' (some R)) (hne : g ≠ R) : RowAt w' g n T f :=
  (hg.block g h.lt (by simpa using hne)).trans h

/-- A point drawn from a reader: at most c picks; only the reader's block turns. -/
def DrewPt (w : World) (R p c : Nat) (e : Ending) (w' : World) : Prop :=
  ∃ (a : Nat → Int) (q : Nat), e = .returned (pt a) ∧ q ≤ p + c ∧ Rd w' R q ∧ w.grownBy w' (some R)

set_option maxHeartbeats 1000000 in
theorem cyc_drawn (R p : Nat) (w : World) (h : Rd w R p) (hp : p ≤ 900000) :
    Calls Try.prog 44 #[.pointer (some ⟨R, 0, none⟩)] w (DrewPt w R p 20) := by
  have hlt := h.lt
  have hO := pair_first w 80
  have hE : RowAt ((w.alloc (.cells (vec 8 nul) 80)).alloc (.cells (vec 8 nul) 80)) (w.heap.size + 1) 8 80 nul := RowAt.newAt rfl (by simp)
  have hR := (h.alloc (.cells (vec 8 nul) 80)).alloc (.cells (vec 8 nul) 80)
  have hg := only_alloc (World.grownBy_alloc w (.cells (vec 8 nul) 80) (some R)) (.cells (vec 8 nul) 80)
  go_enter Try.func44, Try.ntmps44
  go_upto_region 2 with fail
  show Code.wp _ _ _ _ ((w.alloc (.cells (vec 8 nul) 80)).alloc (.cells (vec 8 nul) 80))
  generalize (w.alloc (.cells (vec 8 nul) 80)).alloc (.cells (vec 8 nul) 80) = W at *
  have P1 := Lib.hid (pick_any R p 8 W hR (by omega) (by omega))
  clear h
  go_wp2_with fail
  refine P1.out.mono ?_; rintro e w1 ⟨k, rfl, k0, k1, hr1, hg1⟩
  have hO := hO.only hg1 (by omega)
  have hE := hE.only hg1 (by omega)
  have hg := only_trans' hg hg1
  clear P1 hR hg1
  by_cases e0 : k = 0
  · subst e0
    have P2 := Lib.hid (pick_any R (p + 1) 24 w1 hr1 (by omega) (by omega))
    go_wp2_with fail
    refine P2.out.mono ?_; rintro e w2 ⟨r, rfl, r0, r1, hr2, hg2⟩
    have hO := hO.only hg2 (by omega)
    have hg := only_trans' hg hg2
    clear P2 hr1 hg2 hE
    obtain ⟨n, rfl⟩ : ∃ n : Nat, r = n := ⟨r.toNat, by omega⟩
    have S := fun w => specRoot_yes n (by omega) w
    go_wp2_with fail
    refine (S _).mono ?_; rintro e w3 ⟨rfl, hb3⟩
    have hO := hO.below hb3
    have hg := only_trans' hg (only_below hb3 (some R))
    have hr := hr2.below hb3
    clear S hr2
    have zg := hg.size
    have zr := hr.lt
    go_upto_region 5 with (refine store_row rfl rfl rfl rfl (RowAt.newAt zero8 rfl) info_cyc ?_)
    show Code.wp _ _ _ _ (sole w3 (trn one n) 80)
    have hO := sole_keep hO (trn one n) 80
    have hI := sole_first w3 (trn one n) 80
    have hg : w.grownBy (sole w3 (trn one n) 80) (some R) := only_setRow (only_alloc hg _) zg _
    have hr : Rd (sole w3 (trn one n) 80) R _ := (hr.alloc _).setRow zr _
    generalize sole w3 (trn one n) 80 = W4 at *
    go_wp2_with (first | (refine load_row rfl rfl rfl hI Try.underlying80 rfl info_cyc ?_) | (refine store_row rfl rfl rfl rfl hO info_cyc ?_))
    refine bodyPost_ret (results_row rfl rfl hO.setRow Try.underlying80 rfl info_cyc) rfl ?_
    exact ⟨_, _, rfl, by omega, hr.setRow hlt _, only_setRow hg (Nat.le_refl _) _⟩
  have e0' : (k == 0) = false := by simpa using e0
  by_cases e1 : k = 1
  · subst e1
    have P2 := Lib.hid (pick_any R (p + 1) 9 w1 hr1 (by omega) (by omega))
    go_wp2_with fail
    refine P2.out.mono ?_; rintro e w2 ⟨r, rfl, r0, r1, hr2, hg2⟩
    have hO := hO.only hg2 (by omega)
    have hg := only_trans' hg hg2
    have P3 := Lib.hid (pick_any R (p + 1 + 1) 9 w2 hr2 (by omega) (by omega))
    clear P2 hr1 hg2 hE hr2
    have v1 : IntKind.i64.wrap (r - 4) = r - 4 := by rw [IntKind.wrap_i64]; omega
    go_wp2_with fail
    refine P3.out.mono ?_; rintro e w3 ⟨s, rfl, s0, s1, hr3, hg3⟩
    have hO := hO.only hg3 (by omega)
    have hg := only_trans' hg hg3
    clear P3 hg3
    have v2 : IntKind.i64.wrap (s - 4) = s - 4 := by rw [IntKind.wrap_i64]; omega
    have S := fun w => specGaussIn_any (r - 4) (s - 4) w
    go_wp2_with fail
    refine (S _).mono ?_; rintro e w4 ⟨rfl, hb4⟩
    have hO := hO.below hb4
    have hg := only_trans' hg (only_below hb4 (some R))
    have hr := hr3.below hb4
    clear S hr3
    go_wp2_with (refine store_row rfl rfl rfl rfl hO info_cyc ?_)
    refine bodyPost_ret (results_row rfl rfl hO.setRow Try.underlying80 rfl info_cyc) rfl ?_
    exact ⟨_, _, rfl, by omega, hr.setRow hlt _, only_setRow hg (Nat.le_refl _) _⟩
  have e1' : (k == 1) = false := by simpa using e1
  by_cases e2 : k = 2
  · subst e2
    go_wp2_with (first | (refine load_row rfl rfl rfl hE Try.underlying80 rfl info_cyc ?_) | (refine store_row rfl rfl rfl rfl hO info_cyc ?_))
    refine bodyPost_ret (results_row rfl rfl hO.setRow Try.underlying80 rfl info_cyc) rfl ?_
    exact ⟨_, _, rfl, by omega, hr1.setRow hlt _, only_setRow hg (Nat.le_refl _) _⟩
  have e2' : (k == 2) = false := by simpa using e2
  have P2 := Lib.hid (pick_any R (p + 1) 3 w1 hr1 (by omega) (by omega))
  go_wp2_with fail
  refine P2.out.mono ?_; rintro e w2 ⟨m, rfl, m0, m1, hr2, hg2⟩
  have hO := hO.only hg2 (by omega)
  have hE := hE.only hg2 (by omega)
  have hg := only_trans' hg hg2
  clear P2 hr1 hg2
  have v1 : IntKind.i64.wrap (1 + m) = 1 + m := by rw [IntKind.wrap_i64]; omega
  go_wp2_with fail
  go_loopw [7] (fun i wr => ∃ (j q : Nat) (f : Nat → Int), (j : Int) ≤ 1 + m ∧ i = .int .i64 j ∧ q = p + 2 + 2 * j ∧ Rd wr R q ∧ RowAt wr w.heap.size 8 80 nul ∧ RowAt wr (w.heap.size + 1) 8 80 f ∧ w.grownBy wr (some R)) (fun i _ => 4 - (intOf i).toNat)
  case atStart => exact ⟨0, _, _, by omega, rfl, rfl, hr2, hO, hE, hg⟩
  case round =>
    clear hr2 hO hE hg
    obtain ⟨j, q, f, hj, rfl, hq, hr, hO, hE, hg⟩ := hrel
    by_cases hlt2 : (j : Int) < 1 + m
    · have P3 := Lib.hid (pick_any R q 8 wr hr (by omega) (by omega))
      go_wp2_with fail
      refine P3.out.mono ?_; rintro e w3 ⟨s, rfl, s0, s1, hr3, hg3⟩
      have hO := hO.only hg3 (by omega)
      have hE := hE.only hg3 (by omega)
      have hg := only_trans' hg hg3
      have P4 := Lib.hid (pick_any R (q + 1) 9 w3 hr3 (by omega) (by omega))
      clear P3 hr hg3 hr3
      go_wp2_with fail
      refine P4.out.mono ?_; rintro e w4 ⟨u, rfl, u0, u1, hr4, hg4⟩
      have hO := hO.only hg4 (by omega)
      have hE := hE.only hg4 (by omega)
      have hg := only_trans' hg hg4
      clear P4 hg4
      obtain ⟨n, rfl⟩ : ∃ n : Nat, s = n := ⟨s.toNat, by omega⟩
      have v2 : IntKind.i64.wrap (u - 4) = u - 4 := by rw [IntKind.wrap_i64]; omega
      have cE := hE.cell (k := n) (by omega)
      have fE := hE.free n
      have HE := Lib.hid (hE.set (k := n) (by omega) (u - 4))
      have HO := Lib.hid (hO.other ⟨w.heap.size + 1, n, none⟩ (.int .i64 (u - 4)) (by simp))
      have HG := Lib.hid (only_setCell hg (g := w.heap.size + 1) (by omega) n (.int .i64 (u - 4)))
      have HR := Lib.hid (hr4.setCell (g := w.heap.size + 1) (by omega) n (.int .i64 (u - 4)))
      clear hO hE hg hr4
      generalize f n = y at cE
      go_wp2_with fail
      go_roundw
      case rel => exact ⟨j + 1, _, _, by omega, by go_num, by omega, HR.out, HO.out, HE.out, HG.out⟩
      case measure => simp [intOf]; omega
    · have P3 := Lib.hid (pick_any R q 30 wr hr (by omega) (by omega))
      go_wp2_with fail
      refine P3.out.mono ?_; rintro e w3 ⟨s, rfl, s0, s1, hr3, hg3⟩
      have hO := hO.only hg3 (by omega)
      have hE := hE.only hg3 (by omega)
      have hg := only_trans' hg hg3
      clear P3 hr hg3
      by_cases x0 : s = 0
      · subst x0
        have cE := hE.cell (k := 0) (by omega)
        have fE := hE.free 0
        have HE := Lib.hid (hE.set (k := 0) (by omega) 1000001)
        have HO := Lib.hid (hO.other ⟨w.heap.size + 1, 0, none⟩ (.int .i64 1000001) (by simp))
        have HG := Lib.hid (only_setCell hg (g := w.heap.size + 1) (by omega) 0 (.int .i64 1000001))
        have HR := Lib.hid (hr3.setCell (g := w.heap.size + 1) (by omega) 0 (.int .i64 1000001))
        clear hO hE hg hr3
        generalize f 0 = y at cE
        go_upto_region 20 with fail
        go_wp2_with (first | (refine load_row rfl rfl rfl HE.out Try.underlying80 rfl info_cyc ?_) | (refine store_row rfl rfl rfl rfl HO.out info_cyc ?_))
        refine bodyPost_ret (results_row rfl rfl HO.out.setRow Try.underlying80 rfl info_cyc) rfl ?_
        exact ⟨_, _, rfl, by omega, HR.out.setRow hlt _, only_setRow HG.out (Nat.le_refl _) _⟩
      have x0' : (s == 0) = false := by simpa using x0
      by_cases x1 : s = 1
      · subst x1
        have cE := hE.cell (k := 7) (by omega)
        have fE := hE.free 7
        have HE := Lib.hid (hE.set (k := 7) (by omega) 1000000)
        have HO := Lib.hid (hO.other ⟨w.heap.size + 1, 7, none⟩ (.int .i64 1000000) (by simp))
        have HG := Lib.hid (only_setCell hg (g := w.heap.size + 1) (by omega) 7 (.int .i64 1000000))
        have HR := Lib.hid (hr3.setCell (g := w.heap.size + 1) (by omega) 7 (.int .i64 1000000))
        clear hO hE hg hr3
        generalize f 7 = y at cE
        go_upto_region 20 with fail
        go_wp2_with (first | (refine load_row rfl rfl rfl HE.out Try.underlying80 rfl info_cyc ?_) | (refine store_row rfl rfl rfl rfl HO.out info_cyc ?_))
        refine bodyPost_ret (results_row rfl rfl HO.out.setRow Try.underlying80 rfl info_cyc) rfl ?_
        exact ⟨_, _, rfl, by omega, HR.out.setRow hlt _, only_setRow HG.out (Nat.le_refl _) _⟩
      have x1' : (s == 1) = false := by simpa using x1
      go_wp2_with (first | (refine load_row rfl rfl rfl hE Try.underlying80 rfl info_cyc ?_) | (refine store_row rfl rfl rfl rfl hO info_cyc ?_))
      refine bodyPost_ret (results_row rfl rfl hO.setRow Try.underlying80 rfl info_cyc) rfl ?_
      exact ⟨_, _, rfl, by omega, hr3.setRow hlt _, only_setRow hg (Nat.le_refl _) _⟩
theorem CodeAt.alloc {w : World} {v : Value} (h : CodeAt w v) (o : Obj) : CodeAt (w.alloc o) v := by
  rcases h with h | ⟨b, off, len, cap, zs, h0, hb, h1, h2, h3, hc, hz⟩
  · exact .inl h
  · exact .inr ⟨b, off, len, cap, zs, h0, by simp; omega, h1, h2, h3, fun i hi => (World.cell?_alloc_past _ _ _ hb).trans (hc i hi), hz⟩
/-- A point drawn out of a code. -/
def DrewOne (w : World) (e : Ending) (w' : World) : Prop := ∃ a : Nat → Int, e = .returned (pt a) ∧ Below w.heap.size w w'
/-- Two points drawn out of a code. -/
def DrewPts (w : World) (e : Ending) (w' : World) : Prop := ∃ a b : Nat → Int, e = .returned (.tuple #[pt a, pt b]) ∧ Below w.heap.size w w'
/-- A point and a number drawn out of a code. -/
def DrewPtInt (w : World) (lo hi : Int) (e : Ending) (w' : World) : Prop := ∃ (a : Nat → Int) (n : Int), e = .returned (.tuple #[pt a, .int .i64 n]) ∧ lo ≤ n ∧ n ≤ hi ∧ Below w.heap.size w w'
theorem results_row_row {P : Program} {fn : Func} {p q : Tmp} {ty : TypeId} {tmps : Array Value} {w : World} {g g' n : Nat} {T T' : TypeId} {f f' : Nat → Int} {d : TypeDesc} (h : fn.results = #[.cell p ty, .cell q ty]) (hp : tmps.getD p undef = .pointer (some ⟨g, 0, none⟩)) (hq : tmps.getD q undef = .pointer (some ⟨g', 0, none⟩)) (hg : RowAt w g n T f) (hg' : RowAt w g' n T' f')
    (hu : P.underlying ty = some d) (hd : (match d with | .struct _ | .array _ _ => true | _ => false) = true) (hi : (P.info? ty).map (·.size) = some n) :
    (results fn tmps).run P w = .ok (.tuple #[.agg (vec n f), .agg (vec n f')]) w := results_row2 h hp hq hg hg' hu hd hi hu hd hi

/-- Nothing, one or not: the rare factor of a draw. -/
theorem rare_factor {k : Int} (h0 : 0 ≤ k) (h1 : k < 20) : Int.tdiv k 19 = (if k = 19 then 1 else 0) := by
  rw [Int.tdiv_eq_ediv_of_nonneg h0]
  split <;> omega

end Go.Proofs.Ytibhlaojinedoaa
/- The draws of whole points and of points that are often real. -/
namespace Go.Proofs.Ytibhlaojinedoaa
set_option maxRecDepth 20000
open Go.ChangeShapes Go.WideShapes Go.ChangeAt Go.RowKit
set_option linter.unusedVariables false
set_option linter.unusedSimpArgs false

end Go.Proofs.Ytibhlaojinedoaa
/- What the walks of the laws of exact points share. -/
namespace Go.Proofs.Ytibhlaojinedoaa
set_option maxRecDepth 20000
open Go.ChangeShapes Go.WideShapes Go.ChangeAt Go.RowKit
set_option linter.unusedVariables false
set_option linter.unusedSimpArgs false

theorem code_length {w : World} {v : Value} (h : CodeAt w v) : ∃ a n c, v = .slice a n c ∧ n ≤ 9223372036854775807 := by
  rcases h with ⟨a, rfl⟩ | ⟨b, off, len, cap, zs, rfl, _, h1, h2, _⟩
  · exact ⟨a, 0, 0, rfl, by omega⟩
  · exact ⟨_, _, _, rfl, by unfold maxLen at h2; omega⟩
theorem ans_t {v : Bool} {c : Nat → Int} (h : (v && okc c) = true) : ans v c = .tuple #[.agg (vec 8 c), .bool true] := by simp [ans, h]
theorem ans_f {v : Bool} {c : Nat → Int} (h : (v && okc c) = false) : ans v c = .tuple #[.agg (vec 8 nul), .bool false] := by simp [ans, h]
theorem ans_is {v : Bool} {c d : Nat → Int} (h : Eight c d) (hv : (v && okc d) = true) : ans v c = .tuple #[.agg (vec 8 d), .bool true] := by rw [ans_same v h]; exact ans_t hv
theorem eq_cells (f : Nat → Int) (w : World) : (Op.equalIn 10000 80 (.agg #[.int .i64 (f 0), .int .i64 (f 1), .int .i64 (f 2), .int .i64 (f 3), .int .i64 (f 4), .int .i64 (f 5), .int .i64 (f 6), .int .i64 (f 7)]) (.agg #[.int .i64 (f 0), .int .i64 (f 1), .int .i64 (f 2), .int .i64 (f 3), .int .i64 (f 4), .int .i64 (f 5), .int .i64 (f 6), .int .i64 (f 7)])).run Try.prog w = .ok true w := by
  have h := equal_cyc f f w
  rw [eqv_true (fun _ _ => rfl)] at h
  exact h
theorem eq_nul (w : World) : (Op.equalIn 10000 80 (.agg #[.int .i64 (nul 0), .int .i64 (nul 1), .int .i64 (nul 2), .int .i64 (nul 3), .int .i64 (nul 4), .int .i64 (nul 5), .int .i64 (nul 6), .int .i64 (nul 7)]) (.agg #[.int .i64 0, .int .i64 0, .int .i64 0, .int .i64 0, .int .i64 0, .int .i64 0, .int .i64 0, .int .i64 0])).run Try.prog w = .ok true w := eq_cells nul w
theorem okc_nul : okc nul = true := by decide
theorem okc_scl {a : Nat → Int} (h : okc a = true) : okc (scl (-1) a) = true := inR_okc fun j hj => by have := okc_inR h j hj; simp only [scl]; omega
theorem okc_root {t : Nat} (ht : t ≤ 23) : okc (trn one t) = true := inR_okc fun j hj => by have := (root_facts t ht j hj).1; omega
theorem okc_mroot {t : Nat} (ht : t ≤ 23) : okc (mir (trn one t)) = true := inR_okc fun j hj => by have := (root_facts t ht j hj).2.1; omega
theorem okc_one : okc one = true := by decide
theorem rl_true {a : Nat → Int} (h : Eight (mir a) a) : rl a = true := eqv_true h
theorem rl_same {a : Nat → Int} (h : rl a = true) : Eight (mir a) a := eqv_same h
theorem mir_same {a b : Nat → Int} (h : Eight a b) : Eight (mir a) (mir b) := by
  have h0 := h 0 (by omega); have h1 := h 1 (by omega); have h2 := h 2 (by omega); have h3 := h 3 (by omega); have h4 := h 4 (by omega); have h5 := h 5 (by omega); have h6 := h 6 (by omega); have h7 := h 7 (by omega)
  refine eight_cases ?_ ?_ ?_ ?_ ?_ ?_ ?_ ?_ <;> simp [mir, *]
theorem prd_both {a : Nat → Int} (h : Eight (mir a) a) : Eight (mir (prd a a)) (prd a a) := fun j hj =>
  (mir_prd a a j hj).trans ((prd_same h j hj).trans ((prd_comm a (mir a) j hj).trans (prd_same h j hj)))
end Go.Proofs.Ytibhlaojinedoaa
