/-
  Out of the text DrawCyc: what the draws of polygons need.
  Out of the text KDrawWheel: what the draws of polygons need.
  Out of the text KDrawSym: what the draws of polygons need.
  Out of the text LawCycBase: what the draws of polygons need.
-/
import Derived.Test.YtdpakhggpgdgbaaGreatM03
import Derived.Test.YtdpakhggpgdgbaaGreatM04
import Derived.Test.YtdpakhggpgdgbaaGreatM13
import Derived.Test.YtdpakhggpgdgbaaGreatM20
import Derived.Deep.CutBlock
import Derived.Test.YtdpakhggpgdgbaaGreatM02
import Derived.Deep.QuietTactic
import Derived.BigQuiet
/- Out of the text DrawCyc: what the draws of polygons need. -/
namespace Go.Proofs.YtdpakhggpgdgbaaGreat
set_option maxRecDepth 20000
open Go.ChangeShapes Go.WideShapes Go.ChangeAt Go.RowKit
set_option linter.unusedVariables false
set_option linter.unusedSimpArgs false
theorem only_below {w w' : World} (h : Below w.heap.size w w') (row : Option Nat) : w.grownBy w' row := ⟨h.os, h.tape, h.output, h.size, fun i hi _ => h.block i hi⟩
theorem only_setRow {a w : World} {row : Option Nat} (h : a.grownBy w row) {g : Nat} (hg : a.heap.size ≤ g) (cs : Array Value) : a.grownBy (w.setRow g cs) row :=
  ⟨h.os, h.tape, h.output, by simpa using h.size, fun i hi hne => (setRow_other w g i cs (by omega)).trans (h.block i hi hne)⟩
theorem only_setCell {a w : World} {row : Option Nat} (h : a.grownBy w row) {g : Nat} (hg : a.heap.size ≤ g) (k : Nat) (v : Value) : a.grownBy (w.setCell ⟨g, k, none⟩ v) row :=
  ⟨h.os, h.tape, h.output, by simpa [World.setCell] using h.size, fun i hi hne => (heap_setCell_other w ⟨g, k, none⟩ i v (by simp; omega)).trans (h.block i hi hne)⟩
theorem Rd.setRow {w : World} {R p : Nat} (h : Rd w R p) {g : Nat} (hg : R < g) (cs : Array Value) : Rd (w.setRow g cs) R p :=
  h.keep (row := some g) ⟨rfl, rfl, rfl, by simp, fun i hi hne => setRow_other w g i cs (by rintro rfl; exact hne rfl)⟩ (fun x e => by cases e; exact hg)
theorem Rd.setCell {w : World} {R p : Nat} (h : Rd w R p) {g : Nat} (hg : R < g) (k : Nat) (v : Value) : Rd (w.setCell ⟨g, k, none⟩ v) R p :=
  h.keep (row := some g) ⟨rfl, rfl, rfl, by simp [World.setCell], fun i hi hne => heap_setCell_other w ⟨g, k, none⟩ i v (by rintro rfl; exact hne rfl)⟩ (fun x e => by cases e; exact hg)
theorem Rd.below {w w' : World} {R p : Nat} (h : Rd w R p) (hb : Below w.heap.size w w') : Rd w' R p := h.keep (row := none) (only_below hb none) (fun x e => by cases e)
theorem RowAt.only {w w' : World} {g n R : Nat} {T : TypeId} {f : Nat → Int} (h : RowAt w g n T f) (hg : w.grownBy w' (some R)) (hne : g ≠ R) : RowAt w' g n T f :=
  (hg.block g h.lt (by simpa using hne)).trans h

/-- A point drawn from a reader: at most c picks; only the reader's block turns. -/
def DrewPt (w : World) (R p c : Nat) (e : Ending) (w' : World) : Prop :=
  ∃ (a : Nat → Int) (q : Nat), e = .returned (pt a) ∧ q ≤ p + c ∧ Rd w' R q ∧ w.grownBy w' (some R)

set_option maxHeartbeats 1000000 in
theorem cyc_drawn (R p : Nat) (w : World) (h : Rd w R p) (hp : p ≤ 900000) :
    Calls Tryz.prog 47 #[.pointer (some ⟨R, 0, none⟩)] w (DrewPt w R p 20) := by
  have hlt := h.lt
  have hO := pair_first w 40
  have hE : RowAt ((w.alloc (.cells (vec 8 nul) 40)).alloc (.cells (vec 8 nul) 40)) (w.heap.size + 1) 8 40 nul := RowAt.newAt rfl (by simp)
  have hR := (h.alloc (.cells (vec 8 nul) 40)).alloc (.cells (vec 8 nul) 40)
  have hg := only_alloc (World.grownBy_alloc w (.cells (vec 8 nul) 40) (some R)) (.cells (vec 8 nul) 40)
  go_enter Tryz.func47, Tryz.ntmps47
  go_upto_region 2 with fail
  show Code.wp _ _ _ _ ((w.alloc (.cells (vec 8 nul) 40)).alloc (.cells (vec 8 nul) 40))
  generalize (w.alloc (.cells (vec 8 nul) 40)).alloc (.cells (vec 8 nul) 40) = W at *
  have P1 := Lib.hid (pick_any R p 8 W hR (by omega) (by omega))
  clear h
  go_wp2_with fail
  refine P1.out.mono ?_; rintro e w1 ⟨k, rfl, k0, k1, hr1, hg1⟩
  have hO := hO.only hg1 (by omega)
  have hE := hE.only hg1 (by omega)
  have hg := only_trans' hg hg1
  clear P1 hR hg1
  by_cases e0 : k = 0
  · subst e0
    have P2 := Lib.hid (pick_any R (p + 1) 24 w1 hr1 (by omega) (by omega))
    go_wp2_with fail
    refine P2.out.mono ?_; rintro e w2 ⟨r, rfl, r0, r1, hr2, hg2⟩
    have hO := hO.only hg2 (by omega)
    have hg := only_trans' hg hg2
    clear P2 hr1 hg2 hE
    obtain ⟨n, rfl⟩ : ∃ n : Nat, r = n := ⟨r.toNat, by omega⟩
    have S := fun w => specRoot_yes n (by omega) w
    go_wp2_with fail
    refine (S _).mono ?_; rintro e w3 ⟨rfl, hb3⟩
    have hO := hO.below hb3
    have hg := only_trans' hg (only_below hb3 (some R))
    have hr := hr2.below hb3
    clear S hr2
    have zg := hg.size
    have zr := hr.lt
    go_upto_region 5 with (refine store_row rfl rfl rfl rfl (RowAt.newAt zero8 rfl) info_cyc ?_)
    show Code.wp _ _ _ _ (sole w3 (trn one n) 40)
    have hO := sole_keep hO (trn one n) 40
    have hI := sole_first w3 (trn one n) 40
    have hg : w.grownBy (sole w3 (trn one n) 40) (some R) := only_setRow (only_alloc hg _) zg _
    have hr : Rd (sole w3 (trn one n) 40) R _ := (hr.alloc _).setRow zr _
    generalize sole w3 (trn one n) 40 = W4 at *
    go_wp2_with (first | (refine load_row rfl rfl rfl hI Tryz.underlying40 rfl info_cyc ?_) | (refine store_row rfl rfl rfl rfl hO info_cyc ?_))
    refine bodyPost_ret (results_row rfl rfl hO.setRow Tryz.underlying40 rfl info_cyc) rfl ?_
    exact ⟨_, _, rfl, by omega, hr.setRow hlt _, only_setRow hg (Nat.le_refl _) _⟩
  have e0' : (k == 0) = false := by simpa using e0
  by_cases e1 : k = 1
  · subst e1
    have P2 := Lib.hid (pick_any R (p + 1) 9 w1 hr1 (by omega) (by omega))
    go_wp2_with fail
    refine P2.out.mono ?_; rintro e w2 ⟨r, rfl, r0, r1, hr2, hg2⟩
    have hO := hO.only hg2 (by omega)
    have hg := only_trans' hg hg2
    have P3 := Lib.hid (pick_any R (p + 1 + 1) 9 w2 hr2 (by omega) (by omega))
    clear P2 hr1 hg2 hE hr2
    have v1 : IntKind.i64.wrap (r - 4) = r - 4 := by rw [IntKind.wrap_i64]; omega
    go_wp2_with fail
    refine P3.out.mono ?_; rintro e w3 ⟨s, rfl, s0, s1, hr3, hg3⟩
    have hO := hO.only hg3 (by omega)
    have hg := only_trans' hg hg3
    clear P3 hg3
    have v2 : IntKind.i64.wrap (s - 4) = s - 4 := by rw [IntKind.wrap_i64]; omega
    have S := fun w => specGaussIn_any (r - 4) (s - 4) w
    go_wp2_with fail
    refine (S _).mono ?_; rintro e w4 ⟨rfl, hb4⟩
    have hO := hO.below hb4
    have hg := only_trans' hg (only_below hb4 (some R))
    have hr := hr3.below hb4
    clear S hr3
    go_wp2_with (refine store_row rfl rfl rfl rfl hO info_cyc ?_)
    refine bodyPost_ret (results_row rfl rfl hO.setRow Tryz.underlying40 rfl info_cyc) rfl ?_
    exact ⟨_, _, rfl, by omega, hr.setRow hlt _, only_setRow hg (Nat.le_refl _) _⟩
  have e1' : (k == 1) = false := by simpa using e1
  by_cases e2 : k = 2
  · subst e2
    go_wp2_with (first | (refine load_row rfl rfl rfl hE Tryz.underlying40 rfl info_cyc ?_) | (refine store_row rfl rfl rfl rfl hO info_cyc ?_))
    refine bodyPost_ret (results_row rfl rfl hO.setRow Tryz.underlying40 rfl info_cyc) rfl ?_
    exact ⟨_, _, rfl, by omega, hr1.setRow hlt _, only_setRow hg (Nat.le_refl _) _⟩
  have e2' : (k == 2) = false := by simpa using e2
  have P2 := Lib.hid (pick_any R (p + 1) 3 w1 hr1 (by omega) (by omega))
  go_wp2_with fail
  refine P2.out.mono ?_; rintro e w2 ⟨m, rfl, m0, m1, hr2, hg2⟩
  have hO := hO.only hg2 (by omega)
  have hE := hE.only hg2 (by omega)
  have hg := only_trans' hg hg2
  clear P2 hr1 hg2
  have v1 : IntKind.i64.wrap (1 + m) = 1 + m := by rw [IntKind.wrap_i64]; omega
  go_wp2_with fail
  go_loopw [7] (fun i wr => ∃ (j q : Nat) (f : Nat → Int), (j : Int) ≤ 1 + m ∧ i = .int .i64 j ∧ q = p + 2 + 2 * j ∧ Rd wr R q ∧ RowAt wr w.heap.size 8 40 nul ∧ RowAt wr (w.heap.size + 1) 8 40 f ∧ w.grownBy wr (some R)) (fun i _ => 4 - (intOf i).toNat)
  case atStart => exact ⟨0, _, _, by omega, rfl, rfl, hr2, hO, hE, hg⟩
  case round =>
    clear hr2 hO hE hg
    obtain ⟨j, q, f, hj, rfl, hq, hr, hO, hE, hg⟩ := hrel
    by_cases hlt2 : (j : Int) < 1 + m
    · have P3 := Lib.hid (pick_any R q 8 wr hr (by omega) (by omega))
      go_wp2_with fail
      refine P3.out.mono ?_; rintro e w3 ⟨s, rfl, s0, s1, hr3, hg3⟩
      have hO := hO.only hg3 (by omega)
      have hE := hE.only hg3 (by omega)
      have hg := only_trans' hg hg3
      have P4 := Lib.hid (pick_any R (q + 1) 9 w3 hr3 (by omega) (by omega))
      clear P3 hr hg3 hr3
      go_wp2_with fail
      refine P4.out.mono ?_; rintro e w4 ⟨u, rfl, u0, u1, hr4, hg4⟩
      have hO := hO.only hg4 (by omega)
      have hE := hE.only hg4 (by omega)
      have hg := only_trans' hg hg4
      clear P4 hg4
      obtain ⟨n, rfl⟩ : ∃ n : Nat, s = n := ⟨s.toNat, by omega⟩
      have v2 : IntKind.i64.wrap (u - 4) = u - 4 := by rw [IntKind.wrap_i64]; omega
      have cE := hE.cell (k := n) (by omega)
      have fE := hE.free n
      have HE := Lib.hid (hE.set (k := n) (by omega) (u - 4))
      have HO := Lib.hid (hO.other ⟨w.heap.size + 1, n, none⟩ (.int .i64 (u - 4)) (by simp))
      have HG := Lib.hid (only_setCell hg (g := w.heap.size + 1) (by omega) n (.int .i64 (u - 4)))
      have HR := Lib.hid (hr4.setCell (g := w.heap.size + 1) (by omega) n (.int .i64 (u - 4)))
      clear hO hE hg hr4
      generalize f n = y at cE
      go_wp2_with fail
      go_roundw
      case rel => exact ⟨j + 1, _, _, by omega, by go_num, by omega, HR.out, HO.out, HE.out, HG.out⟩
      case measure => simp [intOf]; omega
    · have P3 := Lib.hid (pick_any R q 30 wr hr (by omega) (by omega))
      go_wp2_with fail
      refine P3.out.mono ?_; rintro e w3 ⟨s, rfl, s0, s1, hr3, hg3⟩
      have hO := hO.only hg3 (by omega)
      have hE := hE.only hg3 (by omega)
      have hg := only_trans' hg hg3
      clear P3 hr hg3
      by_cases x0 : s = 0
      · subst x0
        have cE := hE.cell (k := 0) (by omega)
        have fE := hE.free 0
        have HE := Lib.hid (hE.set (k := 0) (by omega) 1000001)
        have HO := Lib.hid (hO.other ⟨w.heap.size + 1, 0, none⟩ (.int .i64 1000001) (by simp))
        have HG := Lib.hid (only_setCell hg (g := w.heap.size + 1) (by omega) 0 (.int .i64 1000001))
        have HR := Lib.hid (hr3.setCell (g := w.heap.size + 1) (by omega) 0 (.int .i64 1000001))
        clear hO hE hg hr3
        generalize f 0 = y at cE
        go_upto_region 20 with fail
        go_wp2_with (first | (refine load_row rfl rfl rfl HE.out Tryz.underlying40 rfl info_cyc ?_) | (refine store_row rfl rfl rfl rfl HO.out info_cyc ?_))
        refine bodyPost_ret (results_row rfl rfl HO.out.setRow Tryz.underlying40 rfl info_cyc) rfl ?_
        exact ⟨_, _, rfl, by omega, HR.out.setRow hlt _, only_setRow HG.out (Nat.le_refl _) _⟩
      have x0' : (s == 0) = false := by simpa using x0
      by_cases x1 : s = 1
      · subst x1
        have cE := hE.cell (k := 7) (by omega)
        have fE := hE.free 7
        have HE := Lib.hid (hE.set (k := 7) (by omega) 1000000)
        have HO := Lib.hid (hO.other ⟨w.heap.size + 1, 7, none⟩ (.int .i64 1000000) (by simp))
        have HG := Lib.hid (only_setCell hg (g := w.heap.size + 1) (by omega) 7 (.int .i64 1000000))
        have HR := Lib.hid (hr3.setCell (g := w.heap.size + 1) (by omega) 7 (.int .i64 1000000))
        clear hO hE hg hr3
        generalize f 7 = y at cE
        go_upto_region 20 with fail
        go_wp2_with (first | (refine load_row rfl rfl rfl HE.out Tryz.underlying40 rfl info_cyc ?_) | (refine store_row rfl rfl rfl rfl HO.out info_cyc ?_))
        refine bodyPost_ret (results_row rfl rfl HO.out.setRow Tryz.underlying40 rfl info_cyc) rfl ?_
        exact ⟨_, _, rfl, by omega, HR.out.setRow hlt _, only_setRow HG.out (Nat.le_refl _) _⟩
      have x1' : (s == 1) = false := by simpa using x1
      go_wp2_with (first | (refine load_row rfl rfl rfl hE Tryz.underlying40 rfl info_cyc ?_) | (refine store_row rfl rfl rfl rfl hO info_cyc ?_))
      refine bodyPost_ret (results_row rfl rfl hO.setRow Tryz.underlying40 rfl info_cyc) rfl ?_
      exact ⟨_, _, rfl, by omega, hr3.setRow hlt _, only_setRow hg (Nat.le_refl _) _⟩
theorem CodeAt.alloc {w : World} {v : Value} (h : CodeAt w v) (o : Obj) : CodeAt (w.alloc o) v := by
  rcases h with h | ⟨b, off, len, cap, zs, h0, hb, h1, h2, h3, hc, hz⟩
  · exact .inl h
  · exact .inr ⟨b, off, len, cap, zs, h0, by simp; omega, h1, h2, h3, fun i hi => (World.cell?_alloc_past _ _ _ hb).trans (hc i hi), hz⟩
end Go.Proofs.YtdpakhggpgdgbaaGreat
/- Out of the text KDrawWheel: what the draws of polygons need. -/
namespace Go.Proofs.YtdpakhggpgdgbaaGreat
set_option maxRecDepth 20000
open Go.ChangeShapes Go.WideShapes Go.ChangeAt Go.RowKit
set_option linter.unusedVariables false
set_option linter.unusedSimpArgs false
theorem own_kept {w w' : World} {B T R : Nat} {v : Value} {ws : List Wh} (h : Own w B T v ws) (hg : w.grownBy w' (some R)) (hR : R < B) : Own w' B T v ws := by
  refine h.kept hg ?_
  cases e : v.ownBlock with
  | none => exact .inl rfl
  | some k =>
    have := (h.lt k e).1
    exact .inr (by simp; omega)
theorem only_own {a w w' : World} {R B : Nat} {v : Value} (h : a.grownBy w (some R)) (hg : w.grownBy w' v.ownBlock) (hv : ∀ k, v.ownBlock = some k → a.heap.size ≤ k) : a.grownBy w' (some R) :=
  ⟨hg.os.trans h.os, hg.tape.trans h.tape, hg.output.trans h.output, Nat.le_trans h.size hg.size, fun i hi hne =>
    (hg.block i (Nat.lt_of_lt_of_le hi h.size) (fun e => by have := hv i e.symm; omega)).trans (h.block i hi hne)⟩
section
variable {P : Program} {t e : TypeId} {ops : Array Oper} {rest : List Oper} {o : Oper} {a : Act} {Q : Exit → Act → World → Prop} {w0 w : World} {R q : Nat}
/-- Appending while a reader is open. -/
theorem append_drawn (ty : Ty9 P t e) (hgd : o.guard = none) {s x : Operand} (hop : o.op = .call { callee := .builtin .append, args := #[s, x], argTypes := #[t, t] })
    {v x' : Value} {xs ys : List Wh} (hs : a.eval s = v) (hx : a.eval x = x') (hown : Own w w0.heap.size e v xs) (hr : Reads w x' ys) (hlen : xs.length + ys.length ≤ 1000000000000) (hg : w0.grownBy w (some R)) (hR : Rd w R q) (hlt : R < w0.heap.size)
    (h : ∀ v' w', Own w' w0.heap.size e v' (xs ++ ys) → Rd w' R q → w0.grownBy w' (some R) → wpList P ops Q rest (a.put o.dst v') w') : wpList P ops Q (o :: rest) a w := by
  refine wpList_plain hgd fun _ hK => wp_append_list2 (w0 := w) ty hop hs hx hown hr hlen (Below.refl _ _) hg.size fun v' w' h1 _ _ h4 => hK _ _ (h v' w' h1 ?_ ?_)
  · exact hR.keep h4 fun k hk => by have := (hown.lt k hk).1; omega
  · exact only_own (B := 0) hg h4 fun k hk => (hown.lt k hk).1
theorem build_speed {T : TypeId} {x : Operand} {s : Int} (hgd : o.guard = none) (ho : o.op = .build T #[(0, x)]) (hx : a.eval x = .int .i64 s)
    (hbu : ∀ (s : Int), P.built T [(0, .int .i64 s)] = some (vec 9 (fun j => if j = 0 then s else 0)))
    (h : wpList P ops Q rest (a.put o.dst (wh ⟨s, V.zero⟩)) w) : wpList P ops Q (o :: rest) a w := by
  have e : (#[(0, x)].map fun (p : Nat × Operand) => (p.1, a.eval p.2)).toList = [(0, .int .i64 s)] := by simp [hx]
  have e2 : vec 9 (fun j => if j = 0 then s else 0) = vec 9 (wf ⟨s, V.zero⟩) := vec_same fun j hj => by
    by_cases h0 : j = 0
    · simp [wf, h0]
    · simp only [wf, h0, if_false]
      rw [zero_up]; rfl
  refine wpList_build hgd T _ ho ?_ ?_
  · show (P.built T (#[(0, x)].map fun (p : Nat × Operand) => (p.1, a.eval p.2)).toList).isSome = true
    rw [e, hbu]; rfl
  · show wpList P ops Q rest (a.put o.dst (.agg ((P.built T (#[(0, x)].map fun (p : Nat × Operand) => (p.1, a.eval p.2)).toList).getD #[]))) w
    rw [e, hbu, e2]; exact h
end
theorem built_speed (s : Int) : Tryz.prog.built 110 [(0, .int .i64 s)] = some (vec 9 (fun j => if j = 0 then s else 0)) := by kernel_rfl

/-- A design drawn off a reader. -/
def DrewW (w : World) (R p c : Nat) (e : Ending) (w' : World) : Prop :=
  ∃ (v : Value) (ws : List Wh) (q : Nat), e = .returned v ∧ q ≤ p + c ∧ ws.length ≤ 12 ∧ Rd w' R q ∧ w.grownBy w' (some R) ∧ Own w' w.heap.size 110 v ws

set_option maxHeartbeats 2000000 in
theorem design_drawn (R p : Nat) (w : World) (h : Rd w R p) (hp : p ≤ 800000) :
    Calls Tryz.prog 75 #[.pointer (some ⟨R, 0, none⟩)] w (DrewW w R p 100) := by
  have hlt := h.lt
  have hr0 := h.alloc (.cells #[] 110)
  have hg0 := World.grownBy_alloc w (.cells #[] 110) (some R)
  have ho0 := own_lit w w.heap.size 110 (Nat.le_refl _)
  have P1 := Lib.hid (pick_any R p 4 _ hr0 (by omega) (by omega))
  clear h
  go_enter Tryz.func75, Tryz.ntmps75
  go_wp2_with fail
  refine P1.out.mono ?_; rintro e w1 ⟨n, rfl, n0, n1, hr1, hg1⟩
  have hg := only_trans' hg0 hg1
  have ho := own_kept ho0 hg1 hlt
  obtain ⟨m, rfl⟩ : ∃ m : Nat, n = m := ⟨n.toNat, by omega⟩
  have HG := Lib.hid hg
  have HO := Lib.hid ho
  have HR := Lib.hid hr1
  clear P1 hr0 hg0 ho0 hr1 hg1 hg ho
  go_wp2
  go_loopw [3, 5] (fun s3 i wr => ∃ (k : Nat) (ws : List Wh) (q : Nat), k ≤ m ∧ i = .int .i64 k ∧ ws.length = k ∧ q ≤ p + 1 + 21 * k ∧ Rd wr R q ∧ w.grownBy wr (some R) ∧ Own wr w.heap.size 110 s3 ws) (fun _ i _ => m - (intOf i).toNat)
  case atStart => exact ⟨0, [], p + 1, Nat.zero_le _, rfl, rfl, by omega, HR.out, HG.out, HO.out⟩
  case round =>
    obtain ⟨k, ws, q, hk, rfl, hlen, hq, hr, hg, ho⟩ := hrel
    by_cases hkm : k < m
    · have hkz : (k : Int) < (m : Int) := by omega
      have P2 := Lib.hid (pick_any R q 13 wr hr (by omega) (by omega))
      go_wp2_with fail
      refine P2.out.mono ?_; rintro e w2 ⟨s, rfl, s0, s1, hr2, hg2⟩
      have hg3 := only_trans' hg hg2
      have ho3 := own_kept ho hg2 hlt
      have v1 : IntKind.i64.wrap (s - 6) = s - 6 := by rw [IntKind.wrap_i64]; omega
      have C := Lib.hid (cyc_drawn R (q + 1) w2 hr2 (by omega))
      clear P2 hr hg2 hg ho hr2
      go_wp2_with fail
      refine C.out.mono ?_; rintro e w3 ⟨f, q3, rfl, hq3, hr3, hg4⟩
      have HG4 := Lib.hid (only_trans' hg3 hg4)
      have HO4 := Lib.hid (own_kept ho3 hg4 hlt)
      have HR4 := Lib.hid hr3
      clear C hg3 ho3 hg4 hr3
      go_wp2_with (first | (refine build_wheel rfl rfl rfl rfl built_wheel ?_) | (refine one9 tyW rfl rfl rfl ?_) |
        (refine append_drawn tyW rfl rfl (xs := ws) (ys := [⟨s - 6, dn f⟩]) rfl rfl (HO4.out.alloc _) (reads_lit _ _ _) (by simp; omega) (only_alloc HG4.out _) (HR4.out.alloc _) hlt ?_; intro v5 w5 ho5 hr5 hg5))
      have HO5 := Lib.hid ho5
      have HR5 := Lib.hid hr5
      have HG5 := Lib.hid hg5
      clear ho5 hr5 hg5 HG4 HO4 HR4
      go_wp2
      go_roundw
      case rel => exact ⟨k + 1, ws ++ [⟨s - 6, dn f⟩], q3, by omega, by go_num, by simp; omega, by omega, HR5.out, HG5.out, HO5.out⟩
      case measure => simp [intOf]; omega
    · have hkz : ¬ (k : Int) < (m : Int) := by omega
      have P2 := Lib.hid (pick_any R q 30 wr hr (by omega) (by omega))
      go_wp2_with fail
      refine P2.out.mono ?_; rintro e w2 ⟨s, rfl, s0, s1, hr2, hg2⟩
      have HG := Lib.hid (only_trans' hg hg2)
      have HO := Lib.hid (own_kept ho hg2 hlt)
      have HR := Lib.hid hr2
      clear P2 hr hg2 hg ho hr2
      by_cases e0 : s = 0
      · subst e0
        go_wp2_with (first | (refine build_speed rfl rfl rfl built_speed ?_) | (refine one9 tyW rfl rfl rfl ?_) |
          (refine append_drawn tyW rfl rfl (xs := ws) (ys := [⟨1001, V.zero⟩]) rfl rfl (HO.out.alloc _) (reads_lit _ _ _) (by simp; omega) (only_alloc HG.out _) (HR.out.alloc _) hlt ?_; intro v5 w5 ho5 hr5 hg5))
        go_ret
        exact ⟨v5, _, _, rfl, by omega, by simp; omega, hr5, hg5, ho5⟩
      · have e0' : (s == 0) = false := by simpa using e0
        by_cases e1 : s = 1
        · subst e1
          go_upto_region 12 with (refine append_drawn tyW rfl rfl (xs := ws) (ys := ws) rfl rfl HO.out (own_reads HO.out) (by omega) HG.out HR.out hlt ?_; intro v5 w5 ho5 hr5 hg5)
          go_wp2_with (refine append_drawn tyW rfl rfl (xs := ws ++ ws) (ys := ws ++ ws) rfl rfl ho5 (own_reads ho5) (by simp; omega) hg5 hr5 hlt ?_; intro v6 w6 ho6 hr6 hg6)
          go_ret
          exact ⟨v6, _, _, rfl, by omega, by simp; omega, hr6, hg6, ho6⟩
        · have e1' : (s == 1) = false := by simpa using e1
          go_wp2
          go_ret
          exact ⟨_, ws, _, rfl, by omega, by omega, HR.out, HG.out, HO.out⟩

end Go.Proofs.YtdpakhggpgdgbaaGreat
/- Out of the text KDrawSym: what the draws of polygons need. -/
namespace Go.Proofs.YtdpakhggpgdgbaaGreat
set_option maxRecDepth 20000
open Go.ChangeShapes Go.WideShapes Go.ChangeAt Go.RowKit
set_option linter.unusedVariables false
set_option linter.unusedSimpArgs false
theorem gear_any (n : Int) (h0 : 6 ≤ n) (h1 : n ≤ 240) (w : World) : Calls Tryz.prog 115 #[.int .i64 n] w fun e w' => e = .returned (.bool true) ∧ w = w' := by
  have I := fun w => in_yes n 6 240 h0 h1 w
  go_enter Tryz.func115, Tryz.ntmps115
  go_wp2_with fail
  refine (I _).mono ?_; rintro e w1 ⟨rfl, rfl⟩
  go_wp2
  go_ret
  exact ⟨rfl, rfl⟩
theorem ring_gcd (a b : Nat) (ha : 6 ≤ a) (hb : b ≤ 240) (ha2 : a ≤ 240) (w : World) : ∃ g : Nat, 1 ≤ g ∧ g ≤ 240 ∧ ∀ w, Calls Tryz.prog 101 #[.int .i64 a, .int .i64 b] w fun e w' => e = .returned (.int .i64 g) ∧ w = w' := by
  refine ⟨Nat.gcd a b, Nat.gcd_pos_of_pos_left _ (by omega), Nat.le_trans (Nat.gcd_le_left b (by omega)) ha2, fun w => ?_⟩
  exact specGcdZ a b (by omega) (by omega) w
theorem cusps_any (a b : Nat) (ins : Bool) (ha : 6 ≤ a) (ha2 : a ≤ 240) (hb : 6 ≤ b) (hb2 : b ≤ 240) (w : World) :
    Calls Tryz.prog 100 #[.int .i64 a, .int .i64 b, .bool ins] w fun e w' => (∃ (n : Int), e = .returned (.tuple #[.int .i64 n, .bool (!(ins && decide (a ≤ b)))])) ∧ w = w' := by
  have G1 := fun w => gear_any (a : Int) (by omega) (by omega) w
  have G2 := fun w => gear_any (b : Int) (by omega) (by omega) w
  obtain ⟨g, hg1, hg2, G⟩ := ring_gcd a b ha hb2 ha2 w
  have hgz : ((g : Int) == 0) = false := by simp; omega
  by_cases hi : ins = true ∧ a ≤ b
  · obtain ⟨rfl, hab⟩ := hi
    have hz : (a : Int) ≤ (b : Int) := by omega
    have e : (!(true && decide (a ≤ b))) = false := by simp [hab]
    rw [e]
    clear e
    go_enter Tryz.func100, Tryz.ntmps100
    go_wp2_with fail
    refine (G1 _).mono ?_; rintro e w1 ⟨rfl, rfl⟩
    go_wp2_with fail
    refine (G2 _).mono ?_; rintro e w1 ⟨rfl, rfl⟩
    go_wp2_with fail
    go_ret2
    exact ⟨⟨_, rfl⟩, rfl⟩
  · have e : (!(ins && decide (a ≤ b))) = true := by
      cases ins
      · rfl
      · have : ¬ a ≤ b := fun h => hi ⟨rfl, h⟩
        simp [this]
    rw [e]
    clear e
    cases ins
    · go_enter Tryz.func100, Tryz.ntmps100
      go_wp2_with fail
      refine (G1 _).mono ?_; rintro e w1 ⟨rfl, rfl⟩
      go_wp2_with fail
      refine (G2 _).mono ?_; rintro e w1 ⟨rfl, rfl⟩
      go_wp2_with fail
      refine (G _).mono ?_; rintro e w1 ⟨rfl, rfl⟩
      go_wp2_with fail
      go_ret2
      exact ⟨⟨_, rfl⟩, rfl⟩
    · have hz : ¬ (a : Int) ≤ (b : Int) := fun h => hi ⟨rfl, by omega⟩
      go_enter Tryz.func100, Tryz.ntmps100
      go_wp2_with fail
      refine (G1 _).mono ?_; rintro e w1 ⟨rfl, rfl⟩
      go_wp2_with fail
      refine (G2 _).mono ?_; rintro e w1 ⟨rfl, rfl⟩
      go_wp2_with fail
      refine (G _).mono ?_; rintro e w1 ⟨rfl, rfl⟩
      go_wp2_with fail
      go_ret2
      exact ⟨⟨_, rfl⟩, rfl⟩
/-- A wheel with a whole radius. -/
def numW (s r : Int) : Wh := ⟨s, dn (gau r 0)⟩
theorem number_any (s r : Int) (w : World) : Calls Tryz.prog 103 #[.int .i64 s, .int .i64 r] w fun e w' => e = .returned (wh (numW s r)) ∧ Below w.heap.size w w' := by
  have G := fun w => specGaussIn_any r 0 w
  have HO : Aside (RowAt (w.alloc (.cells (vec 9 nul) 110)) w.heap.size 9 110 nul) := RowAt.new _ _ _ _
  have HL : Aside (Below w.heap.size w (w.alloc (.cells (vec 9 nul) 110))) := (Below.refl _ _).alloc (Nat.le_refl _) _
  go_enter Tryz.func103, Tryz.ntmps103
  go_upto_region 1 with fail
  show Code.wp _ _ _ _ (w.alloc (.cells (vec 9 nul) 110))
  generalize w.alloc (.cells (vec 9 nul) 110) = W at *
  go_wp2_with fail
  refine (G _).mono ?_; rintro e w1 ⟨rfl, hb1⟩
  have HO1 := Lib.hid (HO.out.below hb1)
  have HL1 := Lib.hid (below_next HL.out hb1)
  have e1 : pt (gau r 0) = .agg (vec 8 (dn (gau r 0)).up) := pt_same fun j hj => (up_dn _ j hj).symm
  rw [e1]
  clear G HO HL hb1 e1
  go_wp2_with (first | (refine build_wheel (T := 110) rfl rfl rfl rfl built_wheel ?_; rw [dn_up]) | (refine store_row (ty := 110) (g := w.heap.size) rfl rfl rfl rfl HO1.out info_wheel ?_))
  refine bodyPost_ret (results_row rfl rfl HO1.out.setRow Tryz.underlying110 rfl info_wheel) rfl ?_
  exact ⟨rfl, below_setRow HL1.out (by omega) _⟩
theorem big_gau (r : Int) (hr : -1000 ≤ r ∧ r ≤ 1000) : Big (dn (gau r 0)) 4000000 := fun j hj => by
  rw [up_dn _ j hj]
  unfold gau
  split
  · omega
  · split <;> omega

/-- A list of two wheels, made on the spot. -/
theorem fill_two (g : Nat → Value) (f h : Nat → Int) : Instr.fill (fun i => some (i * 9, 9)) ((Array.range (2 * 9)).map g) [(0, .agg (vec 9 f)), (1, .agg (vec 9 h))] = some (vec 9 f ++ vec 9 h) := by
  have h1 : (Array.range (2 * 9)).map g = #[g 0, g 1, g 2, g 3, g 4, g 5, g 6, g 7, g 8, g 9, g 10, g 11, g 12, g 13, g 14, g 15, g 16, g 17] := by
    refine Array.ext (by simp) fun i h1 h2 => ?_
    simp only [Array.size_map, Array.size_range, Nat.reduceMul] at h1
    have : i = 0 ∨ i = 1 ∨ i = 2 ∨ i = 3 ∨ i = 4 ∨ i = 5 ∨ i = 6 ∨ i = 7 ∨ i = 8 ∨ i = 9 ∨ i = 10 ∨ i = 11 ∨ i = 12 ∨ i = 13 ∨ i = 14 ∨ i = 15 ∨ i = 16 ∨ i = 17 := by omega
    rcases this with rfl | rfl | rfl | rfl | rfl | rfl | rfl | rfl | rfl | rfl | rfl | rfl | rfl | rfl | rfl | rfl | rfl | rfl <;> simp
  have h2 : ∀ f : Nat → Int, vec 9 f = #[.int .i64 (f 0), .int .i64 (f 1), .int .i64 (f 2), .int .i64 (f 3), .int .i64 (f 4), .int .i64 (f 5), .int .i64 (f 6), .int .i64 (f 7), .int .i64 (f 8)] := fun f => rfl
  rw [h1, h2 f, h2 h]
  simp [Instr.fill, Value.cells]
theorem run_two {P : Program} {t e : TypeId} (ty : Ty9 P t e) (f h : Nat → Int) (w : World) : (Instr.buildSlice t 2 #[(0, .agg (vec 9 f)), (1, .agg (vec 9 h))]).run P w = .ok (.slice (some ⟨w.heap.size, 0, none⟩) 2 2) (w.alloc (.cells (vec 9 f ++ vec 9 h) e)) := by
  obtain ⟨i, z, hi, hz, hs, hby, hzs⟩ := ty.inf
  have hf := fill_two (fun x => z.cells[x % z.cells.size]!) f h
  simp [Instr.buildSlice, run_underlying ty.sl, sizeOf, typeInfo, zeroValue, hi, hz, hs, Sem.run_bind]
  simp only [Nat.reduceMul] at hf
  simp [hf, newRow]
theorem wp_two9 {P : Program} {o : Oper} {a : Act} {w : World} {K : Act → World → Prop} {Q : Exit → Act → World → Prop} {t e : TypeId} (ty : Ty9 P t e) {x y : Operand} {f h : Nat → Int} (ho : o.op = .buildSlice t 2 #[(0, x), (1, y)]) (hx : a.eval x = .agg (vec 9 f)) (hy : a.eval y = .agg (vec 9 h))
    (k : K (a.put o.dst (.slice (some ⟨w.heap.size, 0, none⟩) 2 2)) (w.alloc (.cells (vec 9 f ++ vec 9 h) e))) : o.wp P a w K Q := by
  unfold Oper.wp execOp
  simp only [ho, List.map_toArray, List.map_cons, List.map_nil, hx, hy, Sem.run_bind, run_two ty, Result.andThen_ok]
  exact k
theorem reads_two (w : World) (c d : Wh) (T : Nat) : Reads (w.alloc (.cells (vec 9 (wf c) ++ vec 9 (wf d)) T)) (.slice (some ⟨w.heap.size, 0, none⟩) 2 2) [c, d] := by
  refine ⟨_, 2, rfl, Nat.le_refl _, by simp [maxLen], (fun h => by cases h), fun _ => ⟨_, _, rfl, by simp, fun j v hv => ?_⟩⟩
  rw [Nat.zero_add, cell_of_row _ _ _ _ _ _ (heap_alloc_new w _)]
  rw [flat_cons, flat_one] at hv
  simpa [vec, enc] using hv

/-- What a ring makes: some list, or none. -/
def Some2 (w : World) (e : Ending) (w' : World) : Prop := ∃ o : Option (List Wh), Told w o e w'
theorem quo_small (a g : Int) (M : Nat) (ha : a.natAbs ≤ M) : (a.tdiv g).natAbs ≤ M := by
  rw [Int.natAbs_tdiv]
  exact Nat.le_trans (Nat.div_le_self _ _) ha

set_option maxHeartbeats 4000000 in
theorem ring_any (a b : Nat) (ins : Bool) (pen : Int) (ha : 6 ≤ a) (ha2 : a ≤ 100) (hb : 6 ≤ b) (hb2 : b ≤ 100) (hp : -100 ≤ pen ∧ pen ≤ 100) (w : World) :
    Calls Tryz.prog 76 #[.int .i64 a, .int .i64 b, .bool ins, .int .i64 pen] w (Some2 w) := by
  have C := fun w => cusps_any a b ins ha (by omega) hb (by omega) w
  have P := fun w => in_yes pen (-300) 300 (by omega) (by omega) w
  obtain ⟨g, hg1, hg2, G⟩ := ring_gcd a b ha (by omega) (by omega) w
  have hgz : ((g : Int) == 0) = false := by simp; omega
  cases hok : (!(ins && decide (a ≤ b)))
  · rw [hok] at C
    go_enter Tryz.func76, Tryz.ntmps76
    go_wp2_with fail
    refine (C _).mono ?_; rintro e w1 ⟨⟨n, rfl⟩, rfl⟩
    go_wp2
    go_ret2
    exact ⟨none, (Below.refl _ _).alloc (Nat.le_refl _) _, _, rfl, own_lit w w.heap.size 110 (Nat.le_refl _)⟩
  · rw [hok] at C
    clear hok
    obtain ⟨s1, hs1⟩ : ∃ s1 : Int, (b : Int).tdiv (g : Int) = s1 := ⟨_, rfl⟩
    have b1 : s1.natAbs ≤ 100 := by rw [← hs1]; exact quo_small _ _ 100 (by omega)
    have q1 : IntKind.i64.wrap s1 = s1 := by rw [IntKind.wrap_i64]; omega
    have hg0 : ¬ (g : Int) = 0 := by omega
    have hgn : ¬ g = 0 := by omega
    cases ins
    · have q2 : IntKind.i64.wrap ((a : Int) + (b : Int)) = (a : Int) + (b : Int) := by rw [IntKind.wrap_i64]; omega
      have q3 : IntKind.i64.wrap (0 - pen) = 0 - pen := by rw [IntKind.wrap_i64]; omega
      obtain ⟨r1, hr1⟩ : ∃ r1 : Int, (a : Int) + (b : Int) = r1 := ⟨_, rfl⟩
      obtain ⟨s2, hs2⟩ : ∃ s2 : Int, r1.tdiv (g : Int) = s2 := ⟨_, rfl⟩
      have b2 : s2.natAbs ≤ 200 := by rw [← hs2]; exact quo_small _ _ 200 (by omega)
      have q4 : IntKind.i64.wrap s2 = s2 := by rw [IntKind.wrap_i64]; omega
      obtain ⟨r2, hr2⟩ : ∃ r2 : Int, 0 - pen = r2 := ⟨_, rfl⟩
      rw [hr1] at q2
      rw [hr2] at q3
      have N1 := fun w => number_any s1 r1 w
      have N2 := fun w => number_any s2 r2 w
      have T := fun (v : Value) (w : World) (hv : Reads w v [numW s1 r1, numW s2 r2]) => l5Tidy_any v [numW s1 r1, numW s2 r2] w hv (by simp) (fun c hc => by
        simp only [List.mem_cons, List.not_mem_nil, or_false] at hc
        rcases hc with rfl | rfl
        · exact big_gau r1 (by omega)
        · exact big_gau r2 (by omega))
      generalize numW s1 r1 = c1 at *
      generalize numW s2 r2 = c2 at *
      generalize tidy true [c1, c2] = o at *
      go_enter Tryz.func76, Tryz.ntmps76
      go_wp2_with fail
      refine (C _).mono ?_; rintro e w1 ⟨⟨n, rfl⟩, rfl⟩
      go_wp2_with fail
      refine (P _).mono ?_; rintro e w1 ⟨rfl, rfl⟩
      go_wp2_with fail
      refine (G _).mono ?_; rintro e w1 ⟨rfl, rfl⟩
      clear C P G
      go_upto_region 7 with fail
      refine wp_region_held_drew (S := fun w' => Below w.heap.size w w') (by kernel_rfl) (Below.refl _ w).drew (fun hHeld => ?_)
      refine wpAnyH_take (i := 0) (oi := _) (v := .int .i64 b) rfl (by kernel_rfl) (by kernel_rfl) (by kernel_rfl) (fun _ _ _ h => h) (Or.inl ⟨by rfl, fun w h => by go_simp⟩) hHeld ?_
      try simp only [Act.put, List.setIfInBounds_toArray, List.set_cons_zero, List.set_cons_succ, List.getElem_toArray, List.getElem_cons_succ, List.getElem_cons_zero]
      refine wpAnyH_take (i := 1) (oi := _) (v := .int .i64 g) rfl (by kernel_rfl) (by kernel_rfl) (by kernel_rfl) (fun _ _ _ h => h) (Or.inl ⟨by rfl, fun w h => by go_simp⟩) hHeld ?_
      try simp only [Act.put, List.setIfInBounds_toArray, List.set_cons_zero, List.set_cons_succ, List.getElem_toArray, List.getElem_cons_succ, List.getElem_cons_zero]
      refine wpAnyH_take (i := 2) (oi := _) (v := .int .i64 s1) rfl (by kernel_rfl) (by kernel_rfl) (by kernel_rfl) (fun _ _ _ h => h) (Or.inl ⟨by rfl, fun w h => by go_simp⟩) hHeld ?_
      try simp only [Act.put, List.setIfInBounds_toArray, List.set_cons_zero, List.set_cons_succ, List.getElem_toArray, List.getElem_cons_succ, List.getElem_cons_zero]
      refine wpAnyH_take (i := 3) (oi := _) (v := .int .i64 a) rfl (by kernel_rfl) (by kernel_rfl) (by kernel_rfl) (fun _ _ _ h => h) (Or.inl ⟨by rfl, fun w h => by go_simp⟩) hHeld ?_
      try simp only [Act.put, List.setIfInBounds_toArray, List.set_cons_zero, List.set_cons_succ, List.getElem_toArray, List.getElem_cons_succ, List.getElem_cons_zero]
      refine wpAnyH_take (i := 4) (oi := _) (v := .int .i64 b) rfl (by kernel_rfl) (by kernel_rfl) (by kernel_rfl) (fun _ _ _ h => h) (Or.inl ⟨by rfl, fun w h => by go_simp⟩) hHeld ?_
      try simp only [Act.put, List.setIfInBounds_toArray, List.set_cons_zero, List.set_cons_succ, List.getElem_toArray, List.getElem_cons_succ, List.getElem_cons_zero]
      refine wpAnyH_take (i := 5) (oi := _) (v := .int .i64 r1) rfl (by kernel_rfl) (by kernel_rfl) (by kernel_rfl) (fun _ _ _ h => h) (Or.inl ⟨by rfl, fun w h => by go_simp⟩) hHeld ?_
      try simp only [Act.put, List.setIfInBounds_toArray, List.set_cons_zero, List.set_cons_succ, List.getElem_toArray, List.getElem_cons_succ, List.getElem_cons_zero]
      refine wpAnyH_take (i := 7) (oi := _) (v := .int .i64 a) rfl (by kernel_rfl) (by kernel_rfl) (by kernel_rfl) (fun _ _ _ h => h) (Or.inl ⟨by rfl, fun w h => by go_simp⟩) hHeld ?_
      try simp only [Act.put, List.setIfInBounds_toArray, List.set_cons_zero, List.set_cons_succ, List.getElem_toArray, List.getElem_cons_succ, List.getElem_cons_zero]
      refine wpAnyH_take (i := 8) (oi := _) (v := .int .i64 b) rfl (by kernel_rfl) (by kernel_rfl) (by kernel_rfl) (fun _ _ _ h => h) (Or.inl ⟨by rfl, fun w h => by go_simp⟩) hHeld ?_
      try simp only [Act.put, List.setIfInBounds_toArray, List.set_cons_zero, List.set_cons_succ, List.getElem_toArray, List.getElem_cons_succ, List.getElem_cons_zero]
      refine wpAnyH_take (i := 9) (oi := _) (v := .int .i64 r1) rfl (by kernel_rfl) (by kernel_rfl) (by kernel_rfl) (fun _ _ _ h => h) (Or.inl ⟨by rfl, fun w h => by go_simp⟩) hHeld ?_
      try simp only [Act.put, List.setIfInBounds_toArray, List.set_cons_zero, List.set_cons_succ, List.getElem_toArray, List.getElem_cons_succ, List.getElem_cons_zero]
      refine wpAnyH_take (i := 10) (oi := _) (v := .int .i64 g) rfl (by kernel_rfl) (by kernel_rfl) (by kernel_rfl) (fun _ _ _ h => h) (Or.inl ⟨by rfl, fun w h => by go_simp⟩) hHeld ?_
      try simp only [Act.put, List.setIfInBounds_toArray, List.set_cons_zero, List.set_cons_succ, List.getElem_toArray, List.getElem_cons_succ, List.getElem_cons_zero]
      refine wpAnyH_take (i := 11) (oi := _) (v := .int .i64 s2) rfl (by kernel_rfl) (by kernel_rfl) (by kernel_rfl) (fun _ _ _ h => h) (Or.inl ⟨by rfl, fun w h => by go_simp⟩) hHeld ?_
      try simp only [Act.put, List.setIfInBounds_toArray, List.set_cons_zero, List.set_cons_succ, List.getElem_toArray, List.getElem_cons_succ, List.getElem_cons_zero]
      refine wpAnyH_take (i := 12) (oi := _) (v := .int .i64 pen) rfl (by kernel_rfl) (by kernel_rfl) (by kernel_rfl) (fun _ _ _ h => h) (Or.inl ⟨by rfl, fun w h => by go_simp⟩) hHeld ?_
      try simp only [Act.put, List.setIfInBounds_toArray, List.set_cons_zero, List.set_cons_succ, List.getElem_toArray, List.getElem_cons_succ, List.getElem_cons_zero]
      refine wpAnyH_take (i := 13) (oi := _) (v := .int .i64 r2) rfl (by kernel_rfl) (by kernel_rfl) (by kernel_rfl) (fun _ _ _ h => h) (Or.inl ⟨by rfl, fun w h => by go_simp⟩) hHeld ?_
      try simp only [Act.put, List.setIfInBounds_toArray, List.set_cons_zero, List.set_cons_succ, List.getElem_toArray, List.getElem_cons_succ, List.getElem_cons_zero]
      refine wpAnyH_ready (rs := [6]) (by kernel_rfl) (by simp) ?_
      refine AllReadyH.cons (o := _) rfl (fun K hK => ?_) AllReadyH.nil
      go_simp
      refine (N1 _).mono ?_; rintro e w2 ⟨rfl, hb2⟩
      go_wp2_with fail
      refine hK.out _ _ (below_next hHeld hb2) (fun hHeld => ?_)
      clear hK K
      try simp only [Act.put, List.setIfInBounds_toArray, List.set_cons_zero, List.set_cons_succ, List.getElem_toArray, List.getElem_cons_succ, List.getElem_cons_zero]
      clear hb2 N1
      refine wpAnyH_ready (rs := [14]) (by kernel_rfl) (by simp) ?_
      refine AllReadyH.cons (o := _) rfl (fun K hK => ?_) AllReadyH.nil
      go_simp
      refine (N2 _).mono ?_; rintro e w3 ⟨rfl, hb3⟩
      go_wp2_with fail
      refine hK.out _ _ (below_next hHeld hb3) (fun hHeld => ?_)
      clear hK K
      try simp only [Act.put, List.setIfInBounds_toArray, List.set_cons_zero, List.set_cons_succ, List.getElem_toArray, List.getElem_cons_succ, List.getElem_cons_zero]
      clear hb3 N2
      refine wpAnyH_ready (rs := [15]) (by kernel_rfl) (by simp) ?_
      refine AllReadyH.cons (o := _) rfl (fun K hK => ?_) AllReadyH.nil
      rw [if_pos (by rfl)]
      refine wp_two9 tyW rfl rfl rfl ?_
      have hlit := reads_two w3 c1 c2 110
      refine hK.out _ _ (hHeld.alloc hHeld.size _) (fun hHeld => ?_)
      clear hK K
      try simp only [Act.put, List.setIfInBounds_toArray, List.set_cons_zero, List.set_cons_succ, List.getElem_toArray, List.getElem_cons_succ, List.getElem_cons_zero]
      refine wpAnyH_ready (rs := [16]) (by kernel_rfl) (by simp) ?_
      refine AllReadyH.cons (o := _) rfl (fun K hK => ?_) AllReadyH.nil
      go_simp
      refine (T _ _ hlit).mono ?_; rintro e w4 ⟨hb4, v4, rfl, ho4⟩
      go_wp2_with fail
      have HQ : Aside (Told w o (.returned (.tuple #[v4, .bool o.isSome])) w4) := ⟨below_next hHeld hb4, _, rfl, own_mono ho4 hHeld.size⟩
      refine hK.out _ _ (below_next hHeld hb4) (fun hHeld => ?_)
      clear hK K
      try simp only [Act.put, List.setIfInBounds_toArray, List.set_cons_zero, List.set_cons_succ, List.getElem_toArray, List.getElem_cons_succ, List.getElem_cons_zero]
      clear hb4 ho4 T hlit
      refine wpAnyH_take (i := 17) (oi := _) (v := v4) rfl (by kernel_rfl) (by kernel_rfl) (by kernel_rfl) (fun _ _ _ h => h) (Or.inl ⟨by rfl, fun w h => by go_simp⟩) hHeld ?_
      try simp only [Act.put, List.setIfInBounds_toArray, List.set_cons_zero, List.set_cons_succ, List.getElem_toArray, List.getElem_cons_succ, List.getElem_cons_zero]
      refine wpAnyH_take (i := 18) (oi := _) (v := .bool o.isSome) rfl (by kernel_rfl) (by kernel_rfl) (by kernel_rfl) (fun _ _ _ h => h) (Or.inl ⟨by rfl, fun w h => by go_simp⟩) hHeld ?_
      try simp only [Act.put, List.setIfInBounds_toArray, List.set_cons_zero, List.set_cons_succ, List.getElem_toArray, List.getElem_cons_succ, List.getElem_cons_zero]
      refine wpAnyH_take (i := 19) (oi := _) (v := v4) rfl (by kernel_rfl) (by kernel_rfl) (by kernel_rfl) (fun _ _ _ h => h) (Or.inl ⟨by rfl, fun w h => by go_simp⟩) hHeld ?_
      try simp only [Act.put, List.setIfInBounds_toArray, List.set_cons_zero, List.set_cons_succ, List.getElem_toArray, List.getElem_cons_succ, List.getElem_cons_zero]
      refine wpAnyH_take (i := 20) (oi := _) (v := .bool o.isSome) rfl (by kernel_rfl) (by kernel_rfl) (by kernel_rfl) (fun _ _ _ h => h) (Or.inl ⟨by rfl, fun w h => by go_simp⟩) hHeld ?_
      try simp only [Act.put, List.setIfInBounds_toArray, List.set_cons_zero, List.set_cons_succ, List.getElem_toArray, List.getElem_cons_succ, List.getElem_cons_zero]
      refine wpAnyH_done (by kernel_rfl) ?_ _
      clear hHeld
      go_wp2
      go_ret2
      exact ⟨o, HQ.out⟩
    · have q2 : IntKind.i64.wrap ((a : Int) - (b : Int)) = (a : Int) - (b : Int) := by rw [IntKind.wrap_i64]; omega
      have q3 : IntKind.i64.wrap ((b : Int) - (a : Int)) = (b : Int) - (a : Int) := by rw [IntKind.wrap_i64]; omega
      obtain ⟨r1, hr1⟩ : ∃ r1 : Int, (a : Int) - (b : Int) = r1 := ⟨_, rfl⟩
      obtain ⟨r2, hr2⟩ : ∃ r2 : Int, (b : Int) - (a : Int) = r2 := ⟨_, rfl⟩
      obtain ⟨s2, hs2⟩ : ∃ s2 : Int, r2.tdiv (g : Int) = s2 := ⟨_, rfl⟩
      have b2 : s2.natAbs ≤ 200 := by rw [← hs2]; exact quo_small _ _ 200 (by omega)
      have q4 : IntKind.i64.wrap s2 = s2 := by rw [IntKind.wrap_i64]; omega
      rw [hr1] at q2
      rw [hr2] at q3
      have N1 := fun w => number_any s1 r1 w
      have N2 := fun w => number_any s2 pen w
      have T := fun (v : Value) (w : World) (hv : Reads w v [numW s1 r1, numW s2 pen]) => l5Tidy_any v [numW s1 r1, numW s2 pen] w hv (by simp) (fun c hc => by
        simp only [List.mem_cons, List.not_mem_nil, or_false] at hc
        rcases hc with rfl | rfl
        · exact big_gau r1 (by omega)
        · exact big_gau pen (by omega))
      generalize numW s1 r1 = c1 at *
      generalize numW s2 pen = c2 at *
      generalize tidy true [c1, c2] = o at *
      go_enter Tryz.func76, Tryz.ntmps76
      go_wp2_with fail
      refine (C _).mono ?_; rintro e w1 ⟨⟨n, rfl⟩, rfl⟩
      go_wp2_with fail
      refine (P _).mono ?_; rintro e w1 ⟨rfl, rfl⟩
      go_wp2_with fail
      refine (G _).mono ?_; rintro e w1 ⟨rfl, rfl⟩
      clear C P G
      go_upto_region 6 with fail
      refine wp_region_held_drew (S := fun w' => Below w.heap.size w w') (by kernel_rfl) (Below.refl _ w).drew (fun hHeld => ?_)
      refine wpAnyH_take (i := 0) (oi := _) (v := .int .i64 b) rfl (by kernel_rfl) (by kernel_rfl) (by kernel_rfl) (fun _ _ _ h => h) (Or.inl ⟨by rfl, fun w h => by go_simp⟩) hHeld ?_
      try simp only [Act.put, List.setIfInBounds_toArray, List.set_cons_zero, List.set_cons_succ, List.getElem_toArray, List.getElem_cons_succ, List.getElem_cons_zero]
      refine wpAnyH_take (i := 1) (oi := _) (v := .int .i64 g) rfl (by kernel_rfl) (by kernel_rfl) (by kernel_rfl) (fun _ _ _ h => h) (Or.inl ⟨by rfl, fun w h => by go_simp⟩) hHeld ?_
      try simp only [Act.put, List.setIfInBounds_toArray, List.set_cons_zero, List.set_cons_succ, List.getElem_toArray, List.getElem_cons_succ, List.getElem_cons_zero]
      refine wpAnyH_take (i := 2) (oi := _) (v := .int .i64 s1) rfl (by kernel_rfl) (by kernel_rfl) (by kernel_rfl) (fun _ _ _ h => h) (Or.inl ⟨by rfl, fun w h => by go_simp⟩) hHeld ?_
      try simp only [Act.put, List.setIfInBounds_toArray, List.set_cons_zero, List.set_cons_succ, List.getElem_toArray, List.getElem_cons_succ, List.getElem_cons_zero]
      refine wpAnyH_take (i := 3) (oi := _) (v := .int .i64 a) rfl (by kernel_rfl) (by kernel_rfl) (by kernel_rfl) (fun _ _ _ h => h) (Or.inl ⟨by rfl, fun w h => by go_simp⟩) hHeld ?_
      try simp only [Act.put, List.setIfInBounds_toArray, List.set_cons_zero, List.set_cons_succ, List.getElem_toArray, List.getElem_cons_succ, List.getElem_cons_zero]
      refine wpAnyH_take (i := 4) (oi := _) (v := .int .i64 b) rfl (by kernel_rfl) (by kernel_rfl) (by kernel_rfl) (fun _ _ _ h => h) (Or.inl ⟨by rfl, fun w h => by go_simp⟩) hHeld ?_
      try simp only [Act.put, List.setIfInBounds_toArray, List.set_cons_zero, List.set_cons_succ, List.getElem_toArray, List.getElem_cons_succ, List.getElem_cons_zero]
      refine wpAnyH_take (i := 5) (oi := _) (v := .int .i64 r1) rfl (by kernel_rfl) (by kernel_rfl) (by kernel_rfl) (fun _ _ _ h => h) (Or.inl ⟨by rfl, fun w h => by go_simp⟩) hHeld ?_
      try simp only [Act.put, List.setIfInBounds_toArray, List.set_cons_zero, List.set_cons_succ, List.getElem_toArray, List.getElem_cons_succ, List.getElem_cons_zero]
      refine wpAnyH_take (i := 7) (oi := _) (v := .int .i64 b) rfl (by kernel_rfl) (by kernel_rfl) (by kernel_rfl) (fun _ _ _ h => h) (Or.inl ⟨by rfl, fun w h => by go_simp⟩) hHeld ?_
      try simp only [Act.put, List.setIfInBounds_toArray, List.set_cons_zero, List.set_cons_succ, List.getElem_toArray, List.getElem_cons_succ, List.getElem_cons_zero]
      refine wpAnyH_take (i := 8) (oi := _) (v := .int .i64 a) rfl (by kernel_rfl) (by kernel_rfl) (by kernel_rfl) (fun _ _ _ h => h) (Or.inl ⟨by rfl, fun w h => by go_simp⟩) hHeld ?_
      try simp only [Act.put, List.setIfInBounds_toArray, List.set_cons_zero, List.set_cons_succ, List.getElem_toArray, List.getElem_cons_succ, List.getElem_cons_zero]
      refine wpAnyH_take (i := 9) (oi := _) (v := .int .i64 r2) rfl (by kernel_rfl) (by kernel_rfl) (by kernel_rfl) (fun _ _ _ h => h) (Or.inl ⟨by rfl, fun w h => by go_simp⟩) hHeld ?_
      try simp only [Act.put, List.setIfInBounds_toArray, List.set_cons_zero, List.set_cons_succ, List.getElem_toArray, List.getElem_cons_succ, List.getElem_cons_zero]
      refine wpAnyH_take (i := 10) (oi := _) (v := .int .i64 g) rfl (by kernel_rfl) (by kernel_rfl) (by kernel_rfl) (fun _ _ _ h => h) (Or.inl ⟨by rfl, fun w h => by go_simp⟩) hHeld ?_
      try simp only [Act.put, List.setIfInBounds_toArray, List.set_cons_zero, List.set_cons_succ, List.getElem_toArray, List.getElem_cons_succ, List.getElem_cons_zero]
      refine wpAnyH_take (i := 11) (oi := _) (v := .int .i64 s2) rfl (by kernel_rfl) (by kernel_rfl) (by kernel_rfl) (fun _ _ _ h => h) (Or.inl ⟨by rfl, fun w h => by go_simp⟩) hHeld ?_
      try simp only [Act.put, List.setIfInBounds_toArray, List.set_cons_zero, List.set_cons_succ, List.getElem_toArray, List.getElem_cons_succ, List.getElem_cons_zero]
      refine wpAnyH_take (i := 12) (oi := _) (v := .int .i64 pen) rfl (by kernel_rfl) (by kernel_rfl) (by kernel_rfl) (fun _ _ _ h => h) (Or.inl ⟨by rfl, fun w h => by go_simp⟩) hHeld ?_
      try simp only [Act.put, List.setIfInBounds_toArray, List.set_cons_zero, List.set_cons_succ, List.getElem_toArray, List.getElem_cons_succ, List.getElem_cons_zero]
      refine wpAnyH_ready (rs := [6]) (by kernel_rfl) (by simp) ?_
      refine AllReadyH.cons (o := _) rfl (fun K hK => ?_) AllReadyH.nil
      go_simp
      refine (N1 _).mono ?_; rintro e w2 ⟨rfl, hb2⟩
      go_wp2_with fail
      refine hK.out _ _ (below_next hHeld hb2) (fun hHeld => ?_)
      clear hK K
      try simp only [Act.put, List.setIfInBounds_toArray, List.set_cons_zero, List.set_cons_succ, List.getElem_toArray, List.getElem_cons_succ, List.getElem_cons_zero]
      clear hb2 N1
      refine wpAnyH_ready (rs := [13]) (by kernel_rfl) (by simp) ?_
      refine AllReadyH.cons (o := _) rfl (fun K hK => ?_) AllReadyH.nil
      go_simp
      refine (N2 _).mono ?_; rintro e w3 ⟨rfl, hb3⟩
      go_wp2_with fail
      refine hK.out _ _ (below_next hHeld hb3) (fun hHeld => ?_)
      clear hK K
      try simp only [Act.put, List.setIfInBounds_toArray, List.set_cons_zero, List.set_cons_succ, List.getElem_toArray, List.getElem_cons_succ, List.getElem_cons_zero]
      clear hb3 N2
      refine wpAnyH_ready (rs := [14]) (by kernel_rfl) (by simp) ?_
      refine AllReadyH.cons (o := _) rfl (fun K hK => ?_) AllReadyH.nil
      rw [if_pos (by rfl)]
      refine wp_two9 tyW rfl rfl rfl ?_
      have hlit := reads_two w3 c1 c2 110
      refine hK.out _ _ (hHeld.alloc hHeld.size _) (fun hHeld => ?_)
      clear hK K
      try simp only [Act.put, List.setIfInBounds_toArray, List.set_cons_zero, List.set_cons_succ, List.getElem_toArray, List.getElem_cons_succ, List.getElem_cons_zero]
      refine wpAnyH_ready (rs := [15]) (by kernel_rfl) (by simp) ?_
      refine AllReadyH.cons (o := _) rfl (fun K hK => ?_) AllReadyH.nil
      go_simp
      refine (T _ _ hlit).mono ?_; rintro e w4 ⟨hb4, v4, rfl, ho4⟩
      go_wp2_with fail
      have HQ : Aside (Told w o (.returned (.tuple #[v4, .bool o.isSome])) w4) := ⟨below_next hHeld hb4, _, rfl, own_mono ho4 hHeld.size⟩
      refine hK.out _ _ (below_next hHeld hb4) (fun hHeld => ?_)
      clear hK K
      try simp only [Act.put, List.setIfInBounds_toArray, List.set_cons_zero, List.set_cons_succ, List.getElem_toArray, List.getElem_cons_succ, List.getElem_cons_zero]
      clear hb4 ho4 T hlit
      refine wpAnyH_take (i := 16) (oi := _) (v := v4) rfl (by kernel_rfl) (by kernel_rfl) (by kernel_rfl) (fun _ _ _ h => h) (Or.inl ⟨by rfl, fun w h => by go_simp⟩) hHeld ?_
      try simp only [Act.put, List.setIfInBounds_toArray, List.set_cons_zero, List.set_cons_succ, List.getElem_toArray, List.getElem_cons_succ, List.getElem_cons_zero]
      refine wpAnyH_take (i := 17) (oi := _) (v := .bool o.isSome) rfl (by kernel_rfl) (by kernel_rfl) (by kernel_rfl) (fun _ _ _ h => h) (Or.inl ⟨by rfl, fun w h => by go_simp⟩) hHeld ?_
      try simp only [Act.put, List.setIfInBounds_toArray, List.set_cons_zero, List.set_cons_succ, List.getElem_toArray, List.getElem_cons_succ, List.getElem_cons_zero]
      refine wpAnyH_take (i := 18) (oi := _) (v := v4) rfl (by kernel_rfl) (by kernel_rfl) (by kernel_rfl) (fun _ _ _ h => h) (Or.inl ⟨by rfl, fun w h => by go_simp⟩) hHeld ?_
      try simp only [Act.put, List.setIfInBounds_toArray, List.set_cons_zero, List.set_cons_succ, List.getElem_toArray, List.getElem_cons_succ, List.getElem_cons_zero]
      refine wpAnyH_take (i := 19) (oi := _) (v := .bool o.isSome) rfl (by kernel_rfl) (by kernel_rfl) (by kernel_rfl) (fun _ _ _ h => h) (Or.inl ⟨by rfl, fun w h => by go_simp⟩) hHeld ?_
      try simp only [Act.put, List.setIfInBounds_toArray, List.set_cons_zero, List.set_cons_succ, List.getElem_toArray, List.getElem_cons_succ, List.getElem_cons_zero]
      refine wpAnyH_done (by kernel_rfl) ?_ _
      clear hHeld
      go_wp2
      go_ret2
      exact ⟨o, HQ.out⟩

/-- A design drawn off a reader, of whatever length. -/
def DrewX (w : World) (R p c : Nat) (e : Ending) (w' : World) : Prop :=
  ∃ (v : Value) (ws : List Wh) (q : Nat), e = .returned v ∧ q ≤ p + c ∧ Rd w' R q ∧ w.grownBy w' (some R) ∧ Reads w' v ws

set_option maxHeartbeats 4000000 in
theorem design2_drawn (R p : Nat) (w : World) (h : Rd w R p) (hp : p ≤ 700000) :
    Calls Tryz.prog 45 #[.pointer (some ⟨R, 0, none⟩)] w (DrewX w R p 200) := by
  have hlt := h.lt
  have P1 := Lib.hid (pick_any R p 4 w h (by omega) (by omega))
  clear h
  go_enter Tryz.func45, Tryz.ntmps45
  go_wp2_with fail
  refine P1.out.mono ?_; rintro e w1 ⟨n, rfl, n0, n1, hr1, hg1⟩
  clear P1
  go_upto_block 0 with fail
  go_cut [2, 3, 4] from 10 (fun _ _ _ wx => ∃ q, q ≤ p + 5 ∧ Aside (Rd wx R q) ∧ Aside (w.grownBy wx (some R)))
  case first =>
    by_cases e0 : n = 0
    · subst e0
      have D := Lib.hid (design_drawn R (p + 1) w1 hr1 (by omega))
      have HG := Lib.hid hg1
      clear hr1 hg1
      go_wp2_with fail
      refine D.out.mono ?_; rintro e w2 ⟨v2, ws, q, rfl, hq, hl, hr2, hg2, ho2⟩
      have HR2 := Lib.hid hr2
      have HG2 := Lib.hid (only_trans' HG.out hg2)
      have HO := Lib.hid (own_reads ho2)
      clear D hr2 hg2 ho2 HG
      go_wp2
      go_ret
      exact ⟨v2, ws, q, rfl, by omega, HR2.out, HG2.out, HO.out⟩
    · have e0' : (n == 0) = false := by simpa using e0
      by_cases e1 : n = 1
      · subst e1
        have P2 := Lib.hid (pick_any R (p + 1) 30 w1 hr1 (by omega) (by omega))
        have HG1 := Lib.hid hg1
        clear hr1 hg1 e0 e0'
        go_wp2_with fail
        refine P2.out.mono ?_; rintro e w2 ⟨k1, rfl, k10, k11, hr2, hg2⟩
        have P3 := Lib.hid (pick_any R (p + 1 + 1) 12 w2 hr2 (by omega) (by omega))
        have HG2 := Lib.hid (only_trans' HG1.out hg2)
        obtain ⟨a, ha⟩ : ∃ a : Nat, 6 + k1 = (a : Int) := ⟨(6 + k1).toNat, by omega⟩
        have wa : IntKind.i64.wrap (a : Int) = (a : Int) := by rw [IntKind.wrap_i64]; omega
        clear P2 hr2 hg2 HG1
        go_wp2_with fail
        refine P3.out.mono ?_; rintro e w3 ⟨k2, rfl, k20, k21, hr3, hg3⟩
        have P4 := Lib.hid (pick_any R (p + 1 + 1 + 1) 2 w3 hr3 (by omega) (by omega))
        have HG3 := Lib.hid (only_trans' HG2.out hg3)
        obtain ⟨b, hb⟩ : ∃ b : Nat, 6 + k2 = (b : Int) := ⟨(6 + k2).toNat, by omega⟩
        have wb : IntKind.i64.wrap (b : Int) = (b : Int) := by rw [IntKind.wrap_i64]; omega
        clear P3 hr3 hg3 HG2
        go_wp2_with fail
        refine P4.out.mono ?_; rintro e w4 ⟨k3, rfl, k30, k31, hr4, hg4⟩
        have P5 := Lib.hid (pick_any R (p + 1 + 1 + 1 + 1) 20 w4 hr4 (by omega) (by omega))
        have HG4 := Lib.hid (only_trans' HG3.out hg4)
        obtain ⟨ins, hins⟩ : ∃ ins : Bool, (k3 == 0) = ins := ⟨_, rfl⟩
        clear P4 hr4 hg4 HG3
        go_wp2_with fail
        refine P5.out.mono ?_; rintro e w5 ⟨k4, rfl, k40, k41, hr5, hg5⟩
        obtain ⟨pen, hpen⟩ : ∃ pen : Int, k4 - 10 = pen := ⟨_, rfl⟩
        have wp : IntKind.i64.wrap pen = pen := by rw [IntKind.wrap_i64]; omega
        have RG := Lib.hid (ring_any a b ins pen (by omega) (by omega) (by omega) (by omega) (by omega) w5)
        have HR5 := Lib.hid hr5
        have HG5 := Lib.hid (only_trans' HG4.out hg5)
        clear P5 hr5 hg5 HG4
        go_wp2_with fail
        refine RG.out.mono ?_; rintro e w6 ⟨o, hb6, v6, rfl, ho6⟩
        have HR6 := Lib.hid (HR5.out.below hb6)
        have HG6 := Lib.hid (only_trans' HG5.out (only_below hb6 (some R)))
        have HO6 := Lib.hid (own_reads ho6)
        clear RG HR5 HG5 hb6 ho6
        cases o with
        | none =>
          go_wp2
          go_meet
          case rel => exact ⟨p + 1 + 1 + 1 + 1 + 1, by omega, HR6, HG6⟩
        | some L =>
          go_wp2
          go_ret
          exact ⟨v6, L, p + 1 + 1 + 1 + 1 + 1, rfl, by omega, HR6.out, HG6.out, HO6.out⟩
      · have e1' : (n == 1) = false := by simpa using e1
        have HR := Lib.hid hr1
        have HG := Lib.hid hg1
        clear hr1 hg1
        go_wp2
        go_meet
        case rel => exact ⟨p + 1, by omega, HR, HG⟩
  case rest =>
    obtain ⟨q0, hq0, HR0, HG0⟩ := hcut
    clear hr1 hg1
    have P2 := Lib.hid (pick_any R q0 4 _ HR0.out (by omega) (by omega))
    go_wp2_with fail
    refine P2.out.mono ?_; rintro e w2 ⟨k1, rfl, k10, k11, hr2, hg2⟩
    have P3 := Lib.hid (pick_any R (q0 + 1) 5 w2 hr2 (by omega) (by omega))
    have HG2 := Lib.hid (only_trans' HG0.out hg2)
    obtain ⟨st, hst⟩ : ∃ st : Int, 1 + k1 = st := ⟨_, rfl⟩
    have wst : IntKind.i64.wrap st = st := by rw [IntKind.wrap_i64]; omega
    clear P2 hr2 hg2 HG0 HR0
    go_wp2_with fail
    refine P3.out.mono ?_; rintro e w3 ⟨k2, rfl, k20, k21, hr3, hg3⟩
    obtain ⟨fi, hfi⟩ : ∃ fi : Int, k2 - 2 = fi := ⟨_, rfl⟩
    have wfi : IntKind.i64.wrap fi = fi := by rw [IntKind.wrap_i64]; omega
    have hg3a := only_trans' HG2.out hg3
    have hr3a := hr3.alloc (.cells #[] 110)
    have hg3b := only_alloc hg3a (.cells #[] 110)
    have ho3 := own_lit w3 w.heap.size 110 hg3a.size
    have P4 := Lib.hid (pick_any R (q0 + 1 + 1) 3 _ hr3a (by omega) (by omega))
    clear P3 hr3 hg3 HG2 hg3a hr3a
    go_wp2_with fail
    refine P4.out.mono ?_; rintro e w4 ⟨k3, rfl, k30, k31, hr4, hg4⟩
    obtain ⟨mm, hmm⟩ : ∃ mm : Nat, 1 + k3 = (mm : Int) := ⟨(1 + k3).toNat, by omega⟩
    have wmm : IntKind.i64.wrap (mm : Int) = (mm : Int) := by rw [IntKind.wrap_i64]; omega
    have HR4 := Lib.hid hr4
    have HG4 := Lib.hid (only_trans' hg3b hg4)
    have HO4 := Lib.hid (own_kept ho3 hg4 hlt)
    clear P4 hr4 hg4 hg3b ho3
    go_wp2
    go_loopw [7, 9] (fun s7 i wr => ∃ (k : Nat) (ws : List Wh) (q : Nat), k ≤ mm ∧ i = .int .i64 k ∧ ws.length = k ∧ q ≤ p + 8 + 22 * k ∧ Rd wr R q ∧ w.grownBy wr (some R) ∧ Own wr w.heap.size 110 s7 ws) (fun _ i _ => mm - (intOf i).toNat)
    case atStart => exact ⟨0, [], q0 + 1 + 1 + 1, Nat.zero_le _, rfl, rfl, by omega, HR4.out, HG4.out, HO4.out⟩
    case round =>
      obtain ⟨k, ws, q, hk, rfl, hlen, hq, hr, hg, ho⟩ := hrel
      by_cases hkm : k < mm
      · have hkz : (k : Int) < (mm : Int) := by omega
        have P5 := Lib.hid (pick_any R q 5 wr hr (by omega) (by omega))
        go_wp2_with fail
        refine P5.out.mono ?_; rintro e w5 ⟨s, rfl, s0, s1, hr5, hg5⟩
        have hg6 := only_trans' hg hg5
        have ho6 := own_kept ho hg5 hlt
        obtain ⟨u, hu⟩ : ∃ u : Int, s - 2 = u := ⟨_, rfl⟩
        have wu : IntKind.i64.wrap u = u := by rw [IntKind.wrap_i64]; omega
        have hm0 := mul_in2 (x := st) (y := u) 5 5 (by omega) (by omega)
        obtain ⟨m1, hm1⟩ : ∃ m1 : Int, st * u = m1 := ⟨_, rfl⟩
        rw [hm1] at hm0
        obtain ⟨sp, hsp⟩ : ∃ sp : Int, fi + m1 = sp := ⟨_, rfl⟩
        have wm1 : IntKind.i64.wrap m1 = m1 := by rw [IntKind.wrap_i64]; omega
        have wsp : IntKind.i64.wrap sp = sp := by rw [IntKind.wrap_i64]; omega
        have C := Lib.hid (cyc_drawn R (q + 1) w5 hr5 (by omega))
        clear P5 hr hg5 hg ho hr5
        go_wp2_with fail
        refine C.out.mono ?_; rintro e w6 ⟨f, q3, rfl, hq3, hr6, hg7⟩
        have HG7 := Lib.hid (only_trans' hg6 hg7)
        have HO7 := Lib.hid (own_kept ho6 hg7 hlt)
        have HR7 := Lib.hid hr6
        clear C hg6 ho6 hg7 hr6
        go_wp2_with (first | (refine build_wheel rfl rfl rfl rfl built_wheel ?_) | (refine one9 tyW rfl rfl rfl ?_) |
          (refine append_drawn tyW rfl rfl (xs := ws) (ys := [⟨sp, dn f⟩]) rfl rfl (HO7.out.alloc _) (reads_lit _ _ _) (by simp; omega) (only_alloc HG7.out _) (HR7.out.alloc _) hlt ?_; intro v5 w7 ho5 hr5 hg5))
        have HO5 := Lib.hid ho5
        have HR5 := Lib.hid hr5
        have HG5 := Lib.hid hg5
        clear ho5 hr5 hg5 HG7 HO7 HR7
        go_wp2
        go_roundw
        case rel => exact ⟨k + 1, ws ++ [⟨sp, dn f⟩], q3, by omega, by go_num, by simp; omega, by omega, HR5.out, HG5.out, HO5.out⟩
        case measure => simp [intOf]; omega
      · have hkz : ¬ (k : Int) < (mm : Int) := by omega
        have HR := Lib.hid hr
        have HG := Lib.hid hg
        have HO := Lib.hid (own_reads ho)
        clear hr hg ho
        go_wp2
        go_ret
        exact ⟨_, ws, q, rfl, by omega, HR.out, HG.out, HO.out⟩

end Go.Proofs.YtdpakhggpgdgbaaGreat
/- Out of the text LawCycBase: what the draws of polygons need. -/
namespace Go.Proofs.YtdpakhggpgdgbaaGreat
set_option maxRecDepth 20000
open Go.ChangeShapes Go.WideShapes Go.ChangeAt Go.RowKit
set_option linter.unusedVariables false
set_option linter.unusedSimpArgs false
theorem code_length {w : World} {v : Value} (h : CodeAt w v) : ∃ a n c, v = .slice a n c ∧ n ≤ 9223372036854775807 := by
  rcases h with ⟨a, rfl⟩ | ⟨b, off, len, cap, zs, rfl, _, h1, h2, _⟩
  · exact ⟨a, 0, 0, rfl, by omega⟩
  · exact ⟨_, _, _, rfl, by unfold maxLen at h2; omega⟩
theorem eq_cells (f : Nat → Int) (w : World) : (Op.equalIn 10000 40 (.agg #[.int .i64 (f 0), .int .i64 (f 1), .int .i64 (f 2), .int .i64 (f 3), .int .i64 (f 4), .int .i64 (f 5), .int .i64 (f 6), .int .i64 (f 7)]) (.agg #[.int .i64 (f 0), .int .i64 (f 1), .int .i64 (f 2), .int .i64 (f 3), .int .i64 (f 4), .int .i64 (f 5), .int .i64 (f 6), .int .i64 (f 7)])).run Tryz.prog w = .ok true w := by
  have h := equal_cyc f f w
  rw [eqv_true (fun _ _ => rfl)] at h
  exact h
end Go.Proofs.YtdpakhggpgdgbaaGreat
