/-
  The draws of exact points out of a code.
-/
import Derived.Test.YtbdhbkedeglagaaDoorCycV
import Derived.Test.YtbdhbkedeglagaaDoorDrawTurn
namespace Go.Proofs.YtbdhbkedeglagaaDoor
set_option maxRecDepth 20000
open Go.ChangeShapes Go.WideShapes Go.ChangeAt Go.RowKit
set_option linter.unusedVariables false
set_option linter.unusedSimpArgs false

theorem only_below {w w' : World} (h : Below w.heap.size w w') (row : Option Nat) : w.grownBy w' row := ⟨h.os, h.tape, h.output, h.size, fun i hi _ => h.block i hi⟩
theorem only_setRow {a w : World} {row : Option Nat} (h : a.grownBy w row) {g : Nat} (hg : a.heap.size ≤ g) (cs : Array Value) : a.grownBy (w.setRow g cs) row :=
  ⟨h.os, h.tape, h.output, by simpa using h.size, fun i hi hne => (setRow_other w g i cs (by omega)).trans (h.block i hi hne)⟩
theorem only_setCell {a w : World} {row : Option Nat} (h : a.grownBy w row) {g : Nat} (hg : a.heap.size ≤ g) (k : Nat) (v : Value) : a.grownBy (w.setCell ⟨g, k, none⟩ v) row :=
  ⟨h.os, h.tape, h.output, by simpa [World.setCell] using h.size, fun i hi hne => (heap_setCell_other w ⟨g, k, none⟩ i v (by simp; omega)).trans (h.block i hi hne)⟩
theorem Rd.setRow {w : World} {R p : Nat} (h : Rd w R p) {g : Nat} (hg : R < g) (cs : Array Value) : Rd (w.setRow g cs) R p :=
  h.keep (row := some g) ⟨rfl, rfl, rfl, by simp, fun i hi hne => setRow_other w g i cs (by rintro rfl; exact hne rfl)⟩ (fun x e => by cases e; exact hg)
theorem Rd.setCell {w : World} {R p : Nat} (h : Rd w R p) {g : Nat} (hg : R < g) (k : Nat) (v : Value) : Rd (w.setCell ⟨g, k, none⟩ v) R p :=
  h.keep (row := some g) ⟨rfl, rfl, rfl, by simp [World.setCell], fun i hi hne => heap_setCell_other w ⟨g, k, none⟩ i v (by rintro rfl; exact hne rfl)⟩ (fun x e => by cases e; exact hg)
theorem Rd.below {w w' : World} {R p : Nat} (h : Rd w R p) (hb : Below w.heap.size w w') : Rd w' R p := h.keep (row := none) (only_below hb none) (fun x e => by cases e)
theorem RowAt.only {w w' : World} {g n R : Nat} {T : TypeId} {f : Nat → Int} (h : RowAt w g n T f) (hg : w.grownBy w' (some R)) (hne : g ≠ R) : RowAt w' g n T f :=
  (hg.block g h.lt (by simpa using hne)).trans h

/-- A point drawn from a reader: at most c picks; only the reader's block turns. -/
def DrewPt (w : World) (R p c : Nat) (e : Ending) (w' : World) : Prop :=
  ∃ (a : Nat → Int) (q : Nat), e = .returned (pt a) ∧ q ≤ p + c ∧ Rd w' R q ∧ w.grownBy w' (some R)

theorem CodeAt.alloc {w : World} {v : Value} (h : CodeAt w v) (o : Obj) : CodeAt (w.alloc o) v := by
  rcases h with h | ⟨b, off, len, cap, zs, h0, hb, h1, h2, h3, hc, hz⟩
  · exact .inl h
  · exact .inr ⟨b, off, len, cap, zs, h0, by simp; omega, h1, h2, h3, fun i hi => (World.cell?_alloc_past _ _ _ hb).trans (hc i hi), hz⟩
/-- A point drawn out of a code. -/
def DrewOne (w : World) (e : Ending) (w' : World) : Prop := ∃ a : Nat → Int, e = .returned (pt a) ∧ Below w.heap.size w w'
/-- Two points drawn out of a code. -/
def DrewPts (w : World) (e : Ending) (w' : World) : Prop := ∃ a b : Nat → Int, e = .returned (.tuple #[pt a, pt b]) ∧ Below w.heap.size w w'
/-- A point and a number drawn out of a code. -/
def DrewPtInt (w : World) (lo hi : Int) (e : Ending) (w' : World) : Prop := ∃ (a : Nat → Int) (n : Int), e = .returned (.tuple #[pt a, .int .i64 n]) ∧ lo ≤ n ∧ n ≤ hi ∧ Below w.heap.size w w'
theorem results_row_row {P : Program} {fn : Func} {p q : Tmp} {ty : TypeId} {tmps : Array Value} {w : World} {g g' n : Nat} {T T' : TypeId} {f f' : Nat → Int} {d : TypeDesc} (h : fn.results = #[.cell p ty, .cell q ty]) (hp : tmps.getD p undef = .pointer (some ⟨g, 0, none⟩)) (hq : tmps.getD q undef = .pointer (some ⟨g', 0, none⟩)) (hg : RowAt w g n T f) (hg' : RowAt w g' n T' f')
    (hu : P.underlying ty = some d) (hd : (match d with | .struct _ | .array _ _ => true | _ => false) = true) (hi : (P.info? ty).map (·.size) = some n) :
    (results fn tmps).run P w = .ok (.tuple #[.agg (vec n f), .agg (vec n f')]) w := results_row2 h hp hq hg hg' hu hd hi hu hd hi

/-- Nothing, one or not: the rare factor of a draw. -/
theorem rare_factor {k : Int} (h0 : 0 ≤ k) (h1 : k < 20) : Int.tdiv k 19 = (if k = 19 then 1 else 0) := by
  rw [Int.tdiv_eq_ediv_of_nonneg h0]
  split <;> omega

end Go.Proofs.YtbdhbkedeglagaaDoor
