/-
  Out of the text LawPolyBase: what the draws of polygons need.
  Out of the text LawPolySurd: what the draws of polygons need.
  Out of the text LawPolyPoint: what the draws of polygons need.
-/
import Derived.Test.YtdpakhggpgdgbaaGreatM20
import Derived.Test.YtdpakhggpgdgbaaGreatM24
import Derived.Test.YtdpakhggpgdgbaaGreatM15
import Derived.Test.YtdpakhggpgdgbaaGreatM03
import Derived.Test.YtdpakhggpgdgbaaGreatM02
import Derived.Deep.QuietTactic
import Derived.BigQuiet
import Derived.Test.YtdpakhggpgdgbaaGreatM04
import Derived.Test.YtdpakhggpgdgbaaGreatM06
import Derived.Test.YtdpakhggpgdgbaaGreatM17
import Derived.Test.YtdpakhggpgdgbaaGreatM19
import Derived.Laws.CopyRow
import Derived.Test.YtdpakhggpgdgbaaGreatM23
import Derived.Test.YtdpakhggpgdgbaaGreatM21
/- Out of the text LawPolyBase: what the draws of polygons need. -/
namespace Go.Proofs.YtdpakhggpgdgbaaGreat
set_option maxRecDepth 20000
open Go.ChangeShapes Go.WideShapes Go.ChangeAt Go.RowKit
set_option linter.unusedVariables false
set_option linter.unusedSimpArgs false
theorem readsL_form {w : World} {v : Value} {xs : List V} (h : ReadsL encV w v xs) : ∃ p c, v = .slice p xs.length c := by
  obtain ⟨p, c, e, -⟩ := h
  exact ⟨p, c, e⟩
theorem readsL_box {w : World} {v : Value} {xs : List V} (h : ReadsL encV w v xs) (o : Obj) : ReadsL encV (w.alloc o) v xs := h.below ((Below.refl _ _).alloc (Nat.le_refl _) _)
/-- A polygon out of a code. -/
def DrewPoly (w : World) (e : Ending) (w' : World) : Prop := ∃ (v : Value) (xs : List V), e = .returned v ∧ xs.length ≤ 48 ∧ ReadsL encV w' v xs ∧ Below w.heap.size w w'
/-- The cells of a point of a list. -/
theorem reads_point {w : World} {v : Value} {xs : List V} (h : ReadsL encV w v xs) {k : Nat} (hk : k < xs.length) : ∃ g o cap, v = .slice (some ⟨g, o, none⟩) xs.length cap ∧ g < w.heap.size ∧ w.rangeAt g (o + k * 8) (encV (at' xs k)) := by
  obtain ⟨p, cap, rfl, h1, h2, h3, h4⟩ := h
  have hne : p ≠ none := fun e => by have := h3 e; omega
  obtain ⟨g, o, rfl, hg, hr⟩ := h4 hne
  exact ⟨g, o, cap, rfl, hg, cells_part encV_ok hr (at_get hk)⟩
theorem ints_at {w : World} {B T n : Nat} {v : Value} {L : List Int} (h : OwnL encI 1 w B T v L) (hn : L.length = n) (hl : 1 ≤ n) : ∃ g cap, v = .slice (some ⟨g, 0, none⟩) n cap ∧ g < w.heap.size ∧ ∀ k z, L[k]? = some z → w.cell? ⟨g, k, none⟩ = some (.int .i64 z) := by
  subst hn
  have h1 := own_ints h
  obtain ⟨p, cap, rfl, h2⟩ := intsAt_of_own h1
  obtain ⟨g, off, rfl, h3⟩ := h2 (by intro e; rw [e] at hl; simp at hl)
  rcases h.2 with ⟨e, -⟩ | ⟨g', cap', cur, e, -, hg, -⟩
  · cases e
  · simp only [Value.slice.injEq, Option.some.injEq, Addr.mk.injEq, and_true] at e
    obtain ⟨⟨rfl, rfl⟩, -⟩ := e
    refine ⟨_, _, rfl, (Array.getElem?_eq_some_iff.1 hg).1, fun k z hz => ?_⟩
    have hk := (List.getElem?_eq_some_iff.1 hz).1
    have := h3 k hk
    rw [Nat.zero_add] at this
    rw [this, List.getD_eq_getElem?_getD, hz]
    rfl
theorem toldZ_some (m : Int) : toldZ (some m) = .tuple #[.int .i64 m, .bool true] := rfl
theorem toldZ_none : toldZ none = .tuple #[.int .i64 0, .bool false] := rfl

end Go.Proofs.YtdpakhggpgdgbaaGreat
/- Out of the text LawPolySurd: what the draws of polygons need. -/
namespace Go.Proofs.YtdpakhggpgdgbaaGreat
set_option maxRecDepth 20000
open Go.ChangeShapes Go.WideShapes Go.ChangeAt Go.RowKit
set_option linter.unusedVariables false
set_option linter.unusedSimpArgs false
theorem eqs_cells (f : Nat → Int) (w : World) : (Op.equalIn 10000 32 (.agg #[.int .i64 (f 0), .int .i64 (f 1), .int .i64 (f 2), .int .i64 (f 3)]) (.agg #[.int .i64 (f 0), .int .i64 (f 1), .int .i64 (f 2), .int .i64 (f 3)])).run Tryz.prog w = .ok true w := by
  have h := eq_four 32 (.inl rfl) (f 0) (f 1) (f 2) (f 3) (f 0) (f 1) (f 2) (f 3) w
  simpa using h
theorem okf_same {a b : Nat → Int} (h : ∀ j, j < 4 → a j = b j) : okf a = okf b := by
  unfold okf; rw [h 0 (by omega), h 1 (by omega), h 2 (by omega), h 3 (by omega)]
theorem tls_is {v : Bool} {c d : Nat → Int} (h : ∀ j, j < 4 → c j = d j) (hv : (v && okf d) = true) : tls v c = .tuple #[.agg (vec 4 d), .bool true] := by
  simp only [tls, okf_same h, hv, if_true]
  rw [show p4 c = p4 d by unfold p4; rw [vec_same h]]
theorem SurdSign_yes {a : Nat → Int} {z : Int} (va : okf a = true) (h : sgf a = z) (w : World) : Calls Tryz.prog 11 #[.agg (vec 4 a)] w fun e w' => e = .returned (.tuple #[.int .i64 z, .bool true]) ∧ Below w.heap.size w w' := by
  have := SurdSign_any (a 0) (a 1) (a 2) (a 3) w
  rw [show okr (a 0) (a 1) (a 2) (a 3) = true from va, if_pos rfl, show sg4 (a 0) (a 1) (a 2) (a 3) = z from h] at this
  exact this
theorem tls_some (v : Bool) (f : Nat → Int) : ∃ c u, tls v f = .tuple #[.agg (vec 4 c), .bool u] ∧ (u = true → v = true ∧ okf f = true ∧ c = f) := by
  by_cases h : (v && okf f) = true
  · exact ⟨f, true, by simp [tls, h], fun _ => by simp only [Bool.and_eq_true] at h; exact ⟨h.1, h.2, rfl⟩⟩
  · exact ⟨nul, false, by simp [tls, h], fun h => by cases h⟩
theorem okf_nul4 : okf nul = true := by decide
end Go.Proofs.YtdpakhggpgdgbaaGreat
/- Out of the text LawPolyPoint: what the draws of polygons need. -/
namespace Go.Proofs.YtdpakhggpgdgbaaGreat
set_option maxRecDepth 20000
open Go.ChangeShapes Go.WideShapes Go.ChangeAt Go.RowKit
set_option linter.unusedVariables false
set_option linter.unusedSimpArgs false
section
variable {P : Program} {ops : Array Oper} {rest : List Oper} {o : Oper} {a : Act} {Q : Exit → Act → World → Prop} {w : World}
/-- A row that is read behind '&&' or '||'. -/
theorem load_row_on {T ty : TypeId} {d : TypeDesc} {g : Nat} {f : Nat → Int} (hw : Region.wanted o (yielded ops a.tmps) = true) {x : Operand} (ho : o.op = .load T x) (hx : a.eval x = .pointer (some ⟨g, 0, none⟩)) (hr : RowAt w g 8 ty f)
    (hu : P.underlying T = some d) (hd : d.isRow = true) (hi : (P.info? T).map (·.size) = some 8)
    (h : wpList P ops Q rest (a.put o.dst (.agg (vec 8 f))) w) : wpList P ops Q (o :: rest) a w := load_part_on hw ho hx hr.range hu hd hi h
end
end Go.Proofs.YtdpakhggpgdgbaaGreat
