/-
  Out of the text SymS: what the draws of polygons need.
  Out of the text DrawSym: what the draws of polygons need.
  Out of the text RowH: what the draws of polygons need.
  Out of the text RowX: what the draws of polygons need.
-/
import Derived.Test.YtpbppgaohfgpbaaM21
import Derived.Test.YtpbppgaohfgpbaaM19
import Derived.Test.YtpbppgaohfgpbaaM05
import Derived.Test.YtpbppgaohfgpbaaM16
import Derived.Test.YtpbppgaohfgpbaaM13
import Derived.Test.YtpbppgaohfgpbaaM23
import Derived.Test.YtpbppgaohfgpbaaM20
import Derived.Deep.CutBlock
import Derived.Test.YtpbppgaohfgpbaaM17
import Derived.Handy
import Derived.Test.YtpbppgaohfgpbaaM18
import Derived.Laws.CopyRow
import Derived.Lib.AppendZeros
import Derived.Test.YtpbppgaohfgpbaaM04
import Derived.Test.YtpbppgaohfgpbaaM25
/- Out of the text SymS: what the draws of polygons need. -/
namespace Go.Proofs.Ytpbppgaohfgpbaa
set_option maxRecDepth 20000
open Go.ChangeShapes Go.WideShapes Go.ChangeAt Go.RowKit
set_option linter.unusedVariables false
set_option linter.unusedSimpArgs false
theorem gcd_step (p q : Int) : Int.gcd q (p.tmod q) = Int.gcd p q := by
  unfold Int.gcd
  rw [Int.natAbs_tmod, Nat.gcd_comm p.natAbs q.natAbs, Nat.gcd_rec q.natAbs p.natAbs, Nat.gcd_comm]
end Go.Proofs.Ytpbppgaohfgpbaa
/- Out of the text DrawSym: what the draws of polygons need. -/
namespace Go.Proofs.Ytpbppgaohfgpbaa
set_option maxRecDepth 20000
open Go.ChangeShapes Go.WideShapes Go.ChangeAt Go.RowKit
set_option linter.unusedVariables false
set_option linter.unusedSimpArgs false
/-- A wheel with a whole radius. -/
def numW (s r : Int) : Wh := ⟨s, dn (gau r 0)⟩
theorem big_gau (r : Int) (hr : -1000 ≤ r ∧ r ≤ 1000) : Big (dn (gau r 0)) 4000000 := fun j hj => by
  rw [up_dn _ j hj]
  unfold gau
  split
  · omega
  · split <;> omega

/-- A list of two wheels, made on the spot. -/
theorem fill_two (g : Nat → Value) (f h : Nat → Int) : Instr.fill (fun i => some (i * 9, 9)) ((Array.range (2 * 9)).map g) [(0, .agg (vec 9 f)), (1, .agg (vec 9 h))] = some (vec 9 f ++ vec 9 h) := by
  have h1 : (Array.range (2 * 9)).map g = #[g 0, g 1, g 2, g 3, g 4, g 5, g 6, g 7, g 8, g 9, g 10, g 11, g 12, g 13, g 14, g 15, g 16, g 17] := by
    refine Array.ext (by simp) fun i h1 h2 => ?_
    simp only [Array.size_map, Array.size_range, Nat.reduceMul] at h1
    have : i = 0 ∨ i = 1 ∨ i = 2 ∨ i = 3 ∨ i = 4 ∨ i = 5 ∨ i = 6 ∨ i = 7 ∨ i = 8 ∨ i = 9 ∨ i = 10 ∨ i = 11 ∨ i = 12 ∨ i = 13 ∨ i = 14 ∨ i = 15 ∨ i = 16 ∨ i = 17 := by omega
    rcases this with rfl | rfl | rfl | rfl | rfl | rfl | rfl | rfl | rfl | rfl | rfl | rfl | rfl | rfl | rfl | rfl | rfl | rfl <;> simp
  have h2 : ∀ f : Nat → Int, vec 9 f = #[.int .i64 (f 0), .int .i64 (f 1), .int .i64 (f 2), .int .i64 (f 3), .int .i64 (f 4), .int .i64 (f 5), .int .i64 (f 6), .int .i64 (f 7), .int .i64 (f 8)] := fun f => rfl
  rw [h1, h2 f, h2 h]
  simp [Instr.fill, Value.cells]
theorem run_two {P : Program} {t e : TypeId} (ty : Ty9 P t e) (f h : Nat → Int) (w : World) : (Instr.buildSlice t 2 #[(0, .agg (vec 9 f)), (1, .agg (vec 9 h))]).run P w = .ok (.slice (some ⟨w.heap.size, 0, none⟩) 2 2) (w.alloc (.cells (vec 9 f ++ vec 9 h) e)) := by
  obtain ⟨i, z, hi, hz, hs, hby, hzs⟩ := ty.inf
  have hf := fill_two (fun x => z.cells[x % z.cells.size]!) f h
  simp [Instr.buildSlice, run_underlying ty.sl, sizeOf, typeInfo, zeroValue, hi, hz, hs, Sem.run_bind]
  simp only [Nat.reduceMul] at hf
  simp [hf, newRow]
theorem wp_two9 {P : Program} {o : Oper} {a : Act} {w : World} {K : Act → World → Prop} {Q : Exit → Act → World → Prop} {t e : TypeId} (ty : Ty9 P t e) {x y : Operand} {f h : Nat → Int} (ho : o.op = .buildSlice t 2 #[(0, x), (1, y)]) (hx : a.eval x = .agg (vec 9 f)) (hy : a.eval y = .agg (vec 9 h))
    (k : K (a.put o.dst (.slice (some ⟨w.heap.size, 0, none⟩) 2 2)) (w.alloc (.cells (vec 9 f ++ vec 9 h) e))) : o.wp P a w K Q := by
  unfold Oper.wp execOp
  simp only [ho, List.map_toArray, List.map_cons, List.map_nil, hx, hy, Sem.run_bind, run_two ty, Result.andThen_ok]
  exact k
theorem reads_two (w : World) (c d : Wh) (T : Nat) : Reads (w.alloc (.cells (vec 9 (wf c) ++ vec 9 (wf d)) T)) (.slice (some ⟨w.heap.size, 0, none⟩) 2 2) [c, d] := by
  refine ⟨_, 2, rfl, Nat.le_refl _, by simp [maxLen], (fun h => by cases h), fun _ => ⟨_, _, rfl, by simp, fun j v hv => ?_⟩⟩
  rw [Nat.zero_add, cell_of_row _ _ _ _ _ _ (heap_alloc_new w _)]
  rw [flat_cons, flat_one] at hv
  simpa [vec, enc] using hv

theorem quo_small (a g : Int) (M : Nat) (ha : a.natAbs ≤ M) : (a.tdiv g).natAbs ≤ M := by
  rw [Int.natAbs_tdiv]
  exact Nat.le_trans (Nat.div_le_self _ _) ha

/-- A design drawn off a reader, of whatever length. -/
def DrewX (w : World) (R p c : Nat) (e : Ending) (w' : World) : Prop :=
  ∃ (v : Value) (ws : List Wh) (q : Nat), e = .returned v ∧ q ≤ p + c ∧ Rd w' R q ∧ w.grownBy w' (some R) ∧ Reads w' v ws

end Go.Proofs.Ytpbppgaohfgpbaa
/- Out of the text RowH: what the draws of polygons need. -/
namespace Go.Proofs.Ytpbppgaohfgpbaa
set_option maxRecDepth 20000
open Go.ChangeShapes Go.WideShapes Go.ChangeAt Go.RowKit
set_option linter.unusedVariables false
set_option linter.unusedSimpArgs false
theorem pointOf_some (a : V) : pointOf (some a) = .tuple #[.agg (vec 8 a.up), .bool true] := rfl
theorem rdO_no {ws : List Wh} {n : Int} (h : rowZ n = false) : rdO ws n = none := by
  unfold rdO; unfold rowZ at h; rw [h]; rfl
theorem rdO_nat {ws : List Wh} {n : Nat} (h : rowLen n = true) : rdO ws n = coll (fun k => atD ws (((k * (24 / n) : Nat)) : Int)) n := by
  have h' := rowZ_nat n
  rw [h] at h'
  unfold rowZ at h'
  unfold rdO
  rw [if_pos h']; rfl
end Go.Proofs.Ytpbppgaohfgpbaa
/- Out of the text RowX: what the draws of polygons need. -/
namespace Go.Proofs.Ytpbppgaohfgpbaa
set_option maxRecDepth 20000
open Go.ChangeShapes Go.WideShapes Go.ChangeAt Go.RowKit
set_option linter.unusedVariables false
set_option linter.unusedSimpArgs false
theorem ownL_nilD (w : World) (B : Nat) (T : Nat) (g : Nat) (hg : w.heap.size = g) (hB : B ≤ w.heap.size) : (w.alloc (.cells #[] T)).ownsRow B T 8 (.slice (some ⟨g, 0, none⟩) 0 0) 0 [] := by subst hg; exact ownL_nilB w B T hB
theorem rdO_bad {ws : List Wh} {n : Nat} (h : rowLen n = true) (hv : valid ws = false) : rdO ws n = none := by
  rw [rdO_nat h]
  refine coll_none (k := 0) ?_ (rowLen_in h).1
  unfold atD
  rw [hv]; rfl
end Go.Proofs.Ytpbppgaohfgpbaa
