/-
  Out of the text RowSay2: what the draws of polygons need.
  Lists of numbers in memory.
-/
import Derived.Test.YtibhlaojinedoaaM16
import Derived.Test.YtibhlaojinedoaaM19
import Derived.Test.YtibhlaojinedoaaM09
/- Out of the text RowSay2: what the draws of polygons need. -/
namespace Go.Proofs.Ytibhlaojinedoaa
set_option maxRecDepth 20000
set_option linter.unusedVariables false
set_option linter.unusedSimpArgs false
def rdO (ws : List Wh) (n : Int) : Option (List V) := if decide (1 ≤ n) && rowLen n.toNat then coll (fun k => atD ws (((k * (24 / n.toNat) : Nat)) : Int)) n.toNat else none
end Go.Proofs.Ytibhlaojinedoaa
/- Lists of numbers in memory. -/
namespace Go.Proofs.Ytibhlaojinedoaa
set_option maxRecDepth 20000
open Go.ChangeShapes Go.WideShapes Go.ChangeAt Go.RowKit
set_option linter.unusedVariables false
set_option linter.unusedSimpArgs false

/-! Lists of numbers. -/
def encI (n : Int) : List Value := [.int .i64 n]
theorem encI_ok : Enc encI 1 := ⟨fun a => rfl, fun a v h => by rw [encI, List.mem_singleton] at h; subst h; rfl, by omega⟩
theorem tyI : TyL Try.prog 69 3 1 := tyL_of (z := .int .i64 0) (b := 8) Try.underlying69 (by kernel_rfl) (by omega) rfl
theorem flt_ints : ∀ xs : List Int, flt encI xs = xs.map (Value.int .i64)
  | [] => rfl
  | x :: xs => by rw [flt_cons, flt_ints xs]; rfl
theorem own_ints {w : World} {B T : Nat} {v : Value} {xs : List Int} (h : OwnL encI 1 w B T v xs) : w.ownsRow B T 1 v xs.length (xs.map (Value.int .i64)) := by
  rw [← flt_ints]; exact h
theorem lit1 (w : World) (x : Int) (T : Nat) : ReadsL encI (w.alloc (.cells #[.int .i64 x] T)) (.slice (some ⟨w.heap.size, 0, none⟩) 1 1) [x] := litL_reads (en := encI) w x T
theorem int_cell {w : World} {g o k : Nat} {xs : List Int} {x : Int} (h : w.rangeAt g o (flt encI xs)) (hx : xs[k]? = some x) : w.cell? ⟨g, o + k, none⟩ = some (.int .i64 x) := by
  have := cells_part encI_ok h hx 0 (.int .i64 x) rfl
  rwa [Nat.mul_one, Nat.add_zero] at this
def ToldI (w : World) (o : Option (List Int)) (e : Ending) (w' : World) : Prop :=
  Below w.heap.size w w' ∧ ∃ v', e = .returned (.tuple #[v', .bool o.isSome]) ∧ OwnL encI 1 w' w.heap.size 3 v' (o.getD [])
end Go.Proofs.Ytibhlaojinedoaa
