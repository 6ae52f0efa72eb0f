/-
  Out of the text RowMath: what the draws of polygons need.
  Out of the text RowSay: what the draws of polygons need.
  Out of the text RowA: what the draws of polygons need.
  Out of the text RowS0: what the draws of polygons need.
-/
import Derived.Test.YtdpakhggpgdgbaaGreatM10
import Derived.Test.YtdpakhggpgdgbaaGreatM09
import Derived.Test.YtdpakhggpgdgbaaGreatM14
import Derived.Test.YtdpakhggpgdgbaaGreatM11
/- Out of the text RowMath: what the draws of polygons need. -/
namespace Go.Proofs.YtdpakhggpgdgbaaGreat
set_option maxRecDepth 20000
set_option linter.unusedVariables false
set_option linter.unusedSimpArgs false
def rowLen (n : Nat) : Bool := decide (1 ≤ n) && decide (24 % n = 0)
theorem rowLen_in {n : Nat} (h : rowLen n = true) : 1 ≤ n ∧ 24 % n = 0 ∧ n ≤ 24 := by
  unfold rowLen at h
  simp only [Bool.and_eq_true, decide_eq_true_eq] at h
  refine ⟨h.1, h.2, ?_⟩
  rcases Nat.lt_or_ge 24 n with h3 | h3
  · rw [Nat.mod_eq_of_lt h3] at h; omega
  · exact h3
/-- The point k of a list. -/
def at' (xs : List V) (k : Nat) : V := (xs[k]?).getD V.zero
theorem at_some {xs : List V} {k : Nat} {a : V} (h : xs[k]? = some a) : at' xs k = a := by unfold at'; rw [h]; rfl
/-- The steps of a row of n points: forward, and back. -/
def fw (n : Nat) : Nat := 24 / n
def bw (n : Nat) : Nat := 24 - 24 / n
theorem apart {n : Nat} (h : rowLen n = true) {i k : Nat} (hi : i < n) (hk : k < n) (hne : i ≠ k) : (fw n * i + bw n * k) % 24 ≠ 0 ∧ (bw n * i + fw n * k) % 24 ≠ 0 := by
  have key : ∀ n : Fin 25, rowLen n.1 = true → ∀ i : Fin 24, i.1 < n.1 → ∀ k : Fin 24, k.1 < n.1 → i.1 ≠ k.1 → (fw n.1 * i.1 + bw n.1 * k.1) % 24 ≠ 0 ∧ (bw n.1 * i.1 + fw n.1 * k.1) % 24 ≠ 0 := by decide +kernel
  have hl := (rowLen_in h).2.2
  exact key ⟨n, by omega⟩ h ⟨i, by omega⟩ hi ⟨k, by omega⟩ hk hne
section
variable {α : Type}
def coll (f : Nat → Option α) : Nat → Option (List α)
  | 0 => some []
  | n + 1 => (coll f n).bind fun l => (f n).map fun a => l ++ [a]
theorem coll_step {f : Nat → Option α} {n : Nat} {l : List α} (h : coll f n = some l) : coll f (n + 1) = (f n).map fun a => l ++ [a] := by
  show (coll f n).bind _ = _
  rw [h]; rfl
theorem coll_len {f : Nat → Option α} : ∀ {n : Nat} {l : List α}, coll f n = some l → l.length = n
  | 0, l, h => by simp only [coll, Option.some.injEq] at h; rw [← h]; rfl
  | n + 1, l, h => by
    simp only [coll, Option.bind_eq_some_iff, Option.map_eq_some_iff] at h
    obtain ⟨l', h1, a, _, rfl⟩ := h
    rw [List.length_append, coll_len h1]; rfl
theorem coll_none {f : Nat → Option α} {k : Nat} (h : f k = none) : ∀ {n : Nat}, k < n → coll f n = none
  | 0, hk => by omega
  | n + 1, hk => by
    show (coll f n).bind _ = none
    by_cases hk' : k < n
    · rw [coll_none h hk']; rfl
    · obtain rfl : k = n := by omega
      rw [h]
      cases coll f k <;> rfl
end
end Go.Proofs.YtdpakhggpgdgbaaGreat
/- Out of the text RowSay: what the draws of polygons need. -/
namespace Go.Proofs.YtdpakhggpgdgbaaGreat
set_option maxRecDepth 20000
set_option linter.unusedVariables false
set_option linter.unusedSimpArgs false
theorem at_get {xs : List V} {k : Nat} (h : k < xs.length) : xs[k]? = some (at' xs k) := by
  unfold at'
  rw [List.getElem?_eq_getElem h]; rfl
end Go.Proofs.YtdpakhggpgdgbaaGreat
/- Out of the text RowA: what the draws of polygons need. -/
namespace Go.Proofs.YtdpakhggpgdgbaaGreat
set_option maxRecDepth 20000
open Go.ChangeShapes Go.WideShapes Go.ChangeAt Go.RowKit
set_option linter.unusedVariables false
set_option linter.unusedSimpArgs false
theorem tyY : TyL Tryz.prog 23 40 8 := tyL_of (z := .agg (vec 8 nul)) (b := 64) Tryz.underlying23 (by kernel_rfl) (by omega) rfl
section
variable {P : Program} {t e : TypeId} {ops : Array Oper} {rest : List Oper} {o : Oper} {a : Act} {Q : Exit → Act → World → Prop} {w0 w : World} {B : Nat}
theorem fill_8 (g : Nat → Value) (f : Nat → Int) : Instr.fill (fun i => some (i * 8, 8)) ((Array.range (1 * 8)).map g) [(0, .agg (vec 8 f))] = some (vec 8 f) := by
  have h1 : (Array.range (1 * 8)).map g = #[g 0, g 1, g 2, g 3, g 4, g 5, g 6, g 7] := by
    refine Array.ext (by simp) fun i h1 h2 => ?_
    simp only [Nat.one_mul, Array.size_map, Array.size_range] at h1
    have : i = 0 ∨ i = 1 ∨ i = 2 ∨ i = 3 ∨ i = 4 ∨ i = 5 ∨ i = 6 ∨ i = 7 := by omega
    rcases this with rfl | rfl | rfl | rfl | rfl | rfl | rfl | rfl <;> simp
  have h2 : vec 8 f = #[.int .i64 (f 0), .int .i64 (f 1), .int .i64 (f 2), .int .i64 (f 3), .int .i64 (f 4), .int .i64 (f 5), .int .i64 (f 6), .int .i64 (f 7)] := rfl
  rw [h1, h2]
  simp [Instr.fill, Value.cells]
theorem run_one8 (ty : TyL P t e 8) (f : Nat → Int) (w : World) : (Instr.buildSlice t 1 #[(0, .agg (vec 8 f))]).run P w = .ok (.slice (some ⟨w.heap.size, 0, none⟩) 1 1) (w.alloc (.cells (vec 8 f) e)) := by
  obtain ⟨i, z, hi, hz, hs, hby, hzs⟩ := ty.inf
  have hf := fill_8 (fun x => z.cells[x % z.cells.size]!) f
  simp [Instr.buildSlice, run_underlying ty.sl, sizeOf, typeInfo, zeroValue, hi, hz, hs, Sem.run_bind]
  rw [Nat.one_mul] at hf
  simp [hf, newRow]
/-- A list of one point, made on the spot. -/
theorem one8 (ty : TyL P t e 8) {x : Operand} {f : Nat → Int} (hgd : o.guard = none) (ho : o.op = .buildSlice t 1 #[(0, x)]) (hx : a.eval x = .agg (vec 8 f))
    (h : wpList P ops Q rest (a.put o.dst (.slice (some ⟨w.heap.size, 0, none⟩) 1 1)) (w.alloc (.cells (vec 8 f) e))) : wpList P ops Q (o :: rest) a w := by
  refine wpList_plain hgd fun K hK => ?_
  unfold Oper.wp execOp
  simp [ho, hx, Sem.run_bind, run_one8 ty f w, Result.andThen]
  exact hK _ _ h
end
theorem lit8 (w : World) (x : V) (T : Nat) : ReadsL encV (w.alloc (.cells (vec 8 x.up) T)) (.slice (some ⟨w.heap.size, 0, none⟩) 1 1) [x] := litL_reads (en := encV) w x T
theorem ownL_none (w : World) (B T : Nat) : OwnL encV 8 w B T (.slice none 0 0) ([] : List V) := World.ownsRow_nil w B T 8
theorem take_nextV {xs : List V} {k : Nat} {c : V} (hc : xs[k]? = some c) : xs.take (k + 1) = xs.take k ++ [c] := by rw [List.take_add_one, hc]; rfl
/-- What is told of a list of points: the list and true, or none and false. -/
def gotL (o : Option (List V)) : List V := o.getD []
def ToldL (T : Nat) (w : World) (o : Option (List V)) (e : Ending) (w' : World) : Prop :=
  Below w.heap.size w w' ∧ ∃ v', e = .returned (.tuple #[v', .bool o.isSome]) ∧ OwnL encV 8 w' w.heap.size T v' (gotL o)
/-- A row's length. -/
def rowZ (n : Int) : Bool := decide (1 ≤ n) && rowLen n.toNat
theorem rowZ_nat (n : Nat) : rowZ n = rowLen n := by
  unfold rowZ rowLen
  simp only [Int.toNat_natCast]
  by_cases h : 1 ≤ n
  · rw [decide_eq_true (by omega : (1 : Int) ≤ (n : Int)), Bool.true_and]
  · rw [decide_eq_false (by omega : ¬ (1 : Int) ≤ (n : Int)), decide_eq_false h]; rfl
end Go.Proofs.YtdpakhggpgdgbaaGreat
/- Out of the text RowS0: what the draws of polygons need. -/
namespace Go.Proofs.YtdpakhggpgdgbaaGreat
set_option maxRecDepth 20000
open Go.ChangeShapes Go.WideShapes Go.ChangeAt Go.RowKit
set_option linter.unusedVariables false
set_option linter.unusedSimpArgs false
theorem specLength_any (n : Int) (w : World) : Calls Tryz.prog 72 #[.int .i64 n] w fun e w' => e = .returned (.bool (rowZ n)) ∧ w = w' := by
  by_cases h1 : 1 ≤ n
  · obtain ⟨m, rfl⟩ : ∃ m : Nat, n = m := ⟨n.toNat, by omega⟩
    rw [rowZ_nat]
    have h0 : ¬ (m : Int) = 0 := by omega
    by_cases h24 : (m : Int) ≤ 24
    · have h00 : ((m : Int) == 0) = false := by simpa using h0
      obtain ⟨q, hq⟩ : ∃ q, 24 % m = q := ⟨_, rfl⟩
      have hle : q ≤ 24 := by rw [← hq]; exact Nat.mod_le 24 m
      have e : Int.tmod 24 (m : Int) = (q : Int) := by
        rw [Int.tmod_eq_emod_of_nonneg (by decide), ← hq]; simp
      have er : rowLen m = ((q : Int) == 0) := by
        unfold rowLen
        rw [decide_eq_true (by omega : 1 ≤ m), Bool.true_and, hq]
        by_cases h : q = 0
        · subst h; rfl
        · rw [decide_eq_false h]; symm; simpa using h
      rw [er]
      clear er hq
      have e2 : (24 : Int).tmod (m : Int) = (q : Int) := e
      have q1 : IntKind.i64.wrap (q : Int) = (q : Int) := by rw [IntKind.wrap_i64]; omega
      go_enter Tryz.func72, Tryz.ntmps72
      go_wp2
      go_ret
      exact ⟨rfl, rfl⟩
    · have er : rowLen m = false := by
        cases h : rowLen m
        · rfl
        · have := (rowLen_in h).2.2; omega
      rw [er]
      go_enter Tryz.func72, Tryz.ntmps72
      go_wp2
      go_ret
      exact ⟨rfl, rfl⟩
  · have e : rowZ n = false := by unfold rowZ; rw [decide_eq_false h1]; rfl
    rw [e]
    go_enter Tryz.func72, Tryz.ntmps72
    go_wp2
    go_ret
    exact ⟨rfl, rfl⟩
end Go.Proofs.YtdpakhggpgdgbaaGreat
