/-
  What paths are drawn out of a code.
  What rows, paths and moves are drawn out of a code.
  Two paths drawn out of a code.
  What the walks of the laws of paths and moves share.
-/
import Derived.Test.YtpbppgaohfgpbaaM28
import Derived.Test.YtpbppgaohfgpbaaM33
import Derived.Test.YtpbppgaohfgpbaaM11
import Derived.Deep.CutBlock
import Derived.Test.YtpbppgaohfgpbaaM29
import Derived.Test.YtpbppgaohfgpbaaM03
/- What paths are drawn out of a code. -/
namespace Go.Proofs.Ytpbppgaohfgpbaa
set_option maxRecDepth 20000
open Go.ChangeShapes Go.WideShapes Go.ChangeAt Go.RowKit
set_option linter.unusedVariables false
set_option linter.unusedSimpArgs false

theorem rows_keptP {w w' : World} {B T R n K : Nat} {v : Value} {cs : List Value} (h : w.ownsRow B T K v n cs) (hg : w.grownBy w' (some R)) (hR : R < B) : w'.ownsRow B T K v n cs := by
  refine h.kept hg ?_
  cases e : v.ownBlock with
  | none => exact .inl rfl
  | some k =>
    have := (h.lt k e).1
    exact .inr (by simp; omega)
theorem own_lowerP {w : World} {B C T n K : Nat} {v : Value} {cs : List Value} (h : w.ownsRow C T K v n cs) (hB : B ≤ C) : w.ownsRow B T K v n cs := by
  refine ⟨h.1, ?_⟩
  rcases h.2 with h0 | ⟨g, cap, cur, e, hC, rest⟩
  · exact .inl h0
  · exact .inr ⟨g, cap, cur, e, Nat.le_trans hB hC, rest⟩
section
variable {P : Program} {t e : TypeId} {ops : Array Oper} {rest : List Oper} {o : Oper} {a : Act} {Q : Exit → Act → World → Prop} {w0 w : World} {R q K : Nat} {α : Type} {en : α → List Value}
/-- Appending while a reader is open. -/
theorem append_drawnE (ty : TyL P t e K) (E : Enc en K) (hgd : o.guard = none) {s x : Operand} (hop : o.op = .call { callee := .builtin .append, args := #[s, x], argTypes := #[t, t] })
    {v x' : Value} {xs ys : List α} (hs : a.eval s = v) (hx : a.eval x = x') (hown : OwnL en K w w0.heap.size e v xs) (hr : ReadsL en w x' ys) (hlen : xs.length + ys.length ≤ 1000000000) (hg : w0.grownBy w (some R)) (hR : Rd w R q) (hlt : R < w0.heap.size)
    (h : ∀ v' w', OwnL en K w' w0.heap.size e v' (xs ++ ys) → Rd w' R q → w0.grownBy w' (some R) → wpList P ops Q rest (a.put o.dst v') w') : wpList P ops Q (o :: rest) a w := by
  refine wpList_plain hgd fun _ hK => wp_appendL (w0 := w) ty E hop hs hx hown hr hlen (Below.refl _ _) hg.size fun v' w' h1 _ _ h4 => hK _ _ (h v' w' h1 ?_ ?_)
  · exact hR.keep h4 fun k hk => by have := (hown.lt k hk).1; omega
  · exact only_own (B := 0) hg h4 fun k hk => (hown.lt k hk).1
end
/-- A list stays where the code is read on. -/
theorem reads_apartP {w w' : World} {R q : Nat} {v : Value} {ws : List Wh} (h : Reads w v ws) (hr : Rd w R q) (hg : w.grownBy w' (some R)) : Reads w' v ws := by
  obtain ⟨p, cap, h1, h2, h3, h4, h5⟩ := h
  refine ⟨p, cap, h1, h2, h3, h4, fun hn => ?_⟩
  obtain ⟨g, o, e, hlt, hra⟩ := h5 hn
  refine ⟨g, o, e, Nat.lt_of_lt_of_le hlt hg.size, ?_⟩
  cases hws : ws with
  | nil => exact fun j v hv => by simp [flat] at hv
  | cons c cs =>
    rw [← hws]
    have hne : g ≠ R := by
      rintro rfl
      obtain ⟨a, ha, -⟩ := hr
      have hl : 8 < (flat ws).length := by rw [flat_length, hws]; simp; omega
      have := hra 8 _ (List.getElem?_eq_getElem hl)
      simp [World.cell?, ha] at this
    exact fun j v hv => hg.cell (hra j v hv) (by simpa using hne)
abbrev sixCellsP : Array Value := #[.int .i64 2, .int .i64 3, .int .i64 4, .int .i64 6, .int .i64 8, .int .i64 12]
theorem six_atP (k : Nat) (hk : k < 6) : ∃ d : Nat, sixCellsP[k]? = some (.int .i64 d) := by
  have key : ∀ j : Fin 6, ∃ d : Nat, sixCellsP[j.val]? = some (.int .i64 (d : Int)) := by
    intro j
    match j with
    | 0 => exact ⟨2, rfl⟩
    | 1 => exact ⟨3, rfl⟩
    | 2 => exact ⟨4, rfl⟩
    | 3 => exact ⟨6, rfl⟩
    | 4 => exact ⟨8, rfl⟩
    | 5 => exact ⟨12, rfl⟩
  exact key ⟨k, hk⟩
/-! ### Words of 32 bits -/
theorem run_quo32 {P : Program} (x y : Nat) (t : TypeId) (w : World) : ∃ r n, (binOp .quo t (.float .f32 x) (.float .f32 y)).run P w = .ok (.float .f32 r) (w.drewN n) := by
  cases h : floatBits .quo .f32 x y with
  | some z => exact ⟨z, 0, run_float_arith w .quo t .f32 x y z h⟩
  | none =>
    refine ⟨Question.cut (.nanBits .f32 x y) (w.tape w.drawn (.nanBits .f32 x y)), 1, ?_⟩
    unfold floatBits at h
    simp only at h
    simp [binOp, Op.floatArith, h, choose, Sem.run, Question.forced]
    rfl
theorem eighth_at (j : Int) (h1 : -32 ≤ j) (h2 : j ≤ 32) : ∃ z, floatBits .quo .f32 (floatOfInt .f32 j) 1090519040 = some z := by
  have key : ∀ k : Fin 65, (floatBits .quo .f32 (floatOfInt .f32 (((k.val : Nat) : Int) - 32)) 1090519040).isSome = true := by decide +kernel
  have h := key ⟨(j + 32).toNat, by omega⟩
  simp only at h
  rw [show (((j + 32).toNat : Nat) : Int) - 32 = j by omega] at h
  exact Option.isSome_iff_exists.1 h
theorem sixth_at (j : Int) (h1 : -32 ≤ j) (h2 : j ≤ 32) : ∃ z, floatBits .quo .f32 (floatOfInt .f32 j) 1098907648 = some z := by
  have key : ∀ k : Fin 65, (floatBits .quo .f32 (floatOfInt .f32 (((k.val : Nat) : Int) - 32)) 1098907648).isSome = true := by decide +kernel
  have h := key ⟨(j + 32).toNat, by omega⟩
  simp only at h
  rw [show (((j + 32).toNat : Nat) : Int) - 32 = j by omega] at h
  exact Option.isSome_iff_exists.1 h
theorem set_fltC (a c : Pn) (cs : List Pn) : (flt encC (c :: cs)).set 0 (.complex .f32 a.1 a.2) = flt encC (a :: cs) := rfl
theorem ownC_nilB (w : World) (B : Nat) (T : Nat) (hB : B ≤ w.heap.size) : OwnL encC 1 (w.alloc (.cells #[] T)) B T (.slice (some ⟨w.heap.size, 0, none⟩) 0 0) ([] : List Pn) := World.ownsRow_made w #[] 0 hB (by simp [maxLen]) (by simp)
theorem Rd.drewN {w : World} {R p : Nat} (h : Rd w R p) (n : Nat) : Rd (w.drewN n) R p := h.keep (row := none) ⟨rfl, rfl, rfl, Nat.le_refl _, fun _ _ _ => rfl⟩ (fun g e => by cases e)
theorem only_drewP {a w : World} {row : Option Nat} (h : a.grownBy w row) (n : Nat) : a.grownBy (w.drewN n) row := ⟨h.os, h.tape, h.output, h.size, h.block⟩
theorem own_drewN {w : World} {B T n K : Nat} {v : Value} {cs : List Value} (h : w.ownsRow B T K v n cs) (m : Nat) : (w.drewN m).ownsRow B T K v n cs := rows_below h (below_drewN (Below.refl _ _) m)
/-- A path drawn off a reader. -/
def DrewPa (w : World) (R p c : Nat) (e : Ending) (w' : World) : Prop :=
  ∃ (v : Value) (xs : List Pn) (q : Nat), e = .returned v ∧ q ≤ p + c ∧ xs.length ≤ 100 ∧ Rd w' R q ∧ w.grownBy w' (some R) ∧ OwnL encC 1 w' w.heap.size 23 v xs
theorem pathO_ends {xs : List V} {L : List Pn} (h : pathO xs = some L) : 1 ≤ L.length ∧ L.length ≤ 100 := by
  unfold pathO at h
  split at h
  · next hh => rw [Bool.and_eq_true] at hh; cases h; have := pvB_parts hh.2; exact ⟨this.1, this.2.1⟩
  · cases h

end Go.Proofs.Ytpbppgaohfgpbaa
/- What rows, paths and moves are drawn out of a code. -/
namespace Go.Proofs.Ytpbppgaohfgpbaa
set_option maxRecDepth 20000
open Go.ChangeShapes Go.WideShapes Go.ChangeAt Go.RowKit
set_option linter.unusedVariables false
set_option linter.unusedSimpArgs false

section
variable {P : Program} {t e : TypeId} {ops : Array Oper} {rest : List Oper} {o : Oper} {a : Act} {Q : Exit → Act → World → Prop} {w0 w : World} {R q : Nat}
theorem build_zero8 {T : TypeId} (hgd : o.guard = none) (ho : o.op = .build T #[]) (hbu : P.built T [] = some (vec 8 nul))
    (h : wpList P ops Q rest (a.put o.dst (.agg (vec 8 V.zero.up))) w) : wpList P ops Q (o :: rest) a w := by
  have e : (#[].map fun (p : Nat × Operand) => (p.1, a.eval p.2)).toList = [] := by simp
  rw [zero_up] at h
  refine wpList_build hgd T _ ho ?_ ?_
  · show (P.built T (#[].map fun (p : Nat × Operand) => (p.1, a.eval p.2)).toList).isSome = true
    rw [e, hbu]; rfl
  · show wpList P ops Q rest (a.put o.dst (.agg ((P.built T (#[].map fun (p : Nat × Operand) => (p.1, a.eval p.2)).toList).getD #[]))) w
    rw [e, hbu]; exact h
/-- Appending while a reader is open, and what else stays. -/
theorem append_drawnG {K : Nat} {α : Type} {en : α → List Value} (ty : TyL P t e K) (E : Enc en K) (hgd : o.guard = none) {s x : Operand} (hop : o.op = .call { callee := .builtin .append, args := #[s, x], argTypes := #[t, t] })
    {v x' : Value} {xs ys : List α} (hs : a.eval s = v) (hx : a.eval x = x') (hown : OwnL en K w w0.heap.size e v xs) (hr : ReadsL en w x' ys) (hlen : xs.length + ys.length ≤ 1000000000) (hg : w0.grownBy w (some R)) (hR : Rd w R q) (hlt : R < w0.heap.size)
    (h : ∀ v' w', OwnL en K w' w0.heap.size e v' (xs ++ ys) → Rd w' R q → w0.grownBy w' (some R) → w.grownBy w' v.ownBlock → wpList P ops Q rest (a.put o.dst v') w') : wpList P ops Q (o :: rest) a w := by
  refine wpList_plain hgd fun _ hK => wp_appendL (w0 := w) ty E hop hs hx hown hr hlen (Below.refl _ _) hg.size fun v' w' h1 _ _ h4 => hK _ _ (h v' w' h1 ?_ ?_ h4)
  · exact hR.keep h4 fun k hk => by have := (hown.lt k hk).1; omega
  · exact only_own (B := 0) hg h4 fun k hk => (hown.lt k hk).1
end
/-- A point drawn off a reader. -/
def DrewV (w : World) (R p c : Nat) (e : Ending) (w' : World) : Prop :=
  ∃ (a : V) (q : Nat), e = .returned (pt a.up) ∧ q ≤ p + c ∧ Rd w' R q ∧ w.grownBy w' (some R)
/-! Lengths. -/
abbrev lenCells : Array Value := #[.int .i64 1, .int .i64 2, .int .i64 3, .int .i64 4, .int .i64 6, .int .i64 8, .int .i64 2, .int .i64 3, .int .i64 4, .int .i64 12]
theorem len_at (k : Nat) (hk : k < 10) : ∃ d : Nat, lenCells[k]? = some (.int .i64 d) ∧ d ≤ 12 := by
  have key : ∀ j : Fin 10, ∃ d : Fin 13, lenCells[j.val]? = some (.int .i64 ((d.val : Nat) : Int)) := by
    intro j
    match j with
    | 0 => exact ⟨1, rfl⟩
    | 1 => exact ⟨2, rfl⟩
    | 2 => exact ⟨3, rfl⟩
    | 3 => exact ⟨4, rfl⟩
    | 4 => exact ⟨6, rfl⟩
    | 5 => exact ⟨8, rfl⟩
    | 6 => exact ⟨2, rfl⟩
    | 7 => exact ⟨3, rfl⟩
    | 8 => exact ⟨4, rfl⟩
    | 9 => exact ⟨12, rfl⟩
  obtain ⟨d, hd⟩ := key ⟨k, hk⟩
  exact ⟨d.val, hd, by omega⟩
/-- A length drawn off a reader. -/
def DrewLen (w : World) (R p : Nat) (e : Ending) (w' : World) : Prop :=
  ∃ (m : Nat), e = .returned (.int .i64 m) ∧ m ≤ 12 ∧ Rd w' R (p + 1) ∧ w.grownBy w' (some R)
/-! Rows. -/
/-- A row, a row and a number, two rows out of a code. -/
def DrewRow (w : World) (e : Ending) (w' : World) : Prop := ∃ (v : Value) (xs : List V), e = .returned v ∧ ReadsL encV w' v xs ∧ Below w.heap.size w w'

/-! ### Moves -/
theorem ownM_nilB (w : World) (B : Nat) (T : Nat) (hB : B ≤ w.heap.size) : OwnL encM 2 (w.alloc (.cells #[] T)) B T (.slice (some ⟨w.heap.size, 0, none⟩) 0 0) ([] : List Mv) := World.ownsRow_made w #[] 0 hB (by simp [maxLen]) (by simp)
theorem litM2 (w : World) (o : Obj) (m : Mv) (T : Nat) : ReadsL encM ((w.alloc o).alloc (.cells #[.int .i64 m.1, .int .i64 m.2] T)) (.slice (some ⟨w.heap.size + 1, 0, none⟩) 1 1) [m] := by
  have h := litM (w.alloc o) m T
  have e : (w.alloc o).heap.size = w.heap.size + 1 := by simp
  rw [e] at h
  exact h
/-! ### Out of a code -/
def DrewPth (w : World) (e : Ending) (w' : World) : Prop := ∃ (v : Value) (xs : List Pn), e = .returned v ∧ OwnL encC 1 w' w.heap.size 23 v xs ∧ Below w.heap.size w w'
def DrewPtI (w : World) (e : Ending) (w' : World) : Prop := ∃ (v : Value) (xs : List Pn) (g : Int), e = .returned (.tuple #[v, .int .i64 g]) ∧ OwnL encC 1 w' w.heap.size 23 v xs ∧ Below w.heap.size w w'
end Go.Proofs.Ytpbppgaohfgpbaa
/- Two paths drawn out of a code. -/
namespace Go.Proofs.Ytpbppgaohfgpbaa
set_option maxRecDepth 20000
open Go.ChangeShapes Go.WideShapes Go.ChangeAt Go.RowKit
set_option linter.unusedVariables false
set_option linter.unusedSimpArgs false

theorem set_fltP (xs : List Pn) (k : Nat) (hk : k < xs.length) (a : Pn) : (flt encC xs).set k (.complex .f32 a.1 a.2) = flt encC (xs.set k a) := by
  induction xs generalizing k with
  | nil => simp at hk
  | cons c cs ih =>
    cases k with
    | zero => rfl
    | succ k =>
      simp only [List.length_cons] at hk
      have := ih k (by omega)
      simp only [List.set_cons_succ]
      rw [flt_cons, flt_cons, ← this]
      rfl
theorem own_shapeC {w : World} {B T : Nat} {v : Value} {xs : List Pn} (h : OwnL encC 1 w B T v ([] ++ xs)) : ∃ g cap, v = .slice g xs.length cap := by
  obtain ⟨p, cap, e, -⟩ := ownL_reads h
  exact ⟨p, cap, e⟩
def DrewPth2 (w : World) (e : Ending) (w' : World) : Prop := ∃ (v v2 : Value) (xs ys : List Pn), e = .returned (.tuple #[v, v2]) ∧ ReadsL encC w' v xs ∧ ReadsL encC w' v2 ys ∧ Below w.heap.size w w'
end Go.Proofs.Ytpbppgaohfgpbaa
/- What the walks of the laws of paths and moves share. -/
namespace Go.Proofs.Ytpbppgaohfgpbaa
set_option maxRecDepth 20000
open Go.ChangeShapes Go.WideShapes Go.ChangeAt Go.RowKit
set_option linter.unusedVariables false
set_option linter.unusedSimpArgs false

section
variable {α : Type} {en : α → List Value} {K : Nat}
theorem readsL_take (E : Enc en K) {w : World} {g o cap k : Nat} {xs : List α} (hk : k ≤ xs.length) (hc1 : xs.length ≤ cap) (hc2 : cap ≤ maxLen) (hg : g < w.heap.size) (h : w.rangeAt g o (flt en xs)) : ReadsL en w (.slice (some ⟨g, o, none⟩) k cap) (xs.take k) :=
  ⟨_, cap, by rw [List.length_take, Nat.min_eq_left hk], by rw [List.length_take]; omega, hc2, (fun h => by cases h), fun _ => ⟨g, o, rfl, hg, fun j v hv => by
    refine h j v ?_
    have e : flt en xs = flt en (xs.take k) ++ flt en (xs.drop k) := by rw [← flt_append, List.take_append_drop]
    rw [e, List.getElem?_append_left (List.getElem?_eq_some_iff.1 hv).1, hv]⟩⟩
/-- The form of a list that is not empty. -/
theorem readsL_shape {w : World} {v : Value} {xs : List α} (h : ReadsL en w v xs) (h1 : 1 ≤ xs.length) : ∃ g o cap, v = .slice (some ⟨g, o, none⟩) xs.length cap ∧ xs.length ≤ cap ∧ cap ≤ maxLen ∧ g < w.heap.size ∧ w.rangeAt g o (flt en xs) := by
  obtain ⟨p, cap, rfl, h1', h2, h3, h4⟩ := h
  have hne : p ≠ none := fun e => by have := h3 e; omega
  obtain ⟨g, o, rfl, hg, hr⟩ := h4 hne
  exact ⟨g, o, cap, rfl, h1', h2, hg, hr⟩
theorem readsL_formE {w : World} {v : Value} {xs : List α} (h : ReadsL en w v xs) : ∃ p c, v = .slice p xs.length c := by
  obtain ⟨p, c, e, -⟩ := h
  exact ⟨p, c, e⟩
end
section
variable {P : Program} {k : FloatKind} {x y : Nat} {c : Ordering}
theorem run_feq (h : k.format.order x y = some c) (t : TypeId) (w : World) : (binOp .eql t (.float k x) (.float k y)).run P w = .ok (.bool (c == .eq)) w := by
  cases c <;> simp [binOp, Op.floatCmp, h, go_sem] <;> rfl
theorem run_flt (h : k.format.order x y = some c) (t : TypeId) (w : World) : (binOp .lss t (.float k x) (.float k y)).run P w = .ok (.bool (c == .lt)) w := by
  cases c <;> simp [binOp, Op.floatCmp, h, go_sem] <;> rfl
theorem run_fgt (h : k.format.order x y = some c) (t : TypeId) (w : World) : (binOp .gtr t (.float k x) (.float k y)).run P w = .ok (.bool (c == .gt)) w := by
  cases c <;> simp [binOp, Op.floatCmp, h, go_sem] <;> rfl
theorem run_fge (h : k.format.order x y = some c) (t : TypeId) (w : World) : (binOp .geq t (.float k x) (.float k y)).run P w = .ok (.bool (c != .lt)) w := by
  cases c <;> simp [binOp, Op.floatCmp, h, go_sem] <;> rfl
end
theorem far_self (xs : List Pn) : farL xs xs = 0 := by
  have key : ∀ (l : List (Pn × Pn)), (∀ z ∈ l, z.1 = z.2) → l.foldl farM 0 = 0 := by
    intro l
    induction l with
    | nil => intro _; rfl
    | cons z l ih =>
      intro h
      obtain ⟨a, b⟩ := z
      have e : a = b := h (a, b) (List.mem_cons_self ..)
      subst e
      rw [List.foldl_cons]
      have e0 : farM 0 (a, a) = 0 := by
        unfold farM farN
        simp only [Int.sub_self]
        have h0 : rnd 23 0 = 0 := by decide +kernel
        simp [h0]
      rw [e0]
      exact ih fun z hz => h z (List.mem_cons_of_mem _ hz)
  refine key _ fun z hz => ?_
  obtain ⟨i, hi⟩ := List.mem_iff_getElem?.1 hz
  rw [List.getElem?_zip_eq_some] at hi
  have := hi.1.symm.trans hi.2
  simpa using this
theorem pvB_take {xs : List Pn} {k : Nat} (h : pvB xs = true) (h1 : 1 ≤ k) : pvB (xs.take k) = true := by
  obtain ⟨h2, h3, h4⟩ := pvB_parts h
  exact pvB_yes (by rw [List.length_take]; omega) (by rw [List.length_take]; omega) fun a ha => h4 a (List.mem_of_mem_take ha)
end Go.Proofs.Ytpbppgaohfgpbaa
