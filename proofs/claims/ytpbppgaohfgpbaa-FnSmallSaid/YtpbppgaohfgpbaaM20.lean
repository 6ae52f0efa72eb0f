/-
  Out of the text WheelW: what the draws of polygons need.
  Out of the text RowS: what the draws of polygons need.
  Out of the text WheelX: what the draws of polygons need.
  Out of the text DrawWheel: what the draws of polygons need.
-/
import Derived.Test.YtpbppgaohfgpbaaM19
import Derived.Test.YtpbppgaohfgpbaaM17
import Derived.Test.YtpbppgaohfgpbaaM03
import Derived.Test.YtpbppgaohfgpbaaM11
/- Out of the text WheelW: what the draws of polygons need. -/
namespace Go.Proofs.Ytpbppgaohfgpbaa
set_option maxRecDepth 20000
open Go.ChangeShapes Go.WideShapes Go.ChangeAt Go.RowKit
set_option linter.unusedVariables false
set_option linter.unusedSimpArgs false
/-- Whether a number is a turn. -/
def isT (t : Int) : Bool := decide (0 ≤ t) && decide (t ≤ 23)
theorem isT_yes {t : Int} (h : isT t = true) : 0 ≤ t ∧ t ≤ 23 := by unfold isT at h; simpa using h
theorem isT_no {t : Int} (h : isT t = false) : t < 0 ∨ 23 < t := by
  unfold isT at h
  simp at h
  omega
/-- The point of a design at a turn. -/
def atD (ws : List Wh) (t : Int) : Option V := if valid ws && isT t then (if okv (pAt t ws) then some (pAt t ws) else none) else none
/-- What a function hands back that answers with a point, and true. -/
def pointOf (o : Option V) : Value := .tuple #[pt (o.getD V.zero).up, .bool o.isSome]
theorem pAt_next {t : Int} {ws : List Wh} {k : Nat} {c : Wh} (hc : ws[k]? = some c) : pAt t (ws.take (k + 1)) = V.add (pAt t (ws.take k)) (tV (tm t c.s) c.r) := by
  rw [take_next hc, pAt_append]
  show V.add _ (V.add _ V.zero) = _
  rw [V.add_zero]
theorem big_pAt (t : Int) : ∀ ws : List Wh, (∀ c ∈ ws, okv c.r = true) → Big (pAt t ws) (4000000 * (ws.length : Int))
  | [], _ => big_zero.mono (by simp)
  | c :: ws, h => by
    have h1 := big_tV (h c (by simp)) (tm_lt t c.s)
    have h2 := big_pAt t ws fun d hd => h d (by simp [hd])
    exact (h1.add h2).mono (by simp only [List.length_cons]; omega)
theorem big_part {t : Int} {ws : List Wh} (hv : valid ws = true) (k : Nat) : Big (pAt t (ws.take k)) 100000000 := by
  have h1 := big_pAt t (ws.take k) fun c hc => (valid_ok hv c (List.mem_of_mem_take hc)).2
  have h2 := valid_len hv
  exact h1.mono (by rw [List.length_take]; omega)
theorem speed_times {t s : Int} (ht : 0 ≤ t ∧ t ≤ 23) (hs : -1000 ≤ s ∧ s ≤ 1000) : -23000 ≤ t * s ∧ t * s ≤ 23000 := by
  have h1 : t * s ≤ t * 1000 := Int.mul_le_mul_of_nonneg_left hs.2 ht.1
  have h2 : t * (-1000) ≤ t * s := Int.mul_le_mul_of_nonneg_left hs.1 ht.1
  omega
theorem range_kept {B : Nat} {w w' : World} {g o : Nat} {cs : List Value} (h : w.rangeAt g o cs) (hg : g < B) (hb : Below B w w') : w'.rangeAt g o cs := fun j v hv => (World.cell?_of_block (hb.block g hg)).trans (h j v hv)
theorem row_kept {B : Nat} {w w' : World} {g n : Nat} {T : TypeId} {f : Nat → Int} (h : RowAt w g n T f) (hg : g < B) (hb : Below B w w') : RowAt w' g n T f := (hb.block g hg).trans h
theorem below_on {s : Nat} {W c w : World} (h : Below s W c) (hs : s ≤ W.heap.size) (k : Below c.heap.size c w) : Below s W w := h.trans (k.mono (Nat.le_trans hs h.size))
theorem wp_load8 {P : Program} {o : Oper} {a : Act} {w : World} {K : Act → World → Prop} {Q : Exit → Act → World → Prop} {T : TypeId} {d : TypeDesc} {g p : Nat} {f : Nat → Int} {x : Operand} (ho : o.op = .load T x) (hx : a.eval x = .pointer (some ⟨g, p, none⟩)) (hr : w.rangeAt g p (lst 8 f))
    (hu : P.underlying T = some d) (hd : d.isRow = true) (hi : (P.info? T).map (·.size) = some 8) (h : K (a.put o.dst (pt f)) w) : o.wp P a w K Q :=
  wp_load_mid T x ho g p hx (lst 8 f) d hr hu hd (by rw [lst_length]; exact hi) h

theorem pointOf_none : pointOf none = .tuple #[pt nul, .bool false] := by show Value.tuple #[pt V.zero.up, .bool false] = _; rw [zero_up]
theorem atD_bad {ws : List Wh} {t : Int} (h : valid ws = false) : atD ws t = none := by unfold atD; rw [h]; rfl
theorem atD_not {ws : List Wh} {t : Int} (h : isT t = false) : atD ws t = none := by unfold atD; rw [h, Bool.and_false]; rfl
theorem atD_ok {ws : List Wh} {t : Int} (h : valid ws = true) (k : isT t = true) (l : okv (pAt t ws) = true) : atD ws t = some (pAt t ws) := by unfold atD; rw [h, k, l]; rfl
theorem atD_no {ws : List Wh} {t : Int} (l : okv (pAt t ws) = false) : atD ws t = none := by unfold atD; rw [l]; simp

end Go.Proofs.Ytpbppgaohfgpbaa
/- Out of the text RowS: what the draws of polygons need. -/
namespace Go.Proofs.Ytpbppgaohfgpbaa
set_option maxRecDepth 20000
open Go.ChangeShapes Go.WideShapes Go.ChangeAt Go.RowKit
set_option linter.unusedVariables false
set_option linter.unusedSimpArgs false
theorem ownL_nilB (w : World) (B : Nat) (T : Nat) (hB : B ≤ w.heap.size) : (w.alloc (.cells #[] T)).ownsRow B T 8 (.slice (some ⟨w.heap.size, 0, none⟩) 0 0) 0 [] := World.ownsRow_made w #[] 0 hB (by simp [maxLen]) (by simp)
end Go.Proofs.Ytpbppgaohfgpbaa
/- Out of the text WheelX: what the draws of polygons need. -/
namespace Go.Proofs.Ytpbppgaohfgpbaa
set_option maxRecDepth 20000
open Go.ChangeShapes Go.WideShapes Go.ChangeAt Go.RowKit
set_option linter.unusedVariables false
set_option linter.unusedSimpArgs false
theorem mul_in2 {x y : Int} (X Y : Nat) (hx : -(X : Int) ≤ x ∧ x ≤ X) (hy : -(Y : Int) ≤ y ∧ y ≤ Y) : -((X * Y : Nat) : Int) ≤ x * y ∧ x * y ≤ ((X * Y : Nat) : Int) := by
  have h1 : x.natAbs ≤ X := by omega
  have h2 : y.natAbs ≤ Y := by omega
  have h3 : (x * y).natAbs ≤ X * Y := by rw [Int.natAbs_mul]; exact Nat.mul_le_mul h1 h2
  omega
end Go.Proofs.Ytpbppgaohfgpbaa
/- Out of the text DrawWheel: what the draws of polygons need. -/
namespace Go.Proofs.Ytpbppgaohfgpbaa
set_option maxRecDepth 20000
open Go.ChangeShapes Go.WideShapes Go.ChangeAt Go.RowKit
set_option linter.unusedVariables false
set_option linter.unusedSimpArgs false
theorem own_kept {w w' : World} {B T R : Nat} {v : Value} {ws : List Wh} (h : Own w B T v ws) (hg : w.grownBy w' (some R)) (hR : R < B) : Own w' B T v ws := by
  refine h.kept hg ?_
  cases e : v.ownBlock with
  | none => exact .inl rfl
  | some k =>
    have := (h.lt k e).1
    exact .inr (by simp; omega)
theorem only_own {a w w' : World} {R B : Nat} {v : Value} (h : a.grownBy w (some R)) (hg : w.grownBy w' v.ownBlock) (hv : ∀ k, v.ownBlock = some k → a.heap.size ≤ k) : a.grownBy w' (some R) :=
  ⟨hg.os.trans h.os, hg.tape.trans h.tape, hg.output.trans h.output, Nat.le_trans h.size hg.size, fun i hi hne =>
    (hg.block i (Nat.lt_of_lt_of_le hi h.size) (fun e => by have := hv i e.symm; omega)).trans (h.block i hi hne)⟩
section
variable {P : Program} {t e : TypeId} {ops : Array Oper} {rest : List Oper} {o : Oper} {a : Act} {Q : Exit → Act → World → Prop} {w0 w : World} {R q : Nat}
/-- Appending while a reader is open. -/
theorem append_drawn (ty : Ty9 P t e) (hgd : o.guard = none) {s x : Operand} (hop : o.op = .call { callee := .builtin .append, args := #[s, x], argTypes := #[t, t] })
    {v x' : Value} {xs ys : List Wh} (hs : a.eval s = v) (hx : a.eval x = x') (hown : Own w w0.heap.size e v xs) (hr : Reads w x' ys) (hlen : xs.length + ys.length ≤ 1000000000000) (hg : w0.grownBy w (some R)) (hR : Rd w R q) (hlt : R < w0.heap.size)
    (h : ∀ v' w', Own w' w0.heap.size e v' (xs ++ ys) → Rd w' R q → w0.grownBy w' (some R) → wpList P ops Q rest (a.put o.dst v') w') : wpList P ops Q (o :: rest) a w := by
  refine wpList_plain hgd fun _ hK => wp_append_list2 (w0 := w) ty hop hs hx hown hr hlen (Below.refl _ _) hg.size fun v' w' h1 _ _ h4 => hK _ _ (h v' w' h1 ?_ ?_)
  · exact hR.keep h4 fun k hk => by have := (hown.lt k hk).1; omega
  · exact only_own (B := 0) hg h4 fun k hk => (hown.lt k hk).1
theorem build_speed {T : TypeId} {x : Operand} {s : Int} (hgd : o.guard = none) (ho : o.op = .build T #[(0, x)]) (hx : a.eval x = .int .i64 s)
    (hbu : ∀ (s : Int), P.built T [(0, .int .i64 s)] = some (vec 9 (fun j => if j = 0 then s else 0)))
    (h : wpList P ops Q rest (a.put o.dst (wh ⟨s, V.zero⟩)) w) : wpList P ops Q (o :: rest) a w := by
  have e : (#[(0, x)].map fun (p : Nat × Operand) => (p.1, a.eval p.2)).toList = [(0, .int .i64 s)] := by simp [hx]
  have e2 : vec 9 (fun j => if j = 0 then s else 0) = vec 9 (wf ⟨s, V.zero⟩) := vec_same fun j hj => by
    by_cases h0 : j = 0
    · simp [wf, h0]
    · simp only [wf, h0, if_false]
      rw [zero_up]; rfl
  refine wpList_build hgd T _ ho ?_ ?_
  · show (P.built T (#[(0, x)].map fun (p : Nat × Operand) => (p.1, a.eval p.2)).toList).isSome = true
    rw [e, hbu]; rfl
  · show wpList P ops Q rest (a.put o.dst (.agg ((P.built T (#[(0, x)].map fun (p : Nat × Operand) => (p.1, a.eval p.2)).toList).getD #[]))) w
    rw [e, hbu, e2]; exact h
end
end Go.Proofs.Ytpbppgaohfgpbaa
