/-
  Lists of wheels in memory: what a slice reads, what the call owns, appending.
-/
import Derived.Test.YteicmnoafoekcaaWheelSort
import Derived.Test.YteicmnoafoekcaaCycX
import Derived.Deep.MidRow
import Derived.OwnWalk
import Derived.Laws.AppendOwn
import Derived.Laws.OwnMore
import Derived.Deep.Onto
namespace Go.Proofs.Yteicmnoafoekcaa
set_option maxRecDepth 20000
open Go.ChangeShapes Go.WideShapes Go.ChangeAt Go.RowKit
set_option linter.unusedVariables false
set_option linter.unusedSimpArgs false

/-- A wheel's nine cells. -/
def wf (c : Wh) : Nat → Int := fun j => if j = 0 then c.s else c.r.up (j - 1)
abbrev wh (c : Wh) : Value := .agg (vec 9 (wf c))
def enc (c : Wh) : List Value := lst 9 (wf c)
def flat (ws : List Wh) : List Value := ws.flatMap enc
theorem enc_length (c : Wh) : (enc c).length = 9 := lst_length 9 _
theorem enc_one (c : Wh) : ∀ v ∈ enc c, v.oneCell' = true := lst_one 9 _
theorem flat_cons (c : Wh) (ws : List Wh) : flat (c :: ws) = enc c ++ flat ws := rfl
theorem flat_append (a b : List Wh) : flat (a ++ b) = flat a ++ flat b := by simp [flat]
theorem flat_one (c : Wh) : flat [c] = enc c := by simp [flat]
theorem flat_length : ∀ ws : List Wh, (flat ws).length = ws.length * 9
  | [] => rfl
  | c :: ws => by rw [flat_cons, List.length_append, enc_length, flat_length ws, List.length_cons]; omega
theorem flat_oneCell : ∀ ws : List Wh, ∀ v ∈ flat ws, v.oneCell' = true
  | [], v, h => by simp [flat] at h
  | c :: ws, v, h => by
    rw [flat_cons] at h
    rcases List.mem_append.1 h with h | h
    · exact enc_one c v h
    · exact flat_oneCell ws v h
theorem flat_at : ∀ {ws : List Wh} {i : Nat} {c : Wh}, ws[i]? = some c → ∀ j, j < 9 → (flat ws)[i * 9 + j]? = (enc c)[j]?
  | [], i, c, h, j, hj => by simp at h
  | d :: ws, 0, c, h, j, hj => by
    simp only [List.getElem?_cons_zero, Option.some.injEq] at h
    subst h
    rw [flat_cons, Nat.zero_mul, Nat.zero_add, List.getElem?_append_left (by rw [enc_length]; exact hj)]
  | d :: ws, i + 1, c, h, j, hj => by
    rw [List.getElem?_cons_succ] at h
    rw [flat_cons, List.getElem?_append_right (by rw [enc_length]; omega), enc_length, show (i + 1) * 9 + j - 9 = i * 9 + j from by omega]
    exact flat_at h j hj
theorem flat_take (ws : List Wh) (k : Nat) : flat (ws.take k) = (flat ws).take (k * 9) := by
  by_cases h : k ≤ ws.length
  · conv => rhs; rw [← List.take_append_drop k ws, flat_append]
    rw [List.take_left' (by rw [flat_length, List.length_take]; omega)]
  · rw [List.take_of_length_le (by omega), List.take_of_length_le (by rw [flat_length]; omega)]
theorem flat_drop (ws : List Wh) (k : Nat) : flat (ws.drop k) = (flat ws).drop (k * 9) := by
  by_cases h : k ≤ ws.length
  · conv => rhs; rw [← List.take_append_drop k ws, flat_append]
    rw [List.drop_left' (by rw [flat_length, List.length_take]; omega)]
  · rw [List.drop_of_length_le (by omega), List.drop_of_length_le (by rw [flat_length]; omega)]; rfl
theorem enc_at (c : Wh) (j : Nat) (h : j < 9) : (enc c)[j]? = some (.int .i64 (wf c j)) := by simp [enc, lst, h]

/-- A slice reads as a list of wheels. -/
def Reads (w : World) (v : Value) (ws : List Wh) : Prop :=
  ∃ (p : Option Addr) (cap : Nat), v = .slice p ws.length cap ∧ ws.length ≤ cap ∧ cap ≤ maxLen ∧ (p = none → cap = 0) ∧ (p ≠ none → ∃ g o, p = some ⟨g, o, none⟩ ∧ g < w.heap.size ∧ w.rangeAt g o (flat ws))
theorem range_below {w w' : World} {g o : Nat} {cs : List Value} (h : w.rangeAt g o cs) (hg : g < w.heap.size) (hb : Below w.heap.size w w') : w'.rangeAt g o cs := fun j v hv =>
  (World.cell?_of_block (hb.block g hg)).trans (h j v hv)
theorem Reads.below {w w' : World} {v : Value} {ws : List Wh} (h : Reads w v ws) (hb : Below w.heap.size w w') : Reads w' v ws := by
  obtain ⟨p, cap, h1, h2, h3, h4, h5⟩ := h
  refine ⟨p, cap, h1, h2, h3, h4, fun hn => ?_⟩
  obtain ⟨g, o, e, hg, hr⟩ := h5 hn
  exact ⟨g, o, e, Nat.lt_of_lt_of_le hg hb.size, range_below hr hg hb⟩
theorem range_part {w : World} {g o i : Nat} {ws : List Wh} {c : Wh} (h : w.rangeAt g o (flat ws)) (hi : ws[i]? = some c) : w.rangeAt g (o + i * 9) (enc c) := fun j v hv => by
  have hj : j < 9 := by
    rcases Nat.lt_or_ge j 9 with h | h
    · exact h
    · rw [List.getElem?_eq_none (by rw [enc_length]; exact h)] at hv; cases hv
  rw [Nat.add_assoc]
  exact h (i * 9 + j) v (by rw [flat_at hi j hj]; exact hv)
theorem range_radius {w : World} {g o : Nat} {c : Wh} (h : w.rangeAt g o (enc c)) : w.rangeAt g (o + 1) (lst 8 c.r.up) := fun j v hv => by
  have hj : j < 8 := by
    rcases Nat.lt_or_ge j 8 with h | h
    · exact h
    · rw [List.getElem?_eq_none (by rw [lst_length]; exact h)] at hv; cases hv
  have := h (1 + j) v (by rw [enc_at c _ (by omega), ← hv]; simp [lst, hj, wf])
  rwa [← Nat.add_assoc] at this
theorem range_speed {w : World} {g o : Nat} {c : Wh} (h : w.rangeAt g o (enc c)) : w.cell? ⟨g, o, none⟩ = some (.int .i64 c.s) := by
  have := h 0 _ (enc_at c 0 (by omega))
  simpa [wf] using this

/-- The list that is answered: none where it fails. -/
def only (b : Bool) (l : List Wh) : List Wh := if b then l else []
theorem only_yes (l : List Wh) : only true l = l := rfl
theorem only_no (l : List Wh) : only false l = [] := rfl
/-- A slice that the call has made holds a list of wheels. -/
abbrev Own (w : World) (B T : Nat) (v : Value) (ws : List Wh) : Prop := w.ownsRow B T 9 v ws.length (flat ws)
theorem own_reads {w : World} {B T : Nat} {v : Value} {ws : List Wh} (h : Own w B T v ws) : Reads w v ws := by
  rcases h.2 with ⟨rfl, h0⟩ | ⟨g, cap, cur, rfl, _, hg, h1, h2, h3, h4⟩
  · exact ⟨none, 0, by rw [h0], by omega, by simp [maxLen], fun _ => rfl, fun hn => absurd rfl hn⟩
  · refine ⟨_, cap, rfl, h1, h2, (fun hn => by cases hn), fun _ => ⟨g, 0, rfl, (Array.getElem?_eq_some_iff.1 hg).1, fun j u hu => ?_⟩⟩
    rw [Nat.zero_add, cell_of_row w g j cur T (0, 0) hg]
    rw [← h4, List.getElem?_take] at hu
    split at hu
    · simpa using hu
    · cases hu
theorem own_below {w w' : World} {B T : Nat} {v : Value} {ws : List Wh} (h : Own w B T v ws) (hb : Below w.heap.size w w') : Own w' B T v ws := by
  refine ⟨h.1, ?_⟩
  rcases h.2 with h0 | ⟨g, cap, cur, rfl, hB, hg, h1, h2, h3, h4⟩
  · exact .inl h0
  · exact .inr ⟨g, cap, cur, rfl, hB, (hb.block g (Array.getElem?_eq_some_iff.1 hg).1).trans hg, h1, h2, h3, h4⟩
theorem own_mono {w : World} {B B' T : Nat} {v : Value} {ws : List Wh} (h : Own w B T v ws) (hB : B' ≤ B) : Own w B' T v ws := by
  refine ⟨h.1, ?_⟩
  rcases h.2 with h0 | ⟨g, cap, cur, rfl, hg0, hg, h1, h2, h3, h4⟩
  · exact .inl h0
  · exact .inr ⟨g, cap, cur, rfl, Nat.le_trans hB hg0, hg, h1, h2, h3, h4⟩
theorem own_nil (w : World) (B T : Nat) : Own w B T (.slice none 0 0) [] := World.ownsRow_nil w B T 9
theorem below_grown {B : Nat} {a w w' : World} {row : Option Nat} (h : Below B a w) (hg : w.grownBy w' row) (hB : B ≤ w.heap.size) (hrow : ∀ k, row = some k → B ≤ k) : Below B a w' :=
  h.grown hg hB hrow
theorem own_block {w : World} {B T : Nat} {v : Value} {ws : List Wh} (h : Own w B T v ws) : ∀ k, v.ownBlock = some k → B ≤ k := fun k hk => (h.lt k hk).1

section
variable {P : Program}
/-- Appending what a slice reads to what the call owns. -/
theorem run_append_list (w : World) (B : Nat) (t ty e : TypeId) (i : TypeInfo) (z : Value) (bytes : Nat) (ht : P.underlying t = some (.slice e)) (hi : P.info? e = some i) (hz : i.zero = some z)
    (hsize : i.size = 9) (hby : i.bytes = bytes) (hzs : z.cells.size = 9) (hb72 : bytes ≤ 72) (v x : Value) (xs ys : List Wh) (hown : Own w B e v xs) (hx : Reads w x ys) (hlen : xs.length + ys.length ≤ 1000000000000) (hB : B ≤ w.heap.size) :
    ∃ v' w', (Builtin.append_ #[t, t] ty #[v, x]).run P w = .ok v' w' ∧ Own w' B e v' (xs ++ ys) ∧ w.grownBy w' v.ownBlock := by
  obtain ⟨p, cap, rfl, h1, h2, h3, h4⟩ := hx
  by_cases hp : p = none
  · subst hp
    have hc := h3 rfl
    have : ys = [] := List.length_eq_zero_iff.1 (by omega)
    subst this
    subst hc
    refine ⟨v, w, run_append_owned_none (P := P) w B t ty e i 9 ht hi v xs.length (flat xs) hown, by rw [List.append_nil]; exact hown, World.grownBy.refl w _⟩
  · obtain ⟨g, o, rfl, hg, hr⟩ := h4 hp
    have hby' : (xs.length + ys.length) * bytes ≤ 140737488355328 := by
      have := Nat.mul_le_mul hlen hb72
      omega
    obtain ⟨v', w', hr1, ho, hgr, _⟩ := run_append_own (P := P) w B t ty e i z 9 bytes ht hi hz hsize hby hzs (by omega) v xs.length (flat xs) hown ⟨g, o, none⟩ ys.length cap (flat ys) (flat_length ys)
      (fun j u hu => by rw [Addr.add_mid]; exact hr j u hu) (flat_oneCell ys) (by simp only [maxLen]; omega) hby' hB
    refine ⟨v', w', hr1, ?_, hgr⟩
    show w'.ownsRow B e 9 v' (xs ++ ys).length (flat (xs ++ ys))
    rw [List.length_append, flat_append]
    exact ho
/-- One of the call's own elements lies where its index says. -/
theorem reads_lit (w : World) (c : Wh) (T : Nat) : Reads (w.alloc (.cells (vec 9 (wf c)) T)) (.slice (some ⟨w.heap.size, 0, none⟩) 1 1) [c] := by
  refine ⟨_, 1, rfl, Nat.le_refl _, by simp [maxLen], (fun h => by cases h), fun _ => ⟨_, _, rfl, by simp, fun j v hv => ?_⟩⟩
  rw [Nat.zero_add, cell_of_row _ _ _ _ _ _ (heap_alloc_new w _)]
  rw [flat_one] at hv
  simpa [vec, enc] using hv
end

/-- A type of slices whose elements have nine cells of numbers. -/
structure Ty9 (P : Program) (t e : TypeId) : Prop where
  sl : P.underlying t = some (.slice e)
  inf : ∃ i z, P.info? e = some i ∧ i.zero = some z ∧ i.size = 9 ∧ i.bytes ≤ 72 ∧ z.cells.size = 9
theorem ty9_of {P : Program} {t e : TypeId} {z : Value} {b : Nat} (h1 : P.underlying t = some (.slice e)) (h2 : (P.info? e).map (fun i => (i.zero, i.size, i.bytes)) = some (some z, 9, b)) (hb : b ≤ 72) (hz : z.cells.size = 9) : Ty9 P t e := by
  obtain ⟨i, hi, e1, e2, e3⟩ := info_parts h2
  exact ⟨h1, i, z, hi, e1, e2, by omega, hz⟩
theorem below_fresh {w0 w w' : World} {B : Nat} (h : Below B w0 w) (hB : B ≤ w.heap.size) (hg : w.grownBy w' none) : Below B w0 w' := below_grown h hg hB fun k hk => by cases hk

section
variable {P : Program} {t e : TypeId} {ops : Array Oper} {rest : List Oper} {o : Oper} {a : Act} {Q : Exit → Act → World → Prop} {w0 w : World} {B : Nat}
/-- 'make' of an empty list with room. -/
theorem make9 (ty : Ty9 P t e) (hgd : o.guard = none) {l c : Operand} (hop : o.op = .makeSlice t l c) (n : Nat) (hl : a.eval l = .int .i64 0) (hc : a.eval c = .int .i64 n)
    (hn : n ≤ 1000000000000) (hb : Below B w0 w) (hB : B ≤ w.heap.size)
    (h : ∀ w', Own w' B e (.slice (some ⟨w.heap.size, 0, none⟩) 0 n) [] → Below B w0 w' → B ≤ w'.heap.size → wpList P ops Q rest (a.put o.dst (.slice (some ⟨w.heap.size, 0, none⟩) 0 n)) w') : wpList P ops Q (o :: rest) a w := by
  obtain ⟨i, z, hi, hz, hs, hby, hzs⟩ := ty.inf
  have h1 : i.bytes * n ≤ 281474976710656 := by have := Nat.mul_le_mul hby hn; omega
  exact wpList_make_own w hgd l c t hop B e i z 9 ty.sl hi hz hs .i64 .i64 n n hl hc rfl h1 (by simp only [maxLen]; omega) hB fun w' ho hg => h w' ho (below_fresh hb hB hg) (Nat.le_trans hB hg.size)
theorem wp_append_list {K : Act → World → Prop} (ty : Ty9 P t e) {s x : Operand} (hop : o.op = .call { callee := .builtin .append, args := #[s, x], argTypes := #[t, t] })
    {v x' : Value} {xs ys : List Wh} (hs : a.eval s = v) (hx : a.eval x = x') (hown : Own w B e v xs) (hr : Reads w x' ys) (hlen : xs.length + ys.length ≤ 1000000000000) (hb : Below B w0 w) (hB : B ≤ w.heap.size)
    (h : ∀ v' w', Own w' B e v' (xs ++ ys) → Below B w0 w' → B ≤ w'.heap.size → K (a.put o.dst v') w') : o.wp P a w K Q := by
  obtain ⟨i, z, hi, hz, hsz, hby, hzs⟩ := ty.inf
  obtain ⟨v', w', hr1, ho, hg⟩ := run_append_list (P := P) w B t o.type e i z i.bytes ty.sl hi hz hsz rfl hzs hby v x' xs ys hown hr hlen hB
  unfold Oper.wp execOp
  simp only [hop, resolve, invoke, builtin, Sem.run_bind, Sem.run_pure, Result.andThen_ok, List.map_toArray, List.map_cons, List.map_nil, hs, hx, hr1]
  exact h v' w' ho (below_grown hb hg hB (own_block hown)) (Nat.le_trans hB hg.size)
/-- Appending in a plain region. -/
theorem append9 (ty : Ty9 P t e) (hgd : o.guard = none) {s x : Operand} (hop : o.op = .call { callee := .builtin .append, args := #[s, x], argTypes := #[t, t] })
    {v x' : Value} {xs ys : List Wh} (hs : a.eval s = v) (hx : a.eval x = x') (hown : Own w B e v xs) (hr : Reads w x' ys) (hlen : xs.length + ys.length ≤ 1000000000000) (hb : Below B w0 w) (hB : B ≤ w.heap.size)
    (h : ∀ v' w', Own w' B e v' (xs ++ ys) → Below B w0 w' → B ≤ w'.heap.size → wpList P ops Q rest (a.put o.dst v') w') : wpList P ops Q (o :: rest) a w :=
  wpList_plain hgd fun _ hK => wp_append_list ty hop hs hx hown hr hlen hb hB fun v' w' h1 h2 h3 => hK _ _ (h v' w' h1 h2 h3)
/-- Reading the element of a list, whole or its radius. -/
theorem load_wheel {T : TypeId} {d : TypeDesc} {g p : Nat} {c : Wh} (hgd : o.guard = none) {x : Operand} (ho : o.op = .load T x) (hx : a.eval x = .pointer (some ⟨g, p, none⟩)) (hr : w.rangeAt g p (enc c))
    (hu : P.underlying T = some d) (hd : d.isRow = true) (hi : (P.info? T).map (·.size) = some 9)
    (h : wpList P ops Q rest (a.put o.dst (wh c)) w) : wpList P ops Q (o :: rest) a w :=
  wpList_load_mid hgd T x ho g p hx (enc c) d hr hu hd (by rw [enc_length]; exact hi) h
theorem load_part {T : TypeId} {d : TypeDesc} {g p : Nat} {f : Nat → Int} (hgd : o.guard = none) {x : Operand} (ho : o.op = .load T x) (hx : a.eval x = .pointer (some ⟨g, p, none⟩)) (hr : w.rangeAt g p (lst 8 f))
    (hu : P.underlying T = some d) (hd : d.isRow = true) (hi : (P.info? T).map (·.size) = some 8)
    (h : wpList P ops Q rest (a.put o.dst (pt f)) w) : wpList P ops Q (o :: rest) a w :=
  wpList_load_mid hgd T x ho g p hx (lst 8 f) d hr hu hd (by rw [lst_length]; exact hi) h
/-- A list of one wheel, made on the spot. -/
theorem fill_one (g : Nat → Value) (f : Nat → Int) : Instr.fill (fun i => some (i * 9, 9)) ((Array.range (1 * 9)).map g) [(0, .agg (vec 9 f))] = some (vec 9 f) := by
  have h1 : (Array.range (1 * 9)).map g = #[g 0, g 1, g 2, g 3, g 4, g 5, g 6, g 7, g 8] := by
    refine Array.ext (by simp) fun i h1 h2 => ?_
    simp only [Nat.one_mul, Array.size_map, Array.size_range] at h1
    have : i = 0 ∨ i = 1 ∨ i = 2 ∨ i = 3 ∨ i = 4 ∨ i = 5 ∨ i = 6 ∨ i = 7 ∨ i = 8 := by omega
    rcases this with rfl | rfl | rfl | rfl | rfl | rfl | rfl | rfl | rfl <;> simp
  have h2 : vec 9 f = #[.int .i64 (f 0), .int .i64 (f 1), .int .i64 (f 2), .int .i64 (f 3), .int .i64 (f 4), .int .i64 (f 5), .int .i64 (f 6), .int .i64 (f 7), .int .i64 (f 8)] := rfl
  rw [h1, h2]
  simp [Instr.fill, Value.cells]
theorem run_one (ty : Ty9 P t e) (f : Nat → Int) (w : World) : (Instr.buildSlice t 1 #[(0, .agg (vec 9 f))]).run P w = .ok (.slice (some ⟨w.heap.size, 0, none⟩) 1 1) (w.alloc (.cells (vec 9 f) e)) := by
  obtain ⟨i, z, hi, hz, hs, hby, hzs⟩ := ty.inf
  have hf := fill_one (fun x => z.cells[x % z.cells.size]!) f
  simp [Instr.buildSlice, run_underlying ty.sl, sizeOf, typeInfo, zeroValue, hi, hz, hs, Sem.run_bind]
  rw [Nat.one_mul] at hf
  simp [hf, newRow]
theorem one9 (ty : Ty9 P t e) {x : Operand} {f : Nat → Int} (hgd : o.guard = none) (ho : o.op = .buildSlice t 1 #[(0, x)]) (hx : a.eval x = .agg (vec 9 f))
    (h : wpList P ops Q rest (a.put o.dst (.slice (some ⟨w.heap.size, 0, none⟩) 1 1)) (w.alloc (.cells (vec 9 f) e))) : wpList P ops Q (o :: rest) a w := by
  refine wpList_plain hgd fun K hK => ?_
  unfold Oper.wp execOp
  simp [ho, hx, Sem.run_bind, run_one ty f w, Result.andThen]
  exact hK _ _ h
/-- Building a wheel. -/
theorem build_wheel {T : TypeId} {x y : Operand} {s : Int} {f : Nat → Int} (hgd : o.guard = none) (ho : o.op = .build T #[(0, x), (1, y)]) (hx : a.eval x = .int .i64 s) (hy : a.eval y = pt f)
    (hbu : ∀ (s : Int) (f : Nat → Int), P.built T [(0, .int .i64 s), (1, .agg (vec 8 f))] = some (vec 9 (fun j => if j = 0 then s else f (j - 1))))
    (h : wpList P ops Q rest (a.put o.dst (wh ⟨s, dn f⟩)) w) : wpList P ops Q (o :: rest) a w := by
  have e : (#[(0, x), (1, y)].map fun (p : Nat × Operand) => (p.1, a.eval p.2)).toList = [(0, .int .i64 s), (1, .agg (vec 8 f))] := by simp [hx, hy, pt]
  have e2 : vec 9 (fun j => if j = 0 then s else f (j - 1)) = vec 9 (wf ⟨s, dn f⟩) := vec_same fun j hj => by
    by_cases h0 : j = 0
    · simp [wf, h0]
    · simp only [wf, h0, if_false]; exact (up_dn f (j - 1) (by omega)).symm
  refine wpList_build hgd T _ ho ?_ ?_
  · show (P.built T (#[(0, x), (1, y)].map fun (p : Nat × Operand) => (p.1, a.eval p.2)).toList).isSome = true
    rw [e, hbu]; rfl
  · show wpList P ops Q rest (a.put o.dst (.agg ((P.built T (#[(0, x), (1, y)].map fun (p : Nat × Operand) => (p.1, a.eval p.2)).toList).getD #[]))) w
    rw [e, hbu, e2]; exact h
theorem build_zero9 {T : TypeId} (hgd : o.guard = none) (ho : o.op = .build T #[]) (hbu : P.built T [] = some (vec 9 nul))
    (h : wpList P ops Q rest (a.put o.dst (.agg (vec 9 nul))) w) : wpList P ops Q (o :: rest) a w := by
  have e : (#[].map fun (p : Nat × Operand) => (p.1, a.eval p.2)).toList = [] := by simp
  refine wpList_build hgd T _ ho ?_ ?_
  · show (P.built T (#[].map fun (p : Nat × Operand) => (p.1, a.eval p.2)).toList).isSome = true
    rw [e, hbu]; rfl
  · show wpList P ops Q rest (a.put o.dst (.agg ((P.built T (#[].map fun (p : Nat × Operand) => (p.1, a.eval p.2)).toList).getD #[]))) w
    rw [e, hbu]; exact h
theorem yields_build {T : TypeId} {x y : Operand} {s : Int} {f : Nat → Int}
    (hbu : ∀ (s : Int) (f : Nat → Int), P.built T [(0, .int .i64 s), (1, .agg (vec 8 f))] = some (vec 9 (fun j => if j = 0 then s else f (j - 1))))
    (ho : o.op = .build T #[(0, x), (1, y)]) (hx : a.eval x = .int .i64 s) (hy : a.eval y = pt f) : (execOp a.eval o).run P w = .ok (.value (wh ⟨s, dn f⟩)) w := by
  have e2 : vec 9 (fun j => if j = 0 then s else f (j - 1)) = vec 9 (wf ⟨s, dn f⟩) := vec_same fun j hj => by
    by_cases h0 : j = 0
    · simp [wf, h0]
    · simp only [wf, h0, if_false]; exact (up_dn f (j - 1) (by omega)).symm
  have hr := run_build (P := P) w T #[(0, .int .i64 s), (1, .agg (vec 8 f))] _ (by simpa using hbu s f)
  simp [execOp, ho, hx, hy, pt, hr, Sem.run_bind, e2]
/-- Storing over a row that is just made. -/
theorem store_new {ty T : TypeId} {n : Nat} {f f' : Nat → Int} {cs : Array Value} {w : World} (hgd : o.guard = none) {x y : Operand} (ho : o.op = .store ty x y) (hx : a.eval x = .pointer (some ⟨w.heap.size, 0, none⟩)) (hy : a.eval y = .agg (vec n f'))
    (hcs : cs = vec n f) (hi : (P.info? ty).map (·.size) = some n) (h : wpList P ops Q rest (a.put o.dst undef) (w.alloc (.cells (vec n f') T))) : wpList P ops Q (o :: rest) a (w.alloc (.cells cs T)) := by
  subst hcs
  refine store_row hgd ho hx hy (RowAt.new w n T f) hi ?_
  rw [World.setRow_alloc_new]
  exact h
end
/-- A wheel's own row. -/
theorem row_wheel {w : World} {g : Nat} {T : TypeId} {c : Wh} (h : RowAt w g 9 T (wf c)) : w.rangeAt g 0 (enc c) := h.range
theorem row_radius {w : World} {g : Nat} {T : TypeId} {c : Wh} (h : RowAt w g 9 T (wf c)) : w.rangeAt g 1 (lst 8 c.r.up) := range_radius (row_wheel h)
theorem row_speed {w : World} {g : Nat} {T : TypeId} {c : Wh} (h : RowAt w g 9 T (wf c)) : w.cell? ⟨g, 0, none⟩ = some (.int .i64 c.s) := range_speed (row_wheel h)
theorem zero9 : (#[.int .i64 0, .int .i64 0, .int .i64 0, .int .i64 0, .int .i64 0, .int .i64 0, .int .i64 0, .int .i64 0, .int .i64 0] : Array Value) = vec 9 nul := rfl

end Go.Proofs.Yteicmnoafoekcaa
