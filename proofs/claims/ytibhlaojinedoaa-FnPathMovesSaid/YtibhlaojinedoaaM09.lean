/-
  Lists of elements of several cells in memory, whatever the element: what a slice reads, what the call owns, appending, storing, marks.
-/
import Derived.Test.YtibhlaojinedoaaM00
import Derived.Laws.Rows
import Derived.OwnWalk
import Derived.Laws.AppendOwn
import Derived.Laws.OwnMore
import Derived.Laws.MakeOwn
import Derived.Laws.CopyOwn
import Derived.Laws.IdiomCopy
import Derived.Deep.MidRow
import Derived.Deep.Onto
import Derived.Lib.RowBridge
/- Lists of elements of several cells in memory, whatever the element: what a slice reads, what the call owns, appending, storing, marks. -/
namespace Go.Proofs.Ytibhlaojinedoaa
set_option maxRecDepth 20000
open Go.ChangeShapes Go.WideShapes Go.ChangeAt Go.RowKit
set_option linter.unusedVariables false
set_option linter.unusedSimpArgs false

/-- How an element lies: its cells, so many of each. -/
structure Enc {α : Type} (en : α → List Value) (K : Nat) : Prop where
  len : ∀ a, (en a).length = K
  one : ∀ a, ∀ v ∈ en a, v.oneCell' = true
  pos : 0 < K
/-- Cells put over others. -/
def putL (xs : List Value) : Nat → List Value → List Value
  | _, [] => xs
  | o, v :: vs => putL (xs.set o v) (o + 1) vs
theorem putL_skip : ∀ (vs us bs : List Value) (o : Nat), putL (us ++ bs) (us.length + o) vs = us ++ putL bs o vs
  | [], _, _, _ => rfl
  | v :: vs, us, bs, o => by
    unfold putL
    rw [List.set_append_right _ _ (by omega), show us.length + o - us.length = o from by omega, Nat.add_assoc]
    exact putL_skip vs us _ (o + 1)
theorem putL_front : ∀ (vs us bs : List Value), us.length = vs.length → putL (us ++ bs) 0 vs = vs ++ bs
  | [], us, bs, h => by
    have : us = [] := List.length_eq_zero_iff.1 h
    subst this; rfl
  | v :: vs, [], bs, h => by cases h
  | v :: vs, a :: us, bs, h => by
    have e := putL_skip vs [v] (us ++ bs) 0
    have f := putL_front vs us bs (by simpa using h)
    show putL ((a :: (us ++ bs)).set 0 v) 1 vs = v :: (vs ++ bs)
    rw [List.set_cons_zero]
    rw [f] at e
    exact e
section
variable {α : Type} {en : α → List Value} {K : Nat}
def flt (en : α → List Value) (xs : List α) : List Value := xs.flatMap en
theorem flt_cons (a : α) (xs : List α) : flt en (a :: xs) = en a ++ flt en xs := rfl
theorem flt_append (a b : List α) : flt en (a ++ b) = flt en a ++ flt en b := by simp [flt]
theorem flt_one (a : α) : flt en [a] = en a := by simp [flt]
theorem flt_length (E : Enc en K) : ∀ xs : List α, (flt en xs).length = xs.length * K
  | [] => by simp [flt]
  | a :: xs => by rw [flt_cons, List.length_append, E.len, flt_length E xs, List.length_cons, Nat.succ_mul, Nat.add_comm]
theorem flt_oneCell (E : Enc en K) : ∀ xs : List α, ∀ v ∈ flt en xs, v.oneCell' = true
  | [], v, h => by simp [flt] at h
  | a :: xs, v, h => by
    rw [flt_cons] at h
    rcases List.mem_append.1 h with h | h
    · exact E.one a v h
    · exact flt_oneCell E xs v h
theorem flt_at (E : Enc en K) : ∀ {xs : List α} {i : Nat} {a : α}, xs[i]? = some a → ∀ j, j < K → (flt en xs)[i * K + j]? = (en a)[j]?
  | [], i, a, h, j, hj => by simp at h
  | b :: xs, 0, a, h, j, hj => by
    simp only [List.getElem?_cons_zero, Option.some.injEq] at h
    subst h
    rw [flt_cons, Nat.zero_mul, Nat.zero_add, List.getElem?_append_left (by rw [E.len]; exact hj)]
  | b :: xs, i + 1, a, h, j, hj => by
    rw [List.getElem?_cons_succ] at h
    have e : (i + 1) * K = i * K + K := Nat.succ_mul i K
    rw [flt_cons, List.getElem?_append_right (by rw [E.len]; omega), E.len, show (i + 1) * K + j - K = i * K + j from by omega]
    exact flt_at E h j hj
theorem flt_take (E : Enc en K) (xs : List α) (k : Nat) : flt en (xs.take k) = (flt en xs).take (k * K) := by
  by_cases h : k ≤ xs.length
  · conv => rhs; rw [← List.take_append_drop k xs, flt_append]
    rw [List.take_left' (by rw [flt_length E, List.length_take, Nat.min_eq_left h])]
  · have h2 : xs.length * K ≤ k * K := Nat.mul_le_mul_right K (by omega)
    rw [List.take_of_length_le (by omega), List.take_of_length_le (by rw [flt_length E]; exact h2)]
theorem flt_drop (E : Enc en K) (xs : List α) (k : Nat) : flt en (xs.drop k) = (flt en xs).drop (k * K) := by
  by_cases h : k ≤ xs.length
  · conv => rhs; rw [← List.take_append_drop k xs, flt_append]
    rw [List.drop_left' (by rw [flt_length E, List.length_take, Nat.min_eq_left h])]
  · have h2 : xs.length * K ≤ k * K := Nat.mul_le_mul_right K (by omega)
    rw [List.drop_of_length_le (by omega), List.drop_of_length_le (by rw [flt_length E]; exact h2)]; rfl
theorem flt_set (E : Enc en K) (b : α) : ∀ {xs : List α} {k : Nat} {a : α}, xs[k]? = some a → putL (flt en xs) (k * K) (en b) = flt en (xs.set k b)
  | [], k, a, h => by simp at h
  | c :: xs, 0, a, h => by
    rw [Nat.zero_mul, flt_cons, putL_front _ _ _ (by rw [E.len, E.len])]; rfl
  | c :: xs, k + 1, a, h => by
    rw [List.getElem?_cons_succ] at h
    rw [flt_cons, Nat.succ_mul, Nat.add_comm]
    have e := putL_skip (en b) (en c) (flt en xs) (k * K)
    rw [E.len] at e
    rw [e, flt_set E b h]; rfl

/-- A slice reads as a list of elements. -/
def ReadsL (en : α → List Value) (w : World) (v : Value) (xs : List α) : Prop :=
  ∃ (p : Option Addr) (cap : Nat), v = .slice p xs.length cap ∧ xs.length ≤ cap ∧ cap ≤ maxLen ∧ (p = none → cap = 0) ∧ (p ≠ none → ∃ g o, p = some ⟨g, o, none⟩ ∧ g < w.heap.size ∧ w.rangeAt g o (flt en xs))
/-- A law's list: where it has one, its cells lie. -/
def LiesL (en : α → List Value) (w : World) (v : Value) (xs : List α) : Prop :=
  ∃ (p : Option Addr) (cap : Nat), v = .slice p xs.length cap ∧ xs.length ≤ cap ∧ cap ≤ maxLen ∧ (xs ≠ [] → ∃ g o, p = some ⟨g, o, none⟩ ∧ g < w.heap.size ∧ w.rangeAt g o (flt en xs))
theorem cells_below {B : Nat} {w w' : World} {g o : Nat} {cs : List Value} (h : w.rangeAt g o cs) (hg : g < B) (hb : Below B w w') : w'.rangeAt g o cs := fun j v hv =>
  (World.cell?_of_block (hb.block g hg)).trans (h j v hv)
theorem ReadsL.below {w w' : World} {v : Value} {xs : List α} (h : ReadsL en w v xs) (hb : Below w.heap.size w w') : ReadsL en w' v xs := by
  obtain ⟨p, cap, h1, h2, h3, h4, h5⟩ := h
  refine ⟨p, cap, h1, h2, h3, h4, fun hn => ?_⟩
  obtain ⟨g, o, e, hg, hr⟩ := h5 hn
  exact ⟨g, o, e, Nat.lt_of_lt_of_le hg hb.size, cells_below hr hg hb⟩
theorem LiesL.below {w w' : World} {v : Value} {xs : List α} (h : LiesL en w v xs) (hb : Below w.heap.size w w') : LiesL en w' v xs := by
  obtain ⟨p, cap, h1, h2, h3, h4⟩ := h
  refine ⟨p, cap, h1, h2, h3, fun hn => ?_⟩
  obtain ⟨g, o, e, hg, hr⟩ := h4 hn
  exact ⟨g, o, e, Nat.lt_of_lt_of_le hg hb.size, cells_below hr hg hb⟩
theorem cells_part (E : Enc en K) {w : World} {g o i : Nat} {xs : List α} {a : α} (h : w.rangeAt g o (flt en xs)) (hi : xs[i]? = some a) : w.rangeAt g (o + i * K) (en a) := fun j v hv => by
  have hj : j < K := by
    rcases Nat.lt_or_ge j K with h | h
    · exact h
    · rw [List.getElem?_eq_none (by rw [E.len]; exact h)] at hv; cases hv
  rw [Nat.add_assoc]
  exact h (i * K + j) v (by rw [flt_at E hi j hj]; exact hv)
theorem cells_of_parts (E : Enc en K) {w : World} {g o : Nat} {xs : List α} (h : ∀ i a, xs[i]? = some a → ∀ j, j < K → w.cell? ⟨g, o + (i * K + j), none⟩ = (en a)[j]?) : w.rangeAt g o (flt en xs) := fun j v hv => by
  have hj : j < xs.length * K := by
    rw [← flt_length E]
    exact (List.getElem?_eq_some_iff.1 hv).1
  have hd : j / K < xs.length := Nat.div_lt_of_lt_mul (by rw [Nat.mul_comm]; exact hj)
  obtain ⟨a, ha⟩ : ∃ a, xs[j / K]? = some a := ⟨_, List.getElem?_eq_getElem hd⟩
  have hm : j % K < K := Nat.mod_lt _ E.pos
  have e : j / K * K + j % K = j := by rw [Nat.mul_comm]; exact Nat.div_add_mod j K
  have h1 := h (j / K) a ha (j % K) hm
  have h2 := flt_at E ha (j % K) hm
  rw [e] at h1 h2
  rw [h1, ← h2, hv]

/-- A slice that the call has made holds a list. -/
abbrev OwnL (en : α → List Value) (K : Nat) (w : World) (B T : Nat) (v : Value) (xs : List α) : Prop := w.ownsRow B T K v xs.length (flt en xs)
theorem ownL_reads {w : World} {B T : Nat} {v : Value} {xs : List α} (h : OwnL en K w B T v xs) : ReadsL en w v xs := by
  rcases h.2 with ⟨rfl, h0⟩ | ⟨g, cap, cur, rfl, _, hg, h1, h2, h3, h4⟩
  · exact ⟨none, 0, by rw [h0], by omega, by simp [maxLen], fun _ => rfl, fun hn => absurd rfl hn⟩
  · refine ⟨_, cap, rfl, h1, h2, (fun hn => by cases hn), fun _ => ⟨g, 0, rfl, (Array.getElem?_eq_some_iff.1 hg).1, fun j u hu => ?_⟩⟩
    rw [Nat.zero_add, cell_of_row w g j cur T (0, 0) hg]
    rw [← h4, List.getElem?_take] at hu
    split at hu
    · simpa using hu
    · cases hu
theorem rows_below {w w' : World} {B T n : Nat} {v : Value} {cs : List Value} (h : w.ownsRow B T K v n cs) (hb : Below w.heap.size w w') : w'.ownsRow B T K v n cs := by
  refine ⟨h.1, ?_⟩
  rcases h.2 with h0 | ⟨g, cap, cur, rfl, hB, hg, rest⟩
  · exact .inl h0
  · exact .inr ⟨g, cap, cur, rfl, hB, (hb.block g (Array.getElem?_eq_some_iff.1 hg).1).trans hg, rest⟩
theorem rows_mono {w : World} {B B' T n : Nat} {v : Value} {cs : List Value} (h : w.ownsRow B T K v n cs) (hB : B' ≤ B) : w.ownsRow B' T K v n cs := by
  refine ⟨h.1, ?_⟩
  rcases h.2 with h0 | ⟨g, cap, cur, rfl, hg0, rest⟩
  · exact .inl h0
  · exact .inr ⟨g, cap, cur, rfl, Nat.le_trans hB hg0, rest⟩
theorem rows_not {w : World} {B T n : Nat} {v : Value} {cs : List Value} (h : w.ownsRow B T K v n cs) {g : Nat} (hg : w.heap.size ≤ g) : some g ≠ v.ownBlock := fun e => by
  have := (h.lt g e.symm).2
  omega
/-- What lies elsewhere stays where a list is marked. -/
theorem rows_above {w w' : World} {B T n : Nat} {v u : Value} {cs : List Value} (h : w.ownsRow B T K v n cs) (hg : w.grownBy w' u.ownBlock) (hu : ∀ k, u.ownBlock = some k → k < B) : w'.ownsRow B T K v n cs := by
  refine World.ownsRow.kept h hg ?_
  cases hv : v.ownBlock with
  | none => exact .inl rfl
  | some k =>
    refine .inr fun e => ?_
    have h1 := (h.lt k hv).1
    have h2 := hu k e.symm
    omega
theorem rows_beneath {w w' : World} {B C T n : Nat} {v u : Value} {cs : List Value} (h : w.ownsRow B T K v n cs) (hg : w.grownBy w' u.ownBlock) (hv : ∀ k, v.ownBlock = some k → k < C) (hu : ∀ k, u.ownBlock = some k → C ≤ k) : w'.ownsRow B T K v n cs := by
  refine World.ownsRow.kept h hg ?_
  cases hvb : v.ownBlock with
  | none => exact .inl rfl
  | some k =>
    refine .inr fun e => ?_
    have h1 := hv k hvb
    have h2 := hu k e.symm
    omega
theorem rows_put {B T g n cap : Nat} : ∀ (vs cs : List Value) (o : Nat) (w : World), w.ownsRow B T K (.slice (some ⟨g, 0, none⟩) n cap) n cs → (w.setCells g o vs).ownsRow B T K (.slice (some ⟨g, 0, none⟩) n cap) n (putL cs o vs)
  | [], _, _, _, h => h
  | v :: vs, cs, o, w, h => rows_put vs _ (o + 1) _ (h.stored o v).1
theorem rows_there {w : World} {B T g n cap k o m : Nat} {cs : List Value} (h : w.ownsRow B T K (.slice (some ⟨g, 0, none⟩) n cap) n cs) (hk : k < n) (ho : o + m ≤ K) : w.there g (k * K + o) m := fun j hj => by
  have h2 : (k + 1) * K ≤ n * K := Nat.mul_le_mul_right K hk
  rw [Nat.succ_mul] at h2
  have h1 := h.cellAt (k * K + o + j) (by omega)
  refine ⟨?_, h.frozenAt _⟩
  rw [h1, List.getElem?_eq_getElem (by rw [h.1]; omega)]; rfl
/-- An element put in place of another. -/
theorem ownL_set (E : Enc en K) {w : World} {B T g n cap k : Nat} {xs : List α} {a : α} (b : α) (h : w.ownsRow B T K (.slice (some ⟨g, 0, none⟩) n cap) n (flt en xs)) (hc : xs[k]? = some a) :
    (w.setCells g (k * K) (en b)).ownsRow B T K (.slice (some ⟨g, 0, none⟩) n cap) n (flt en (xs.set k b)) := by
  rw [← flt_set E b hc]; exact rows_put _ _ _ _ h
theorem ownL_parts {w : World} {B T g n cap : Nat} {xs : List α} (h : w.ownsRow B T K (.slice (some ⟨g, 0, none⟩) n cap) n (flt en xs)) (hn : xs.length = n) : g < w.heap.size ∧ w.rangeAt g 0 (flt en xs) ∧ n ≤ cap ∧ cap ≤ maxLen := by
  subst hn
  have hr := ownL_reads (en := en) (K := K) (xs := xs) h
  obtain ⟨p, c, e, h1, h2, h3, h4⟩ := hr
  simp only [Value.slice.injEq] at e
  obtain ⟨rfl, -, rfl⟩ := e
  obtain ⟨g', o', e', hg, hr⟩ := h4 (by simp)
  simp only [Option.some.injEq, Addr.mk.injEq, and_true] at e'
  obtain ⟨rfl, rfl⟩ := e'
  exact ⟨hg, hr, h1, h2⟩

/-- A type of slices whose elements have so many cells. -/
structure TyL (P : Program) (t e : TypeId) (K : Nat) : Prop where
  sl : P.underlying t = some (.slice e)
  inf : ∃ i z, P.info? e = some i ∧ i.zero = some z ∧ i.size = K ∧ i.bytes ≤ 1000 ∧ z.cells.size = K
theorem tyL_of {P : Program} {t e : TypeId} {z : Value} {b : Nat} (h1 : P.underlying t = some (.slice e)) (h2 : (P.info? e).map (fun i => (i.zero, i.size, i.bytes)) = some (some z, K, b)) (hb : b ≤ 1000) (hz : z.cells.size = K) : TyL P t e K := by
  obtain ⟨i, hi, e1, e2, e3⟩ := info_parts h2
  exact ⟨h1, i, z, hi, e1, e2, by omega, hz⟩
section
variable {P : Program} {t e : TypeId} {ops : Array Oper} {rest : List Oper} {o : Oper} {a : Act} {Q : Exit → Act → World → Prop} {w0 w : World} {B : Nat}
theorem run_appendL (ty : TyL P t e K) (E : Enc en K) (y : TypeId) {v x : Value} {xs ys : List α} (hown : OwnL en K w B e v xs) (hx : ReadsL en w x ys) (hlen : xs.length + ys.length ≤ 1000000000) (hB : B ≤ w.heap.size) :
    ∃ v' w', (Builtin.append_ #[t, t] y #[v, x]).run P w = .ok v' w' ∧ OwnL en K w' B e v' (xs ++ ys) ∧ w.grownBy w' v.ownBlock := by
  obtain ⟨i, z, hi, hz, hsz, hby, hzs⟩ := ty.inf
  obtain ⟨p, cap, rfl, h1, h2, h3, h4⟩ := hx
  by_cases hp : p = none
  · subst hp
    have hc := h3 rfl
    have : ys = [] := List.length_eq_zero_iff.1 (by omega)
    subst this
    subst hc
    refine ⟨v, w, run_append_owned_none (P := P) w B t y e i K ty.sl hi v xs.length (flt en xs) hown, by rw [List.append_nil]; exact hown, World.grownBy.refl w _⟩
  · obtain ⟨g, o, rfl, hg, hr⟩ := h4 hp
    have hby' : (xs.length + ys.length) * i.bytes ≤ 140737488355328 := by
      have := Nat.mul_le_mul hlen hby
      omega
    obtain ⟨v', w', hr1, ho, hgr, _⟩ := run_append_own (P := P) w B t y e i z K i.bytes ty.sl hi hz hsz rfl hzs E.pos v xs.length (flt en xs) hown ⟨g, o, none⟩ ys.length cap (flt en ys) (flt_length E ys)
      (fun j u hu => by rw [Addr.add_mid]; exact hr j u hu) (flt_oneCell E ys) (by simp only [maxLen]; omega) hby' hB
    refine ⟨v', w', hr1, ?_, hgr⟩
    show w'.ownsRow B e K v' (xs ++ ys).length (flt en (xs ++ ys))
    rw [List.length_append, flt_append]
    exact ho
theorem wp_appendL {k : Act → World → Prop} (ty : TyL P t e K) (E : Enc en K) {s x : Operand} (hop : o.op = .call { callee := .builtin .append, args := #[s, x], argTypes := #[t, t] })
    {v x' : Value} {xs ys : List α} (hs : a.eval s = v) (hx : a.eval x = x') (hown : OwnL en K w B e v xs) (hr : ReadsL en w x' ys) (hlen : xs.length + ys.length ≤ 1000000000) (hb : Below B w0 w) (hB : B ≤ w.heap.size)
    (h : ∀ v' w', OwnL en K w' B e v' (xs ++ ys) → Below B w0 w' → B ≤ w'.heap.size → w.grownBy w' v.ownBlock → k (a.put o.dst v') w') : o.wp P a w k Q := by
  obtain ⟨v', w', hr1, ho, hg⟩ := run_appendL ty E o.type hown hr hlen hB
  unfold Oper.wp execOp
  simp only [hop, resolve, invoke, builtin, Sem.run_bind, Sem.run_pure, Result.andThen_ok, List.map_toArray, List.map_cons, List.map_nil, hs, hx, hr1]
  exact h v' w' ho (hb.grown hg hB fun k hk => (hown.lt k hk).1) (Nat.le_trans hB hg.size) hg
/-- Appending in a plain region. -/
theorem appendL (ty : TyL P t e K) (E : Enc en K) (hgd : o.guard = none) {s x : Operand} (hop : o.op = .call { callee := .builtin .append, args := #[s, x], argTypes := #[t, t] })
    {v x' : Value} {xs ys : List α} (hs : a.eval s = v) (hx : a.eval x = x') (hown : OwnL en K w B e v xs) (hr : ReadsL en w x' ys) (hlen : xs.length + ys.length ≤ 1000000000) (hb : Below B w0 w) (hB : B ≤ w.heap.size)
    (h : ∀ v' w', OwnL en K w' B e v' (xs ++ ys) → Below B w0 w' → B ≤ w'.heap.size → w.grownBy w' v.ownBlock → wpList P ops Q rest (a.put o.dst v') w') : wpList P ops Q (o :: rest) a w :=
  wpList_plain hgd fun _ hK => wp_appendL ty E hop hs hx hown hr hlen hb hB fun v' w' h1 h2 h3 h4 => hK _ _ (h v' w' h1 h2 h3 h4)
/-- Appending where there is room: the list stays where it is. -/
theorem append_fitL (ty : TyL P t e K) (E : Enc en K) (hgd : o.guard = none) {s x : Operand} (hop : o.op = .call { callee := .builtin .append, args := #[s, x], argTypes := #[t, t] })
    {g cap g2 o2 c : Nat} {xs ys : List α} (hs : a.eval s = .slice (some ⟨g, 0, none⟩) xs.length cap) (hx : a.eval x = .slice (some ⟨g2, o2, none⟩) ys.length c) (hown : OwnL en K w B e (.slice (some ⟨g, 0, none⟩) xs.length cap) xs)
    (hr : w.rangeAt g2 o2 (flt en ys)) (hroom : xs.length + ys.length ≤ cap)
    (h : ∀ w', OwnL en K w' B e (.slice (some ⟨g, 0, none⟩) (xs ++ ys).length cap) (xs ++ ys) → w.grownBy w' (some g) → wpList P ops Q rest (a.put o.dst (.slice (some ⟨g, 0, none⟩) (xs ++ ys).length cap)) w') : wpList P ops Q (o :: rest) a w := by
  refine wpList_plain hgd fun k hK => ?_
  obtain ⟨i, z, hi, hz, hsz, hby, hzs⟩ := ty.inf
  obtain ⟨w', hr1, ho, hg⟩ := run_append_fits (P := P) w B t o.type e i K ty.sl hi hsz g xs.length cap (flt en xs) hown ⟨g2, o2, none⟩ ys.length c (flt en ys) (flt_length E ys) (fun j u hu => by rw [Addr.add_mid]; exact hr j u hu) (flt_oneCell E ys) hroom
  unfold Oper.wp execOp
  simp only [hop, resolve, invoke, builtin, Sem.run_bind, Sem.run_pure, Result.andThen_ok, List.map_toArray, List.map_cons, List.map_nil, hs, hx, hr1]
  rw [← flt_append] at ho
  rw [← List.length_append] at ho ⊢
  exact hK _ _ (h w' ho hg)
/-- 'make' of an empty list with room. -/
theorem makeL (ty : TyL P t e K) (hgd : o.guard = none) {l c : Operand} (hop : o.op = .makeSlice t l c) (n : Nat) (hl : a.eval l = .int .i64 0) (hc : a.eval c = .int .i64 n) (hn : n ≤ 1000000000) (hb : Below B w0 w) (hB : B ≤ w.heap.size)
    (h : ∀ w', OwnL en K w' B e (.slice (some ⟨w.heap.size, 0, none⟩) 0 n) [] → Below B w0 w' → B ≤ w'.heap.size → wpList P ops Q rest (a.put o.dst (.slice (some ⟨w.heap.size, 0, none⟩) 0 n)) w') : wpList P ops Q (o :: rest) a w := by
  obtain ⟨i, z, hi, hz, hs, hby, hzs⟩ := ty.inf
  have h1 : i.bytes * n ≤ 281474976710656 := by have := Nat.mul_le_mul hby hn; omega
  exact wpList_make_own w hgd l c t hop B e i z K ty.sl hi hz hs .i64 .i64 n n hl hc rfl h1 (by simp only [maxLen]; omega) hB fun w' ho hg => h w' ho (hb.grown hg hB fun k hk => by cases hk) (Nat.le_trans hB hg.size)
/-- Reading an element whole. -/
theorem load_elemL (E : Enc en K) {T : TypeId} {d : TypeDesc} {g p : Nat} {c : α} (hgd : o.guard = none) {x : Operand} (ho : o.op = .load T x) (hx : a.eval x = .pointer (some ⟨g, p, none⟩)) (hr : w.rangeAt g p (en c))
    (hu : P.underlying T = some d) (hd : d.isRow = true) (hi : (P.info? T).map (·.size) = some K)
    (h : wpList P ops Q rest (a.put o.dst (.agg (en c).toArray)) w) : wpList P ops Q (o :: rest) a w :=
  wpList_load_mid hgd T x ho g p hx (en c) d hr hu hd (by rw [E.len]; exact hi) h
end
/-- One of the call's own elements lies where its index says. -/
theorem litL_range (w : World) (c : α) (T : Nat) : (w.alloc (.cells (en c).toArray T)).rangeAt w.heap.size 0 (flt en [c]) := fun j v hv => by
  rw [Nat.zero_add, cell_of_row _ _ _ _ _ _ (heap_alloc_new w _)]
  rw [flt_one] at hv
  simpa using hv
theorem litL_reads (w : World) (c : α) (T : Nat) : ReadsL en (w.alloc (.cells (en c).toArray T)) (.slice (some ⟨w.heap.size, 0, none⟩) 1 1) [c] :=
  ⟨_, 1, rfl, Nat.le_refl _, by simp [maxLen], (fun h => by cases h), fun _ => ⟨_, _, rfl, by simp, litL_range w c T⟩⟩
/-- The first k elements of a list, then as many as are left of the zero element. -/
def halfL (z : α) (xs : List α) (k : Nat) : List α := xs.take k ++ List.replicate (xs.length - k) z
theorem halfL_len {z : α} {xs : List α} {k : Nat} (h : k ≤ xs.length) : (halfL z xs k).length = xs.length := by simp [halfL]; omega
theorem halfL_at {z : α} {xs : List α} {k : Nat} (h : k < xs.length) : (halfL z xs k)[k]? = some z := by
  unfold halfL
  rw [List.getElem?_append_right (by simp; omega), List.length_take, Nat.min_eq_left (by omega), Nat.sub_self, List.getElem?_replicate, if_pos (by omega)]
theorem halfL_set {z : α} {xs : List α} {k : Nat} {c : α} (hc : xs[k]? = some c) : (halfL z xs k).set k c = halfL z xs (k + 1) := by
  have h : k < xs.length := (List.getElem?_eq_some_iff.1 hc).1
  unfold halfL
  rw [List.set_append_right _ _ (by simp; omega), List.length_take, Nat.min_eq_left (by omega), Nat.sub_self, show xs.length - k = (xs.length - (k + 1)) + 1 from by omega, List.replicate_succ, List.set_cons_zero, List.take_add_one, hc, List.append_assoc]
  rfl
theorem halfL_all (z : α) (xs : List α) : halfL z xs xs.length = xs := by simp [halfL]
theorem halfL_none (z : α) (xs : List α) : halfL z xs 0 = List.replicate xs.length z := by simp [halfL]
end
/-! Marks. -/
/-- The marks k0, k0 + 1, .. -/
def mkL (k0 m : Nat) : List Value := (List.range m).map fun (p : Nat) => Value.int .i64 ((k0 + p : Nat) : Int)
theorem mkL_len (k0 m : Nat) : (mkL k0 m).length = m := by simp [mkL]
theorem mkL_at {k0 m p : Nat} (h : p < m) : (mkL k0 m)[p]? = some (.int .i64 ((k0 + p : Nat) : Int)) := by simp [mkL, h]
theorem mkL_next (k0 m : Nat) : mkL k0 (m + 1) = mkL k0 m ++ [.int .i64 ((k0 + m : Nat) : Int)] := by simp [mkL, List.range_succ]
/-- The first p cells are marks, the rest as they were. -/
def mkdL (k0 : Nat) (cs : List Value) (p : Nat) : List Value := mkL k0 p ++ cs.drop p
theorem mkdL_none (k0 : Nat) (cs : List Value) : mkdL k0 cs 0 = cs := rfl
theorem mkdL_all {k0 n : Nat} {cs : List Value} (h : cs.length = n) : mkdL k0 cs n = mkL k0 n := by
  unfold mkdL
  rw [List.drop_of_length_le (by omega), List.append_nil]
theorem mkdL_old {k0 p : Nat} {cs : List Value} (h : p < cs.length) : (mkdL k0 cs p)[p]? = some cs[p] := by
  unfold mkdL
  rw [List.getElem?_append_right (by rw [mkL_len]; omega), mkL_len, Nat.sub_self, List.getElem?_drop, Nat.add_zero, List.getElem?_eq_getElem h]
theorem mkdL_step {k0 p : Nat} {cs : List Value} (h : p < cs.length) : (mkdL k0 cs p).set p (.int .i64 ((k0 + p : Nat) : Int)) = mkdL k0 cs (p + 1) := by
  have e : cs.drop p = cs[p] :: cs.drop (p + 1) := List.drop_eq_getElem_cons h
  unfold mkdL
  rw [e, mkL_next, List.set_append_right _ _ (by rw [mkL_len]; omega), mkL_len, Nat.sub_self, List.set_cons_zero, List.append_assoc]
  rfl
end Go.Proofs.Ytibhlaojinedoaa
