/-
  Rows of numbers as the cells of an array: reading, writing and comparing them.
  Contracts of the functions of turns (chapter 1): what each call of impl's and of spec's functions gives, for every argument.
  Contracts of impl's calculations with exact points.
  Contracts of impl's calculations with exact points, second part: multiples, and powers that come down.
-/
import Derived.Test.YtibhlaojinedoaaM00
import Derived.Laws.Rows
import Derived.OwnWalk
import Derived.Laws.OwnMore
import Derived.Laws.CopyOwn
import Derived.ChangeKeysEq
import Derived.Laws.StructEq
import Derived.Deep.MidRow
import Derived.Test.YtibhlaojinedoaaRows
import Derived.WalkKit
import Derived.ProofKit
import Derived.OpenShut
import Derived.LoopTactic
import Derived.Deep.QuietTactic
import Derived.BigQuiet
import Derived.Lib.Hide
import Derived.Deep.WholeRow
import Derived.Deep.RegionWith
import Derived.StillTailTactics
import Derived.Deep.Cut
/- Rows of numbers as the cells of an array: reading, writing and comparing them. -/
namespace Go.Proofs.Ytibhlaojinedoaa
set_option maxRecDepth 20000
open Go.ChangeShapes Go.WideShapes Go.ChangeAt Go.RowKit
set_option linter.unusedVariables false
set_option linter.unusedSimpArgs false

/-- n numbers as cells. -/
def lst (n : Nat) (f : Nat → Int) : List Value := (List.range n).map fun k => Value.int .i64 (f k)
/-- n numbers as the cells of an array. -/
def vec (n : Nat) (f : Nat → Int) : Array Value := (lst n f).toArray
theorem lst_length (n : Nat) (f : Nat → Int) : (lst n f).length = n := by simp [lst]
theorem lst_one (n : Nat) (f : Nat → Int) : ∀ v ∈ lst n f, v.oneCell' = true := by
  intro v hv
  simp only [lst, List.mem_map] at hv
  obtain ⟨k, _, rfl⟩ := hv
  rfl
theorem vec_size (n : Nat) (f : Nat → Int) : (vec n f).size = n := by simp [vec, lst]
theorem vec_at {n k : Nat} (f : Nat → Int) (h : k < n) : (vec n f)[k]? = some (.int .i64 (f k)) := by simp [vec, lst, h]
theorem vec_same {n : Nat} {f g : Nat → Int} (h : ∀ j, j < n → f j = g j) : vec n f = vec n g := by
  unfold vec lst
  congr 1
  apply List.map_congr_left
  intro k hk
  rw [h k (by simpa using hk)]
theorem vec_inj {n : Nat} {f g : Nat → Int} (h : vec n f = vec n g) : ∀ j, j < n → f j = g j := by
  intro j hj
  have e := congrArg (·[j]?) h
  simpa [vec_at f hj, vec_at g hj] using e
theorem vec_set {n k : Nat} (f : Nat → Int) (v : Int) (h : k < n) : (vec n f).setIfInBounds k (.int .i64 v) = vec n (upd f k v) := by
  apply Array.ext_getElem?
  intro i
  rw [Array.getElem?_setIfInBounds]
  by_cases hi : i < n
  · rw [vec_at _ hi, vec_at _ hi, vec_size]
    by_cases hk : k = i
    · subst hk; simp [upd, hi]
    · rw [if_neg hk]; simp [upd, Ne.symm hk]
  · rw [Array.getElem?_eq_none (by simp [vec_size]; omega)]
    have hne : k ≠ i := by omega
    rw [if_neg hne, Array.getElem?_eq_none (by simp [vec_size]; omega)]
theorem vec_one (n : Nat) (f : Nat → Int) : (vec n f).all (·.oneCell') = true := by
  rw [Array.all_eq_true_iff_forall_mem]
  intro v hv
  simp only [vec, lst, List.mem_toArray, List.mem_map] at hv
  obtain ⟨k, _, rfl⟩ := hv
  rfl
/-- The first k numbers of f, then g's. -/
def mix (k : Nat) (f g : Nat → Int) : Nat → Int := fun j => if j < k then f j else g j
theorem mix_zero (f g : Nat → Int) : mix 0 f g = g := by funext j; simp [mix]
theorem mix_at (k : Nat) (f g : Nat → Int) : mix k f g k = g k := by simp [mix]
theorem mix_step (k : Nat) (f g : Nat → Int) : upd (mix k f g) k (f k) = mix (k + 1) f g := by
  funext j
  simp only [upd, mix]
  by_cases h : j = k
  · subst h; simp
  · rw [if_neg h]
    by_cases h' : j < k
    · rw [if_pos h', if_pos (by omega)]
    · rw [if_neg h', if_neg (by omega)]
theorem mix_all (n : Nat) (f g : Nat → Int) : ∀ j, j < n → mix n f g j = f j := fun j hj => by simp [mix, hj]
theorem vec_mix (n : Nat) (f g : Nat → Int) : vec n (mix n f g) = vec n f := vec_same (mix_all n f g)
theorem upto_succ {P : Nat → Prop} {k : Nat} (h : ∀ j, j < k → P j) (hk : P k) : ∀ j, j < k + 1 → P j := fun j hj => by
  by_cases hj' : j < k
  · exact h j hj'
  · rw [show j = k by omega]; exact hk
/-- Block g holds n numbers. -/
def RowAt (w : World) (g n : Nat) (T : TypeId) (f : Nat → Int) : Prop := w.heap[g]? = some (.cells (vec n f) T (0, 0))
theorem RowAt.cell {w : World} {g n : Nat} {T : TypeId} {f : Nat → Int} (h : RowAt w g n T f) {k : Nat} (hk : k < n) : w.cell? ⟨g, k, none⟩ = some (.int .i64 (f k)) := by
  rw [cell_of_row _ _ _ _ _ _ h, vec_at f hk]
theorem RowAt.free {w : World} {g n : Nat} {T : TypeId} {f : Nat → Int} (h : RowAt w g n T f) (k : Nat) : w.frozen? ⟨g, k, none⟩ = false := frozen_of_row _ _ _ _ _ h
theorem RowAt.lt {w : World} {g n : Nat} {T : TypeId} {f : Nat → Int} (h : RowAt w g n T f) : g < w.heap.size :=
  Nat.lt_of_not_le fun hle => by unfold RowAt at h; rw [Array.getElem?_eq_none hle] at h; cases h
theorem RowAt.set {w : World} {g n : Nat} {T : TypeId} {f : Nat → Int} (h : RowAt w g n T f) {k : Nat} (hk : k < n) (v : Int) : RowAt (w.setCell ⟨g, k, none⟩ (.int .i64 v)) g n T (upd f k v) := by
  unfold RowAt
  rw [heap_setCell_same w g k _ T _ h, vec_set f v hk]
theorem RowAt.other {w : World} {g n : Nat} {T : TypeId} {f : Nat → Int} (h : RowAt w g n T f) (a : Addr) (v : Value) (ha : g ≠ a.block) : RowAt (w.setCell a v) g n T f := by
  unfold RowAt
  rw [heap_setCell_other w a g v ha]; exact h
theorem RowAt.alloc {w : World} {g n : Nat} {T : TypeId} {f : Nat → Int} (h : RowAt w g n T f) (o : Obj) : RowAt (w.alloc o) g n T f := by
  unfold RowAt
  exact (heap_alloc_old w o h.lt).trans h
theorem RowAt.new (w : World) (n : Nat) (T : TypeId) (f : Nat → Int) : RowAt (w.alloc (.cells (vec n f) T)) w.heap.size n T f := heap_alloc_new _ _
theorem RowAt.newAt {w : World} {n : Nat} {T : TypeId} {f : Nat → Int} {cs : Array Value} {g : Nat} (e : cs = vec n f) (h : w.heap.size = g) : RowAt (w.alloc (.cells cs T)) g n T f := by
  subst e; subst h; exact heap_alloc_new _ _
theorem RowAt.setRow {w : World} {g n : Nat} {T : TypeId} {f f' : Nat → Int} (h : RowAt w g n T f) : RowAt (w.setRow g (vec n f')) g n T f' := setRow_heap _ _ _ _ _ _ h
theorem RowAt.rowOther {w : World} {g n : Nat} {T : TypeId} {f : Nat → Int} (h : RowAt w g n T f) (G : Nat) (cs : Array Value) (ha : g ≠ G) : RowAt (w.setRow G cs) g n T f := (setRow_other _ _ _ _ ha).trans h
theorem RowAt.below {w w' : World} {g n : Nat} {T : TypeId} {f : Nat → Int} (h : RowAt w g n T f) (hb : Below w.heap.size w w') : RowAt w' g n T f := (hb.block _ h.lt).trans h
theorem RowAt.drew {w : World} {g n : Nat} {T : TypeId} {f : Nat → Int} (h : RowAt w g n T f) (m : Nat) : RowAt (w.drewN m) g n T f := h
theorem RowAt.drew1 {w : World} {g n : Nat} {T : TypeId} {f : Nat → Int} (h : RowAt w g n T f) : RowAt w.drew g n T f := h
theorem RowAt.same {w : World} {g n : Nat} {T : TypeId} {f f' : Nat → Int} (h : RowAt w g n T f) (e : ∀ j, j < n → f j = f' j) : RowAt w g n T f' := by
  unfold RowAt; rw [← vec_same e]; exact h
/-- An exact point as a value. -/
abbrev pt (a : Nat → Int) : Value := .agg (vec 8 a)
theorem pt_same {a b : Nat → Int} (h : Eight a b) : pt a = pt b := by unfold pt; rw [vec_same h]

theorem RowAt.range {w : World} {g n : Nat} {T : TypeId} {f : Nat → Int} (h : RowAt w g n T f) : w.rangeAt g 0 (lst n f) := fun j v hv => by
  rw [Nat.zero_add, cell_of_row _ _ _ _ _ _ h]
  simpa [vec] using hv
theorem RowAt.there {w : World} {g n : Nat} {T : TypeId} {f : Nat → Int} (h : RowAt w g n T f) : w.there g 0 n := fun j hj => by
  rw [Nat.zero_add, h.cell hj, h.free j]; exact ⟨rfl, rfl⟩
theorem RowAt.cellsFrom {g n : Nat} {T : TypeId} : ∀ (vs : List Int) (o : Nat) (w : World) (f : Nat → Int), RowAt w g n T f → o + vs.length ≤ n →
    ∃ f', RowAt (w.setCells g o (vs.map (Value.int .i64))) g n T f' ∧ (∀ j, j < o → f' j = f j) ∧ ∀ i, i < vs.length → f' (o + i) = vs.getD i 0
  | [], o, w, f, h, _ => ⟨f, h, fun _ _ => rfl, fun i hi => absurd hi (by simp)⟩
  | v :: vs, o, w, f, h, hl => by
    simp only [List.length_cons] at hl
    obtain ⟨f', h', hb, hi⟩ := RowAt.cellsFrom vs (o + 1) _ _ (h.set (k := o) (by omega) v) (by omega)
    refine ⟨f', h', fun j hj => ?_, fun i hlt => ?_⟩
    · rw [hb j (by omega)]; simp [upd]; omega
    · cases i with
      | zero => rw [Nat.add_zero, hb o (by omega)]; simp [upd]
      | succ i => rw [show o + (i + 1) = o + 1 + i by omega, hi i (by simpa using hlt)]; simp
theorem RowAt.cells {w : World} {g n : Nat} {T : TypeId} {f f' : Nat → Int} (h : RowAt w g n T f) : RowAt (w.setCells g 0 (lst n f')) g n T f' := by
  have e : lst n f' = ((List.range n).map f').map (Value.int .i64) := by simp [lst]
  rw [e]
  obtain ⟨F, hF, _, hi⟩ := RowAt.cellsFrom ((List.range n).map f') 0 w f h (by simp)
  refine hF.same fun j hj => ?_
  have := hi j (by simpa using hj)
  rw [Nat.zero_add] at this
  rw [this]
  simp [List.getD_eq_getElem?_getD, hj]
theorem heap_setCells_other (g : Nat) : ∀ (vs : List Value) (o : Nat) (w : World) (k : Nat), k ≠ g → (w.setCells g o vs).heap[k]? = w.heap[k]?
  | [], _, _, _, _ => rfl
  | v :: vs, o, w, k, h => (heap_setCells_other g vs (o + 1) _ k h).trans (heap_setCell_other w _ k v h)
theorem RowAt.cellsOther {w : World} {g n : Nat} {T : TypeId} {f : Nat → Int} (h : RowAt w g n T f) (G o : Nat) (vs : List Value) (ha : g ≠ G) : RowAt (w.setCells G o vs) g n T f := (heap_setCells_other G vs o w g ha).trans h
theorem below_setCells {B : Nat} {a : World} {G : Nat} (hG : B ≤ G) : ∀ (vs : List Value) (o : Nat) (w : World), Below B a w → Below B a (w.setCells G o vs)
  | [], _, _, h => h
  | v :: vs, o, w, h => below_setCells hG vs (o + 1) _ (h.setCell (p := ⟨G, o, none⟩) hG v)
theorem below_next {w W w2 : World} (h : Below w.heap.size w W) (k : Below W.heap.size W w2) : Below w.heap.size w w2 := h.trans (k.mono h.size)
/-! What a function hands back out of its rows. -/
section
variable {P : Program} {fn : Func} {p q r : Tmp} {ty ty' : TypeId} {tmps : Array Value} {w : World} {g g' n n' : Nat} {T T' : TypeId} {f f' : Nat → Int} {d d' : TypeDesc}
theorem run_row (hg : RowAt w g n T f) (hu : P.underlying ty = some d) (hd : (match d with | .struct _ | .array _ _ => true | _ => false) = true) (hi : (P.info? ty).map (·.size) = some n) :
    (loadVar ty ⟨g, 0, none⟩).run P w = .ok (.agg (vec n f)) w := run_loadVar_row w g T ty (vec n f) (0, 0) d hg hu hd (by rw [vec_size]; exact hi)
theorem results_row (h : fn.results = #[.cell p ty]) (hp : tmps.getD p undef = .pointer (some ⟨g, 0, none⟩)) (hg : RowAt w g n T f) (hu : P.underlying ty = some d)
    (hd : (match d with | .struct _ | .array _ _ => true | _ => false) = true) (hi : (P.info? ty).map (·.size) = some n) : (results fn tmps).run P w = .ok (.agg (vec n f)) w := by
  have hp' : tmps[p]?.getD undef = .pointer (some ⟨g, 0, none⟩) := by simpa using hp
  simp [results, h, hp', asAddr, run_row hg hu hd hi]
theorem results_row_tmp (h : fn.results = #[.cell p ty, .tmp q]) (hp : tmps.getD p undef = .pointer (some ⟨g, 0, none⟩)) (hg : RowAt w g n T f) (hu : P.underlying ty = some d)
    (hd : (match d with | .struct _ | .array _ _ => true | _ => false) = true) (hi : (P.info? ty).map (·.size) = some n) : (results fn tmps).run P w = .ok (.tuple #[.agg (vec n f), tmps.getD q undef]) w := by
  have hp' : tmps[p]?.getD undef = .pointer (some ⟨g, 0, none⟩) := by simpa using hp
  simp [results, h, hp', asAddr, run_row hg hu hd hi, Sem.run_bind]
theorem results_row2_tmp (h : fn.results = #[.cell p ty, .cell q ty', .tmp r]) (hp : tmps.getD p undef = .pointer (some ⟨g, 0, none⟩)) (hq : tmps.getD q undef = .pointer (some ⟨g', 0, none⟩)) (hg : RowAt w g n T f) (hg' : RowAt w g' n' T' f')
    (hu : P.underlying ty = some d) (hd : (match d with | .struct _ | .array _ _ => true | _ => false) = true) (hi : (P.info? ty).map (·.size) = some n)
    (hu' : P.underlying ty' = some d') (hd' : (match d' with | .struct _ | .array _ _ => true | _ => false) = true) (hi' : (P.info? ty').map (·.size) = some n') :
    (results fn tmps).run P w = .ok (.tuple #[.agg (vec n f), .agg (vec n' f'), tmps.getD r undef]) w := by
  have hp' : tmps[p]?.getD undef = .pointer (some ⟨g, 0, none⟩) := by simpa using hp
  have hq' : tmps[q]?.getD undef = .pointer (some ⟨g', 0, none⟩) := by simpa using hq
  simp [results, h, hp', hq', asAddr, run_row hg hu hd hi, run_row hg' hu' hd' hi', Sem.run_bind]
theorem results_row2 (h : fn.results = #[.cell p ty, .cell q ty']) (hp : tmps.getD p undef = .pointer (some ⟨g, 0, none⟩)) (hq : tmps.getD q undef = .pointer (some ⟨g', 0, none⟩)) (hg : RowAt w g n T f) (hg' : RowAt w g' n' T' f')
    (hu : P.underlying ty = some d) (hd : (match d with | .struct _ | .array _ _ => true | _ => false) = true) (hi : (P.info? ty).map (·.size) = some n)
    (hu' : P.underlying ty' = some d') (hd' : (match d' with | .struct _ | .array _ _ => true | _ => false) = true) (hi' : (P.info? ty').map (·.size) = some n') :
    (results fn tmps).run P w = .ok (.tuple #[.agg (vec n f), .agg (vec n' f')]) w := by
  have hp' : tmps[p]?.getD undef = .pointer (some ⟨g, 0, none⟩) := by simpa using hp
  have hq' : tmps[q]?.getD undef = .pointer (some ⟨g', 0, none⟩) := by simpa using hq
  simp [results, h, hp', hq', asAddr, run_row hg hu hd hi, run_row hg' hu' hd' hi', Sem.run_bind]
theorem load_row {ops : Array Oper} {rest : List Oper} {o : Oper} {a : Act} {Q : Exit → Act → World → Prop} (hgd : o.guard = none) {x : Operand} (ho : o.op = .load ty x)
    (hx : a.eval x = .pointer (some ⟨g, 0, none⟩)) (hg : RowAt w g n T f) (hu : P.underlying ty = some d) (hd : (match d with | .struct _ | .array _ _ => true | _ => false) = true) (hi : (P.info? ty).map (·.size) = some n)
    (h : wpList P ops Q rest (a.put o.dst (.agg (vec n f))) w) : wpList P ops Q (o :: rest) a w :=
  wpList_load_row hgd ty x ho g hx T (vec n f) (0, 0) d hg hu hd (by rw [vec_size]; exact hi) h
theorem store_step {o : Oper} {a : Act} {K : Act → World → Prop} {Q : Exit → Act → World → Prop} {x y : Operand} (ho : o.op = .store ty x y)
    (hx : a.eval x = .pointer (some ⟨g, 0, none⟩)) (hy : a.eval y = .agg (vec n f')) (hg : RowAt w g n T f) (hi : (P.info? ty).map (·.size) = some n)
    (h : K (a.put o.dst undef) (w.setRow g (vec n f'))) : o.wp P a w K Q :=
  wp_store_row ty x y ho g (vec n f') hx hy T (vec n f) hg (by rw [vec_size]; exact hi) (by rw [vec_size, vec_size]) (vec_one n f') h
theorem load_step {o : Oper} {a : Act} {K : Act → World → Prop} {Q : Exit → Act → World → Prop} {x : Operand} (ho : o.op = .load ty x)
    (hx : a.eval x = .pointer (some ⟨g, 0, none⟩)) (hg : RowAt w g n T f) (hu : P.underlying ty = some d) (hd : (match d with | .struct _ | .array _ _ => true | _ => false) = true) (hi : (P.info? ty).map (·.size) = some n)
    (h : K (a.put o.dst (.agg (vec n f))) w) : o.wp P a w K Q :=
  wp_load_row ty x ho g hx T (vec n f) (0, 0) d hg hu hd (by rw [vec_size]; exact hi) h
theorem store_row {ops : Array Oper} {rest : List Oper} {o : Oper} {a : Act} {Q : Exit → Act → World → Prop} (hgd : o.guard = none) {x y : Operand} (ho : o.op = .store ty x y)
    (hx : a.eval x = .pointer (some ⟨g, 0, none⟩)) (hy : a.eval y = .agg (vec n f')) (hg : RowAt w g n T f) (hi : (P.info? ty).map (·.size) = some n)
    (h : wpList P ops Q rest (a.put o.dst undef) (w.setRow g (vec n f'))) : wpList P ops Q (o :: rest) a w :=
  wpList_store_row hgd ty x y ho g (vec n f') hx hy T (vec n f) hg (by rw [vec_size]; exact hi) (by rw [vec_size, vec_size]) (vec_one n f') h
end
/-! Reading one number of an array by value, and comparing two. -/
section
variable {P : Program}
theorem run_index_vec {t e : TypeId} {n k : Nat} {f : Nat → Int} {i : TypeInfo} (hu : P.underlying t = some (.array n e)) (hi : P.info? e = some i) (hc : P.cellsOf e = 1) (hp : P.plainKey e = true) (hk : k < n) (w : World) :
    (Instr.index t (.agg (vec n f)) (.int .i64 k)).run P w = .ok (.int .i64 (f k)) w := by
  have hn : (0 : Int) ≤ (k : Int) ∧ (k : Int) < (n : Int) := by omega
  have hk' : ¬ n ≤ k := by omega
  simp [Instr.index, run_underlying hu, asIntOf, hn, hk, hk', Sem.run_bind, run_sizeOf w hi, hc, run_part_plain (w := w) hp (vec_at f hk)]
/-- Whether two rows hold the same n numbers. -/
def eqv (n : Nat) (f g : Nat → Int) : Bool := (List.range n).all fun j => f j == g j
theorem eqv_true {n : Nat} {f g : Nat → Int} (h : ∀ j, j < n → f j = g j) : eqv n f g = true := by
  unfold eqv; rw [List.all_eq_true]; intro j hj; simpa using h j (by simpa using hj)
theorem eqv_same {n : Nat} {f g : Nat → Int} (h : eqv n f g = true) : ∀ j, j < n → f j = g j := by
  unfold eqv at h; rw [List.all_eq_true] at h; intro j hj; simpa using h j (by simpa using hj)
theorem eqItems_vec {d : Nat} {e : TypeId} {n : Nat} {f g : Nat → Int} (he : P.underlying e = some (.int .i64)) (hp : P.plainKey e = true) (w : World) : ∀ (is : List Nat), (∀ i ∈ is, i < n) →
    (Op.eqItems (d + 1) e 1 (vec n f) (vec n g) is).run P w = .ok (is.all fun j => f j == g j) w
  | [], _ => by simp [Op.eqItems]
  | i :: is, h => by
    have hi := h i (by simp)
    simp only [Op.eqItems, Nat.mul_one, Sem.run_bind, run_part_plain (w := w) hp (vec_at f hi), run_part_plain (w := w) hp (vec_at g hi), Result.andThen_ok, run_equalIn_int w d e .i64 .i64 (f i) (g i) he]
    have ih := eqItems_vec (d := d) (f := f) (g := g) he hp w is (fun j hj => h j (by simp [hj]))
    by_cases hb : f i = g i
    · simp [hb, ih]
    · simp [hb]
theorem equal_vec {d : Nat} {t e : TypeId} {n : Nat} {f g : Nat → Int} {i : TypeInfo} (hu : P.underlying t = some (.array n e)) (hi : P.info? e = some i) (hc : P.cellsOf e = 1) (he : P.underlying e = some (.int .i64)) (hp : P.plainKey e = true) (w : World) :
    (Op.equalIn (d + 2) t (.agg (vec n f)) (.agg (vec n g))).run P w = .ok (eqv n f g) w := by
  rw [run_equalIn_array w (d + 1) _ _ hu hi, hc]
  exact eqItems_vec he hp w _ (fun j hj => by simpa using hj)
theorem vec_extract (n : Nat) (f : Nat → Int) : (vec n f).extract 0 (0 + n) = vec n f := by
  rw [Nat.zero_add]
  have := Array.extract_size (xs := vec n f)
  rwa [vec_size] at this
theorem equal_one {d : Nat} {s t e : TypeId} {n : Nat} {f g : Nat → Int} {i it : TypeInfo} {fd : Field} (hs : P.underlying s = some (.struct #[fd])) (hst : P.stoodInHeld s = false)
    (hef : ∀ (d : Nat) (xs ys : Array Value), Op.eqFields d xs ys [fd] = (do
      let a ← part fd.type xs fd.offset
      let b ← part fd.type ys fd.offset
      let r ← Op.equalIn d fd.type a b
      if (!r) = true then pure false else Op.eqFields d xs ys []))
    (hft : fd.type = t) (hfo : fd.offset = 0)
    (hu : P.underlying t = some (.array n e)) (hit : P.info? t = some it) (hct : P.cellsOf t = n) (hi : P.info? e = some i) (hc : P.cellsOf e = 1) (he : P.underlying e = some (.int .i64)) (hp : P.plainKey e = true) (w : World) :
    (Op.equalIn (d + 3) s (.agg (vec n f)) (.agg (vec n g))).run P w = .ok (eqv n f g) w := by
  have hF : P.fieldsOf s = #[fd] := by simp [Program.fieldsOf, hs]
  have hagg : (isAgg t).run P w = .ok true w := by simp [isAgg, run_underlying hu, Sem.run_bind]
  have hpart : ∀ h : Nat → Int, (part t (vec n h) 0).run P w = .ok (.agg (vec n h)) w := fun h => by
    have := vec_extract n h
    simp only [Nat.zero_add] at this
    simp [part, Sem.run_bind, hagg, run_sizeOf w hit, hct, this]
  rw [run_equalIn_struct w (d + 2) s _ _ (by rw [hF]; exact hs) hst, hF]
  rw [show (#[fd] : Array Field).toList = [fd] from rfl, hef]
  simp only [Sem.run_bind, hft, hfo, hpart, Result.andThen_ok, equal_vec (d := d) hu hi hc he hp w]
  cases eqv n f g <;> simp [Op.eqFields]
end

/-! Valid points and what functions answer of them. -/
/-- Whether a coefficient is in its range. -/
def inC (c : Int) : Bool := decide (-1000000 ≤ c) && decide (c ≤ 1000000)
/-- Whether the eight coefficients are in their range. -/
def okc (a : Nat → Int) : Bool := (List.range 8).all fun j => inC (a j)
theorem okc_inR {a : Nat → Int} (h : okc a = true) : InR a := by
  intro j hj
  unfold okc at h
  rw [List.all_eq_true] at h
  simpa [inC] using h j (by simpa using hj)
theorem inR_okc {a : Nat → Int} (h : InR a) : okc a = true := by
  unfold okc
  rw [List.all_eq_true]
  intro j hj
  simpa [inC] using h j (by simpa using hj)
theorem okc_not {a : Nat → Int} {k : Nat} (hk : k < 8) (h : ¬ (-1000000 ≤ a k ∧ a k ≤ 1000000)) : okc a = false := by
  cases hv : okc a
  · rfl
  · exact absurd (okc_inR hv k hk) h
/-- The zero point. -/
def nul : Nat → Int := fun _ => 0
/-- What is answered of a result: the point and true, or zero and false. -/
def ans (v : Bool) (c : Nat → Int) : Value := .tuple #[pt (if v && okc c then c else nul), .bool (v && okc c)]
theorem ans_no (c : Nat → Int) : ans false c = .tuple #[pt nul, .bool false] := rfl
theorem ans_yes {c : Nat → Int} (h : okc c = true) : ans true c = .tuple #[pt c, .bool true] := by simp [ans, h]
theorem ans_bad {c : Nat → Int} (h : okc c = false) : ans true c = .tuple #[pt nul, .bool false] := by simp [ans, h]
theorem okc_same {a b : Nat → Int} (h : Eight a b) : okc a = okc b := by
  rw [Bool.eq_iff_iff]
  exact ⟨fun hv => inR_okc fun j hj => by rw [← h j hj]; exact okc_inR hv j hj, fun hv => inR_okc fun j hj => by rw [h j hj]; exact okc_inR hv j hj⟩
theorem ans_same {a b : Nat → Int} (v : Bool) (h : Eight a b) : ans v a = ans v b := by
  unfold ans
  rw [okc_same h]
  by_cases hv : (v && okc b) = true
  · rw [if_pos hv, if_pos hv, pt_same h]
  · rw [if_neg hv, if_neg hv]
/-! Worlds in which a function begins, and behind its first call. -/
/-- Two points and a result's variable. -/
def box2 (w : World) (a b : Nat → Int) (T O : TypeId) : World := ((w.alloc (.cells (vec 8 a) T)).alloc (.cells (vec 8 b) T)).alloc (.cells (vec 8 nul) O)
theorem box2_facts (w : World) (a b : Nat → Int) (T O : TypeId) : RowAt (box2 w a b T O) w.heap.size 8 T a ∧ RowAt (box2 w a b T O) (w.heap.size + 1) 8 T b ∧ RowAt (box2 w a b T O) (w.heap.size + 1 + 1) 8 O nul ∧ Below w.heap.size w (box2 w a b T O) :=
  ⟨((RowAt.newAt rfl rfl).alloc _).alloc _, (RowAt.newAt rfl (by simp)).alloc _, RowAt.newAt rfl (by simp), (((Below.refl _ _).alloc (Nat.le_refl _) _).alloc (by simp) _).alloc (by simp; omega) _⟩
/-- One point and a result's variable. -/
def box1 (w : World) (a : Nat → Int) (T O : TypeId) : World := (w.alloc (.cells (vec 8 a) T)).alloc (.cells (vec 8 nul) O)
theorem box1_facts (w : World) (a : Nat → Int) (T O : TypeId) : RowAt (box1 w a T O) w.heap.size 8 T a ∧ RowAt (box1 w a T O) (w.heap.size + 1) 8 O nul ∧ Below w.heap.size w (box1 w a T O) :=
  ⟨(RowAt.newAt rfl rfl).alloc _, RowAt.newAt rfl (by simp), ((Below.refl _ _).alloc (Nat.le_refl _) _).alloc (by simp) _⟩
/-- One point. -/
def box0 (w : World) (a : Nat → Int) (T : TypeId) : World := w.alloc (.cells (vec 8 a) T)
theorem box0_facts (w : World) (a : Nat → Int) (T : TypeId) : RowAt (box0 w a T) w.heap.size 8 T a ∧ Below w.heap.size w (box0 w a T) := ⟨RowAt.newAt rfl rfl, (Below.refl _ _).alloc (Nat.le_refl _) _⟩
theorem pair_first (w : World) (E : TypeId) : RowAt ((w.alloc (.cells (vec 8 nul) E)).alloc (.cells (vec 8 nul) E)) w.heap.size 8 E nul := (RowAt.newAt rfl rfl : RowAt _ _ 8 E nul).alloc _
theorem pair_second (w : World) (a : Nat → Int) (E : TypeId) : RowAt (((w.alloc (.cells (vec 8 nul) E)).alloc (.cells (vec 8 nul) E)).setRow w.heap.size (vec 8 a)) (w.heap.size + 1) 8 E nul :=
  (RowAt.newAt rfl (by simp) : RowAt _ _ 8 E nul).rowOther _ _ (by omega)
/-- Two new variables with points stored. -/
def two (w : World) (a b : Nat → Int) (E : TypeId) : World := (((w.alloc (.cells (vec 8 nul) E)).alloc (.cells (vec 8 nul) E)).setRow w.heap.size (vec 8 a)).setRow (w.heap.size + 1) (vec 8 b)
theorem two_first (w : World) (a b : Nat → Int) (E : TypeId) : RowAt (two w a b E) w.heap.size 8 E a := (((RowAt.newAt rfl rfl : RowAt _ _ 8 E nul).alloc _).setRow).rowOther _ _ (by omega)
theorem two_second (w : World) (a b : Nat → Int) (E : TypeId) : RowAt (two w a b E) (w.heap.size + 1) 8 E b := ((RowAt.newAt rfl (by simp) : RowAt _ _ 8 E nul).rowOther _ _ (by omega)).setRow
theorem two_keep {w : World} {g n : Nat} {T : TypeId} {f : Nat → Int} (h : RowAt w g n T f) (a b : Nat → Int) (E : TypeId) : RowAt (two w a b E) g n T f :=
  have := h.lt
  (((h.alloc _).alloc _).rowOther _ _ (by omega)).rowOther _ _ (by omega)
theorem two_below {w W : World} (h : Below w.heap.size w W) (a b : Nat → Int) (E : TypeId) : Below w.heap.size w (two W a b E) :=
  have := h.size
  below_setRow (below_setRow ((h.alloc this _).alloc (by simp; omega) _) this _) (by omega) _
/-- A new variable with a point stored. -/
def sole (w : World) (a : Nat → Int) (E : TypeId) : World := (w.alloc (.cells (vec 8 nul) E)).setRow w.heap.size (vec 8 a)
theorem sole_first (w : World) (a : Nat → Int) (E : TypeId) : RowAt (sole w a E) w.heap.size 8 E a := (RowAt.newAt rfl rfl : RowAt _ _ 8 E nul).setRow
theorem sole_keep {w : World} {g n : Nat} {T : TypeId} {f : Nat → Int} (h : RowAt w g n T f) (a : Nat → Int) (E : TypeId) : RowAt (sole w a E) g n T f :=
  have := h.lt
  (h.alloc _).rowOther _ _ (by omega)
theorem sole_below {w W : World} (h : Below w.heap.size w W) (a : Nat → Int) (E : TypeId) : Below w.heap.size w (sole W a E) :=
  have := h.size
  below_setRow (h.alloc this _) this _
theorem eqv_comm (n : Nat) (f g : Nat → Int) : eqv n f g = eqv n g f := by
  unfold eqv
  congr 1
  funext j
  exact Bool.beq_comm
/-- Whether a point is its own mirror. -/
def rl (a : Nat → Int) : Bool := eqv 8 (mir a) a
/-- Two points. -/
def boxAB (w : World) (a b : Nat → Int) (T : TypeId) : World := (w.alloc (.cells (vec 8 a) T)).alloc (.cells (vec 8 b) T)
theorem boxAB_facts (w : World) (a b : Nat → Int) (T : TypeId) : RowAt (boxAB w a b T) w.heap.size 8 T a ∧ RowAt (boxAB w a b T) (w.heap.size + 1) 8 T b ∧ Below w.heap.size w (boxAB w a b T) ∧ (boxAB w a b T).heap.size = w.heap.size + 1 + 1 :=
  ⟨(RowAt.newAt rfl rfl).alloc _, RowAt.newAt rfl (by simp), ((Below.refl _ _).alloc (Nat.le_refl _) _).alloc (by simp) _, by simp [boxAB]⟩
end Go.Proofs.Ytibhlaojinedoaa
/- Contracts of the functions of turns (chapter 1): what each call of impl's and of spec's functions gives, for every argument. -/
namespace Go.Proofs.Ytibhlaojinedoaa
set_option maxRecDepth 20000
open Go.ChangeShapes Go.WideShapes Go.ChangeAt Go.RowKit
set_option linter.unusedVariables false
set_option linter.unusedSimpArgs false

theorem ret_bool {a b : Bool} (h : a = b) : Ending.returned (.bool a) = .returned (.bool b) := by rw [h]
theorem ret_ib {a b : Int} {x y : Bool} (h : a = b) (hx : x = y) : Ending.returned (.tuple #[.int .i64 a, .bool x]) = .returned (.tuple #[.int .i64 b, .bool y]) := by rw [h, hx]
theorem tmod24 (n : Int) : n.tmod 24 = if 0 ≤ n then n % 24 else -((-n) % 24) := by
  split
  · next h => exact Int.tmod_eq_emod_of_nonneg h
  · rw [show n = -(-n) by omega, Int.neg_tmod, Int.tmod_eq_emod_of_nonneg (by omega)]; simp
theorem ret_int {k : IntKind} {a b : Int} (h : a = b) : Ending.returned (.int k a) = .returned (.int k b) := by rw [h]

theorem in_yes (n a b : Int) (h0 : a ≤ n) (h1 : n ≤ b) (w : World) :
    Calls Try.prog 21 #[.int .i64 n, .int .i64 a, .int .i64 b] w fun e w' => e = .returned (.bool true) ∧ w = w' := by
  go_enter Try.func21, Try.ntmps21
  go_wp2
  go_ret
  exact ⟨rfl, rfl⟩
theorem in_no (n a b : Int) (h : n < a ∨ b < n) (w : World) :
    Calls Try.prog 21 #[.int .i64 n, .int .i64 a, .int .i64 b] w fun e w' => e = .returned (.bool false) ∧ w = w' := by
  by_cases h0 : a ≤ n
  · have h1 : b < n := by omega
    go_enter Try.func21, Try.ntmps21
    go_wp2
    go_ret
    exact ⟨ret_bool (decide_eq_false (by omega)), rfl⟩
  · clear h
    go_enter Try.func21, Try.ntmps21
    go_wp2
    go_ret
    exact ⟨rfl, rfl⟩
theorem mod_any (n : Int) (h0 : -4611686018427387904 ≤ n) (h1 : n ≤ 4611686018427387904) (w : World) :
    Calls Try.prog 68 #[.int .i64 n] w fun e w' => e = .returned (.int .i64 (n % 24)) ∧ w = w' := by
  have T := tmod24 n
  have hb : -24 < n.tmod 24 ∧ n.tmod 24 < 24 ∧ n % 24 = if n.tmod 24 < 0 then n.tmod 24 + 24 else n.tmod 24 := by
    rw [T]; split <;> split <;> omega
  obtain ⟨hb0, hb1, e⟩ := hb
  clear T
  have E := Lib.hid e; clear e
  by_cases h : n.tmod 24 < 0
  · go_enter Try.func68, Try.ntmps68
    go_wp2
    go_ret
    exact ⟨ret_int (by rw [E.out, if_pos h]), rfl⟩
  · go_enter Try.func68, Try.ntmps68
    go_wp2
    go_ret
    exact ⟨ret_int (by rw [E.out, if_neg (by omega)]), rfl⟩
theorem is_yes (t : Int) (h0 : 0 ≤ t) (h1 : t ≤ 23) (w : World) :
    Calls Try.prog 53 #[.int .i64 t] w fun e w' => e = .returned (.bool true) ∧ w = w' := by
  go_enter Try.func53, Try.ntmps53
  go_wp2_with (go_at_call 21; refine (in_yes _ _ _ h0 h1 _).mono ?_; rintro e w' ⟨rfl, rfl⟩)
  go_ret
  exact ⟨rfl, rfl⟩
theorem is_no (t : Int) (h : t < 0 ∨ 23 < t) (w : World) :
    Calls Try.prog 53 #[.int .i64 t] w fun e w' => e = .returned (.bool false) ∧ w = w' := by
  go_enter Try.func53, Try.ntmps53
  go_wp2_with (go_at_call 21; refine (in_no _ _ _ h _).mono ?_; rintro e w' ⟨rfl, rfl⟩)
  go_ret
  exact ⟨rfl, rfl⟩
end Go.Proofs.Ytibhlaojinedoaa
/- Contracts of impl's calculations with exact points. -/
namespace Go.Proofs.Ytibhlaojinedoaa
set_option maxRecDepth 20000
open Go.ChangeShapes Go.WideShapes Go.ChangeAt Go.RowKit
set_option linter.unusedVariables false
set_option linter.unusedSimpArgs false

theorem zero8 : (#[.int .i64 0, .int .i64 0, .int .i64 0, .int .i64 0, .int .i64 0, .int .i64 0, .int .i64 0, .int .i64 0] : Array Value) = vec 8 (fun _ => 0) := rfl

theorem info_cyc : (Try.prog.info? 80).map (·.size) = some 8 := by kernel_rfl
theorem info_arr8 : (Try.prog.info? 78).map (·.size) = some 8 := by kernel_rfl
theorem zero24 : (#[.int .i64 0, .int .i64 0, .int .i64 0, .int .i64 0, .int .i64 0, .int .i64 0, .int .i64 0, .int .i64 0, .int .i64 0, .int .i64 0, .int .i64 0, .int .i64 0, .int .i64 0, .int .i64 0, .int .i64 0, .int .i64 0, .int .i64 0, .int .i64 0, .int .i64 0, .int .i64 0, .int .i64 0, .int .i64 0, .int .i64 0, .int .i64 0] : Array Value) = vec 24 nul := rfl
theorem key_i64 : Try.prog.plainKey 2 = true := by kernel_rfl
theorem key_int : Try.prog.plainKey 3 = true := by kernel_rfl
theorem cells_i64 : Try.prog.cellsOf 2 = 1 := by kernel_rfl
theorem cells_int : Try.prog.cellsOf 3 = 1 := by kernel_rfl
theorem some_i64 : (Try.prog.info? 2).isSome = true := by kernel_rfl
theorem some_int : (Try.prog.info? 3).isSome = true := by kernel_rfl
theorem some_arr8 : (Try.prog.info? 78).isSome = true := by kernel_rfl
theorem cells_arr8 : Try.prog.cellsOf 78 = 8 := by kernel_rfl
theorem index_arr8 {k : Nat} (a : Nat → Int) (hk : k < 8) (w : World) : (Instr.index 78 (.agg (vec 8 a)) (.int .i64 k)).run Try.prog w = .ok (.int .i64 (a k)) w := by
  obtain ⟨i, hi⟩ := Option.isSome_iff_exists.1 some_int
  exact run_index_vec Try.underlying78 hi cells_int key_int hk w
theorem equal_cyc (a b : Nat → Int) (w : World) : (Op.equalIn 10000 80 (.agg (vec 8 a)) (.agg (vec 8 b))).run Try.prog w = .ok (eqv 8 a b) w := by
  obtain ⟨i, hi⟩ := Option.isSome_iff_exists.1 some_int
  obtain ⟨j, hj⟩ := Option.isSome_iff_exists.1 some_arr8
  exact equal_one (d := 9997) Try.underlying80 (by kernel_rfl) (fun d xs ys => by unfold Op.eqFields; exact if_pos (by decide)) rfl rfl Try.underlying78 hj cells_arr8 hi cells_int Try.underlying3 key_int w

end Go.Proofs.Ytibhlaojinedoaa
/- Contracts of impl's calculations with exact points, second part: multiples, and powers that come down. -/
namespace Go.Proofs.Ytibhlaojinedoaa
set_option maxRecDepth 20000
open Go.ChangeShapes Go.WideShapes Go.ChangeAt Go.RowKit
set_option linter.unusedVariables false
set_option linter.unusedSimpArgs false

/-- Each number times n. -/
def tms (a : Nat → Int) (n : Int) : Nat → Int := fun j => a j * n
theorem tms_scl (a : Nat → Int) (n : Int) : tms a n = scl n a := by funext j; exact Int.mul_comm _ _

/-- One power comes down, in two steps. -/
def down1 (p : Nat → Int) (m : Nat) : Nat → Int := upd p (m + 4) (p (m + 4) + p (m + 8))
theorem down_two (p : Nat → Int) (m : Nat) : upd (down1 p m) m (down1 p m m - down1 p m (m + 8)) = down p (m + 8) := by
  funext j
  simp only [upd, down1, down, show m + 8 - 8 = m by omega, show m + 8 - 4 = m + 4 by omega, show ¬ m = m + 4 by omega, show ¬ m + 8 = m + 4 by omega, if_false]
  by_cases h : j = m
  · subst h; simp
  · rw [if_neg h, if_neg h]
    by_cases h' : j = m + 4
    · subst h'; simp
    · rw [if_neg h', if_neg h']

end Go.Proofs.Ytibhlaojinedoaa
