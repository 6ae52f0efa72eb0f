/-
  Out of the text WheelMath: what the draws of polygons need.
  Out of the text WheelSort: what the draws of polygons need.
  Out of the text WheelRow: what the draws of polygons need.
  Out of the text WheelA: what the draws of polygons need.
-/
import Derived.Test.YtdpakhggpgdgbaaGreatM00
import Derived.Test.YtdpakhggpgdgbaaGreatM01
import Derived.Sort.LotA
import Derived.Test.YtdpakhggpgdgbaaGreatM03
import Derived.Test.YtdpakhggpgdgbaaGreatM02
import Derived.Deep.QuietTactic
import Derived.BigQuiet
import Derived.Deep.MidRow
import Derived.OwnWalk
import Derived.Laws.AppendOwn
import Derived.Laws.OwnMore
import Derived.Deep.Onto
/- Out of the text WheelMath: what the draws of polygons need. -/
namespace Go.Proofs.YtdpakhggpgdgbaaGreat
set_option maxRecDepth 20000
set_option linter.unusedVariables false
set_option linter.unusedSimpArgs false
/-- Eight numbers, and nothing behind them. -/
def V : Type := Fin 8 → Int
def V.up (a : V) : Nat → Int := fun j => if h : j < 8 then a ⟨j, h⟩ else 0
def dn (f : Nat → Int) : V := fun j => f j.1
theorem up_dn (f : Nat → Int) : Eight (dn f).up f := fun j hj => by simp [V.up, dn, hj]
theorem dn_up (a : V) : dn a.up = a := by funext j; simp [V.up, dn]
theorem dn_same {f g : Nat → Int} (h : Eight f g) : dn f = dn g := by funext j; exact h j.1 j.2
theorem V.ext {a b : V} (h : Eight a.up b.up) : a = b := by rw [← dn_up a, ← dn_up b, dn_same h]
def V.add (a b : V) : V := fun j => a j + b j
def V.zero : V := fun _ => 0
theorem V.add_comm (a b : V) : V.add a b = V.add b a := by funext j; exact Int.add_comm _ _
theorem V.add_assoc (a b c : V) : V.add (V.add a b) c = V.add a (V.add b c) := by funext j; exact Int.add_assoc _ _ _
theorem V.add_zero (a : V) : V.add a V.zero = a := by funext j; exact Int.add_zero _
theorem V.zero_add (a : V) : V.add V.zero a = a := by funext j; exact Int.zero_add _
theorem V.four (a b c d : V) : V.add (V.add a b) (V.add c d) = V.add (V.add a c) (V.add b d) := by
  rw [V.add_assoc, ← V.add_assoc b c d, V.add_comm b c, V.add_assoc c b d, ← V.add_assoc]
theorem add_up (a b : V) : (V.add a b).up = add a.up b.up := by
  funext j
  by_cases h : j < 8
  · simp [V.up, V.add, add, h]
  · simp [V.up, V.add, add, h]
theorem zero_up : V.zero.up = nul := by funext j; simp [V.up, V.zero, nul]
/-- A valid point. -/
def okv (a : V) : Bool := okc a.up
/-- Turned n times by the root. -/
def tV (n : Nat) (a : V) : V := dn (stps n a.up)
theorem tV_trn (a : V) {t : Nat} (ht : t ≤ 23) : dn (trn a.up t) = tV t a := dn_same fun j hj => (trn_steps a.up t ht j hj).symm
/-- A wheel. -/
structure Wh where
  s : Int
  r : V
theorem Wh.same {a b : Wh} (h : a.s = b.s) (k : a.r = b.r) : a = b := by
  cases a; cases b; simp only at h k; rw [h, k]
/-- The turns of a wheel at a turn. -/
def tm (t s : Int) : Nat := (t * s % 24).toNat
/-- Where the wheels point together at a turn. -/
def pAt (t : Int) : List Wh → V
  | [] => V.zero
  | w :: ws => V.add (tV (tm t w.s) w.r) (pAt t ws)
theorem pAt_append (t : Int) (b : List Wh) : ∀ a, pAt t (a ++ b) = V.add (pAt t a) (pAt t b)
  | [] => (V.zero_add _).symm
  | w :: a => by show V.add _ (pAt t (a ++ b)) = _; rw [pAt_append t b a, ← V.add_assoc]; rfl
/-- A wheel added to a list whose speeds ascend. -/
def ins : List Wh → Wh → List Wh
  | [], w => [w]
  | c :: cs, w => if c.s < w.s then c :: ins cs w else if c.s = w.s then ⟨c.s, V.add c.r w.r⟩ :: cs else w :: c :: cs
/-- Whether that may be: the sum is asked; a first radius only if b says so. -/
def insOk (b : Bool) : List Wh → Wh → Bool
  | [], w => !b || okv w.r
  | c :: cs, w => if c.s < w.s then insOk b cs w else if c.s = w.s then okv (V.add c.r w.r) else !b || okv w.r
def run (b : Bool) : List Wh → List Wh → Option (List Wh)
  | out, [] => some out
  | out, w :: ws => if insOk b out w then run b (ins out w) ws else none
/-- The speeds ascend. -/
def Asc (l : List Wh) : Prop := l.Pairwise fun a b => a.s < b.s
def pre (s : Int) (ws : List Wh) : List V := (ws.filter fun w => decide (w.s = s)).map (·.r)
def inS (s : Int) : Bool := decide (-1000 ≤ s) && decide (s ≤ 1000)
def wOk (c : Wh) : Bool := inS c.s && okv c.r
def valid (ws : List Wh) : Bool := decide (ws.length ≤ 12) && ws.all wOk
def nz (c : Wh) : Bool := !(eqv 8 c.r.up nul)
def done (l : List Wh) : Option (List Wh) := if valid (l.filter nz) then some (l.filter nz) else none
def tidy (b : Bool) (ws : List Wh) : Option (List Wh) := (run b [] ws).bind done
/-- What a tidy design is. -/
structure Tidy (R : List Wh) : Prop where
  asc : Asc R
  nz : ∀ c ∈ R, nz c = true
  ok : valid R = true
theorem valid_ok {ws : List Wh} (h : valid ws = true) : ∀ c ∈ ws, inS c.s = true ∧ okv c.r = true := fun c hc => by
  unfold valid at h
  rw [Bool.and_eq_true] at h
  have := List.all_eq_true.1 h.2 c hc
  unfold wOk at this
  rwa [Bool.and_eq_true] at this
theorem valid_len {ws : List Wh} (h : valid ws = true) : ws.length ≤ 12 := by
  unfold valid at h
  rw [Bool.and_eq_true] at h
  exact of_decide_eq_true h.1
theorem run_asc (b : Bool) : ∀ (ws out : List Wh), (∀ c ∈ out, ∀ d ∈ ws, c.s < d.s) → Asc ws → (∀ c ∈ ws, okv c.r = true) → run b out ws = some (out ++ ws)
  | [], out, _, _, _ => by rw [List.append_nil]; rfl
  | w :: ws, out, hl, ha, ho => by
    have hi : ∀ out : List Wh, (∀ c ∈ out, c.s < w.s) → insOk b out w = true ∧ ins out w = out ++ [w] := fun out h => by
      induction out with
      | nil => exact ⟨by simp [insOk, ho w (by simp)], rfl⟩
      | cons c cs ih =>
        obtain ⟨h1, h2⟩ := ih fun d hd => h d (by simp [hd])
        unfold insOk ins
        rw [if_pos (h c (by simp)), if_pos (h c (by simp)), h1, h2]
        exact ⟨rfl, rfl⟩
    obtain ⟨h1, h2⟩ := hi out fun c hc => hl c hc w (by simp)
    have hc := List.pairwise_cons.1 ha
    unfold run
    rw [if_pos h1, h2, run_asc b ws _ (fun c hm d hd => ?_) hc.2 (fun c hm => ho c (by simp [hm]))]
    · rw [List.append_assoc]; rfl
    · rcases List.mem_append.1 hm with hm | hm
      · exact hl c hm d (by simp [hd])
      · rw [List.mem_singleton.1 hm]; exact hc.1 d hd
theorem filter_all {p : Wh → Bool} : ∀ {l : List Wh}, (∀ c ∈ l, p c = true) → l.filter p = l
  | [], _ => rfl
  | c :: l, h => by rw [List.filter_cons, if_pos (h c (by simp)), filter_all fun d hd => h d (by simp [hd])]
/-- A tidy design is its own tidy one. -/
theorem Tidy.again (b : Bool) {R : List Wh} (h : Tidy R) : tidy b R = some R := by
  unfold tidy
  rw [run_asc b R [] (by simp) h.asc fun c hc => (valid_ok h.ok c hc).2]
  simp only [List.nil_append, Option.bind_some, done, filter_all h.nz, h.ok, if_true]

theorem tm_lt (t s : Int) : tm t s ≤ 23 := by unfold tm; omega
end Go.Proofs.YtdpakhggpgdgbaaGreat
/- Out of the text WheelSort: what the draws of polygons need. -/
namespace Go.Proofs.YtdpakhggpgdgbaaGreat
set_option maxRecDepth 20000
set_option linter.unusedVariables false
set_option linter.unusedSimpArgs false
open Go.Sort
instance : Inhabited Wh := ⟨⟨0, V.zero⟩⟩

/-- A piece of a row. -/
def seg (d : Array Wh) (lo len : Nat) : List Wh := (List.range' lo len).map fun i => d[i]!
theorem seg_split (d : Array Wh) (lo m n : Nat) : seg d lo (m + n) = seg d lo m ++ seg d (lo + m) n := by
  unfold seg
  rw [← List.map_append, List.range'_append_1]
theorem seg_same {d d' : Array Wh} {lo lo' len : Nat} (h : ∀ i, i < len → d'[lo' + i]! = d[lo + i]!) : seg d' lo' len = seg d lo len := by
  unfold seg
  rw [List.range'_eq_map_range, List.range'_eq_map_range, List.map_map, List.map_map]
  refine List.map_congr_left fun i hi => ?_
  simpa using h i (by simpa using hi)
theorem seg_all (d : Array Wh) : seg d 0 d.size = d.toList := by
  unfold seg
  refine List.ext_getElem (by simp) fun i h1 h2 => ?_
  have h3 : i < d.size := by simpa using h2
  simp [h3]
theorem mem_seg {d : Array Wh} {lo len : Nat} {c : Wh} (h : c ∈ seg d lo len) : ∃ i, lo ≤ i ∧ i < lo + len ∧ c = d[i]! := by
  unfold seg at h
  obtain ⟨i, hi, rfl⟩ := List.mem_map.1 h
  have := List.mem_range'_1.1 hi
  exact ⟨i, this.1, this.2, rfl⟩
theorem pre_append (s : Int) (x y : List Wh) : pre s (x ++ y) = pre s x ++ pre s y := by simp [pre]
theorem pre_none {s : Int} {l : List Wh} (h : ∀ c ∈ l, c.s ≠ s) : pre s l = [] := by
  unfold pre
  rw [List.filter_eq_nil_iff.2 (fun c hc => by simpa using h c hc)]; rfl

/-- Each speed keeps its radii in order. -/
def Keeps (d d' : Array Wh) : Prop := d'.size = d.size ∧ ∀ s, pre s d'.toList = pre s d.toList
theorem Keeps.refl (d : Array Wh) : Keeps d d := ⟨rfl, fun _ => rfl⟩
theorem Keeps.trans {a b c : Array Wh} (h : Keeps a b) (k : Keeps b c) : Keeps a c := ⟨k.1.trans h.1, fun s => (k.2 s).trans (h.2 s)⟩

/-- The pieces from a to m and from m to b exchanged. -/
structure Rot (d d' : Array Wh) (a m b : Nat) : Prop where
  size : d'.size = d.size
  low : ∀ i, i < a → d'[i]! = d[i]!
  left : ∀ i, i < b - m → d'[a + i]! = d[m + i]!
  right : ∀ i, i < m - a → d'[a + (b - m) + i]! = d[a + i]!
  high : ∀ i, b ≤ i → d'[i]! = d[i]!
theorem Rot.keeps {d d' : Array Wh} {a m b : Nat} (h : Rot d d' a m b) (ham : a ≤ m) (hmb : m ≤ b) (hb : b ≤ d.size)
    (hs : ∀ i j, a ≤ i → i < m → m ≤ j → j < b → d[j]!.s < d[i]!.s) : Keeps d d' := by
  refine ⟨h.size, fun s => ?_⟩
  have e1 : d.toList = seg d 0 a ++ (seg d a (m - a) ++ (seg d m (b - m) ++ seg d b (d.size - b))) := by
    rw [← seg_all, show d.size = a + ((m - a) + ((b - m) + (d.size - b))) from by omega, seg_split, seg_split, seg_split, Nat.zero_add,
      show a + (m - a) = m from by omega, show m + (b - m) = b from by omega, show a + ((m - a) + ((b - m) + (d.size - b))) = d.size from by omega]
  have e2 : d'.toList = seg d' 0 a ++ (seg d' a (b - m) ++ (seg d' (a + (b - m)) (m - a) ++ seg d' b (d.size - b))) := by
    rw [← seg_all, h.size, show d.size = a + ((b - m) + ((m - a) + (d.size - b))) from by omega, seg_split, seg_split, seg_split, Nat.zero_add,
      show a + (b - m) + (m - a) = b from by omega, show a + ((b - m) + ((m - a) + (d.size - b))) = d.size from by omega]
  rw [e1, e2, seg_same (d := d) (d' := d') (lo := 0) (lo' := 0) (fun i hi => by simpa using h.low i hi), seg_same (d := d) (lo := m) h.left, seg_same (d := d) (lo := a) h.right,
    seg_same (d := d) (d' := d') (lo := b) (lo' := b) (fun i hi => h.high _ (by omega))]
  simp only [pre_append]
  rw [← List.append_assoc (pre s (seg d m (b - m))), ← List.append_assoc (pre s (seg d a (m - a)))]
  congr 2
  by_cases hx : ∃ i, a ≤ i ∧ i < m ∧ d[i]!.s = s
  · obtain ⟨i, h1, h2, h3⟩ := hx
    rw [pre_none (l := seg d m (b - m)) (fun c hc => by
      obtain ⟨j, j1, j2, rfl⟩ := mem_seg hc
      have := hs i j h1 h2 j1 (by omega)
      omega)]
    simp
  · rw [pre_none (l := seg d a (m - a)) (fun c hc e => by
      obtain ⟨j, j1, j2, rfl⟩ := mem_seg hc
      exact hx ⟨j, j1, by omega, e⟩)]
    simp

/-- Speeds ascend from a to b. -/
def Up (d : Array Wh) (a b : Nat) : Prop := ∀ i j, a ≤ i → i ≤ j → j < b → d[i]!.s ≤ d[j]!.s
/-- What a merge or a sort of a piece does. -/
structure Merged (d d' : Array Wh) (a b : Nat) : Prop where
  keeps : Keeps d d'
  up : Up d' a b
  out : ∀ i, (i < a ∨ b ≤ i) → d'[i]! = d[i]!
  inn : ∀ i, a ≤ i → i < b → ∃ j, a ≤ j ∧ j < b ∧ d'[i]! = d[j]!
theorem Merged.same {d : Array Wh} {a b : Nat} (h : Up d a b) : Merged d d a b := ⟨Keeps.refl d, h, fun _ _ => rfl, fun i h1 h2 => ⟨i, h1, h2, rfl⟩⟩

theorem Rot.first (d : Array Wh) (a : Nat) : Rot d d a (a + 1) (a + 1) := ⟨rfl, fun _ _ => rfl, fun i h => by omega, fun i h => by simp, fun _ _ => rfl⟩
theorem Rot.last (d : Array Wh) (m : Nat) : Rot d d m m (m + 1) := ⟨rfl, fun _ _ => rfl, fun i h => rfl, fun i h => by omega, fun _ _ => rfl⟩
theorem swp_at (d : Array Wh) {i j : Nat} (hi : i < d.size) (hj : j < d.size) (hij : i ≠ j) (k : Nat) : (swp d i j)[k]! = if k = i then d[j]! else if k = j then d[i]! else d[k]! := by
  by_cases h1 : k = i
  · rw [if_pos h1, h1, swp_left d i j hi hij]
  · by_cases h2 : k = j
    · rw [if_neg h1, if_pos h2, h2, swp_right d i j hj]
    · rw [if_neg h1, if_neg h2, swp_other d i j k h1 h2]
/-- n elements from a exchanged with those from b. -/
structure SwapR (d d' : Array Wh) (a b n : Nat) : Prop where
  size : d'.size = d.size
  fst : ∀ i, i < n → d'[a + i]! = d[b + i]!
  snd : ∀ i, i < n → d'[b + i]! = d[a + i]!
  rest : ∀ k, (k < a ∨ a + n ≤ k) → (k < b ∨ b + n ≤ k) → d'[k]! = d[k]!
theorem SwapR.none (d : Array Wh) (a b : Nat) : SwapR d d a b 0 := ⟨rfl, fun i h => by omega, fun i h => by omega, fun _ _ _ => rfl⟩
theorem SwapR.step {d dk : Array Wh} {a b n k : Nat} (h : SwapR d dk a b k) (hk : k < n) (hab : a + n ≤ b) (hb : b + n ≤ d.size) : SwapR d (swp dk (a + k) (b + k)) a b (k + 1) := by
  have hs := h.size
  have sw := swp_at dk (i := a + k) (j := b + k) (by omega) (by omega) (by omega)
  refine ⟨by rw [size_swp]; exact hs, fun i hi => ?_, fun i hi => ?_, fun x h1 h2 => ?_⟩
  · rw [sw]
    by_cases e : i = k
    · subst e; rw [if_pos rfl]; exact h.rest _ (by omega) (by omega)
    · rw [if_neg (by omega), if_neg (by omega)]; exact h.fst i (by omega)
  · rw [sw]
    by_cases e : i = k
    · subst e; rw [if_neg (by omega), if_pos rfl]; exact h.rest _ (by omega) (by omega)
    · rw [if_neg (by omega), if_neg (by omega)]; exact h.snd i (by omega)
  · rw [sw, if_neg (by omega), if_neg (by omega)]; exact h.rest x (by omega) (by omega)
end Go.Proofs.YtdpakhggpgdgbaaGreat
/- Out of the text WheelRow: what the draws of polygons need. -/
namespace Go.Proofs.YtdpakhggpgdgbaaGreat
set_option maxRecDepth 20000
open Go.ChangeShapes Go.WideShapes Go.ChangeAt Go.RowKit
set_option linter.unusedVariables false
set_option linter.unusedSimpArgs false
/-- A wheel's nine cells. -/
def wf (c : Wh) : Nat → Int := fun j => if j = 0 then c.s else c.r.up (j - 1)
abbrev wh (c : Wh) : Value := .agg (vec 9 (wf c))
def enc (c : Wh) : List Value := lst 9 (wf c)
def flat (ws : List Wh) : List Value := ws.flatMap enc
theorem enc_length (c : Wh) : (enc c).length = 9 := lst_length 9 _
theorem enc_one (c : Wh) : ∀ v ∈ enc c, v.oneCell' = true := lst_one 9 _
theorem flat_cons (c : Wh) (ws : List Wh) : flat (c :: ws) = enc c ++ flat ws := rfl
theorem flat_append (a b : List Wh) : flat (a ++ b) = flat a ++ flat b := by simp [flat]
theorem flat_one (c : Wh) : flat [c] = enc c := by simp [flat]
theorem flat_length : ∀ ws : List Wh, (flat ws).length = ws.length * 9
  | [] => rfl
  | c :: ws => by rw [flat_cons, List.length_append, enc_length, flat_length ws, List.length_cons]; omega
theorem flat_oneCell : ∀ ws : List Wh, ∀ v ∈ flat ws, v.oneCell' = true
  | [], v, h => by simp [flat] at h
  | c :: ws, v, h => by
    rw [flat_cons] at h
    rcases List.mem_append.1 h with h | h
    · exact enc_one c v h
    · exact flat_oneCell ws v h
theorem flat_at : ∀ {ws : List Wh} {i : Nat} {c : Wh}, ws[i]? = some c → ∀ j, j < 9 → (flat ws)[i * 9 + j]? = (enc c)[j]?
  | [], i, c, h, j, hj => by simp at h
  | d :: ws, 0, c, h, j, hj => by
    simp only [List.getElem?_cons_zero, Option.some.injEq] at h
    subst h
    rw [flat_cons, Nat.zero_mul, Nat.zero_add, List.getElem?_append_left (by rw [enc_length]; exact hj)]
  | d :: ws, i + 1, c, h, j, hj => by
    rw [List.getElem?_cons_succ] at h
    rw [flat_cons, List.getElem?_append_right (by rw [enc_length]; omega), enc_length, show (i + 1) * 9 + j - 9 = i * 9 + j from by omega]
    exact flat_at h j hj
theorem flat_take (ws : List Wh) (k : Nat) : flat (ws.take k) = (flat ws).take (k * 9) := by
  by_cases h : k ≤ ws.length
  · conv => rhs; rw [← List.take_append_drop k ws, flat_append]
    rw [List.take_left' (by rw [flat_length, List.length_take]; omega)]
  · rw [List.take_of_length_le (by omega), List.take_of_length_le (by rw [flat_length]; omega)]
theorem flat_drop (ws : List Wh) (k : Nat) : flat (ws.drop k) = (flat ws).drop (k * 9) := by
  by_cases h : k ≤ ws.length
  · conv => rhs; rw [← List.take_append_drop k ws, flat_append]
    rw [List.drop_left' (by rw [flat_length, List.length_take]; omega)]
  · rw [List.drop_of_length_le (by omega), List.drop_of_length_le (by rw [flat_length]; omega)]; rfl
theorem enc_at (c : Wh) (j : Nat) (h : j < 9) : (enc c)[j]? = some (.int .i64 (wf c j)) := by simp [enc, lst, h]

/-- A slice reads as a list of wheels. -/
def Reads (w : World) (v : Value) (ws : List Wh) : Prop :=
  ∃ (p : Option Addr) (cap : Nat), v = .slice p ws.length cap ∧ ws.length ≤ cap ∧ cap ≤ maxLen ∧ (p = none → cap = 0) ∧ (p ≠ none → ∃ g o, p = some ⟨g, o, none⟩ ∧ g < w.heap.size ∧ w.rangeAt g o (flat ws))
theorem range_below {w w' : World} {g o : Nat} {cs : List Value} (h : w.rangeAt g o cs) (hg : g < w.heap.size) (hb : Below w.heap.size w w') : w'.rangeAt g o cs := fun j v hv =>
  (World.cell?_of_block (hb.block g hg)).trans (h j v hv)
theorem Reads.below {w w' : World} {v : Value} {ws : List Wh} (h : Reads w v ws) (hb : Below w.heap.size w w') : Reads w' v ws := by
  obtain ⟨p, cap, h1, h2, h3, h4, h5⟩ := h
  refine ⟨p, cap, h1, h2, h3, h4, fun hn => ?_⟩
  obtain ⟨g, o, e, hg, hr⟩ := h5 hn
  exact ⟨g, o, e, Nat.lt_of_lt_of_le hg hb.size, range_below hr hg hb⟩
theorem range_part {w : World} {g o i : Nat} {ws : List Wh} {c : Wh} (h : w.rangeAt g o (flat ws)) (hi : ws[i]? = some c) : w.rangeAt g (o + i * 9) (enc c) := fun j v hv => by
  have hj : j < 9 := by
    rcases Nat.lt_or_ge j 9 with h | h
    · exact h
    · rw [List.getElem?_eq_none (by rw [enc_length]; exact h)] at hv; cases hv
  rw [Nat.add_assoc]
  exact h (i * 9 + j) v (by rw [flat_at hi j hj]; exact hv)
theorem range_radius {w : World} {g o : Nat} {c : Wh} (h : w.rangeAt g o (enc c)) : w.rangeAt g (o + 1) (lst 8 c.r.up) := fun j v hv => by
  have hj : j < 8 := by
    rcases Nat.lt_or_ge j 8 with h | h
    · exact h
    · rw [List.getElem?_eq_none (by rw [lst_length]; exact h)] at hv; cases hv
  have := h (1 + j) v (by rw [enc_at c _ (by omega), ← hv]; simp [lst, hj, wf])
  rwa [← Nat.add_assoc] at this
theorem range_speed {w : World} {g o : Nat} {c : Wh} (h : w.rangeAt g o (enc c)) : w.cell? ⟨g, o, none⟩ = some (.int .i64 c.s) := by
  have := h 0 _ (enc_at c 0 (by omega))
  simpa [wf] using this

/-- The list that is answered: none where it fails. -/
def only (b : Bool) (l : List Wh) : List Wh := if b then l else []
/-- A slice that the call has made holds a list of wheels. -/
abbrev Own (w : World) (B T : Nat) (v : Value) (ws : List Wh) : Prop := w.ownsRow B T 9 v ws.length (flat ws)
theorem own_reads {w : World} {B T : Nat} {v : Value} {ws : List Wh} (h : Own w B T v ws) : Reads w v ws := by
  rcases h.2 with ⟨rfl, h0⟩ | ⟨g, cap, cur, rfl, _, hg, h1, h2, h3, h4⟩
  · exact ⟨none, 0, by rw [h0], by omega, by simp [maxLen], fun _ => rfl, fun hn => absurd rfl hn⟩
  · refine ⟨_, cap, rfl, h1, h2, (fun hn => by cases hn), fun _ => ⟨g, 0, rfl, (Array.getElem?_eq_some_iff.1 hg).1, fun j u hu => ?_⟩⟩
    rw [Nat.zero_add, cell_of_row w g j cur T (0, 0) hg]
    rw [← h4, List.getElem?_take] at hu
    split at hu
    · simpa using hu
    · cases hu
theorem own_below {w w' : World} {B T : Nat} {v : Value} {ws : List Wh} (h : Own w B T v ws) (hb : Below w.heap.size w w') : Own w' B T v ws := by
  refine ⟨h.1, ?_⟩
  rcases h.2 with h0 | ⟨g, cap, cur, rfl, hB, hg, h1, h2, h3, h4⟩
  · exact .inl h0
  · exact .inr ⟨g, cap, cur, rfl, hB, (hb.block g (Array.getElem?_eq_some_iff.1 hg).1).trans hg, h1, h2, h3, h4⟩
theorem own_mono {w : World} {B B' T : Nat} {v : Value} {ws : List Wh} (h : Own w B T v ws) (hB : B' ≤ B) : Own w B' T v ws := by
  refine ⟨h.1, ?_⟩
  rcases h.2 with h0 | ⟨g, cap, cur, rfl, hg0, hg, h1, h2, h3, h4⟩
  · exact .inl h0
  · exact .inr ⟨g, cap, cur, rfl, Nat.le_trans hB hg0, hg, h1, h2, h3, h4⟩
theorem below_grown {B : Nat} {a w w' : World} {row : Option Nat} (h : Below B a w) (hg : w.grownBy w' row) (hB : B ≤ w.heap.size) (hrow : ∀ k, row = some k → B ≤ k) : Below B a w' :=
  h.grown hg hB hrow
theorem own_block {w : World} {B T : Nat} {v : Value} {ws : List Wh} (h : Own w B T v ws) : ∀ k, v.ownBlock = some k → B ≤ k := fun k hk => (h.lt k hk).1

section
variable {P : Program}
/-- Appending what a slice reads to what the call owns. -/
theorem run_append_list (w : World) (B : Nat) (t ty e : TypeId) (i : TypeInfo) (z : Value) (bytes : Nat) (ht : P.underlying t = some (.slice e)) (hi : P.info? e = some i) (hz : i.zero = some z)
    (hsize : i.size = 9) (hby : i.bytes = bytes) (hzs : z.cells.size = 9) (hb72 : bytes ≤ 72) (v x : Value) (xs ys : List Wh) (hown : Own w B e v xs) (hx : Reads w x ys) (hlen : xs.length + ys.length ≤ 1000000000000) (hB : B ≤ w.heap.size) :
    ∃ v' w', (Builtin.append_ #[t, t] ty #[v, x]).run P w = .ok v' w' ∧ Own w' B e v' (xs ++ ys) ∧ w.grownBy w' v.ownBlock := by
  obtain ⟨p, cap, rfl, h1, h2, h3, h4⟩ := hx
  by_cases hp : p = none
  · subst hp
    have hc := h3 rfl
    have : ys = [] := List.length_eq_zero_iff.1 (by omega)
    subst this
    subst hc
    refine ⟨v, w, run_append_owned_none (P := P) w B t ty e i 9 ht hi v xs.length (flat xs) hown, by rw [List.append_nil]; exact hown, World.grownBy.refl w _⟩
  · obtain ⟨g, o, rfl, hg, hr⟩ := h4 hp
    have hby' : (xs.length + ys.length) * bytes ≤ 140737488355328 := by
      have := Nat.mul_le_mul hlen hb72
      omega
    obtain ⟨v', w', hr1, ho, hgr, _⟩ := run_append_own (P := P) w B t ty e i z 9 bytes ht hi hz hsize hby hzs (by omega) v xs.length (flat xs) hown ⟨g, o, none⟩ ys.length cap (flat ys) (flat_length ys)
      (fun j u hu => by rw [Addr.add_mid]; exact hr j u hu) (flat_oneCell ys) (by simp only [maxLen]; omega) hby' hB
    refine ⟨v', w', hr1, ?_, hgr⟩
    show w'.ownsRow B e 9 v' (xs ++ ys).length (flat (xs ++ ys))
    rw [List.length_append, flat_append]
    exact ho
/-- One of the call's own elements lies where its index says. -/
theorem reads_lit (w : World) (c : Wh) (T : Nat) : Reads (w.alloc (.cells (vec 9 (wf c)) T)) (.slice (some ⟨w.heap.size, 0, none⟩) 1 1) [c] := by
  refine ⟨_, 1, rfl, Nat.le_refl _, by simp [maxLen], (fun h => by cases h), fun _ => ⟨_, _, rfl, by simp, fun j v hv => ?_⟩⟩
  rw [Nat.zero_add, cell_of_row _ _ _ _ _ _ (heap_alloc_new w _)]
  rw [flat_one] at hv
  simpa [vec, enc] using hv
end
/-- A type of slices whose elements have nine cells of numbers. -/
structure Ty9 (P : Program) (t e : TypeId) : Prop where
  sl : P.underlying t = some (.slice e)
  inf : ∃ i z, P.info? e = some i ∧ i.zero = some z ∧ i.size = 9 ∧ i.bytes ≤ 72 ∧ z.cells.size = 9
theorem ty9_of {P : Program} {t e : TypeId} {z : Value} {b : Nat} (h1 : P.underlying t = some (.slice e)) (h2 : (P.info? e).map (fun i => (i.zero, i.size, i.bytes)) = some (some z, 9, b)) (hb : b ≤ 72) (hz : z.cells.size = 9) : Ty9 P t e := by
  obtain ⟨i, hi, e1, e2, e3⟩ := info_parts h2
  exact ⟨h1, i, z, hi, e1, e2, by omega, hz⟩
section
variable {P : Program} {t e : TypeId} {ops : Array Oper} {rest : List Oper} {o : Oper} {a : Act} {Q : Exit → Act → World → Prop} {w0 w : World} {B : Nat}
theorem wp_append_list {K : Act → World → Prop} (ty : Ty9 P t e) {s x : Operand} (hop : o.op = .call { callee := .builtin .append, args := #[s, x], argTypes := #[t, t] })
    {v x' : Value} {xs ys : List Wh} (hs : a.eval s = v) (hx : a.eval x = x') (hown : Own w B e v xs) (hr : Reads w x' ys) (hlen : xs.length + ys.length ≤ 1000000000000) (hb : Below B w0 w) (hB : B ≤ w.heap.size)
    (h : ∀ v' w', Own w' B e v' (xs ++ ys) → Below B w0 w' → B ≤ w'.heap.size → K (a.put o.dst v') w') : o.wp P a w K Q := by
  obtain ⟨i, z, hi, hz, hsz, hby, hzs⟩ := ty.inf
  obtain ⟨v', w', hr1, ho, hg⟩ := run_append_list (P := P) w B t o.type e i z i.bytes ty.sl hi hz hsz rfl hzs hby v x' xs ys hown hr hlen hB
  unfold Oper.wp execOp
  simp only [hop, resolve, invoke, builtin, Sem.run_bind, Sem.run_pure, Result.andThen_ok, List.map_toArray, List.map_cons, List.map_nil, hs, hx, hr1]
  exact h v' w' ho (below_grown hb hg hB (own_block hown)) (Nat.le_trans hB hg.size)
/-- Appending in a plain region. -/
theorem append9 (ty : Ty9 P t e) (hgd : o.guard = none) {s x : Operand} (hop : o.op = .call { callee := .builtin .append, args := #[s, x], argTypes := #[t, t] })
    {v x' : Value} {xs ys : List Wh} (hs : a.eval s = v) (hx : a.eval x = x') (hown : Own w B e v xs) (hr : Reads w x' ys) (hlen : xs.length + ys.length ≤ 1000000000000) (hb : Below B w0 w) (hB : B ≤ w.heap.size)
    (h : ∀ v' w', Own w' B e v' (xs ++ ys) → Below B w0 w' → B ≤ w'.heap.size → wpList P ops Q rest (a.put o.dst v') w') : wpList P ops Q (o :: rest) a w :=
  wpList_plain hgd fun _ hK => wp_append_list ty hop hs hx hown hr hlen hb hB fun v' w' h1 h2 h3 => hK _ _ (h v' w' h1 h2 h3)
/-- Reading the element of a list, whole or its radius. -/
theorem load_wheel {T : TypeId} {d : TypeDesc} {g p : Nat} {c : Wh} (hgd : o.guard = none) {x : Operand} (ho : o.op = .load T x) (hx : a.eval x = .pointer (some ⟨g, p, none⟩)) (hr : w.rangeAt g p (enc c))
    (hu : P.underlying T = some d) (hd : d.isRow = true) (hi : (P.info? T).map (·.size) = some 9)
    (h : wpList P ops Q rest (a.put o.dst (wh c)) w) : wpList P ops Q (o :: rest) a w :=
  wpList_load_mid hgd T x ho g p hx (enc c) d hr hu hd (by rw [enc_length]; exact hi) h
theorem load_part {T : TypeId} {d : TypeDesc} {g p : Nat} {f : Nat → Int} (hgd : o.guard = none) {x : Operand} (ho : o.op = .load T x) (hx : a.eval x = .pointer (some ⟨g, p, none⟩)) (hr : w.rangeAt g p (lst 8 f))
    (hu : P.underlying T = some d) (hd : d.isRow = true) (hi : (P.info? T).map (·.size) = some 8)
    (h : wpList P ops Q rest (a.put o.dst (pt f)) w) : wpList P ops Q (o :: rest) a w :=
  wpList_load_mid hgd T x ho g p hx (lst 8 f) d hr hu hd (by rw [lst_length]; exact hi) h
/-- A list of one wheel, made on the spot. -/
theorem fill_one (g : Nat → Value) (f : Nat → Int) : Instr.fill (fun i => some (i * 9, 9)) ((Array.range (1 * 9)).map g) [(0, .agg (vec 9 f))] = some (vec 9 f) := by
  have h1 : (Array.range (1 * 9)).map g = #[g 0, g 1, g 2, g 3, g 4, g 5, g 6, g 7, g 8] := by
    refine Array.ext (by simp) fun i h1 h2 => ?_
    simp only [Nat.one_mul, Array.size_map, Array.size_range] at h1
    have : i = 0 ∨ i = 1 ∨ i = 2 ∨ i = 3 ∨ i = 4 ∨ i = 5 ∨ i = 6 ∨ i = 7 ∨ i = 8 := by omega
    rcases this with rfl | rfl | rfl | rfl | rfl | rfl | rfl | rfl | rfl <;> simp
  have h2 : vec 9 f = #[.int .i64 (f 0), .int .i64 (f 1), .int .i64 (f 2), .int .i64 (f 3), .int .i64 (f 4), .int .i64 (f 5), .int .i64 (f 6), .int .i64 (f 7), .int .i64 (f 8)] := rfl
  rw [h1, h2]
  simp [Instr.fill, Value.cells]
theorem run_one (ty : Ty9 P t e) (f : Nat → Int) (w : World) : (Instr.buildSlice t 1 #[(0, .agg (vec 9 f))]).run P w = .ok (.slice (some ⟨w.heap.size, 0, none⟩) 1 1) (w.alloc (.cells (vec 9 f) e)) := by
  obtain ⟨i, z, hi, hz, hs, hby, hzs⟩ := ty.inf
  have hf := fill_one (fun x => z.cells[x % z.cells.size]!) f
  simp [Instr.buildSlice, run_underlying ty.sl, sizeOf, typeInfo, zeroValue, hi, hz, hs, Sem.run_bind]
  rw [Nat.one_mul] at hf
  simp [hf, newRow]
theorem one9 (ty : Ty9 P t e) {x : Operand} {f : Nat → Int} (hgd : o.guard = none) (ho : o.op = .buildSlice t 1 #[(0, x)]) (hx : a.eval x = .agg (vec 9 f))
    (h : wpList P ops Q rest (a.put o.dst (.slice (some ⟨w.heap.size, 0, none⟩) 1 1)) (w.alloc (.cells (vec 9 f) e))) : wpList P ops Q (o :: rest) a w := by
  refine wpList_plain hgd fun K hK => ?_
  unfold Oper.wp execOp
  simp [ho, hx, Sem.run_bind, run_one ty f w, Result.andThen]
  exact hK _ _ h
/-- Building a wheel. -/
theorem build_wheel {T : TypeId} {x y : Operand} {s : Int} {f : Nat → Int} (hgd : o.guard = none) (ho : o.op = .build T #[(0, x), (1, y)]) (hx : a.eval x = .int .i64 s) (hy : a.eval y = pt f)
    (hbu : ∀ (s : Int) (f : Nat → Int), P.built T [(0, .int .i64 s), (1, .agg (vec 8 f))] = some (vec 9 (fun j => if j = 0 then s else f (j - 1))))
    (h : wpList P ops Q rest (a.put o.dst (wh ⟨s, dn f⟩)) w) : wpList P ops Q (o :: rest) a w := by
  have e : (#[(0, x), (1, y)].map fun (p : Nat × Operand) => (p.1, a.eval p.2)).toList = [(0, .int .i64 s), (1, .agg (vec 8 f))] := by simp [hx, hy, pt]
  have e2 : vec 9 (fun j => if j = 0 then s else f (j - 1)) = vec 9 (wf ⟨s, dn f⟩) := vec_same fun j hj => by
    by_cases h0 : j = 0
    · simp [wf, h0]
    · simp only [wf, h0, if_false]; exact (up_dn f (j - 1) (by omega)).symm
  refine wpList_build hgd T _ ho ?_ ?_
  · show (P.built T (#[(0, x), (1, y)].map fun (p : Nat × Operand) => (p.1, a.eval p.2)).toList).isSome = true
    rw [e, hbu]; rfl
  · show wpList P ops Q rest (a.put o.dst (.agg ((P.built T (#[(0, x), (1, y)].map fun (p : Nat × Operand) => (p.1, a.eval p.2)).toList).getD #[]))) w
    rw [e, hbu, e2]; exact h
/-- Storing over a row that is just made. -/
theorem store_new {ty T : TypeId} {n : Nat} {f f' : Nat → Int} {cs : Array Value} {w : World} (hgd : o.guard = none) {x y : Operand} (ho : o.op = .store ty x y) (hx : a.eval x = .pointer (some ⟨w.heap.size, 0, none⟩)) (hy : a.eval y = .agg (vec n f'))
    (hcs : cs = vec n f) (hi : (P.info? ty).map (·.size) = some n) (h : wpList P ops Q rest (a.put o.dst undef) (w.alloc (.cells (vec n f') T))) : wpList P ops Q (o :: rest) a (w.alloc (.cells cs T)) := by
  subst hcs
  refine store_row hgd ho hx hy (RowAt.new w n T f) hi ?_
  rw [World.setRow_alloc_new]
  exact h
end
/-- A wheel's own row. -/
theorem row_wheel {w : World} {g : Nat} {T : TypeId} {c : Wh} (h : RowAt w g 9 T (wf c)) : w.rangeAt g 0 (enc c) := h.range
theorem row_radius {w : World} {g : Nat} {T : TypeId} {c : Wh} (h : RowAt w g 9 T (wf c)) : w.rangeAt g 1 (lst 8 c.r.up) := range_radius (row_wheel h)
theorem row_speed {w : World} {g : Nat} {T : TypeId} {c : Wh} (h : RowAt w g 9 T (wf c)) : w.cell? ⟨g, 0, none⟩ = some (.int .i64 c.s) := range_speed (row_wheel h)
end Go.Proofs.YtdpakhggpgdgbaaGreat
/- Out of the text WheelA: what the draws of polygons need. -/
namespace Go.Proofs.YtdpakhggpgdgbaaGreat
set_option maxRecDepth 20000
open Go.ChangeShapes Go.WideShapes Go.ChangeAt Go.RowKit
set_option linter.unusedVariables false
set_option linter.unusedSimpArgs false
theorem info_wheel : (Tryz.prog.info? 110).map (·.size) = some 9 := by kernel_rfl
theorem tyW : Ty9 Tryz.prog 75 110 := ty9_of (z := .agg (vec 9 nul)) (b := 72) Tryz.underlying75 (by kernel_rfl) (by omega) rfl
theorem built_wheel (s : Int) (f : Nat → Int) : Tryz.prog.built 110 [(0, .int .i64 s), (1, .agg (vec 8 f))] = some (vec 9 (fun j => if j = 0 then s else f (j - 1))) := by kernel_rfl
theorem valid_long {ws : List Wh} (h : 12 < ws.length) : valid ws = false := by unfold valid; rw [decide_eq_false (by omega)]; rfl
theorem all_take {ws : List Wh} {k : Nat} {c : Wh} (h : (ws.take k).all wOk = true) (hc : ws[k]? = some c) (hk : wOk c = true) : (ws.take (k + 1)).all wOk = true := by
  rw [List.take_add_one, hc, List.all_append, h]; simp [hk]
theorem take_next {ws : List Wh} {k : Nat} {c : Wh} (hc : ws[k]? = some c) : ws.take (k + 1) = ws.take k ++ [c] := by rw [List.take_add_one, hc]; rfl
theorem valid_bad {ws : List Wh} {k : Nat} {c : Wh} (hc : ws[k]? = some c) (hk : wOk c = false) : valid ws = false := by
  unfold valid
  rw [List.all_eq_false.2 ⟨c, List.mem_of_getElem? hc, by rw [hk]; decide⟩, Bool.and_false]

end Go.Proofs.YtdpakhggpgdgbaaGreat
