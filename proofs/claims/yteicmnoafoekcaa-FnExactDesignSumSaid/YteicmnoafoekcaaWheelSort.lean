/-
  Sorting wheels: rotations, merges, insertions (no program). What is kept: the radii of each speed, in order.
-/
import Derived.Test.YteicmnoafoekcaaWheelMath
import Derived.Sort.LotA
namespace Go.Proofs.Yteicmnoafoekcaa
set_option maxRecDepth 20000
set_option linter.unusedVariables false
set_option linter.unusedSimpArgs false
open Go.Sort

instance : Inhabited Wh := ⟨⟨0, V.zero⟩⟩

/-- A piece of a row. -/
def seg (d : Array Wh) (lo len : Nat) : List Wh := (List.range' lo len).map fun i => d[i]!
theorem seg_split (d : Array Wh) (lo m n : Nat) : seg d lo (m + n) = seg d lo m ++ seg d (lo + m) n := by
  unfold seg
  rw [← List.map_append, List.range'_append_1]
theorem seg_same {d d' : Array Wh} {lo lo' len : Nat} (h : ∀ i, i < len → d'[lo' + i]! = d[lo + i]!) : seg d' lo' len = seg d lo len := by
  unfold seg
  rw [List.range'_eq_map_range, List.range'_eq_map_range, List.map_map, List.map_map]
  refine List.map_congr_left fun i hi => ?_
  simpa using h i (by simpa using hi)
theorem seg_all (d : Array Wh) : seg d 0 d.size = d.toList := by
  unfold seg
  refine List.ext_getElem (by simp) fun i h1 h2 => ?_
  have h3 : i < d.size := by simpa using h2
  simp [h3]
theorem mem_seg {d : Array Wh} {lo len : Nat} {c : Wh} (h : c ∈ seg d lo len) : ∃ i, lo ≤ i ∧ i < lo + len ∧ c = d[i]! := by
  unfold seg at h
  obtain ⟨i, hi, rfl⟩ := List.mem_map.1 h
  have := List.mem_range'_1.1 hi
  exact ⟨i, this.1, this.2, rfl⟩
theorem pre_append (s : Int) (x y : List Wh) : pre s (x ++ y) = pre s x ++ pre s y := by simp [pre]
theorem pre_none {s : Int} {l : List Wh} (h : ∀ c ∈ l, c.s ≠ s) : pre s l = [] := by
  unfold pre
  rw [List.filter_eq_nil_iff.2 (fun c hc => by simpa using h c hc)]; rfl

/-- Each speed keeps its radii in order. -/
def Keeps (d d' : Array Wh) : Prop := d'.size = d.size ∧ ∀ s, pre s d'.toList = pre s d.toList
theorem Keeps.refl (d : Array Wh) : Keeps d d := ⟨rfl, fun _ => rfl⟩
theorem Keeps.trans {a b c : Array Wh} (h : Keeps a b) (k : Keeps b c) : Keeps a c := ⟨k.1.trans h.1, fun s => (k.2 s).trans (h.2 s)⟩

/-- The pieces from a to m and from m to b exchanged. -/
structure Rot (d d' : Array Wh) (a m b : Nat) : Prop where
  size : d'.size = d.size
  low : ∀ i, i < a → d'[i]! = d[i]!
  left : ∀ i, i < b - m → d'[a + i]! = d[m + i]!
  right : ∀ i, i < m - a → d'[a + (b - m) + i]! = d[a + i]!
  high : ∀ i, b ≤ i → d'[i]! = d[i]!
theorem Rot.keeps {d d' : Array Wh} {a m b : Nat} (h : Rot d d' a m b) (ham : a ≤ m) (hmb : m ≤ b) (hb : b ≤ d.size)
    (hs : ∀ i j, a ≤ i → i < m → m ≤ j → j < b → d[j]!.s < d[i]!.s) : Keeps d d' := by
  refine ⟨h.size, fun s => ?_⟩
  have e1 : d.toList = seg d 0 a ++ (seg d a (m - a) ++ (seg d m (b - m) ++ seg d b (d.size - b))) := by
    rw [← seg_all, show d.size = a + ((m - a) + ((b - m) + (d.size - b))) from by omega, seg_split, seg_split, seg_split, Nat.zero_add,
      show a + (m - a) = m from by omega, show m + (b - m) = b from by omega, show a + ((m - a) + ((b - m) + (d.size - b))) = d.size from by omega]
  have e2 : d'.toList = seg d' 0 a ++ (seg d' a (b - m) ++ (seg d' (a + (b - m)) (m - a) ++ seg d' b (d.size - b))) := by
    rw [← seg_all, h.size, show d.size = a + ((b - m) + ((m - a) + (d.size - b))) from by omega, seg_split, seg_split, seg_split, Nat.zero_add,
      show a + (b - m) + (m - a) = b from by omega, show a + ((b - m) + ((m - a) + (d.size - b))) = d.size from by omega]
  rw [e1, e2, seg_same (d := d) (d' := d') (lo := 0) (lo' := 0) (fun i hi => by simpa using h.low i hi), seg_same (d := d) (lo := m) h.left, seg_same (d := d) (lo := a) h.right,
    seg_same (d := d) (d' := d') (lo := b) (lo' := b) (fun i hi => h.high _ (by omega))]
  simp only [pre_append]
  rw [← List.append_assoc (pre s (seg d m (b - m))), ← List.append_assoc (pre s (seg d a (m - a)))]
  congr 2
  by_cases hx : ∃ i, a ≤ i ∧ i < m ∧ d[i]!.s = s
  · obtain ⟨i, h1, h2, h3⟩ := hx
    rw [pre_none (l := seg d m (b - m)) (fun c hc => by
      obtain ⟨j, j1, j2, rfl⟩ := mem_seg hc
      have := hs i j h1 h2 j1 (by omega)
      omega)]
    simp
  · rw [pre_none (l := seg d a (m - a)) (fun c hc e => by
      obtain ⟨j, j1, j2, rfl⟩ := mem_seg hc
      exact hx ⟨j, j1, by omega, e⟩)]
    simp

/-- Speeds ascend from a to b. -/
def Up (d : Array Wh) (a b : Nat) : Prop := ∀ i j, a ≤ i → i ≤ j → j < b → d[i]!.s ≤ d[j]!.s
/-- What a merge or a sort of a piece does. -/
structure Merged (d d' : Array Wh) (a b : Nat) : Prop where
  keeps : Keeps d d'
  up : Up d' a b
  out : ∀ i, (i < a ∨ b ≤ i) → d'[i]! = d[i]!
  inn : ∀ i, a ≤ i → i < b → ∃ j, a ≤ j ∧ j < b ∧ d'[i]! = d[j]!
theorem Merged.same {d : Array Wh} {a b : Nat} (h : Up d a b) : Merged d d a b := ⟨Keeps.refl d, h, fun _ _ => rfl, fun i h1 h2 => ⟨i, h1, h2, rfl⟩⟩

/-- The middle step of a merge. -/
theorem merge_mid {d d1 d2 d3 : Array Wh} {a m b mid s : Nat} (ham : a ≤ m) (hmb : m ≤ b) (hb : b ≤ d.size) (hmid : a ≤ mid ∧ mid ≤ b) (U1 : Up d a m) (U2 : Up d m b)
    (hs : a ≤ s ∧ s ≤ m ∧ s ≤ mid ∧ mid + m - s ≤ b)
    (F1 : ∀ i j, s ≤ i → i < m → m ≤ j → j < mid + m - s → d[j]!.s < d[i]!.s) (F2 : ∀ i j, a ≤ i → i < s → mid + m - s ≤ j → j < b → d[i]!.s ≤ d[j]!.s)
    (hr : Rot d d1 s m (mid + m - s)) :
    Up d1 a s ∧ Up d1 s mid ∧ Up d1 mid (mid + m - s) ∧ Up d1 (mid + m - s) b ∧
    (Merged d1 d2 a mid → (Up d2 mid (mid + m - s) ∧ Up d2 (mid + m - s) b ∧ ((s ≤ a ∨ mid ≤ s) → Up d1 a mid) ∧
      ((mid + m - s ≤ mid ∨ b ≤ mid + m - s) → Up d2 mid b) ∧ (Merged d2 d3 mid b → Merged d d3 a b))) := by
  obtain ⟨s1, s2, s3, s4⟩ := hs
  -- what d1 holds where
  have p1 : ∀ i, i < s → d1[i]! = d[i]! := hr.low
  have p2 : ∀ i, s ≤ i → i < mid → d1[i]! = d[m + (i - s)]! := fun i h1 h2 => by
    have := hr.left (i - s) (by omega)
    rwa [show s + (i - s) = i from by omega] at this
  have p3 : ∀ i, mid ≤ i → i < mid + m - s → d1[i]! = d[s + (i - mid)]! := fun i h1 h2 => by
    have := hr.right (i - mid) (by omega)
    rwa [show s + (mid + m - s - m) + (i - mid) = i from by omega] at this
  have p4 : ∀ i, mid + m - s ≤ i → d1[i]! = d[i]! := hr.high
  have A1 : Up d1 a s := fun i j h1 h2 h3 => by rw [p1 i (by omega), p1 j h3]; exact U1 i j h1 h2 (by omega)
  have A2 : Up d1 s mid := fun i j h1 h2 h3 => by rw [p2 i h1 (by omega), p2 j (by omega) h3]; exact U2 _ _ (by omega) (by omega) (by omega)
  have A3 : Up d1 mid (mid + m - s) := fun i j h1 h2 h3 => by rw [p3 i h1 (by omega), p3 j (by omega) h3]; exact U1 _ _ (by omega) (by omega) (by omega)
  have A4 : Up d1 (mid + m - s) b := fun i j h1 h2 h3 => by rw [p4 i h1, p4 j (by omega)]; exact U2 _ _ (by omega) h2 h3
  have X : ∀ i j, a ≤ i → i < mid → mid ≤ j → j < b → d1[i]!.s ≤ d1[j]!.s := fun i j h1 h2 h3 h4 => by
    by_cases hi : i < s
    · rw [p1 i hi]
      by_cases hj : j < mid + m - s
      · rw [p3 j h3 hj]; exact U1 _ _ h1 (by omega) (by omega)
      · rw [p4 j (by omega)]; exact F2 i j h1 hi (by omega) h4
    · rw [p2 i (by omega) h2]
      by_cases hj : j < mid + m - s
      · rw [p3 j h3 hj]
        have := F1 (s + (j - mid)) (m + (i - s)) (by omega) (by omega) (by omega) (by omega)
        omega
      · rw [p4 j (by omega)]; exact U2 _ _ (by omega) (by omega) h4
  refine ⟨A1, A2, A3, A4, fun M => ?_⟩
  have q : ∀ i, mid ≤ i → d2[i]! = d1[i]! := fun i hi => M.out i (.inr hi)
  have B3 : Up d2 mid (mid + m - s) := fun i j h1 h2 h3 => by rw [q i h1, q j (by omega)]; exact A3 i j h1 h2 h3
  have B4 : Up d2 (mid + m - s) b := fun i j h1 h2 h3 => by rw [q i (by omega), q j (by omega)]; exact A4 i j h1 h2 h3
  refine ⟨B3, B4, fun h => ?_, fun h => ?_, fun N => ?_⟩
  · rcases h with h | h
    · exact fun i j h1 h2 h3 => A2 i j (by omega) h2 h3
    · exact fun i j h1 h2 h3 => A1 i j h1 h2 (by omega)
  · rcases h with h | h
    · exact fun i j h1 h2 h3 => B4 i j (by omega) h2 h3
    · exact fun i j h1 h2 h3 => B3 i j h1 h2 (by omega)
  · refine ⟨((hr.keeps s2 (by omega) (by omega) F1).trans M.keeps).trans N.keeps, fun i j h1 h2 h3 => ?_, fun i hi => ?_, fun i h1 h2 => ?_⟩
    · by_cases hi : i < mid
      · by_cases hj : j < mid
        · rw [N.out i (.inl hi), N.out j (.inl hj)]; exact M.up i j h1 h2 hj
        · obtain ⟨j', e1, e2, e3⟩ := N.inn j (by omega) h3
          obtain ⟨i', f1, f2, f3⟩ := M.inn i h1 hi
          rw [N.out i (.inl hi), f3, e3, q j' e1]
          exact X i' j' f1 f2 e1 e2
      · exact N.up i j (by omega) h2 h3
    · rw [N.out i (by omega), M.out i (by omega)]
      rcases hi with h | h
      · exact p1 i (by omega)
      · exact p4 i (by omega)
    · have back : ∀ x, a ≤ x → x < b → ∃ j, a ≤ j ∧ j < b ∧ d1[x]! = d[j]! := fun x x1 x2 => by
        by_cases h : x < s
        · exact ⟨x, x1, x2, p1 x h⟩
        · by_cases h' : x < mid
          · exact ⟨_, by omega, by omega, p2 x (by omega) h'⟩
          · by_cases h'' : x < mid + m - s
            · exact ⟨_, by omega, by omega, p3 x (by omega) h''⟩
            · exact ⟨x, x1, x2, p4 x (by omega)⟩
      by_cases hi : i < mid
      · obtain ⟨j, e1, e2, e3⟩ := M.inn i h1 hi
        obtain ⟨k, k1, k2, k3⟩ := back j e1 (by omega)
        exact ⟨k, k1, k2, by rw [N.out i (.inl hi), e3, k3]⟩
      · obtain ⟨j, e1, e2, e3⟩ := N.inn i (by omega) h2
        obtain ⟨k, k1, k2, k3⟩ := back j (by omega) e2
        exact ⟨k, k1, k2, by rw [e3, q j e1, k3]⟩

/-- One element moved up to its place. -/
theorem merge_first {d d' : Array Wh} {a i b : Nat} (hai : a + 1 ≤ i) (hib : i ≤ b) (hb : b ≤ d.size) (U2 : Up d (a + 1) b)
    (F1 : ∀ j, a + 1 ≤ j → j < i → d[j]!.s < d[a]!.s) (F2 : ∀ j, i ≤ j → j < b → d[a]!.s ≤ d[j]!.s) (hr : Rot d d' a (a + 1) i) : Merged d d' a b := by
  have p2 : ∀ x, a ≤ x → x < i - 1 → d'[x]! = d[x + 1]! := fun x h1 h2 => by
    have := hr.left (x - a) (by omega)
    rwa [show a + (x - a) = x from by omega, show a + 1 + (x - a) = x + 1 from by omega] at this
  have p3 : d'[i - 1]! = d[a]! := by
    have := hr.right 0 (by omega)
    rwa [show a + (i - (a + 1)) + 0 = i - 1 from by omega] at this
  have p4 := hr.high
  refine ⟨hr.keeps (by omega) (by omega) (by omega) (fun x y h1 h2 h3 h4 => ?_), fun x y h1 h2 h3 => ?_, fun x hx => ?_, fun x h1 h2 => ?_⟩
  · obtain rfl : x = a := by omega
    exact F1 y h3 h4
  · by_cases hx : x < i - 1
    · rw [p2 x h1 hx]
      by_cases hy : y < i - 1
      · rw [p2 y (by omega) hy]; exact U2 _ _ (by omega) (by omega) (by omega)
      · by_cases hy' : y = i - 1
        · rw [hy', p3]; exact Int.le_of_lt (F1 _ (by omega) (by omega))
        · rw [p4 y (by omega)]; exact U2 _ _ (by omega) (by omega) h3
    · by_cases hx' : x = i - 1
      · rw [hx', p3]
        by_cases hy' : y = i - 1
        · rw [hy', p3]; exact Int.le_refl _
        · rw [p4 y (by omega)]; exact F2 y (by omega) h3
      · rw [p4 x (by omega), p4 y (by omega)]; exact U2 _ _ (by omega) h2 h3
  · rcases hx with h | h
    · exact hr.low x h
    · exact p4 x (by omega)
  · by_cases hx : x < i - 1
    · exact ⟨x + 1, by omega, by omega, p2 x h1 hx⟩
    · by_cases hx' : x = i - 1
      · exact ⟨a, by omega, by omega, by rw [hx', p3]⟩
      · exact ⟨x, h1, h2, p4 x (by omega)⟩
/-- One element moved down to its place. -/
theorem merge_last {d d' : Array Wh} {a i m : Nat} (hai : a ≤ i) (him : i ≤ m) (hb : m + 1 ≤ d.size) (U1 : Up d a m)
    (F1 : ∀ j, i ≤ j → j < m → d[m]!.s < d[j]!.s) (F2 : ∀ j, a ≤ j → j < i → d[j]!.s ≤ d[m]!.s) (hr : Rot d d' i m (m + 1)) : Merged d d' a (m + 1) := by
  have p1 := hr.low
  have p2 : d'[i]! = d[m]! := by
    have := hr.left 0 (by omega)
    simpa using this
  have p3 : ∀ x, i < x → x ≤ m → d'[x]! = d[x - 1]! := fun x h1 h2 => by
    have := hr.right (x - 1 - i) (by omega)
    rwa [show i + (m + 1 - m) + (x - 1 - i) = x from by omega, show i + (x - 1 - i) = x - 1 from by omega] at this
  have p4 := hr.high
  refine ⟨hr.keeps (by omega) (by omega) (by omega) (fun x y h1 h2 h3 h4 => ?_), fun x y h1 h2 h3 => ?_, fun x hx => ?_, fun x h1 h2 => ?_⟩
  · obtain rfl : y = m := by omega
    exact F1 x h1 h2
  · by_cases hx : x < i
    · rw [p1 x hx]
      by_cases hy : y < i
      · rw [p1 y hy]; exact U1 _ _ h1 h2 (by omega)
      · by_cases hy' : y = i
        · rw [hy', p2]; exact F2 x h1 hx
        · rw [p3 y (by omega) (by omega)]; exact U1 _ _ h1 (by omega) (by omega)
    · by_cases hx' : x = i
      · rw [hx', p2]
        by_cases hy' : y = i
        · rw [hy', p2]; exact Int.le_refl _
        · rw [p3 y (by omega) (by omega)]; exact Int.le_of_lt (F1 _ (by omega) (by omega))
      · rw [p3 x (by omega) (by omega), p3 y (by omega) (by omega)]; exact U1 _ _ (by omega) (by omega) (by omega)
  · rcases hx with h | h
    · exact p1 x (by omega)
    · exact p4 x (by omega)
  · by_cases hx : x < i
    · exact ⟨x, h1, h2, p1 x hx⟩
    · by_cases hx' : x = i
      · exact ⟨m, by omega, by omega, by rw [hx', p2]⟩
      · exact ⟨x - 1, by omega, by omega, p3 x (by omega) (by omega)⟩
theorem Rot.first (d : Array Wh) (a : Nat) : Rot d d a (a + 1) (a + 1) := ⟨rfl, fun _ _ => rfl, fun i h => by omega, fun i h => by simp, fun _ _ => rfl⟩
theorem Rot.last (d : Array Wh) (m : Nat) : Rot d d m m (m + 1) := ⟨rfl, fun _ _ => rfl, fun i h => rfl, fun i h => by omega, fun _ _ => rfl⟩
theorem swp_at (d : Array Wh) {i j : Nat} (hi : i < d.size) (hj : j < d.size) (hij : i ≠ j) (k : Nat) : (swp d i j)[k]! = if k = i then d[j]! else if k = j then d[i]! else d[k]! := by
  by_cases h1 : k = i
  · rw [if_pos h1, h1, swp_left d i j hi hij]
  · by_cases h2 : k = j
    · rw [if_neg h1, if_pos h2, h2, swp_right d i j hj]
    · rw [if_neg h1, if_neg h2, swp_other d i j k h1 h2]
theorem Rot.firstStep {d dk : Array Wh} {a k : Nat} (h : Rot d dk a (a + 1) (k + 1)) (hak : a ≤ k) (hk : k + 1 < d.size) : Rot d (swp dk k (k + 1)) a (a + 1) (k + 2) := by
  have hs := h.size
  have sw := swp_at dk (i := k) (j := k + 1) (by omega) (by omega) (by omega)
  have r0 := h.right 0 (by omega)
  rw [show a + (k + 1 - (a + 1)) + 0 = k from by omega, Nat.add_zero] at r0
  refine ⟨by rw [size_swp]; exact hs, fun i hi => ?_, fun i hi => ?_, fun i hi => ?_, fun i hi => ?_⟩
  · rw [sw, if_neg (by omega), if_neg (by omega)]; exact h.low i hi
  · rw [sw]
    by_cases e : a + i = k
    · rw [if_pos e, h.high _ (by omega), show k + 1 = a + 1 + i from by omega]
    · rw [if_neg e, if_neg (by omega)]; exact h.left i (by omega)
  · obtain rfl : i = 0 := by omega
    rw [sw, if_neg (by omega), if_pos (by omega), r0, Nat.add_zero]
  · rw [sw, if_neg (by omega), if_neg (by omega)]; exact h.high i (by omega)
theorem Rot.lastStep {d dk : Array Wh} {k m : Nat} (h : Rot d dk (k + 1) m (m + 1)) (hkm : k + 1 ≤ m) (hm : m < d.size) : Rot d (swp dk (k + 1) k) k m (m + 1) := by
  have hs := h.size
  have sw := swp_at dk (i := k + 1) (j := k) (by omega) (by omega) (by omega)
  have l0 := h.left 0 (by omega)
  rw [Nat.add_zero, Nat.add_zero] at l0
  refine ⟨by rw [size_swp]; exact hs, fun i hi => ?_, fun i hi => ?_, fun i hi => ?_, fun i hi => ?_⟩
  · rw [sw, if_neg (by omega), if_neg (by omega)]; exact h.low i (by omega)
  · obtain rfl : i = 0 := by omega
    rw [sw, if_neg (by omega), if_pos (by omega), l0, Nat.add_zero]
  · rw [sw]
    by_cases e : i = 0
    · subst e
      rw [if_pos (by omega), h.low k (by omega)]; rfl
    · rw [if_neg (by omega), if_neg (by omega)]
      have := h.right (i - 1) (by omega)
      rwa [show k + 1 + (m + 1 - m) + (i - 1) = k + (m + 1 - m) + i from by omega, show k + 1 + (i - 1) = k + i from by omega] at this
  · rw [sw, if_neg (by omega), if_neg (by omega)]; exact h.high i hi

/-- n elements from a exchanged with those from b. -/
structure SwapR (d d' : Array Wh) (a b n : Nat) : Prop where
  size : d'.size = d.size
  fst : ∀ i, i < n → d'[a + i]! = d[b + i]!
  snd : ∀ i, i < n → d'[b + i]! = d[a + i]!
  rest : ∀ k, (k < a ∨ a + n ≤ k) → (k < b ∨ b + n ≤ k) → d'[k]! = d[k]!
theorem SwapR.none (d : Array Wh) (a b : Nat) : SwapR d d a b 0 := ⟨rfl, fun i h => by omega, fun i h => by omega, fun _ _ _ => rfl⟩
theorem SwapR.step {d dk : Array Wh} {a b n k : Nat} (h : SwapR d dk a b k) (hk : k < n) (hab : a + n ≤ b) (hb : b + n ≤ d.size) : SwapR d (swp dk (a + k) (b + k)) a b (k + 1) := by
  have hs := h.size
  have sw := swp_at dk (i := a + k) (j := b + k) (by omega) (by omega) (by omega)
  refine ⟨by rw [size_swp]; exact hs, fun i hi => ?_, fun i hi => ?_, fun x h1 h2 => ?_⟩
  · rw [sw]
    by_cases e : i = k
    · subst e; rw [if_pos rfl]; exact h.rest _ (by omega) (by omega)
    · rw [if_neg (by omega), if_neg (by omega)]; exact h.fst i (by omega)
  · rw [sw]
    by_cases e : i = k
    · subst e; rw [if_neg (by omega), if_pos rfl]; exact h.rest _ (by omega) (by omega)
    · rw [if_neg (by omega), if_neg (by omega)]; exact h.snd i (by omega)
  · rw [sw, if_neg (by omega), if_neg (by omega)]; exact h.rest x (by omega) (by omega)
/-- A rotation's steps. -/
theorem Rot.ofLeft {d d' e : Array Wh} {m i j : Nat} (h : SwapR d d' (m - i) m j) (hji : j < i) (him : i ≤ m) (hr : Rot d' e (m - (i - j)) m (m + j)) : Rot d e (m - i) m (m + j) := by
  refine ⟨hr.size.trans h.size, fun x hx => ?_, fun x hx => ?_, fun x hx => ?_, fun x hx => ?_⟩
  · rw [hr.low x (by omega), h.rest x (by omega) (by omega)]
  · rw [show m + j - m = j from by omega] at hx
    rw [hr.low _ (by omega), h.fst x hx]
  · rw [show m - i + (m + j - m) + x = m - (i - j) + x from by omega]
    by_cases c : x < j
    · rw [hr.left x (by omega), h.snd x c]
    · have := hr.right (x - j) (by omega)
      rw [show m - (i - j) + (m + j - m) + (x - j) = m - (i - j) + x from by omega, show m - (i - j) + (x - j) = m - i + x from by omega] at this
      rw [this, h.rest _ (by omega) (by omega)]
  · rw [hr.high x hx, h.rest x (by omega) (by omega)]
theorem Rot.ofRight {d d' e : Array Wh} {m i j : Nat} (h : SwapR d d' (m - i) (m + j - i) i) (hij : i < j) (him : i ≤ m) (hr : Rot d' e (m - i) m (m + (j - i))) : Rot d e (m - i) m (m + j) := by
  refine ⟨hr.size.trans h.size, fun x hx => ?_, fun x hx => ?_, fun x hx => ?_, fun x hx => ?_⟩
  · rw [hr.low x (by omega), h.rest x (by omega) (by omega)]
  · rw [show m + j - m = j from by omega] at hx
    by_cases c : x < j - i
    · rw [hr.left x (by omega), h.rest _ (by omega) (by omega)]
    · have := hr.right (x - (j - i)) (by omega)
      rw [show m - i + (m + (j - i) - m) + (x - (j - i)) = m - i + x from by omega, h.fst _ (by omega), show m + j - i + (x - (j - i)) = m + x from by omega] at this
      exact this
  · rw [show m - i + (m + j - m) + x = m + j - i + x from by omega, hr.high _ (by omega), h.snd x (by omega)]
  · rw [hr.high x (by omega), h.rest x (by omega) (by omega)]
theorem Rot.ofBoth {d e : Array Wh} {m i : Nat} (h : SwapR d e (m - i) m i) (him : i ≤ m) : Rot d e (m - i) m (m + i) := by
  refine ⟨h.size, fun x hx => ?_, fun x hx => ?_, fun x hx => ?_, fun x hx => ?_⟩
  · exact h.rest x (by omega) (by omega)
  · exact h.fst x (by omega)
  · rw [show m - i + (m + i - m) + x = m + x from by omega]; exact h.snd x (by omega)
  · exact h.rest x (by omega) (by omega)
theorem Rot.noLeft (d : Array Wh) {s m e : Nat} (h : s = m) : Rot d d s m e := by
  subst h
  exact ⟨rfl, fun _ _ => rfl, fun _ _ => rfl, fun i hi => by omega, fun _ _ => rfl⟩
theorem Rot.noRight (d : Array Wh) {s m e : Nat} (h : m = e) : Rot d d s m e := by
  subst h
  exact ⟨rfl, fun _ _ => rfl, fun i hi => by omega, fun i hi => by rw [Nat.sub_self, Nat.add_zero], fun _ _ => rfl⟩

/-- The library's insertion sort keeps the order of each speed. -/
def ltW (x y : Wh) : Bool := decide (x.s < y.s)
theorem insInner_keeps (a : Nat) : ∀ (j : Nat) (d : Array Wh), j < d.size → Keeps d (insInner ltW a j d)
  | 0, d, _ => Keeps.refl d
  | j + 1, d, hj => by
    unfold insInner
    split
    · rename_i h
      rw [Bool.and_eq_true] at h
      have hlt : d[j + 1]!.s < d[j]!.s := of_decide_eq_true h.2
      have hr : Rot d (swp d (j + 1) j) j (j + 1) (j + 2) := by
        have := (Rot.last d (j + 1)).lastStep (k := j) (by omega) hj
        exact this
      refine (hr.keeps (by omega) (by omega) (by omega) fun x y h1 h2 h3 h4 => ?_).trans (insInner_keeps a j _ (by rw [size_swp]; omega))
      obtain rfl : x = j := by omega
      obtain rfl : y = x + 1 := by omega
      exact hlt
    · exact Keeps.refl d
theorem insOuter_keeps (a b : Nat) : ∀ (n i : Nat) (d : Array Wh), b - i = n → b ≤ d.size → Keeps d (insOuter ltW a b i d)
  | 0, i, d, hn, _ => by rw [insOuter, if_neg (by omega)]; exact Keeps.refl d
  | n + 1, i, d, hn, hb => by
    rw [insOuter, if_pos (by omega)]
    have h1 := insInner_keeps a i d (by omega)
    exact h1.trans (insOuter_keeps a b n (i + 1) _ (by omega) (by rw [h1.1]; exact hb))
theorem swoW : SWO ltW := by
  constructor <;> intros <;> simp_all [ltW] <;> omega
theorem insertion_merged {d : Array Wh} {a b : Nat} (hab : a ≤ b) (hb : b ≤ d.size) : Merged d (Sort.insertionSort ltW d a b) a b := by
  have h := insertionSort_holds (lt := ltW) swoW d a b hab hb
  have hz := h.1.1
  refine ⟨insOuter_keeps a b _ (a + 1) d rfl hb, fun i j h1 h2 h3 => ?_, h.1.2.1, fun i h1 h2 => ?_⟩
  · by_cases e : i = j
    · rw [e]; exact Int.le_refl _
    · have := of_decide_eq_false (h.2 i j h1 (by omega) h3)
      omega
  · have m1 : (Sort.insertionSort ltW d a b)[i]! ∈ ((Sort.insertionSort ltW d a b).extract a b).toList := by
      refine List.mem_iff_getElem.2 ⟨i - a, by simp; omega, ?_⟩
      have : i < (Sort.insertionSort ltW d a b).size := by omega
      simp [show a + (i - a) = i from by omega, this]
    have m2 := (h.1.2.2.mem_iff).1 m1
    obtain ⟨k, hk, e⟩ := List.mem_iff_getElem.1 m2
    simp at hk
    refine ⟨a + k, by omega, by omega, ?_⟩
    rw [← e]
    have : a + k < d.size := by omega
    simp [this]

end Go.Proofs.Yteicmnoafoekcaa
