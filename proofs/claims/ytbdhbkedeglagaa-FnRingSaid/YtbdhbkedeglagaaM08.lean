/-
  The library's stable sort at circles: at any length up to a thousand.
  Sorted circles: the library's stable sort over a list that the call owns.
  impl: circles told, changed, joined; what is 0 left out.
  impl: lists of circles told and changed.
-/
import Derived.Test.YtbdhbkedeglagaaM07
/- The library's stable sort at circles: at any length up to a thousand. -/
namespace Go.Proofs.Ytbdhbkedeglagaa
set_option maxRecDepth 100000
open Go.Shelf Go.RowKit Go.Lib Go.Sort
set_option linter.unusedVariables false
set_option linter.unusedSimpArgs false

theorem div_low {s a i j : Nat} (ha : a % s = 0) (haj : a ≤ j) (h : i / s = j / s) : a ≤ i := by
  have h1 : a / s ≤ j / s := Nat.div_le_div_right haj
  have h2 : a / s * s = a := Nat.div_mul_cancel (Nat.dvd_of_mod_eq_zero ha)
  have h3 : a / s ≤ i / s := h ▸ h1
  have h4 := Nat.div_mul_le_self i s
  have h5 := Nat.mul_le_mul_right s h3
  omega
theorem div_at {s a i : Nat} (hs : 0 < s) (ha : a % s = 0) (h1 : a ≤ i) (h2 : i < a + s) : i / s = a / s := by
  have h3 : a / s * s = a := Nat.div_mul_cancel (Nat.dvd_of_mod_eq_zero ha)
  refine Nat.div_eq_of_lt_le (by omega) ?_
  rw [Nat.add_mul, Nat.one_mul]; omega
/-- Below a, each block of s ascends. -/
def Part (d : Array Wh) (s a : Nat) : Prop := ∀ i j, i ≤ j → j < a → i / s = j / s → d[i]!.s ≤ d[j]!.s
/-- From a on, each block of s ascends. -/
def Tail (d : Array Wh) (s a : Nat) : Prop := ∀ i j, a ≤ i → i ≤ j → j < d.size → i / s = j / s → d[i]!.s ≤ d[j]!.s
theorem Part.none (d : Array Wh) (s : Nat) : Part d s 0 := fun i j h1 h2 => by omega
theorem Part.step {d d' : Array Wh} {s a b : Nat} (ha : a % s = 0) (h : Part d s a) (M : Merged d d' a b) : Part d' s b := fun i j hij hj he => by
  by_cases hja : j < a
  · rw [M.out i (.inl (by omega)), M.out j (.inl hja)]; exact h i j hij hja he
  · exact M.up i j (div_low ha (by omega) he) hij hj
theorem Part.tail {d : Array Wh} {s : Nat} (h : Part d s d.size) : Tail d s 0 := fun i j _ h2 h3 h4 => h i j h2 h3 h4
theorem Tail.step {d d' : Array Wh} {s a b : Nat} (hab : a ≤ b) (h : Tail d s a) (M : Merged d d' a b) : Tail d' s b := fun i j h1 h2 h3 h4 => by
  rw [M.keeps.1] at h3
  rw [M.out i (.inr h1), M.out j (.inr (by omega))]
  exact h i j (by omega) h2 h3 h4
theorem Tail.first {d : Array Wh} {s a : Nat} (hs : 0 < s) (ha : a % s = 0) (h : Tail d s a) (hb : a + s ≤ d.size) : Up d a (a + s) := fun i j h1 h2 h3 =>
  h i j h1 h2 (by omega) ((div_at hs ha h1 (by omega)).trans (div_at hs ha (by omega) h3).symm)
theorem Tail.second {d : Array Wh} {s a b : Nat} (hs : 0 < s) (ha : a % s = 0) (h : Tail d s a) (hb : b ≤ a + s + s) (hbd : b ≤ d.size) : Up d (a + s) b := fun i j h1 h2 h3 =>
  have ha' : (a + s) % s = 0 := by rw [Nat.add_mod_right]; exact ha
  h i j (by omega) h2 (by omega) ((div_at hs ha' h1 (by omega)).trans (div_at hs ha' (by omega) (by omega)).symm)
theorem Part.last {d : Array Wh} {s a : Nat} (hs : 0 < s) (ha : a % s = 0) (ha2 : a % (2 * s) = 0) (h : Part d (2 * s) a) (k : Tail d s a) (hd : d.size ≤ a + s) : Part d (2 * s) d.size := fun i j hij hj he => by
  by_cases hja : j < a
  · exact h i j hij hja he
  · have hi := div_low ha2 (by omega) he
    exact k i j hi hij hj ((div_at hs ha hi (by omega)).trans (div_at hs ha (by omega) (by omega)).symm)
theorem Part.up {d : Array Wh} {s : Nat} (hd : d.size ≤ s) (h : Part d s d.size) : Up d 0 d.size := fun i j _ h2 h3 => h i j h2 h3 (by rw [Nat.div_eq_of_lt (by omega), Nat.div_eq_of_lt (by omega)])
theorem mod_two {a s : Nat} (h : a % (2 * s) = 0) : a % s = 0 := by
  have h1 := Nat.dvd_of_mod_eq_zero h
  exact Nat.mod_eq_zero_of_dvd (Nat.dvd_trans (Nat.dvd_mul_left s 2) h1)
theorem mod_next {a s : Nat} (h : a % (2 * s) = 0) : (a + 2 * s) % (2 * s) = 0 := by rw [Nat.add_mod_right]; exact h

/-- What the sort has done so far. -/
def Kept (d d' : Array Wh) : Prop := Keeps d d' ∧ ∀ i, i < d.size → ∃ j, j < d.size ∧ d'[i]! = d[j]!
theorem Kept.refl (d : Array Wh) : Kept d d := ⟨Keeps.refl d, fun i h => ⟨i, h, rfl⟩⟩
theorem Kept.step {d d1 d2 : Array Wh} {a b : Nat} (h : Kept d d1) (M : Merged d1 d2 a b) (hb : b ≤ d.size) : Kept d d2 := by
  refine ⟨h.1.trans M.keeps, fun i hi => ?_⟩
  by_cases hab : a ≤ i ∧ i < b
  · obtain ⟨j, j1, j2, e⟩ := M.inn i hab.1 hab.2
    obtain ⟨k, k1, k2⟩ := h.2 j (by omega)
    exact ⟨k, k1, by rw [e, k2]⟩
  · obtain ⟨k, k1, k2⟩ := h.2 i hi
    exact ⟨k, k1, by rw [M.out i (by omega), k2]⟩
theorem Kept.merged {d d' : Array Wh} (h : Kept d d') (u : Up d' 0 d.size) : Merged d d' 0 d.size := by
  refine ⟨h.1, u, fun i hi => ?_, fun i _ hi => ?_⟩
  · have hs := h.1.1
    rw [getElem!_neg d' i (by omega), getElem!_neg d i (by omega)]
  · obtain ⟨j, j1, j2⟩ := h.2 i hi
    exact ⟨j, Nat.zero_le _, j1, j2⟩

set_option maxHeartbeats 4000000 in
theorem stable_all (blk cap : Nat) (d : Array Wh) (w : World) (R : RowK enc 9 w blk 0 d) (hn : d.size ≤ 1000) :
    Calls Try.prog 98 #[rowV blk 0 d.size cap, .int .i64 d.size, byV] w fun e w' => e = .returned (.tuple #[]) ∧ ∃ d', Merged d d' 0 d.size ∧ SWK enc 9 w blk 0 d' w' := by
  have INS : Aside (∀ (a b : Nat) (d1 : Array Wh) (w1 : World), d1.size = d.size → SWK enc 9 w blk 0 d1 w1 → a ≤ b → b ≤ d.size →
      Calls Try.prog 102 #[rowV blk 0 d.size cap, .int .i64 a, .int .i64 b, byV] w1 fun e w' => e = .returned (.tuple #[]) ∧ ∃ d', Merged d1 d' a b ∧ SWK enc 9 w blk 0 d' w') := fun a b d1 w1 hd S hab hb => by
    have h := insertion_any blk 0 cap a b d d1 w w1 R hd.symm S hab (by omega) (by omega)
    rw [hd] at h
    exact h
  have MRG : Aside (∀ (a m b : Nat) (d1 : Array Wh) (w1 : World), d1.size = d.size → SWK enc 9 w blk 0 d1 w1 → a < m → m < b → b ≤ d.size → Up d1 a m → Up d1 m b →
      Calls Try.prog 103 #[rowV blk 0 d.size cap, .int .i64 a, .int .i64 m, .int .i64 b, byV] w1 fun e w' => e = .returned (.tuple #[]) ∧ ∃ d', Merged d1 d' a b ∧ SWK enc 9 w blk 0 d' w') := fun a m b d1 w1 hd S ham hmb hb U1 U2 => by
    have h := symMerge_any 9 size_of_circle blk 0 cap d w R (by omega) (b - a) a m b d1 w1 (Nat.le_refl _) hd.symm S ham hmb (by omega) U1 U2
    unfold MergeSaid at h
    rw [hd] at h
    exact h
  have S0 : Aside (SWK enc 9 w blk 0 d w) := SWK.start R.hH
  clear R
  go_enter Try.func98, Try.ntmps98
  go_wp2
  go_loopg [7, 8] d.size (fun kx s7 s8 wr => ∃ (a : Nat) (d1 : Array Wh), s7 = .int .i64 a ∧ s8 = .int .i64 ((a + 20 : Nat) : Int) ∧ a ≤ d.size ∧ a % 20 = 0 ∧ d.size - a ≤ kx ∧ d1.size = d.size ∧ Aside (SWK enc 9 w blk 0 d1 wr) ∧ Aside (Kept d d1 ∧ Part d1 20 a))
  case atStart => exact ⟨0, d, rfl, rfl, Nat.zero_le _, rfl, by omega, rfl, S0, (show _ ∧ _ from ⟨Kept.refl d, Part.none d 20⟩)⟩
  case round =>
    clear S0
    obtain ⟨a, d1, rfl, rfl, ha, hm, hkx, hds, S1, H1⟩ := hrel
    by_cases hle : a + 20 ≤ d.size
    · have hz : ((a + 20 : Nat) : Int) ≤ (d.size : Int) := by omega
      have q1 : IntKind.i64.wrap (((a + 20 : Nat) : Int) + 20) = ((a + 20 + 20 : Nat) : Int) := by rw [IntKind.wrap_i64]; omega
      have hc := Lib.hid (INS.out a (a + 20) d1 wr hds S1.out (by omega) hle)
      clear S1
      go_wp2_with fail
      refine hc.out.mono ?_; rintro e w2 ⟨rfl, d2, M, S2⟩
      have hz2 : d2.size = d.size := M.keeps.1.trans hds
      have S3 : Aside (SWK enc 9 w blk 0 d2 w2) := S2
      have H3 : Aside (Kept d d2 ∧ Part d2 20 (a + 20)) := (show _ ∧ _ from ⟨H1.out.1.step M hle, Part.step hm H1.out.2 M⟩)
      clear M S2 H1 hc
      go_wp2
      go_roundg (d.size - (a + 20))
      case measure => omega
      case rel => exact ⟨a + 20, d2, rfl, by go_num, hle, by omega, Nat.le_refl _, hz2, S3, H3⟩
    · have hz : ¬ ((a + 20 : Nat) : Int) ≤ (d.size : Int) := by omega
      have hc := Lib.hid (INS.out a d.size d1 wr hds S1.out ha (Nat.le_refl _))
      clear S1
      go_wp2_with fail
      refine hc.out.mono ?_; rintro e w2 ⟨rfl, d2, M, S2⟩
      have hz2 : d2.size = d.size := M.keeps.1.trans hds
      have S3 : Aside (SWK enc 9 w blk 0 d2 w2) := S2
      have H3 : Aside (Kept d d2 ∧ Part d2 20 d.size) := (show _ ∧ _ from ⟨H1.out.1.step M (Nat.le_refl _), Part.step hm H1.out.2 M⟩)
      clear M S2 H1 hc hz hle hkx hm ha hds
      go_wp2
      go_loopg [6, 7, 8, 9] (1024 - 20) (fun kx s6 _ _ _ wr => ∃ (s : Nat) (d3 : Array Wh), s6 = .int .i64 s ∧ 20 ≤ s ∧ s ≤ 2000 ∧ 1024 - s ≤ kx ∧ d3.size = d.size ∧ Aside (SWK enc 9 w blk 0 d3 wr) ∧ Aside (Kept d d3 ∧ Part d3 s d.size))
      case atStart => exact ⟨20, d2, rfl, Nat.le_refl _, by omega, Nat.le_refl _, hz2, S3, H3⟩
      case round =>
        clear S3 H3 hz2
        obtain ⟨s, d3, rfl, hs1, hs2, hkx, hds, S1, H1⟩ := hrel
        by_cases hlt : s < d.size
        · have hz : (s : Int) < (d.size : Int) := by omega
          have q1 : IntKind.i64.wrap (2 * (s : Int)) = ((2 * s : Nat) : Int) := by rw [IntKind.wrap_i64]; omega
          have q1b : IntKind.i64.wrap ((s : Int) * 2) = ((2 * s : Nat) : Int) := by rw [IntKind.wrap_i64]; omega
          go_wp2
          go_loopg [7, 8] d.size (fun kx s7 s8 wr => ∃ (a : Nat) (d4 : Array Wh), s7 = .int .i64 a ∧ s8 = .int .i64 ((a + 2 * s : Nat) : Int) ∧ a ≤ d.size ∧ d.size - a ≤ kx ∧ d4.size = d.size ∧ Aside (SWK enc 9 w blk 0 d4 wr) ∧ Aside (Kept d d4 ∧ Part d4 (2 * s) a ∧ Tail d4 s a ∧ a % (2 * s) = 0))
          case atStart => exact ⟨0, d3, rfl, by go_num, Nat.zero_le _, by omega, hds, S1, (show _ ∧ _ ∧ _ ∧ _ from ⟨H1.out.1, Part.none _ _, Part.tail (by rw [hds]; exact H1.out.2), Nat.zero_mod _⟩)⟩
          case round =>
            clear S1 H1
            obtain ⟨a, d4, rfl, rfl, ha, hkx2, hd4, S1, H1⟩ := hrel
            have q2 : IntKind.i64.wrap ((a : Int) + (s : Int)) = ((a + s : Nat) : Int) := by rw [IntKind.wrap_i64]; omega
            by_cases hle : a + 2 * s ≤ d.size
            · have hz2 : ((a + 2 * s : Nat) : Int) ≤ (d.size : Int) := by omega
              have q3 : IntKind.i64.wrap (((a + 2 * s : Nat) : Int) + ((2 * s : Nat) : Int)) = ((a + 2 * s + 2 * s : Nat) : Int) := by rw [IntKind.wrap_i64]; omega
              have hc := Lib.hid (MRG.out a (a + s) (a + 2 * s) d4 wr hd4 S1.out (by omega) (by omega) hle (Tail.first (by omega) (mod_two H1.out.2.2.2) H1.out.2.2.1 (by omega)) (Tail.second (by omega) (mod_two H1.out.2.2.2) H1.out.2.2.1 (by omega) (by omega)))
              clear S1
              go_wp2_with fail
              refine hc.out.mono ?_; rintro e w2 ⟨rfl, d5, M, S2⟩
              have hz5 : d5.size = d.size := M.keeps.1.trans hd4
              have S3 : Aside (SWK enc 9 w blk 0 d5 w2) := S2
              have H3 : Aside (Kept d d5 ∧ Part d5 (2 * s) (a + 2 * s) ∧ Tail d5 s (a + 2 * s) ∧ (a + 2 * s) % (2 * s) = 0) := (show _ ∧ _ ∧ _ ∧ _ from ⟨H1.out.1.step M hle, Part.step H1.out.2.2.2 H1.out.2.1 M, Tail.step (by omega) H1.out.2.2.1 M, mod_next H1.out.2.2.2⟩)
              clear M S2 H1 hc
              go_wp2
              go_roundg (d.size - (a + 2 * s))
              case measure => omega
              case rel => exact ⟨a + 2 * s, d5, rfl, by go_num, hle, Nat.le_refl _, hz5, S3, H3⟩
            · have hz2 : ¬ ((a + 2 * s : Nat) : Int) ≤ (d.size : Int) := by omega
              by_cases hms : a + s < d.size
              · have hz3 : ((a + s : Nat) : Int) < (d.size : Int) := by omega
                have hc := Lib.hid (MRG.out a (a + s) d.size d4 wr hd4 S1.out (by omega) hms (Nat.le_refl _) (Tail.first (by omega) (mod_two H1.out.2.2.2) H1.out.2.2.1 (by omega)) (Tail.second (by omega) (mod_two H1.out.2.2.2) H1.out.2.2.1 (by omega) (by omega)))
                clear S1
                go_wp2_with fail
                refine hc.out.mono ?_; rintro e w2 ⟨rfl, d5, M, S2⟩
                have hz5 : d5.size = d.size := M.keeps.1.trans hd4
                have S3 : Aside (SWK enc 9 w blk 0 d5 w2) := S2
                have H3 : Aside (Kept d d5 ∧ Part d5 (2 * s) d.size) := (show _ ∧ _ from ⟨H1.out.1.step M (Nat.le_refl _), Part.step H1.out.2.2.2 H1.out.2.1 M⟩)
                clear M S2 H1 hc
                go_wp2
                go_roundg (1024 - 2 * s)
                case measure => omega
                case rel => exact ⟨2 * s, d5, by go_num, by omega, by omega, Nat.le_refl _, hz5, S3, H3⟩
              · have hz3 : ¬ ((a + s : Nat) : Int) < (d.size : Int) := by omega
                have H3 : Aside (Kept d d4 ∧ Part d4 (2 * s) d.size) := (show _ ∧ _ from ⟨H1.out.1, by
                  have := Part.last (by omega) (mod_two H1.out.2.2.2) H1.out.2.2.2 H1.out.2.1 H1.out.2.2.1 (by omega)
                  rwa [hd4] at this⟩)
                clear H1
                go_wp2
                go_roundg (1024 - 2 * s)
                case measure => omega
                case rel => exact ⟨2 * s, d4, by go_num, by omega, by omega, Nat.le_refl _, hd4, S1, H3⟩
        · have hz : ¬ (s : Int) < (d.size : Int) := by omega
          go_wp2
          go_end0
          refine ⟨rfl, d3, H1.out.1.merged ?_, S1.out⟩
          have := Part.up (d := d3) (s := s) (by omega) (by rw [hds]; exact H1.out.2)
          rwa [hds] at this

end Go.Proofs.Ytbdhbkedeglagaa
/- Sorted circles: the library's stable sort over a list that the call owns. -/
namespace Go.Proofs.Ytbdhbkedeglagaa
set_option maxRecDepth 20000
open Go.Shelf Go.RowKit Go.Lib Go.Sort Go.ChangeShapes Go.WideShapes Go.ChangeAt
set_option linter.unusedVariables false
set_option linter.unusedSimpArgs false

theorem flatK_flat (d : Array Wh) : (flatK enc 9 d).toList = flat d.toList := by
  apply List.ext_getElem?
  intro t
  by_cases ht : t < d.size * 9
  · have hi : t / 9 < d.size := by omega
    have hc : d.toList[t / 9]? = some d[t / 9]! := by simp [hi]
    have h1 := flat_at hc (t % 9) (by omega)
    rw [show t / 9 * 9 + t % 9 = t from by omega] at h1
    rw [h1, Array.getElem?_toList]
    have h2 : t < (flatK enc 9 d).size := by simpa using ht
    rw [Array.getElem?_eq_getElem h2, ← getElem!_pos (flatK enc 9 d) t h2, get_flatK enc 9 d t ht]
    have h3 : t % 9 < (enc d[t / 9]!).length := by rw [enc_length]; omega
    rw [List.getElem?_eq_getElem h3, getElem!_pos (enc d[t / 9]!) (t % 9) h3]
  · rw [List.getElem?_eq_none (by simp; omega), List.getElem?_eq_none (by rw [flat_length]; simp; omega)]
theorem holds_of_own {w : World} {g T : Nat} {cur : Array Value} {ws : List Wh} (hb : w.heap[g]? = some (.cells cur T (0, 0))) (ht : cur.toList.take (ws.length * 9) = flat ws) : HoldsK enc 9 w g 0 ws.toArray := by
  intro j hj
  have hj' : j < ws.length * 9 := by simpa using hj
  refine ⟨?_, by simp [World.frozen?, hb]⟩
  have h1 : (cur.toList.take (ws.length * 9))[j]? = (flat ws)[j]? := by rw [ht]
  rw [List.getElem?_take_of_lt hj', Array.getElem?_toList] at h1
  rw [Nat.zero_add, cell_of_row w g j cur T (0, 0) hb, h1]
  have h2 := flatK_flat ws.toArray
  have h3 : (flatK enc 9 ws.toArray).toList[j]? = (flat ws)[j]? := by rw [h2]
  rw [← h3, Array.getElem?_toList, Array.getElem?_eq_getElem hj, getElem!_pos (flatK enc 9 ws.toArray) j hj]; rfl
theorem heap_put {w : World} {g n T : Nat} {os : Array Obj} {cur : Array Value} (d : Array Wh) (hb : w.heap[g]? = some (.cells cur T (0, 0))) :
    (grow (putRowK enc 9 (Sort.ahead w n) g 0 d) os).heap[g]? = some (.cells (putCells id 0 (flatK enc 9 d) cur) T (0, 0)) := by
  have hg : g < w.heap.size := (Array.getElem?_eq_some_iff.1 hb).1
  rw [heap_grow_old _ _ (by simpa [putRowK] using hg)]
  simp [putRowK, putRow, mapBlock, Sort.ahead, Array.getElem?_modify, hb, onCells]
theorem grownBy_put {w : World} {g n : Nat} {os : Array Obj} (d : Array Wh) : w.grownBy (grow (putRowK enc 9 (Sort.ahead w n) g 0 d) os) (some g) := by
  refine ⟨rfl, rfl, rfl, by simp [putRowK], fun k hk hne => ?_⟩
  rw [heap_grow_old _ _ (by simpa [putRowK] using hk)]
  have : g ≠ k := fun e => hne (by rw [e])
  simp [putRowK, putRow, mapBlock, Sort.ahead, Array.getElem?_modify, this]
theorem take_put (cur : Array Value) (d : Array Wh) (h : d.size * 9 ≤ cur.size) : (putCells id 0 (flatK enc 9 d) cur).toList.take (d.size * 9) = flat d.toList := by
  rw [← flatK_flat]
  apply List.ext_getElem?
  intro j
  by_cases hj : j < d.size * 9
  · have hj2 : j < (flatK enc 9 d).size := by simpa using hj
    rw [List.getElem?_take_of_lt hj, Array.getElem?_toList, Array.getElem?_toList, Array.getElem?_eq_getElem hj2]
    simp [putCells, hj, show j < cur.size by omega, hj2]
  · rw [List.getElem?_take_eq_none (by omega), List.getElem?_eq_none (by simp; omega)]
/-- What a sort answers. -/
def SortOf (ws L : List Wh) : Prop := (∀ s, pre s L = pre s ws) ∧ L.Pairwise (fun a b => a.s ≤ b.s) ∧ L.length = ws.length
theorem sortOf_merged {ws : List Wh} {d' : Array Wh} (h : Merged ws.toArray d' 0 ws.toArray.size) : SortOf ws d'.toList := by
  refine ⟨h.keeps.2, ?_, by simpa using h.keeps.1⟩
  rw [List.pairwise_iff_getElem]
  intro i j hi hj hij
  have hs : d'.size = ws.length := by simpa using h.keeps.1
  have := h.up i j (Nat.zero_le _) (by omega) (by simpa [hs] using hj)
  simp only [Array.length_toList] at hi hj
  simpa [hi, hj] using this
/-- Behind a sort the same slice owns the sorted list. -/
theorem own_sorted {w0 w' : World} {B T g cap : Nat} {ws : List Wh} {d' : Array Wh} (ho : Own w0 B T (.slice (some ⟨g, 0, none⟩) ws.length cap) ws) (h : Merged ws.toArray d' 0 ws.toArray.size) (S : SWK enc 9 w0 g 0 d' w') (hB : B ≤ w0.heap.size) :
    Own w' B T (.slice (some ⟨g, 0, none⟩) ws.length cap) d'.toList ∧ Below B w0 w' := by
  have hs : d'.size = ws.length := by simpa using h.keeps.1
  obtain ⟨n, os, rfl⟩ := S
  rcases ho.2 with ⟨h0, _⟩ | ⟨g', cap', cur, e, hg0, hg, h1, h2, h3, h4⟩
  · cases h0
  · simp only [Value.slice.injEq, Option.some.injEq, Addr.mk.injEq, and_true, true_and] at e
    obtain ⟨rfl, rfl⟩ := e
    refine ⟨⟨by rw [flat_length], .inr ⟨g, cap, _, by simp [hs], hg0, heap_put d' hg, by simpa [hs] using h1, h2, by simp [putCells, h3], ?_⟩⟩, ?_⟩
    · have := take_put cur d' (by rw [h3, hs]; exact Nat.mul_le_mul_right _ h1)
      simpa using this
    · exact below_grown (Below.refl B w0) (grownBy_put d') hB fun k hk => by
        simp only [Option.some.injEq] at hk; omega

/-- How many circles the sort is told of. -/
def sortMost : Nat := 200
theorem stable_any (blk cap : Nat) (d : Array Wh) (w : World) (R : RowK enc 9 w blk 0 d) (hn : d.size ≤ sortMost) :
    Calls Try.prog 98 #[rowV blk 0 d.size cap, .int .i64 d.size, byV] w fun e w' => e = .returned (.tuple #[]) ∧ ∃ d', Merged d d' 0 d.size ∧ SWK enc 9 w blk 0 d' w' :=
  stable_all blk cap d w R (by unfold sortMost at hn; omega)
theorem sortStable_any (g cap B : Nat) (ws : List Wh) (w : World) (ho : Own w B 76 (.slice (some ⟨g, 0, none⟩) ws.length cap) ws) (hn : ws.length ≤ sortMost) (hB : B ≤ w.heap.size) :
    Calls Try.prog 80 #[.slice (some ⟨g, 0, none⟩) ws.length cap, byV] w fun e w' => e = .returned (.tuple #[]) ∧ Below B w w' ∧ ∃ L, SortOf ws L ∧ Own w' B 76 (.slice (some ⟨g, 0, none⟩) L.length cap) L := by
  have hb : ∃ cur, w.heap[g]? = some (.cells cur 76 (0, 0)) ∧ cur.toList.take (ws.length * 9) = flat ws := by
    rcases ho.2 with ⟨h0, _⟩ | ⟨g', cap', cur, e, hg0, hg, h1, h2, h3, h4⟩
    · cases h0
    · simp only [Value.slice.injEq, Option.some.injEq, Addr.mk.injEq, and_true, true_and] at e
      obtain ⟨rfl, rfl⟩ := e
      exact ⟨cur, hg, h4⟩
  obtain ⟨cur, hg, htk⟩ := hb
  have R : RowK enc 9 w g 0 ws.toArray := ⟨enc_length, enc_one, holds_of_own hg htk, (Array.getElem?_eq_some_iff.1 hg).1⟩
  have C := stable_any g cap ws.toArray w R (by simpa using hn)
  simp only [List.size_toArray] at C
  have hc := Lib.hid C
  have HO := Lib.hid ho
  clear C R htk hg ho
  go_enter Try.func80, Try.ntmps80
  go_wp2_with fail
  refine hc.out.mono ?_; rintro e w1 ⟨rfl, d', M, S⟩
  have M' : Merged ws.toArray d' 0 ws.toArray.size := by simpa using M
  have hs := sortOf_merged M'
  obtain ⟨h1, h2⟩ := own_sorted HO.out M' S hB
  have H1 : Aside (Below B w w1 ∧ ∃ L, SortOf ws L ∧ Own w1 B 76 (.slice (some ⟨g, 0, none⟩) L.length cap) L) := ⟨h2, d'.toList, hs, by rw [hs.2.2]; exact h1⟩
  clear M M' hs h1 h2 S
  go_wp2
  go_end0
  exact ⟨rfl, H1.out⟩

theorem own_lit (w : World) (B T : Nat) (hB : B ≤ w.heap.size) : Own (w.alloc (.cells #[] T)) B T (.slice (some ⟨w.heap.size, 0, none⟩) 0 0) [] :=
  World.ownsRow_lit w #[] 0 hB (by simp [maxLen]) rfl

theorem insertion_nil (w : World) :
    Calls Try.prog 102 #[.slice none 0 0, .int .i64 0, .int .i64 0, byV] w fun e w' => e = .returned (.tuple #[]) ∧ w = w' := by
  go_enter Try.func102, Try.ntmps102
  go_wp2
  refine wp_loop_rounds 1 ?_
  rw [rounds_succ]
  go_wp2
  go_end0
  exact ⟨rfl, rfl⟩
theorem sort_nil (w : World) :
    Calls Try.prog 80 #[.slice none 0 0, byV] w fun e w' => e = .returned (.tuple #[]) ∧ w = w' := by
  have C : ∀ w, Calls Try.prog 98 #[.slice none 0 0, .int .i64 0, byV] w fun e w' => e = .returned (.tuple #[]) ∧ w = w' := fun w => by
    go_enter Try.func98, Try.ntmps98
    go_wp2
    refine wp_loop_rounds 1 ?_
    rw [rounds_succ]
    go_wp2_with fail
    refine (insertion_nil _).mono ?_; rintro e w1 ⟨rfl, rfl⟩
    go_wp2
    refine wp_loop_rounds 1 ?_
    rw [rounds_succ]
    go_wp2
    go_end0
    exact ⟨rfl, rfl⟩
  go_enter Try.func80, Try.ntmps80
  go_wp2_with fail
  refine (C _).mono ?_; rintro e w1 ⟨rfl, rfl⟩
  go_wp2
  go_end0
  exact ⟨rfl, rfl⟩
theorem sortStable_own (v : Value) (B : Nat) (ws : List Wh) (w : World) (ho : Own w B 76 v ws) (hn : ws.length ≤ sortMost) (hB : B ≤ w.heap.size) :
    Calls Try.prog 80 #[v, byV] w fun e w' => e = .returned (.tuple #[]) ∧ Below B w w' ∧ ∃ L, SortOf ws L ∧ Own w' B 76 v L := by
  have h2 := ho.2
  rcases h2 with ⟨rfl, h0⟩ | ⟨g, cap, cur, rfl, _⟩
  · refine (sort_nil w).mono ?_
    rintro e w' ⟨rfl, rfl⟩
    exact ⟨rfl, Below.refl _ _, ws, ⟨fun s => rfl, by rw [List.length_eq_zero_iff.1 h0]; exact List.Pairwise.nil, rfl⟩, ho⟩
  · refine (sortStable_any g cap B ws w ho hn hB).mono ?_
    rintro e w' ⟨rfl, h1, L, h2, h3⟩
    exact ⟨rfl, h1, L, h2, by rw [h2.2.2] at h3; exact h3⟩

set_option maxHeartbeats 1000000 in
theorem clone_any (v : Value) (B : Nat) (ws : List Wh) (w : World) (ho : Own w B 76 v ws) (hn : ws.length ≤ 1000000) :
    Calls Try.prog 79 #[v] w fun e w' => Below w.heap.size w w' ∧ ∃ v', e = .returned v' ∧ Own w' w.heap.size 76 v' ws := by
  have hr := own_reads ho
  have h2 := ho.2
  rcases h2 with ⟨rfl, h0⟩ | ⟨g, cap, cur, rfl, _⟩
  · have h0 := List.length_eq_zero_iff.1 h0
    subst h0
    have E : ∀ w, (binOp .eql 61 (.slice none 0 0) (.slice none 0 0)).run Try.prog w = .ok (.bool true) w := fun w => by rfl
    clear ho hr
    go_enter Try.func79, Try.ntmps79
    go_wp2
    go_ret
    exact ⟨Below.refl _ _, _, rfl, own_nil _ _ _⟩
  · have E : ∀ w, (binOp .eql 61 (.slice (some ⟨g, 0, none⟩) ws.length cap) (.slice none 0 0)).run Try.prog w = .ok (.bool false) w := fun w => by rfl
    have HR := Lib.hid hr
    have HA := Lib.hid (own_lit w w.heap.size 76 (Nat.le_refl _))
    clear hr ho
    go_enter Try.func79, Try.ntmps79
    go_wp2_with (first | (refine append9 tyC rfl rfl rfl rfl HA.out (HR.out.below ((Below.refl _ _).alloc (Nat.le_refl _) _)) (by simp; omega) ((Below.refl w.heap.size w).alloc (Nat.le_refl _) _) (by simp) ?_; intro v2 w2 ho2 hb2 hB2))
    go_ret
    exact ⟨hb2, _, rfl, ho2⟩

/-- circles.sorted: a new list, in the order of the speeds. -/
theorem sorted_any (v : Value) (B : Nat) (ws : List Wh) (w : World) (ho : Own w B 76 v ws) (hn : ws.length ≤ sortMost) :
    Calls Try.prog 59 #[v, byV] w fun e w' => Below w.heap.size w w' ∧ ∃ v' L, e = .returned v' ∧ SortOf ws L ∧ Own w' w.heap.size 76 v' L := by
  have C := Lib.hid (clone_any v B ws w ho (by unfold sortMost at hn; omega))
  clear ho
  go_enter Try.func59, Try.ntmps59
  go_wp2_with fail
  refine C.out.mono ?_; rintro e w1 ⟨hb1, v1, rfl, ho1⟩
  have D := Lib.hid (sortStable_own v1 _ ws w1 ho1 hn hb1.size)
  have HB := Lib.hid hb1
  clear C ho1 hb1
  go_wp2_with fail
  refine D.out.mono ?_; rintro e w2 ⟨rfl, hb2, L, hs, ho2⟩
  have H : Aside (Below w.heap.size w w2 ∧ ∃ v' L, Value.tuple #[v1] = Value.tuple #[v'] ∧ SortOf ws L ∧ Own w2 w.heap.size 76 v' L) := ⟨HB.out.trans hb2, v1, L, rfl, hs, ho2⟩
  clear D HB hb2 hs ho2
  go_wp2
  go_ret
  obtain ⟨h1, v', L, h2, h3⟩ := H.out
  simp only [Value.tuple.injEq, Array.mk.injEq, List.cons.injEq, and_true] at h2
  exact ⟨h1, v', L, by rw [← h2]; rfl, h3⟩

end Go.Proofs.Ytbdhbkedeglagaa
/- impl: circles told, changed, joined; what is 0 left out. -/
namespace Go.Proofs.Ytbdhbkedeglagaa
set_option maxRecDepth 20000
open Go.ChangeShapes Go.WideShapes Go.ChangeAt Go.RowKit
set_option linter.unusedVariables false
set_option linter.unusedSimpArgs false

/-! Storing into a list that the call owns. -/
def setL (xs : List Value) : Nat → List Value → List Value
  | _, [] => xs
  | o, v :: vs => setL (xs.set o v) (o + 1) vs
theorem setL_at : ∀ (vs xs : List Value) (o j : Nat), o + vs.length ≤ xs.length → (setL xs o vs)[j]? = if o ≤ j ∧ j < o + vs.length then vs[j - o]? else xs[j]?
  | [], xs, o, j, h => by
    simp only [setL, List.length_nil, Nat.add_zero]
    rw [if_neg (by omega)]
  | v :: vs, xs, o, j, h => by
    simp only [List.length_cons] at h
    unfold setL
    rw [setL_at vs (xs.set o v) (o + 1) j (by simp; omega), List.length_cons]
    by_cases h1 : o + 1 ≤ j ∧ j < o + 1 + vs.length
    · rw [if_pos h1, if_pos (by omega), show j - o = (j - (o + 1)) + 1 from by omega, List.getElem?_cons_succ]
    · rw [if_neg h1]
      by_cases h2 : j = o
      · subst h2
        rw [if_pos (by omega), Nat.sub_self, List.getElem?_cons_zero, List.getElem?_set_self (by omega)]
      · rw [if_neg (by omega), List.getElem?_set_ne (by omega)]
theorem setL_length : ∀ (vs xs : List Value) (o : Nat), (setL xs o vs).length = xs.length
  | [], _, _ => rfl
  | v :: vs, xs, o => by unfold setL; rw [setL_length vs, List.length_set]
theorem own_cells {B T g n cap : Nat} : ∀ (vs xs : List Value) (o : Nat) (w : World), w.ownsRow B T 9 (.slice (some ⟨g, 0, none⟩) n cap) n xs → (w.setCells g o vs).ownsRow B T 9 (.slice (some ⟨g, 0, none⟩) n cap) n (setL xs o vs)
  | [], _, _, _, h => h
  | v :: vs, xs, o, w, h => own_cells vs _ (o + 1) _ (h.stored o v).1
theorem flat_set {ws : List Wh} {k : Nat} {c c' : Wh} (hc : ws[k]? = some c) : setL (flat ws) (k * 9) (enc c') = flat (ws.set k c') := by
  have hk : k < ws.length := by
    rcases Nat.lt_or_ge k ws.length with h | h
    · exact h
    · rw [List.getElem?_eq_none h] at hc; cases hc
  apply List.ext_getElem?
  intro j
  rw [setL_at _ _ _ _ (by rw [enc_length, flat_length]; omega), enc_length]
  by_cases hj : j < ws.length * 9
  · have hi : j / 9 < ws.length := by omega
    have e1 := flat_at (List.getElem?_eq_getElem hi) (j % 9) (by omega)
    have hi2 : j / 9 < (ws.set k c').length := by simpa using hi
    have e2 := flat_at (List.getElem?_eq_getElem hi2) (j % 9) (by omega)
    rw [show j / 9 * 9 + j % 9 = j from by omega] at e1 e2
    rw [e2]
    by_cases h : k * 9 ≤ j ∧ j < k * 9 + 9
    · rw [if_pos h]
      have hq : j / 9 = k := by omega
      have hr : j - k * 9 = j % 9 := by omega
      simp only [hq, hr, List.getElem_set_self]
    · rw [if_neg h, e1]
      have hq : k ≠ j / 9 := by omega
      simp only [List.getElem_set_ne hq]
  · rw [if_neg (by omega), List.getElem?_eq_none (by rw [flat_length]; omega), List.getElem?_eq_none (by rw [flat_length, List.length_set]; omega)]
theorem flat_setR {ws : List Wh} {k : Nat} {c : Wh} (r : V) (hc : ws[k]? = some c) : setL (flat ws) (k * 9 + 1) (lst 8 r.up) = flat (ws.set k ⟨c.s, r⟩) := by
  rw [← flat_set hc]
  have hk : k < ws.length := by
    rcases Nat.lt_or_ge k ws.length with h | h
    · exact h
    · rw [List.getElem?_eq_none h] at hc; cases hc
  apply List.ext_getElem?
  intro j
  rw [setL_at _ _ _ _ (by rw [lst_length, flat_length]; omega), setL_at _ _ _ _ (by rw [enc_length, flat_length]; omega), enc_length, lst_length]
  by_cases h : k * 9 ≤ j ∧ j < k * 9 + 9
  · rw [if_pos h]
    by_cases h0 : j = k * 9
    · subst h0
      rw [if_neg (by omega), Nat.sub_self]
      have := flat_at hc 0 (by omega)
      rw [Nat.add_zero] at this
      rw [this, enc_at c 0 (by omega), enc_at _ 0 (by omega)]; rfl
    · rw [if_pos (by omega)]
      obtain ⟨q, rfl⟩ : ∃ q, j = k * 9 + 1 + q := ⟨j - (k * 9 + 1), by omega⟩
      rw [show k * 9 + 1 + q - k * 9 = 1 + q from by omega, Nat.add_sub_cancel_left, enc_at _ (1 + q) (by omega)]
      simp [lst, wf, show q < 8 from by omega]
  · rw [if_neg h, if_neg (by omega)]
/-- A radius put in place of another, in a list that the call owns. -/
theorem own_radius {w : World} {B T g cap : Nat} {ws : List Wh} {k : Nat} {c : Wh} (r : V) (h : Own w B T (.slice (some ⟨g, 0, none⟩) ws.length cap) ws) (hc : ws[k]? = some c) :
    (w.setCells g (k * 9 + 1) (lst 8 r.up)).ownsRow B T 9 (.slice (some ⟨g, 0, none⟩) ws.length cap) ws.length (flat (ws.set k ⟨c.s, r⟩)) := by
  rw [← flat_setR r hc]; exact own_cells _ _ _ _ h
/-- A wheel put in place of another. -/
theorem own_wheel {w : World} {B T g cap : Nat} {ws : List Wh} {k : Nat} {c : Wh} (c' : Wh) (h : Own w B T (.slice (some ⟨g, 0, none⟩) ws.length cap) ws) (hc : ws[k]? = some c) :
    (w.setCells g (k * 9) (enc c')).ownsRow B T 9 (.slice (some ⟨g, 0, none⟩) ws.length cap) ws.length (flat (ws.set k c')) := by
  rw [← flat_set hc]; exact own_cells _ _ _ _ h
theorem own_there {w : World} {B T g cap : Nat} {ws : List Wh} {k o n : Nat} (h : Own w B T (.slice (some ⟨g, 0, none⟩) ws.length cap) ws) (hk : k < ws.length) (ho : o + n ≤ 9) : w.there g (k * 9 + o) n := fun j hj => by
  have h1 := h.cellAt (k * 9 + o + j) (by omega)
  refine ⟨?_, h.frozenAt _⟩
  rw [h1, List.getElem?_eq_getElem (by rw [flat_length]; omega)]; rfl

theorem built_nil : Try.prog.built 67 [] = some (vec 9 nul) := by kernel_rfl
/-! One circle told. -/
def noW : Wh := ⟨0, V.zero⟩
theorem wf_noW : vec 9 (wf noW) = vec 9 nul := vec_same fun j hj => by
  unfold wf noW
  simp only [zero_up]
  split <;> rfl
set_option maxHeartbeats 1000000 in
theorem ctold_yes (c : Wh) (h : wOk c = true) (w : World) :
    Calls Try.prog 83 #[wh c] w fun e w' => e = .returned (.tuple #[wh c, .bool true]) ∧ Below w.heap.size w w' := by
  unfold wOk at h
  rw [Bool.and_eq_true] at h
  have C := fun w => toldV c.r w
  rw [h.2] at C
  simp only [if_true] at C
  have I := fun w => inRange_any c.s w
  rw [h.1] at I
  clear h
  have HW : Aside (RowAt ((w.alloc (.cells (vec 9 (wf c)) 76)).alloc (.cells (vec 9 nul) 67)) w.heap.size 9 76 (wf c)) := (RowAt.newAt rfl rfl).alloc _
  have HO : Aside (RowAt ((w.alloc (.cells (vec 9 (wf c)) 76)).alloc (.cells (vec 9 nul) 67)) (w.heap.size + 1) 9 67 nul) := RowAt.newAt rfl (by simp)
  have HL : Aside (Below w.heap.size w ((w.alloc (.cells (vec 9 (wf c)) 76)).alloc (.cells (vec 9 nul) 67))) := ((Below.refl _ _).alloc (Nat.le_refl _) _).alloc (by simp) _
  go_enter Try.func83, Try.ntmps83
  go_upto_region 1 with fail
  show Code.wp _ _ _ _ ((w.alloc (.cells (vec 9 (wf c)) 76)).alloc (.cells (vec 9 nul) 67))
  generalize (w.alloc (.cells (vec 9 (wf c)) 76)).alloc (.cells (vec 9 nul) 67) = W at *
  go_wp2_with (first | (refine load_part (T := 74) rfl rfl rfl (row_radius HW.out) Try.underlying74 rfl info_exact ?_))
  refine (C _).mono ?_; rintro e w2 ⟨rfl, hb2⟩
  have c0 := row_speed ((HW.out.below hb2).alloc (.cells (vec 8 c.r.up) 36))
  have HB2 : Aside (Below W.heap.size W w2) := hb2
  clear hb2 C
  go_wp2_with (first | (refine store_new (ty := 36) rfl rfl rfl rfl zero8 info_cyc ?_))
  refine (I _).mono ?_; rintro e w3 ⟨rfl, hw3⟩
  have HR3 : Aside (RowAt w3 w2.heap.size 8 36 c.r.up) := (show RowAt _ _ _ _ _ by rw [← hw3]; exact RowAt.new _ _ _ _)
  have HB3 : Aside (Below W.heap.size W w3) := (show Below _ _ _ by rw [← hw3]; exact HB2.out.alloc HB2.out.size _)
  rw [hw3] at c0
  have HO3 : Aside (RowAt w3 (w.heap.size + 1) 9 67 nul) := HO.out.below HB3.out
  clear hw3 HB2 I
  go_wp2_with (first | (refine load_row (ty := 36) (g := w2.heap.size) rfl rfl rfl HR3.out Try.underlying36 rfl info_cyc ?_) | (refine build_wheel (T := 67) rfl rfl rfl rfl built_wheel ?_; rw [dn_up]) | (refine store_row (ty := 67) (g := w.heap.size + 1) rfl rfl rfl rfl HO3.out info_wheel ?_))
  refine bodyPost_ret (results_row_tmp rfl rfl HO3.out.setRow Try.underlying67 rfl info_wheel) rfl ?_
  exact ⟨rfl, below_setRow (below_next HL.out HB3.out) (by omega) _⟩

set_option maxHeartbeats 1000000 in
theorem ctold_no (c : Wh) (h : wOk c = false) (w : World) :
    Calls Try.prog 83 #[wh c] w fun e w' => e = .returned (.tuple #[wh noW, .bool false]) ∧ Below w.heap.size w w' := by
  have HW : Aside (RowAt ((w.alloc (.cells (vec 9 (wf c)) 76)).alloc (.cells (vec 9 nul) 67)) w.heap.size 9 76 (wf c)) := (RowAt.newAt rfl rfl).alloc _
  have HO : Aside (RowAt ((w.alloc (.cells (vec 9 (wf c)) 76)).alloc (.cells (vec 9 nul) 67)) (w.heap.size + 1) 9 67 nul) := RowAt.newAt rfl (by simp)
  have HL : Aside (Below w.heap.size w ((w.alloc (.cells (vec 9 (wf c)) 76)).alloc (.cells (vec 9 nul) 67))) := ((Below.refl _ _).alloc (Nat.le_refl _) _).alloc (by simp) _
  have C := fun w => toldV c.r w
  by_cases h1 : okv c.r = true
  · rw [h1] at C
    simp only [if_true] at C
    have h2 : inS c.s = false := by
      unfold wOk at h
      rw [h1, Bool.and_true] at h
      exact h
    have I := fun w => inRange_any c.s w
    rw [h2] at I
    clear h h1 h2
    rw [show wh noW = .agg (vec 9 nul) from by rw [← wf_noW]]
    go_enter Try.func83, Try.ntmps83
    go_upto_region 1 with fail
    show Code.wp _ _ _ _ ((w.alloc (.cells (vec 9 (wf c)) 76)).alloc (.cells (vec 9 nul) 67))
    generalize (w.alloc (.cells (vec 9 (wf c)) 76)).alloc (.cells (vec 9 nul) 67) = W at *
    go_wp2_with (first | (refine load_part (T := 74) rfl rfl rfl (row_radius HW.out) Try.underlying74 rfl info_exact ?_))
    refine (C _).mono ?_; rintro e w2 ⟨rfl, hb2⟩
    have c0 := row_speed ((HW.out.below hb2).alloc (.cells (vec 8 c.r.up) 36))
    have HB2 : Aside (Below W.heap.size W w2) := hb2
    clear hb2 C
    go_wp2_with (first | (refine store_new (ty := 36) rfl rfl rfl rfl zero8 info_cyc ?_))
    refine (I _).mono ?_; rintro e w3 ⟨rfl, hw3⟩
    have HR3 : Aside (RowAt w3 w2.heap.size 8 36 c.r.up) := (show RowAt _ _ _ _ _ by rw [← hw3]; exact RowAt.new _ _ _ _)
    have HB3 : Aside (Below W.heap.size W w3) := (show Below _ _ _ by rw [← hw3]; exact HB2.out.alloc HB2.out.size _)
    rw [hw3] at c0
    have HO3 : Aside (RowAt w3 (w.heap.size + 1) 9 67 nul) := HO.out.below HB3.out
    clear hw3 HB2 I
    go_wp2_with (first | (refine build_zero9 (T := 67) rfl rfl built_nil ?_) | (refine store_row (ty := 67) (g := w.heap.size + 1) rfl rfl rfl rfl HO3.out info_wheel ?_))
    refine bodyPost_ret (results_row_tmp rfl rfl HO3.out.setRow Try.underlying67 rfl info_wheel) rfl ?_
    exact ⟨rfl, below_setRow (below_next HL.out HB3.out) (by omega) _⟩
  · have h1 : okv c.r = false := by simpa using h1
    rw [h1] at C
    simp only [Bool.false_eq_true, if_false, zero_up] at C
    clear h h1
    rw [show wh noW = .agg (vec 9 nul) from by rw [← wf_noW]]
    go_enter Try.func83, Try.ntmps83
    go_upto_region 1 with fail
    show Code.wp _ _ _ _ ((w.alloc (.cells (vec 9 (wf c)) 76)).alloc (.cells (vec 9 nul) 67))
    generalize (w.alloc (.cells (vec 9 (wf c)) 76)).alloc (.cells (vec 9 nul) 67) = W at *
    go_wp2_with (first | (refine load_part (T := 74) rfl rfl rfl (row_radius HW.out) Try.underlying74 rfl info_exact ?_))
    refine (C _).mono ?_; rintro e w2 ⟨rfl, hb2⟩
    have HB2 : Aside (Below W.heap.size W (w2.alloc (.cells (vec 8 nul) 36))) := hb2.alloc hb2.size _
    have HO2 : Aside (RowAt (w2.alloc (.cells (vec 8 nul) 36)) (w.heap.size + 1) 9 67 nul) := HO.out.below HB2.out
    clear hb2 C
    go_upto_region 2 with (first | (refine store_new (ty := 36) rfl rfl rfl rfl zero8 info_cyc ?_))
    show Code.wp _ _ _ _ (w2.alloc (.cells (vec 8 nul) 36))
    generalize w2.alloc (.cells (vec 8 nul) 36) = w3 at *
    go_wp2_with (first | (refine build_zero9 (T := 67) rfl rfl built_nil ?_) | (refine store_row (ty := 67) (g := w.heap.size + 1) rfl rfl rfl rfl HO2.out info_wheel ?_))
    refine bodyPost_ret (results_row_tmp rfl rfl HO2.out.setRow Try.underlying67 rfl info_wheel) rfl ?_
    exact ⟨rfl, below_setRow (below_next HL.out HB2.out) (by omega) _⟩

end Go.Proofs.Ytbdhbkedeglagaa
/- impl: lists of circles told and changed. -/
namespace Go.Proofs.Ytbdhbkedeglagaa
set_option maxRecDepth 20000
open Go.ChangeShapes Go.WideShapes Go.ChangeAt Go.RowKit
set_option linter.unusedVariables false
set_option linter.unusedSimpArgs false

set_option maxHeartbeats 2000000 in
theorem toldAll_any (v : Value) (ws : List Wh) (w : World) (hv : Reads w v ws) :
    Calls Try.prog 64 #[v] w fun e w' => Below w.heap.size w w' ∧ ∃ v', e = .returned (.tuple #[v', .bool (valid ws)]) ∧ Own w' w.heap.size 67 v' (only (valid ws) ws) := by
  obtain ⟨p, cap, rfl, hc1, hc2, hp0, hp⟩ := hv
  have hm : ws.length ≤ maxLen := by omega
  simp only [maxLen] at hm hc2
  by_cases hl : 12 < ws.length
  · rw [valid_long hl]
    rw [only_no]
    have hlz : (12 : Int) < (ws.length : Int) := by omega
    have HP := Lib.hid hp
    clear hp
    go_enter Try.func64, Try.ntmps64
    go_wp2
    go_ret2
    exact ⟨Below.refl _ _, _, rfl, own_nil _ _ _⟩
  · have hlz : ¬ (12 : Int) < (ws.length : Int) := by omega
    have HP := Lib.hid hp
    clear hp
    go_enter Try.func64, Try.ntmps64
    go_wp2_with (refine make9 tyW rfl rfl ws.length rfl rfl (by omega) (Below.refl _ w) (Nat.le_refl _) ?_; intro w1 ho1 hb1 hB1)
    go_loopw [4, 6, 7, 8, 17] (fun v' _ _ _ i wr => ∃ k : Nat, k ≤ ws.length ∧ i = .int .i64 k ∧ Own wr w.heap.size 67 v' (ws.take k) ∧ (ws.take k).all wOk = true ∧ Below w.heap.size w wr ∧ w.heap.size ≤ wr.heap.size) (fun _ _ _ _ i _ => ws.length - (intOf i).toNat)
    case atStart => exact ⟨0, Nat.zero_le _, rfl, ho1, rfl, hb1, hB1⟩
    case round =>
      obtain ⟨k, hk, rfl, hO, hall, hbel, hB⟩ := hrel
      by_cases hlt : k < ws.length
      · have hkz : (k : Int) < (ws.length : Int) := by omega
        have hk0 : (0 : Int) ≤ (k : Int) := by omega
        obtain ⟨c, hc⟩ : ∃ c, ws[k]? = some c := ⟨_, List.getElem?_eq_getElem hlt⟩
        obtain ⟨g, o, rfl, hg, hr⟩ := HP.out (by rintro rfl; have := hp0 rfl; omega)
        have HE := Lib.hid (range_part (range_below hr hg hbel) hc)
        have HO := Lib.hid hO
        have HL := Lib.hid hbel
        have HA := Lib.hid hall
        have HB := Lib.hid hB
        have HC := Lib.hid hc
        clear hr hO hbel hall hB hc
        have HW := Lib.hid (RowAt.new wr 9 76 (wf c))
        by_cases h1 : wOk c = true
        · have C := fun w => ctold_yes c h1 w
          go_wp2_with (first | (refine load_wheel (T := 76) rfl rfl rfl HE.out Try.underlying76 rfl info_circle ?_) | (refine store_new (ty := 76) rfl rfl rfl rfl zero9 info_circle ?_) | (refine load_row (ty := 76) (g := wr.heap.size) rfl rfl rfl HW.out Try.underlying76 rfl info_circle ?_))
          refine (C _).mono ?_; rintro e w2 ⟨rfl, hb2⟩
          have HB2 := Lib.hid hb2
          clear hb2 C
          go_upto_region 8 with (first | (refine store_new (ty := 67) rfl rfl rfl rfl zero9 info_wheel ?_))
          show Code.wp _ _ _ _ (w2.alloc (.cells (vec 9 (wf c)) 67))
          have HR3 := Lib.hid (RowAt.new w2 9 67 (wf c))
          have hb3 : Below wr.heap.size wr (w2.alloc (.cells (vec 9 (wf c)) 67)) := below_next ((Below.refl _ _).alloc (Nat.le_refl _) _) (HB2.out.alloc HB2.out.size _)
          have HO3 := Lib.hid (own_below HO.out hb3)
          have HBW := Lib.hid (below_next HL.out hb3)
          have HBS := Lib.hid (Nat.le_trans HB.out hb3.size)
          clear hb3 HB2
          generalize w2.alloc (.cells (vec 9 (wf c)) 67) = w3 at *
          go_wp2_with (first | (refine load_row (ty := 67) (g := w2.heap.size) rfl rfl rfl HR3.out Try.underlying67 rfl info_wheel ?_; clear HR3) | (refine one9 tyW rfl rfl rfl ?_) |
            (refine append9 tyW rfl rfl rfl rfl (HO3.out.alloc _) (reads_lit _ _ _) (by simp; omega) (HBW.out.alloc HBS.out _) (by simp; have := HBS.out; omega) ?_; intro v2 w4 ho4 hb4 hB4))
          go_roundw
          case rel =>
            refine ⟨k + 1, by omega, by go_num, ?_, all_take HA.out HC.out h1, hb4, hB4⟩
            rw [take_next HC.out]; exact ho4
          case measure => simp [intOf]; omega
        · have h1 : wOk c = false := by simpa using h1
          have C := fun w => ctold_no c h1 w
          go_wp2_with (first | (refine load_wheel (T := 76) rfl rfl rfl HE.out Try.underlying76 rfl info_circle ?_) | (refine store_new (ty := 76) rfl rfl rfl rfl zero9 info_circle ?_) | (refine load_row (ty := 76) (g := wr.heap.size) rfl rfl rfl HW.out Try.underlying76 rfl info_circle ?_))
          refine (C _).mono ?_; rintro e w2 ⟨rfl, hb2⟩
          have HBW := Lib.hid (below_next HL.out (below_next ((Below.refl wr.heap.size wr).alloc (Nat.le_refl _) _) (hb2.alloc hb2.size (.cells (vec 9 (wf noW)) 67))))
          clear hb2 C
          go_wp2_with (first | (refine store_new (ty := 67) rfl rfl rfl rfl zero9 info_wheel ?_))
          go_ret2
          rw [valid_bad HC.out h1]
          exact ⟨HBW.out, _, rfl, own_nil _ _ _⟩
      · obtain rfl : k = ws.length := by omega
        have HO := Lib.hid hO
        have HL := Lib.hid hbel
        have HA := Lib.hid hall
        clear hO hbel hall hB
        go_wp2
        go_ret2
        have hv : valid ws = true := by
          unfold valid
          have := HA.out
          rw [List.take_length] at this
          rw [this, decide_eq_true (by omega)]; rfl
        have ho := HO.out
        rw [List.take_length] at ho
        rw [hv]
        exact ⟨HL.out, _, rfl, ho⟩

set_option maxHeartbeats 2000000 in
theorem changed_any (F : Nat) (cb : Array Value) (f : Wh → Wh) (v : Value) (ws : List Wh) (w : World) (hv : Reads w v ws) (hn : ws.length ≤ 1000000) (eg : ∀ args w, (callFunc F args).run Try.prog w = .ok (.enter F args) w)
    (hf : ∀ c ∈ ws, ∀ w', Below w.heap.size w w' → Calls Try.prog F (#[wh c] ++ cb) w' fun e w'' => e = .returned (wh (f c)) ∧ Below w'.heap.size w' w'') :
    Calls Try.prog 91 #[v, .func (.func F) #[] cb] w fun e w' => Below w.heap.size w w' ∧ ∃ v', e = .returned v' ∧ Own w' w.heap.size 76 v' (ws.map f) := by
  obtain ⟨p, cap, rfl, hc1, hc2, hp0, hp⟩ := hv
  simp only [maxLen] at hc2
  have HP := Lib.hid hp
  have HF := Lib.hid hf
  clear hp hf
  go_enter Try.func91, Try.ntmps91
  go_wp2_with (refine make9 tyC rfl rfl ws.length rfl rfl (by omega) (Below.refl _ w) (Nat.le_refl _) ?_; intro w1 ho1 hb1 hB1)
  go_loopw [5, 7, 13] (fun v' _ i wr => ∃ k : Nat, k ≤ ws.length ∧ i = .int .i64 k ∧ Own wr w.heap.size 76 v' ((ws.take k).map f) ∧ Below w.heap.size w wr ∧ w.heap.size ≤ wr.heap.size) (fun _ _ i _ => ws.length - (intOf i).toNat)
  case atStart => exact ⟨0, Nat.zero_le _, rfl, ho1, hb1, hB1⟩
  case round =>
    obtain ⟨k, hk, rfl, hO, hbel, hB⟩ := hrel
    by_cases hlt : k < ws.length
    · have hkz : (k : Int) < (ws.length : Int) := by omega
      have hk0 : (0 : Int) ≤ (k : Int) := by omega
      obtain ⟨c, hc⟩ : ∃ c, ws[k]? = some c := ⟨_, List.getElem?_eq_getElem hlt⟩
      obtain ⟨g, o, rfl, hg, hr⟩ := HP.out (by rintro rfl; have := hp0 rfl; omega)
      have HE := Lib.hid (range_part (range_below hr hg hbel) hc)
      have HO := Lib.hid hO
      have HL := Lib.hid hbel
      have HB := Lib.hid hB
      have HC := Lib.hid hc
      clear hr hO hbel hB hc
      have HW := Lib.hid (RowAt.new wr 9 76 (wf c))
      go_wp2_with (first | (refine load_wheel (T := 76) rfl rfl rfl HE.out Try.underlying76 rfl info_circle ?_) | (refine store_new (ty := 76) rfl rfl rfl rfl zero9 info_circle ?_) | (refine load_row (ty := 76) (g := wr.heap.size) rfl rfl rfl HW.out Try.underlying76 rfl info_circle ?_))
      have hb1 : Below w.heap.size w (wr.alloc (.cells (vec 9 (wf c)) 76)) := below_next HL.out ((Below.refl _ _).alloc (Nat.le_refl _) _)
      refine (HF.out c (List.mem_of_getElem? HC.out) _ hb1).mono ?_; rintro e w3 ⟨rfl, hb3⟩
      have hb4 : Below wr.heap.size wr w3 := below_next ((Below.refl _ _).alloc (Nat.le_refl _) _) hb3
      have HO3 := Lib.hid (own_below HO.out hb4)
      have HBW := Lib.hid (below_next hb1 hb3)
      have HBS := Lib.hid (Nat.le_trans HB.out hb4.size)
      clear hb1 hb3 hb4 HW HF
      go_wp2_with (first | (refine one9 tyC rfl rfl rfl ?_) |
        (refine append9 tyC rfl rfl rfl rfl (HO3.out.alloc _) (reads_lit _ _ _) (by simp; omega) (HBW.out.alloc HBS.out _) (by simp; have := HBS.out; omega) ?_; intro v2 w4 ho4 hb4 hB4))
      go_roundw
      case rel =>
        refine ⟨k + 1, by omega, by go_num, ?_, hb4, hB4⟩
        rw [take_next HC.out, List.map_append]; exact ho4
      case measure => simp [intOf]; omega
    · obtain rfl : k = ws.length := by omega
      have HO := Lib.hid hO
      have HL := Lib.hid hbel
      clear hO hbel hB HF
      go_wp2
      go_ret
      have ho := HO.out
      rw [List.take_length] at ho
      exact ⟨HL.out, _, rfl, ho⟩

/-! What is 0 is left out. -/
theorem isNothing_below (c : Wh) (w : World) : Calls Try.prog 63 #[wh c] w fun e w' => e = .returned (.bool (!nz c)) ∧ Below w.heap.size w w' := by
  refine (isNothing_any c w).mono ?_
  rintro e w' ⟨rfl, o, rfl⟩
  exact ⟨rfl, (Below.refl _ _).alloc (Nat.le_refl _) _⟩
abbrev noV : Value := .func (.func 63) #[] #[]
theorem enters_isNothing : ∀ args w, (callFunc 63 args).run Try.prog w = .ok (.enter 63 args) w := enters_of Try.func63 (by kernel_rfl) rfl
/-- The first circle that is 0. -/
def firstZ : List Wh → Nat
  | [] => 0
  | c :: cs => if nz c then firstZ cs + 1 else 0
theorem firstZ_le : ∀ ws, firstZ ws ≤ ws.length
  | [] => Nat.le_refl _
  | c :: cs => by
    unfold firstZ
    have := firstZ_le cs
    split <;> simp <;> omega
theorem firstZ_before : ∀ (ws : List Wh) (k : Nat), (∀ i c, i < k → ws[i]? = some c → nz c = true) → k ≤ ws.length → k ≤ firstZ ws
  | [], k, _, h => by simp only [List.length_nil] at h; omega
  | c :: cs, 0, _, _ => Nat.zero_le _
  | c :: cs, k + 1, h, hk => by
    have h0 := h 0 c (by omega) (by simp)
    unfold firstZ
    rw [if_pos h0]
    have := firstZ_before cs k (fun i d hi hd => h (i + 1) d (by omega) (by simpa using hd)) (by simpa using hk)
    omega
theorem firstZ_at : ∀ (ws : List Wh) (k : Nat) (c : Wh), ws[k]? = some c → nz c = false → firstZ ws ≤ k
  | [], k, c, h, _ => by simp at h
  | d :: cs, 0, c, h, hn => by
    simp only [List.getElem?_cons_zero, Option.some.injEq] at h
    subst h
    unfold firstZ
    rw [if_neg (by rw [hn]; decide)]; exact Nat.le_refl _
  | d :: cs, k + 1, c, h, hn => by
    have := firstZ_at cs k c (by simpa using h) hn
    unfold firstZ
    split <;> omega
/-- Where IndexFunc points. -/
def idxZ (ws : List Wh) : Int := if firstZ ws = ws.length then -1 else firstZ ws

set_option maxHeartbeats 2000000 in
theorem indexZ_any (v : Value) (ws : List Wh) (w : World) (hv : Reads w v ws) :
    Calls Try.prog 82 #[v, noV] w fun e w' => e = .returned (.int .i64 (idxZ ws)) ∧ Below w.heap.size w w' := by
  obtain ⟨p, cap, rfl, hc1, hc2, hp0, hp⟩ := hv
  simp only [maxLen] at hc2
  have HP := Lib.hid hp
  have eg := enters_isNothing
  clear hp
  go_enter Try.func82, Try.ntmps82
  go_wp2
  go_loopw [5, 8] (fun _ i wr => ∃ k : Nat, k ≤ ws.length ∧ i = .int .i64 k ∧ (∀ i c, i < k → ws[i]? = some c → nz c = true) ∧ Below w.heap.size w wr) (fun _ i _ => ws.length - (intOf i).toNat)
  case atStart => exact ⟨0, Nat.zero_le _, rfl, fun i c h _ => by omega, Below.refl _ _⟩
  case round =>
    obtain ⟨k, hk, rfl, hfz, hbel⟩ := hrel
    by_cases hlt : k < ws.length
    · have hkz : (k : Int) < (ws.length : Int) := by omega
      have hk0 : (0 : Int) ≤ (k : Int) := by omega
      obtain ⟨c, hc⟩ : ∃ c, ws[k]? = some c := ⟨_, List.getElem?_eq_getElem hlt⟩
      obtain ⟨g, o, rfl, hg, hr⟩ := HP.out (by rintro rfl; have := hp0 rfl; omega)
      have HE := Lib.hid (range_part (range_below hr hg hbel) hc)
      have HL := Lib.hid hbel
      have HC := Lib.hid hc
      have HZ := Lib.hid hfz
      clear hr hbel hc hfz
      have C := fun w => isNothing_below c w
      go_wp2_with (first | (refine load_wheel (T := 76) rfl rfl rfl HE.out Try.underlying76 rfl info_circle ?_))
      refine (C _).mono ?_; rintro e w2 ⟨rfl, hb2⟩
      have HL2 := Lib.hid (below_next HL.out hb2)
      clear C hb2
      cases hz : nz c
      · go_wp2
        go_ret
        have e : firstZ ws = k := Nat.le_antisymm (firstZ_at ws k c HC.out hz) (firstZ_before ws k HZ.out hk)
        exact ⟨by unfold idxZ; rw [e, if_neg (by omega)]; rfl, HL2.out⟩
      · go_wp2
        go_roundw
        case rel =>
          refine ⟨k + 1, by omega, by go_num, fun i d hi hd => ?_, HL2.out⟩
          by_cases e : i = k
          · subst e
            have := HC.out
            rw [hd] at this
            simp only [Option.some.injEq] at this
            rw [this]; exact hz
          · exact HZ.out i d (by omega) hd
        case measure => simp [intOf]; omega
    · obtain rfl : k = ws.length := by omega
      have HL := Lib.hid hbel
      have HZ := Lib.hid hfz
      clear hbel hfz
      go_wp2
      go_ret
      have e : firstZ ws = ws.length := Nat.le_antisymm (firstZ_le ws) (firstZ_before ws _ HZ.out (Nat.le_refl _))
      exact ⟨by unfold idxZ; rw [e, if_pos rfl]; rfl, HL.out⟩

/-- 'clear' behind what stays of a list that the call owns. -/
theorem run_clear_own {P : Program} {t e : TypeId} {i : TypeInfo} {w : World} {B g cap m : Nat} {ws : List Wh} (ht : P.underlying t = some (.slice e)) (hi : P.info? e = some i) (hz : i.zero = some (.agg (vec 9 nul)))
    (ho : Own w B e (.slice (some ⟨g, 0, none⟩) ws.length cap) ws) (hm : m ≤ ws.length) :
    ∃ w', (∀ ty, (Builtin.clear_ #[t] ty #[.slice (some ⟨g, m * 9, none⟩) (ws.length - m) (cap - m)]).run P w = .ok (.tuple #[]) w') ∧ w.grownBy w' (some g) ∧ Own w' B e (.slice (some ⟨g, 0, none⟩) (ws.take m).length cap) (ws.take m) := by
  rcases ho.2 with ⟨h0, _⟩ | ⟨g', cap', cur, e', hg0, hg, h1, h2, h3, h4⟩
  · cases h0
  · simp only [Value.slice.injEq, Option.some.injEq, Addr.mk.injEq, and_true, true_and] at e'
    obtain ⟨rfl, rfl⟩ := e'
    have hl : (ws.take m).length = m := by rw [List.length_take]; omega
    have htk : ∀ cur' : Array Value, cur'.toList.take (m * 9) = cur.toList.take (m * 9) → cur'.toList.take ((ws.take m).length * 9) = flat (ws.take m) := fun cur' h => by
      rw [hl, h, flat_take, ← h4, List.take_take, Nat.min_eq_left (by omega)]
    rcases Nat.eq_or_lt_of_le hm with hm' | hm'
    · subst hm'
      refine ⟨w, fun ty => by simp [Builtin.clear_, run_underlying ht], World.grownBy.refl w _, ⟨by rw [flat_length], .inr ⟨g, cap, cur, rfl, hg0, hg, by omega, h2, h3, htk cur rfl⟩⟩⟩
    · obtain ⟨q, hq⟩ : ∃ q, ws.length - m = q + 1 := ⟨ws.length - m - 1, by omega⟩
      have hzc : (Builtin.zeroCells (vec 9 nul) (q + 1)).toList.length = (q + 1) * 9 := by simp [Builtin.zeroCells, vec_size]
      have hone : ∀ v ∈ (Builtin.zeroCells (vec 9 nul) (q + 1)).toList, v.oneCell' = true := fun v hv => by
        simp only [Builtin.zeroCells, Array.toList_map, List.mem_map] at hv
        obtain ⟨j, _, rfl⟩ := hv
        have hj : j % (vec 9 nul).size < (vec 9 nul).size := Nat.mod_lt _ (by rw [vec_size]; omega)
        rw [getElem!_pos (vec 9 nul) _ hj]
        exact (Array.all_eq_true.1 (vec_one 9 nul)) _ hj
      have hst := run_storeCells_at P g (m * 9) e (Builtin.zeroCells (vec 9 nul) (q + 1)).toList 0 cur w hg (by rw [hzc, h3, Nat.add_zero, ← Nat.add_mul]; exact Nat.mul_le_mul_right _ (by omega)) hone
      refine ⟨w.setRow g (List.take (m * 9 + 0) cur.toList ++ (Builtin.zeroCells (vec 9 nul) (q + 1)).toList ++ List.drop (m * 9 + 0 + (Builtin.zeroCells (vec 9 nul) (q + 1)).toList.length) cur.toList).toArray, fun ty => ?_, ⟨rfl, rfl, rfl, by simp, fun k _ hk => setRow_other w g k _ (fun e => hk (by simp [e]))⟩, ⟨by rw [flat_length], .inr ⟨g, cap, _, rfl, hg0, setRow_heap w g cur _ e _ hg, by omega, h2, ?_, htk _ ?_⟩⟩⟩
      · rw [hq]
        have hu : ∀ w, (underlying t).run P w = .ok (.slice e) w := run_underlying ht
        have hzv : (zeroValue e).run P w = .ok (.agg (vec 9 nul)) w := by simp [zeroValue, typeInfo, hi, hz]
        unfold Builtin.clear_
        show Sem.run P (underlying t >>= fun d => _) w = _
        rw [Sem.run_bind, hu, Result.andThen_ok]
        show Sem.run P (zeroValue e >>= fun z => storeCells ⟨g, m * 9, none⟩ (Builtin.zeroCells z.cells (q + 1)).toList >>= fun _ => pure (Value.tuple #[])) w = _
        rw [Sem.run_bind, hzv, Result.andThen_ok]
        show Sem.run P (storeCells ⟨g, m * 9, none⟩ (Builtin.zeroCells (vec 9 nul) (q + 1)).toList >>= fun _ => pure (Value.tuple #[])) w = _
        rw [Sem.run_bind, hst, Result.andThen_ok]
        rfl
      · rw [List.size_toArray, List.length_append, List.length_append, List.length_take, List.length_drop, hzc, Array.length_toList, h3]
        have : m * 9 + (q + 1) * 9 ≤ cap * 9 := by rw [← Nat.add_mul]; exact Nat.mul_le_mul_right _ (by omega)
        omega
      · have : m * 9 ≤ cap * 9 := Nat.mul_le_mul_right _ (by omega)
        rw [List.append_assoc, List.take_append_of_le_length (by rw [List.length_take, Array.length_toList, h3]; omega), Nat.add_zero, List.take_take, Nat.min_self]

end Go.Proofs.Ytbdhbkedeglagaa
