/-
  Sorted circles: the library's stable sort over a list that the call owns.
-/
import Derived.Test.YteicmnoafoekcaaWheelStab
namespace Go.Proofs.Yteicmnoafoekcaa
set_option maxRecDepth 20000
open Go.Shelf Go.RowKit Go.Lib Go.Sort Go.ChangeShapes Go.WideShapes Go.ChangeAt
set_option linter.unusedVariables false
set_option linter.unusedSimpArgs false

theorem flatK_flat (d : Array Wh) : (flatK enc 9 d).toList = flat d.toList := by
  apply List.ext_getElem?
  intro t
  by_cases ht : t < d.size * 9
  · have hi : t / 9 < d.size := by omega
    have hc : d.toList[t / 9]? = some d[t / 9]! := by simp [hi]
    have h1 := flat_at hc (t % 9) (by omega)
    rw [show t / 9 * 9 + t % 9 = t from by omega] at h1
    rw [h1, Array.getElem?_toList]
    have h2 : t < (flatK enc 9 d).size := by simpa using ht
    rw [Array.getElem?_eq_getElem h2, ← getElem!_pos (flatK enc 9 d) t h2, get_flatK enc 9 d t ht]
    have h3 : t % 9 < (enc d[t / 9]!).length := by rw [enc_length]; omega
    rw [List.getElem?_eq_getElem h3, getElem!_pos (enc d[t / 9]!) (t % 9) h3]
  · rw [List.getElem?_eq_none (by simp; omega), List.getElem?_eq_none (by rw [flat_length]; simp; omega)]
theorem holds_of_own {w : World} {g T : Nat} {cur : Array Value} {ws : List Wh} (hb : w.heap[g]? = some (.cells cur T (0, 0))) (ht : cur.toList.take (ws.length * 9) = flat ws) : HoldsK enc 9 w g 0 ws.toArray := by
  intro j hj
  have hj' : j < ws.length * 9 := by simpa using hj
  refine ⟨?_, by simp [World.frozen?, hb]⟩
  have h1 : (cur.toList.take (ws.length * 9))[j]? = (flat ws)[j]? := by rw [ht]
  rw [List.getElem?_take_of_lt hj', Array.getElem?_toList] at h1
  rw [Nat.zero_add, cell_of_row w g j cur T (0, 0) hb, h1]
  have h2 := flatK_flat ws.toArray
  have h3 : (flatK enc 9 ws.toArray).toList[j]? = (flat ws)[j]? := by rw [h2]
  rw [← h3, Array.getElem?_toList, Array.getElem?_eq_getElem hj, getElem!_pos (flatK enc 9 ws.toArray) j hj]; rfl
theorem heap_put {w : World} {g n T : Nat} {os : Array Obj} {cur : Array Value} (d : Array Wh) (hb : w.heap[g]? = some (.cells cur T (0, 0))) :
    (grow (putRowK enc 9 (Sort.ahead w n) g 0 d) os).heap[g]? = some (.cells (putCells id 0 (flatK enc 9 d) cur) T (0, 0)) := by
  have hg : g < w.heap.size := (Array.getElem?_eq_some_iff.1 hb).1
  rw [heap_grow_old _ _ (by simpa [putRowK] using hg)]
  simp [putRowK, putRow, mapBlock, Sort.ahead, Array.getElem?_modify, hb, onCells]
theorem grownBy_put {w : World} {g n : Nat} {os : Array Obj} (d : Array Wh) : w.grownBy (grow (putRowK enc 9 (Sort.ahead w n) g 0 d) os) (some g) := by
  refine ⟨rfl, rfl, rfl, by simp [putRowK], fun k hk hne => ?_⟩
  rw [heap_grow_old _ _ (by simpa [putRowK] using hk)]
  have : g ≠ k := fun e => hne (by rw [e])
  simp [putRowK, putRow, mapBlock, Sort.ahead, Array.getElem?_modify, this]
theorem take_put (cur : Array Value) (d : Array Wh) (h : d.size * 9 ≤ cur.size) : (putCells id 0 (flatK enc 9 d) cur).toList.take (d.size * 9) = flat d.toList := by
  rw [← flatK_flat]
  apply List.ext_getElem?
  intro j
  by_cases hj : j < d.size * 9
  · have hj2 : j < (flatK enc 9 d).size := by simpa using hj
    rw [List.getElem?_take_of_lt hj, Array.getElem?_toList, Array.getElem?_toList, Array.getElem?_eq_getElem hj2]
    simp [putCells, hj, show j < cur.size by omega, hj2]
  · rw [List.getElem?_take_eq_none (by omega), List.getElem?_eq_none (by simp; omega)]
/-- What a sort answers. -/
def SortOf (ws L : List Wh) : Prop := (∀ s, pre s L = pre s ws) ∧ L.Pairwise (fun a b => a.s ≤ b.s) ∧ L.length = ws.length
theorem sortOf_merged {ws : List Wh} {d' : Array Wh} (h : Merged ws.toArray d' 0 ws.toArray.size) : SortOf ws d'.toList := by
  refine ⟨h.keeps.2, ?_, by simpa using h.keeps.1⟩
  rw [List.pairwise_iff_getElem]
  intro i j hi hj hij
  have hs : d'.size = ws.length := by simpa using h.keeps.1
  have := h.up i j (Nat.zero_le _) (by omega) (by simpa [hs] using hj)
  simp only [Array.length_toList] at hi hj
  simpa [hi, hj] using this
/-- Behind a sort the same slice owns the sorted list. -/
theorem own_sorted {w0 w' : World} {B T g cap : Nat} {ws : List Wh} {d' : Array Wh} (ho : Own w0 B T (.slice (some ⟨g, 0, none⟩) ws.length cap) ws) (h : Merged ws.toArray d' 0 ws.toArray.size) (S : SWK enc 9 w0 g 0 d' w') (hB : B ≤ w0.heap.size) :
    Own w' B T (.slice (some ⟨g, 0, none⟩) ws.length cap) d'.toList ∧ Below B w0 w' := by
  have hs : d'.size = ws.length := by simpa using h.keeps.1
  obtain ⟨n, os, rfl⟩ := S
  rcases ho.2 with ⟨h0, _⟩ | ⟨g', cap', cur, e, hg0, hg, h1, h2, h3, h4⟩
  · cases h0
  · simp only [Value.slice.injEq, Option.some.injEq, Addr.mk.injEq, and_true, true_and] at e
    obtain ⟨rfl, rfl⟩ := e
    refine ⟨⟨by rw [flat_length], .inr ⟨g, cap, _, by simp [hs], hg0, heap_put d' hg, by simpa [hs] using h1, h2, by simp [putCells, h3], ?_⟩⟩, ?_⟩
    · have := take_put cur d' (by rw [h3, hs]; exact Nat.mul_le_mul_right _ h1)
      simpa using this
    · exact below_grown (Below.refl B w0) (grownBy_put d') hB fun k hk => by
        simp only [Option.some.injEq] at hk; omega

/-- How many circles the sort is told of. -/
def sortMost : Nat := 200
theorem stable_any (blk cap : Nat) (d : Array Wh) (w : World) (R : RowK enc 9 w blk 0 d) (hn : d.size ≤ sortMost) :
    Calls Try.prog 124 #[rowV blk 0 d.size cap, .int .i64 d.size, byV] w fun e w' => e = .returned (.tuple #[]) ∧ ∃ d', Merged d d' 0 d.size ∧ SWK enc 9 w blk 0 d' w' :=
  stable_all blk cap d w R (by unfold sortMost at hn; omega)
theorem sortStable_any (g cap B : Nat) (ws : List Wh) (w : World) (ho : Own w B 68 (.slice (some ⟨g, 0, none⟩) ws.length cap) ws) (hn : ws.length ≤ sortMost) (hB : B ≤ w.heap.size) :
    Calls Try.prog 117 #[.slice (some ⟨g, 0, none⟩) ws.length cap, byV] w fun e w' => e = .returned (.tuple #[]) ∧ Below B w w' ∧ ∃ L, SortOf ws L ∧ Own w' B 68 (.slice (some ⟨g, 0, none⟩) L.length cap) L := by
  have hb : ∃ cur, w.heap[g]? = some (.cells cur 68 (0, 0)) ∧ cur.toList.take (ws.length * 9) = flat ws := by
    rcases ho.2 with ⟨h0, _⟩ | ⟨g', cap', cur, e, hg0, hg, h1, h2, h3, h4⟩
    · cases h0
    · simp only [Value.slice.injEq, Option.some.injEq, Addr.mk.injEq, and_true, true_and] at e
      obtain ⟨rfl, rfl⟩ := e
      exact ⟨cur, hg, h4⟩
  obtain ⟨cur, hg, htk⟩ := hb
  have R : RowK enc 9 w g 0 ws.toArray := ⟨enc_length, enc_one, holds_of_own hg htk, (Array.getElem?_eq_some_iff.1 hg).1⟩
  have C := stable_any g cap ws.toArray w R (by simpa using hn)
  simp only [List.size_toArray] at C
  have hc := Lib.hid C
  have HO := Lib.hid ho
  clear C R htk hg ho
  go_enter Try.func117, Try.ntmps117
  go_wp2_with fail
  refine hc.out.mono ?_; rintro e w1 ⟨rfl, d', M, S⟩
  have M' : Merged ws.toArray d' 0 ws.toArray.size := by simpa using M
  have hs := sortOf_merged M'
  obtain ⟨h1, h2⟩ := own_sorted HO.out M' S hB
  have H1 : Aside (Below B w w1 ∧ ∃ L, SortOf ws L ∧ Own w1 B 68 (.slice (some ⟨g, 0, none⟩) L.length cap) L) := ⟨h2, d'.toList, hs, by rw [hs.2.2]; exact h1⟩
  clear M M' hs h1 h2 S
  go_wp2
  go_end0
  exact ⟨rfl, H1.out⟩

theorem own_lit (w : World) (B T : Nat) (hB : B ≤ w.heap.size) : Own (w.alloc (.cells #[] T)) B T (.slice (some ⟨w.heap.size, 0, none⟩) 0 0) [] :=
  World.ownsRow_lit w #[] 0 hB (by simp [maxLen]) rfl

theorem insertion_nil (w : World) :
    Calls Try.prog 126 #[.slice none 0 0, .int .i64 0, .int .i64 0, byV] w fun e w' => e = .returned (.tuple #[]) ∧ w = w' := by
  go_enter Try.func126, Try.ntmps126
  go_wp2
  refine wp_loop_rounds 1 ?_
  rw [rounds_succ]
  go_wp2
  go_end0
  exact ⟨rfl, rfl⟩
theorem sort_nil (w : World) :
    Calls Try.prog 117 #[.slice none 0 0, byV] w fun e w' => e = .returned (.tuple #[]) ∧ w = w' := by
  have C : ∀ w, Calls Try.prog 124 #[.slice none 0 0, .int .i64 0, byV] w fun e w' => e = .returned (.tuple #[]) ∧ w = w' := fun w => by
    go_enter Try.func124, Try.ntmps124
    go_wp2
    refine wp_loop_rounds 1 ?_
    rw [rounds_succ]
    go_wp2_with fail
    refine (insertion_nil _).mono ?_; rintro e w1 ⟨rfl, rfl⟩
    go_wp2
    refine wp_loop_rounds 1 ?_
    rw [rounds_succ]
    go_wp2
    go_end0
    exact ⟨rfl, rfl⟩
  go_enter Try.func117, Try.ntmps117
  go_wp2_with fail
  refine (C _).mono ?_; rintro e w1 ⟨rfl, rfl⟩
  go_wp2
  go_end0
  exact ⟨rfl, rfl⟩
theorem sortStable_own (v : Value) (B : Nat) (ws : List Wh) (w : World) (ho : Own w B 68 v ws) (hn : ws.length ≤ sortMost) (hB : B ≤ w.heap.size) :
    Calls Try.prog 117 #[v, byV] w fun e w' => e = .returned (.tuple #[]) ∧ Below B w w' ∧ ∃ L, SortOf ws L ∧ Own w' B 68 v L := by
  have h2 := ho.2
  rcases h2 with ⟨rfl, h0⟩ | ⟨g, cap, cur, rfl, _⟩
  · refine (sort_nil w).mono ?_
    rintro e w' ⟨rfl, rfl⟩
    exact ⟨rfl, Below.refl _ _, ws, ⟨fun s => rfl, by rw [List.length_eq_zero_iff.1 h0]; exact List.Pairwise.nil, rfl⟩, ho⟩
  · refine (sortStable_any g cap B ws w ho hn hB).mono ?_
    rintro e w' ⟨rfl, h1, L, h2, h3⟩
    exact ⟨rfl, h1, L, h2, by rw [h2.2.2] at h3; exact h3⟩

set_option maxHeartbeats 1000000 in
theorem clone_any (v : Value) (B : Nat) (ws : List Wh) (w : World) (ho : Own w B 68 v ws) (hn : ws.length ≤ 1000000) :
    Calls Try.prog 116 #[v] w fun e w' => Below w.heap.size w w' ∧ ∃ v', e = .returned v' ∧ Own w' w.heap.size 68 v' ws := by
  have hr := own_reads ho
  have h2 := ho.2
  rcases h2 with ⟨rfl, h0⟩ | ⟨g, cap, cur, rfl, _⟩
  · have h0 := List.length_eq_zero_iff.1 h0
    subst h0
    have E : ∀ w, (binOp .eql 57 (.slice none 0 0) (.slice none 0 0)).run Try.prog w = .ok (.bool true) w := fun w => by rfl
    clear ho hr
    go_enter Try.func116, Try.ntmps116
    go_wp2
    go_ret
    exact ⟨Below.refl _ _, _, rfl, own_nil _ _ _⟩
  · have E : ∀ w, (binOp .eql 57 (.slice (some ⟨g, 0, none⟩) ws.length cap) (.slice none 0 0)).run Try.prog w = .ok (.bool false) w := fun w => by rfl
    have HR := Lib.hid hr
    have HA := Lib.hid (own_lit w w.heap.size 68 (Nat.le_refl _))
    clear hr ho
    go_enter Try.func116, Try.ntmps116
    go_wp2_with (first | (refine append9 tyC rfl rfl rfl rfl HA.out (HR.out.below ((Below.refl _ _).alloc (Nat.le_refl _) _)) (by simp; omega) ((Below.refl w.heap.size w).alloc (Nat.le_refl _) _) (by simp) ?_; intro v2 w2 ho2 hb2 hB2))
    go_ret
    exact ⟨hb2, _, rfl, ho2⟩

/-- circles.sorted: a new list, in the order of the speeds. -/
theorem sorted_any (v : Value) (B : Nat) (ws : List Wh) (w : World) (ho : Own w B 68 v ws) (hn : ws.length ≤ sortMost) :
    Calls Try.prog 93 #[v, byV] w fun e w' => Below w.heap.size w w' ∧ ∃ v' L, e = .returned v' ∧ SortOf ws L ∧ Own w' w.heap.size 68 v' L := by
  have C := Lib.hid (clone_any v B ws w ho (by unfold sortMost at hn; omega))
  clear ho
  go_enter Try.func93, Try.ntmps93
  go_wp2_with fail
  refine C.out.mono ?_; rintro e w1 ⟨hb1, v1, rfl, ho1⟩
  have D := Lib.hid (sortStable_own v1 _ ws w1 ho1 hn hb1.size)
  have HB := Lib.hid hb1
  clear C ho1 hb1
  go_wp2_with fail
  refine D.out.mono ?_; rintro e w2 ⟨rfl, hb2, L, hs, ho2⟩
  have H : Aside (Below w.heap.size w w2 ∧ ∃ v' L, Value.tuple #[v1] = Value.tuple #[v'] ∧ SortOf ws L ∧ Own w2 w.heap.size 68 v' L) := ⟨HB.out.trans hb2, v1, L, rfl, hs, ho2⟩
  clear D HB hb2 hs ho2
  go_wp2
  go_ret
  obtain ⟨h1, v', L, h2, h3⟩ := H.out
  simp only [Value.tuple.injEq, Array.mk.injEq, List.cons.injEq, and_true] at h2
  exact ⟨h1, v', L, by rw [← h2]; rfl, h3⟩

end Go.Proofs.Yteicmnoafoekcaa
