/-
  Lists of elements of several cells as a law's arguments, whatever the element; lists of exact points.
-/
import Derived.Test.YtibhlaojinedoaaM04
import Derived.Test.YtibhlaojinedoaaM09
import Derived.Test.YtibhlaojinedoaaM13
import Derived.Deep.Slices
/- Lists of elements of several cells as a law's arguments, whatever the element; lists of exact points. -/
namespace Go.Proofs.Ytibhlaojinedoaa
open Go.Joins Go.ChangeShapes Go.WideShapes Go.RowKit Go.Deep
set_option maxRecDepth 20000
set_option linter.unusedVariables false
set_option linter.unusedSimpArgs false

section
variable {H : Type} {he : TypeId × Value → H} {P : Program} {w : World} {held : Bool} {α : Type} {en : α → List Value} {K : Nat}
theorem open_listL [Inhabited α] (E : Enc en K) {t e : TypeId} {fuel : Nat} {v : Value} {x : DataW H × List MemPlace} (ht : P.underlying t = some (.slice e)) (hce : P.cellsOf e = K)
    (hel : ∀ (n : Nat) (cs : List Value) (y : DataW H × List MemPlace), DataW.trod he P w 0 (fun _ => true) held n e cs = some y → cs.length = K → ∃ c : α, cs = en c) (hv : ∃ a len cap, v = .slice a len cap)
    (h : DataW.trod he P w 0 (fun _ => true) held fuel t v.cells.toList = some x) (hlt : ∀ y ∈ x.2, y.block < w.heap.size) : ∃ xs : List α, LiesL en w v xs := by
  obtain ⟨a0, len0, cap0, rfl⟩ := hv
  rcases open_slice ht h with ⟨hcs, hx⟩ | ⟨a, len, cap, m, n, D, Pl, hcs, _, hl, hm, hmm, hx, hi⟩
  · simp [Value.cells] at hcs
    obtain ⟨rfl, rfl, rfl⟩ := hcs
    exact ⟨[], none, 0, rfl, Nat.le_refl _, by simp [maxLen], fun hn => absurd rfl hn⟩
  · simp [Value.cells] at hcs
    obtain ⟨rfl, rfl, rfl⟩ := hcs
    simp only [if_true] at hmm
    subst hmm
    obtain ⟨C, hC⟩ := choose_lt (α := α) (n := m) (p := fun i c => ∀ j, j < K → w.cell? ((a.add (i * K)).add j) = (en c)[j]?) (fun i him => by
      obtain ⟨cs', h1, h2⟩ := hi i him
      rw [hce] at h1
      obtain ⟨_, hlen, h3⟩ := World.cells?_some h1
      obtain ⟨c, rfl⟩ := hel _ _ _ h2 hlen
      exact ⟨c, h3⟩)
    have hlen : ((List.range len0).map C).length = len0 := by simp
    refine ⟨(List.range len0).map C, some a, m, by rw [hlen], by rw [hlen]; exact hl, hm, fun hn => ?_⟩
    have h0 : 0 < len0 := by
      rcases Nat.eq_zero_or_pos len0 with h | h
      · subst h; exact absurd rfl hn
      · exact h
    have hpos := E.pos
    obtain ⟨b, off, spot⟩ := a
    have hspot : spot = none := by
      have h1 := hC 0 (by omega) 0 hpos
      rw [Go.Deep.add_add] at h1
      have h2 : 0 < (en (C 0)).length := by rw [E.len]; exact hpos
      rw [List.getElem?_eq_getElem h2] at h1
      simpa [Addr.add] using World.cell?_spot h1
    subst hspot
    refine ⟨b, off, rfl, ?_, cells_of_parts E fun i c hc j hj => ?_⟩
    · have hx2 : x.2 = MemPlace.row ⟨b, off, none⟩ (m * P.cellsOf e) ++ (List.range m).flatMap Pl := by rw [hx]
      refine hlt (.cell b off) ?_
      rw [hx2, hce]
      exact List.mem_append_left _ (MemPlace.mem_row.2 ⟨0, Nat.mul_pos (by omega) hpos, by simp⟩)
    · have hil : i < len0 := by
        rw [← hlen]; exact (List.getElem?_eq_some_iff.1 hc).1
      have hci : c = C i := by
        rw [List.getElem?_map, List.getElem?_range hil] at hc
        simpa using hc.symm
      have h1 := hC i (by omega) j hj
      rw [Go.Deep.add_add, add_plain] at h1
      rw [hci]; exact h1
end
/-- An exact point's eight cells. -/
def encV (a : V) : List Value := lst 8 a.up
theorem encV_ok : Enc encV 8 := ⟨fun a => lst_length 8 _, fun a => lst_one 8 _, by omega⟩
theorem encV_agg (a : V) : (Value.agg (encV a).toArray) = pt a.up := rfl
instance : Inhabited V := ⟨V.zero⟩
section
variable {H : Type} {he : TypeId × Value → H} {P : Program} {w : World} {base : Nat} {spare : Nat → Bool} {held : Bool}
/-- The cells of a struct of one array of eight numbers are a point's. -/
theorem cells_point {t ti ta : TypeId} {g0 : Field} {fuel : Nat} {cs : List Value} {x : DataW H × List MemPlace} (hc : P.underlying t = some (.struct #[g0])) (hg0 : g0.type = ta) (ho0 : g0.offset = 0)
    (hi : P.underlying ti = some (.int .i64)) (hci : P.cellsOf ti = 1) (ha : P.underlying ta = some (.array 8 ti)) (hca : P.cellsOf ta = 8)
    (h : DataW.trod he P w base spare held fuel t cs = some x) (hl : cs.length = 8) : ∃ a : V, cs = encV a := by
  obtain ⟨xs, m, _, hx, _, hlen, hg⟩ := DataW.trod_struct hc h
  have b0 := hg 0 g0 rfl
  rw [hg0, ho0, hca] at b0
  obtain ⟨y2, e2⟩ : ∃ y, xs[0]? = some y := ⟨_, List.getElem?_eq_getElem (by rw [hlen]; simp)⟩
  rw [e2, List.drop_zero, List.take_of_length_le (by omega)] at b0
  obtain ⟨f, hf⟩ := cells_of_array ha hi hci hca b0 hl
  refine ⟨dn f, ?_⟩
  rw [hf]
  unfold encV lst
  refine List.map_congr_left fun k hk => ?_
  rw [up_dn f k (by simpa using hk)]
end
end Go.Proofs.Ytibhlaojinedoaa
