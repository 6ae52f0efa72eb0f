/-
  Lists of wheels as a law's arguments: what their cells are.
-/
import Derived.Test.YteicmnoafoekcaaCycOpen
import Derived.Test.YteicmnoafoekcaaWheelRow
import Derived.Deep.Slices
namespace Go.Proofs.Yteicmnoafoekcaa
open Go.Joins Go.ChangeShapes Go.WideShapes Go.RowKit Go.Deep
set_option maxRecDepth 20000
set_option linter.unusedVariables false
set_option linter.unusedSimpArgs false

/-- A law's list of wheels: where it has one, its cells lie. -/
def Lies (w : World) (v : Value) (ws : List Wh) : Prop :=
  ∃ (p : Option Addr) (cap : Nat), v = .slice p ws.length cap ∧ ws.length ≤ cap ∧ cap ≤ maxLen ∧ (ws ≠ [] → ∃ g o, p = some ⟨g, o, none⟩ ∧ g < w.heap.size ∧ w.rangeAt g o (flat ws))
theorem Lies.below {w w' : World} {v : Value} {ws : List Wh} (h : Lies w v ws) (hb : Below w.heap.size w w') : Lies w' v ws := by
  obtain ⟨p, cap, h1, h2, h3, h4⟩ := h
  refine ⟨p, cap, h1, h2, h3, fun hn => ?_⟩
  obtain ⟨g, o, e, hg, hr⟩ := h4 hn
  exact ⟨g, o, e, Nat.lt_of_lt_of_le hg hb.size, range_below hr hg hb⟩
theorem Lies.kept {w0 w' : World} {v : Value} {ws : List Wh} (h : Lies w0 v ws) (hb : Below w0.heap.size w0 w') : Lies w' v ws := h.below hb

section
variable {H : Type} {en : TypeId × Value → H} {P : Program} {w : World} {base : Nat} {spare : Nat → Bool} {held : Bool}
theorem cells_wheel {t tc ti ta : TypeId} {f0 f1 g0 : Field} {fuel : Nat} {cs : List Value} {x : DataW H × List MemPlace} (hs : P.underlying t = some (.struct #[f0, f1])) (h0 : f0.type = ti) (o0 : f0.offset = 0) (h1 : f1.type = tc) (o1 : f1.offset = 1)
    (hi : P.underlying ti = some (.int .i64)) (hci : P.cellsOf ti = 1) (hc : P.underlying tc = some (.struct #[g0])) (hg0 : g0.type = ta) (ho0 : g0.offset = 0) (ha : P.underlying ta = some (.array 8 ti)) (hca : P.cellsOf ta = 8) (hcc : P.cellsOf tc = 8) (hct : P.cellsOf t = 9)
    (h : DataW.trod en P w base spare held fuel t cs = some x) : ∃ c : Wh, cs = enc c := by
  obtain ⟨xs, m, _, hx, hl, hlen, hg⟩ := DataW.trod_struct hs h
  rw [hct] at hl
  have a0 := hg 0 f0 rfl
  have a1 := hg 1 f1 rfl
  rw [h0, o0, hci] at a0
  rw [h1, o1, hcc] at a1
  obtain ⟨y0, e0⟩ : ∃ y, xs[0]? = some y := ⟨_, List.getElem?_eq_getElem (by rw [hlen]; simp)⟩
  obtain ⟨y1, e1⟩ : ∃ y, xs[1]? = some y := ⟨_, List.getElem?_eq_getElem (by rw [hlen]; simp)⟩
  rw [e0] at a0
  rw [e1] at a1
  obtain ⟨s, hs0, _, _⟩ := DataW.trod_int hi a0
  obtain ⟨xs', m', _, _, hl', hlen', hg'⟩ := DataW.trod_struct hc a1
  have b0 := hg' 0 g0 rfl
  rw [hg0, ho0, hca] at b0
  obtain ⟨y2, e2⟩ : ∃ y, xs'[0]? = some y := ⟨_, List.getElem?_eq_getElem (by rw [hlen']; simp)⟩
  rw [e2] at b0
  have e3 : (((cs.drop 1).take 8).drop 0).take 8 = cs.drop 1 := by
    rw [List.drop_zero, List.take_of_length_le (by simp [hl]), List.take_of_length_le (by simp [hl])]
  rw [e3] at b0
  obtain ⟨f, hf⟩ := cells_of_array ha hi hci hca b0 (by simp [hl])
  have hz : cs[0]? = some (.int .i64 s) := by
    have := congrArg (·[0]?) hs0
    simpa [List.getElem?_take] using this
  refine ⟨⟨s, dn f⟩, List.ext_getElem? fun i => ?_⟩
  by_cases hi9 : i < 9
  · rw [enc_at _ i hi9]
    by_cases h00 : i = 0
    · rw [h00, hz]; rfl
    · have := congrArg (·[i - 1]?) hf
      simp only [List.getElem?_drop] at this
      rw [show 1 + (i - 1) = i from by omega] at this
      rw [this]
      have hj : i - 1 < 8 := by omega
      simp only [lst, wf, h00, if_false]
      rw [up_dn f (i - 1) hj]
      simp [hj]
  · rw [List.getElem?_eq_none (by omega), List.getElem?_eq_none (by rw [enc_length]; omega)]
theorem range_of_cells {g o : Nat} {ws : List Wh} (h : ∀ i c, ws[i]? = some c → ∀ j, j < 9 → w.cell? ⟨g, o + (i * 9 + j), none⟩ = (enc c)[j]?) : w.rangeAt g o (flat ws) := fun j v hv => by
  have hj : j < ws.length * 9 := by
    rw [← flat_length]
    exact (List.getElem?_eq_some_iff.1 hv).1
  have hd : j / 9 < ws.length := by omega
  obtain ⟨c, hc⟩ : ∃ c, ws[j / 9]? = some c := ⟨_, List.getElem?_eq_getElem hd⟩
  have hm : j % 9 < 9 := by omega
  have e : j / 9 * 9 + j % 9 = j := by omega
  have h1 := h (j / 9) c hc (j % 9) hm
  have h2 := flat_at hc (j % 9) hm
  rw [e] at h1 h2
  rw [h1, ← h2, hv]
theorem open_wheels {t e : TypeId} {fuel : Nat} {v : Value} {x : DataW H × List MemPlace} (ht : P.underlying t = some (.slice e)) (hce : P.cellsOf e = 9)
    (hel : ∀ (n : Nat) (cs : List Value) (y : DataW H × List MemPlace), DataW.trod en P w 0 (fun _ => true) held n e cs = some y → ∃ c : Wh, cs = enc c) (hv : ∃ a len cap, v = .slice a len cap)
    (h : DataW.trod en P w 0 (fun _ => true) held fuel t v.cells.toList = some x) (hlt : ∀ y ∈ x.2, y.block < w.heap.size) : ∃ ws, Lies w v ws := by
  obtain ⟨a0, len0, cap0, rfl⟩ := hv
  rcases open_slice ht h with ⟨hcs, hx⟩ | ⟨a, len, cap, m, n, D, Pl, hcs, _, hl, hm, hmm, hx, hi⟩
  · simp [Value.cells] at hcs
    obtain ⟨rfl, rfl, rfl⟩ := hcs
    exact ⟨[], none, 0, rfl, Nat.le_refl _, by simp [maxLen], fun hn => absurd rfl hn⟩
  · simp [Value.cells] at hcs
    obtain ⟨rfl, rfl, rfl⟩ := hcs
    simp only [if_true] at hmm
    subst hmm
    obtain ⟨C, hC⟩ := choose_lt (α := Wh) (n := m) (p := fun i c => ∀ j, j < 9 → w.cell? ((a.add (i * 9)).add j) = (enc c)[j]?) (fun i him => by
      obtain ⟨cs', h1, h2⟩ := hi i him
      obtain ⟨c, rfl⟩ := hel _ _ _ h2
      rw [hce] at h1
      obtain ⟨_, _, h3⟩ := World.cells?_some h1
      exact ⟨c, h3⟩)
    have hlen : ((List.range len0).map C).length = len0 := by simp
    refine ⟨(List.range len0).map C, some a, m, by rw [hlen], by rw [hlen]; exact hl, hm, fun hn => ?_⟩
    have h0 : 0 < len0 := by
      rcases Nat.eq_zero_or_pos len0 with h | h
      · subst h; exact absurd rfl hn
      · exact h
    obtain ⟨b, off, spot⟩ := a
    have hspot : spot = none := by
      have h1 := hC 0 (by omega) 0 (by omega)
      rw [Go.Deep.add_add] at h1
      rw [enc_at _ 0 (by omega)] at h1
      simpa [Addr.add] using World.cell?_spot h1
    subst hspot
    refine ⟨b, off, rfl, ?_, range_of_cells fun i c hc j hj => ?_⟩
    · have hx2 : x.2 = MemPlace.row ⟨b, off, none⟩ (m * P.cellsOf e) ++ (List.range m).flatMap Pl := by rw [hx]
      refine hlt (.cell b off) ?_
      rw [hx2, hce]
      exact List.mem_append_left _ (MemPlace.mem_row.2 ⟨0, by omega, by simp⟩)
    · have hil : i < len0 := by
        rw [← hlen]; exact (List.getElem?_eq_some_iff.1 hc).1
      have hci : c = C i := by
        rw [List.getElem?_map, List.getElem?_range hil] at hc
        simpa using hc.symm
      have h1 := hC i (by omega) j hj
      rw [Go.Deep.add_add, add_plain] at h1
      rw [hci]; exact h1
end
theorem cells_lawWheel : Try.prog.cellsOf 92 = 9 := by kernel_rfl
section
variable {H : Type} {en : TypeId × Value → H} {fn : Func}
theorem law_wheels {w : World} {b0 : Nat} {r : Reach} {v : Value} {d : DataW H} {p : List MemPlace} (hv : Value.okWide Try.prog w r b0 45 v) (h : DataW.Trod en Try.prog w 0 (fun _ => true) true 45 v d p)
    (hlt : ∀ y ∈ p, y.block < w.heap.size) : ∃ ws, Lies w v ws := by
  obtain ⟨fuel, hf⟩ := h
  obtain ⟨a, l, c, e⟩ := okWide_slice Try.underlying45 hv
  exact open_wheels Try.underlying45 cells_lawWheel (fun n cs y hy => cells_wheel Try.underlying92 rfl rfl rfl rfl Try.underlying3 cells_int' Try.underlying90 rfl rfl Try.underlying30 cells_arr8' cells_law cells_lawWheel hy) ⟨a, l, c, e⟩ hf hlt
/-- What the one list of a law is. -/
theorem wheels_open {W : World} {args : Array Value} {ds gs : List (DataW H)} {before : List MemPlace} {base : Nat} {vars : List String} (hpar : fn.params = #[45])
    (hval : ∀ (j : Nat) t v, fn.params[j]? = some t → args[j]? = some v → Value.okWide Try.prog W .any base t v)
    (hW : DataW.Whole en Try.prog fn.params.toList vars false W args.toList ds gs before) : ∃ v ws d, args = #[v] ∧ ds = [d] ∧ Lies W v ws := by
  obtain ⟨p, q, hA, hV, rfl, hfz, hnd⟩ := hW
  rw [hpar] at hA hval
  have hlt := hA.lt
  obtain ⟨v0, d0, rfl, rfl, h0⟩ := trodAll_one hA
  obtain ⟨ws, hL⟩ := law_wheels (hval 0 45 v0 rfl rfl) h0 hlt
  exact ⟨v0, ws, _, rfl, rfl, hL⟩
/-- What the two lists of a law are. -/
theorem wheels2_open {W : World} {args : Array Value} {ds gs : List (DataW H)} {before : List MemPlace} {base : Nat} {vars : List String} (hpar : fn.params = #[45, 45])
    (hval : ∀ (j : Nat) t v, fn.params[j]? = some t → args[j]? = some v → Value.okWide Try.prog W .any base t v)
    (hW : DataW.Whole en Try.prog fn.params.toList vars false W args.toList ds gs before) : ∃ v v' ws ws' d d', args = #[v, v'] ∧ ds = [d, d'] ∧ Lies W v ws ∧ Lies W v' ws' := by
  obtain ⟨p, q, hA, hV, rfl, hfz, hnd⟩ := hW
  rw [hpar] at hA hval
  have hlt := hA.lt
  obtain ⟨v0, v1, d0, d1, p0, p1, rfl, rfl, rfl, h0, h1⟩ := trodAll_two hA
  obtain ⟨ws, hL⟩ := law_wheels (hval 0 45 v0 rfl rfl) h0 (fun y hy => hlt y (List.mem_append_left _ hy))
  obtain ⟨ws', hL'⟩ := law_wheels (hval 1 45 v1 rfl rfl) h1 (fun y hy => hlt y (List.mem_append_right _ hy))
  exact ⟨v0, v1, ws, ws', _, _, rfl, rfl, hL, hL'⟩
/-- What the list and the number of a law are. -/
theorem wheelsint_open {W : World} {args : Array Value} {ds gs : List (DataW H)} {before : List MemPlace} {base : Nat} {vars : List String} (hpar : fn.params = #[45, 3])
    (hval : ∀ (j : Nat) t v, fn.params[j]? = some t → args[j]? = some v → Value.okWide Try.prog W .any base t v)
    (hW : DataW.Whole en Try.prog fn.params.toList vars false W args.toList ds gs before) : ∃ v n ws d d', args = #[v, .int .i64 n] ∧ ds = [d, d'] ∧ Lies W v ws ∧ -9223372036854775808 ≤ n ∧ n ≤ 9223372036854775807 := by
  obtain ⟨p, q, hA, hV, rfl, hfz, hnd⟩ := hW
  rw [hpar] at hA hval
  have hlt := hA.lt
  obtain ⟨v0, v1, d0, d1, p0, p1, rfl, rfl, rfl, h0, h1⟩ := trodAll_two hA
  obtain ⟨ws, hL⟩ := law_wheels (hval 0 45 v0 rfl rfl) h0 (fun y hy => hlt y (List.mem_append_left _ hy))
  obtain ⟨a1, rfl, rfl, rfl, w1⟩ := open_int Try.underlying3 (hval 1 3 v1 rfl rfl) h1
  exact ⟨v0, a1, ws, _, _, rfl, rfl, hL, (int_bound w1).1, (int_bound w1).2⟩
end
end Go.Proofs.Yteicmnoafoekcaa
