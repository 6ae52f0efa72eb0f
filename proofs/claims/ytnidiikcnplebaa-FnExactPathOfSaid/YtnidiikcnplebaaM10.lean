/-
  Lists of exact points as a law's arguments.
-/
import Derived.Test.YtnidiikcnplebaaM08
/- Lists of exact points as a law's arguments. -/
namespace Go.Proofs.Ytnidiikcnplebaa
open Go.Joins Go.ChangeShapes Go.WideShapes Go.RowKit Go.Deep
set_option maxRecDepth 20000
set_option linter.unusedVariables false
set_option linter.unusedSimpArgs false

section
variable {H : Type} {en : TypeId × Value → H} {fn : Func}
theorem law_cycs {w : World} {b0 : Nat} {r : Reach} {v : Value} {d : DataW H} {p : List MemPlace} (hv : Value.okWide Try.prog w r b0 68 v) (h : DataW.Trod en Try.prog w 0 (fun _ => true) true 68 v d p)
    (hlt : ∀ y ∈ p, y.block < w.heap.size) : ∃ ws, LiesL encV w v ws := by
  obtain ⟨fuel, hf⟩ := h
  obtain ⟨a, l, c, e⟩ := okWide_slice Try.underlying68 hv
  exact open_listL encV_ok Try.underlying68 cells_law (fun n cs y hy hl => cells_point Try.underlying123 rfl rfl Try.underlying3 cells_int' Try.underlying38 cells_arr8' hy hl) ⟨a, l, c, e⟩ hf hlt
/-- What the one list of a law is. -/
theorem cycs_open {W : World} {args : Array Value} {ds gs : List (DataW H)} {before : List MemPlace} {base : Nat} {vars : List String} (hpar : fn.params = #[68])
    (hval : ∀ (j : Nat) t v, fn.params[j]? = some t → args[j]? = some v → Value.okWide Try.prog W .any base t v)
    (hW : DataW.Whole en Try.prog fn.params.toList vars false W args.toList ds gs before) : ∃ v ws d, args = #[v] ∧ ds = [d] ∧ LiesL encV W v ws := by
  obtain ⟨p, q, hA, hV, rfl, hfz, hnd⟩ := hW
  rw [hpar] at hA hval
  have hlt := hA.lt
  obtain ⟨v0, d0, rfl, rfl, h0⟩ := trodAll_one hA
  obtain ⟨ws, hL⟩ := law_cycs (hval 0 68 v0 rfl rfl) h0 hlt
  exact ⟨v0, ws, _, rfl, rfl, hL⟩
/-- What the two lists of a law are. -/
theorem cycs2_open {W : World} {args : Array Value} {ds gs : List (DataW H)} {before : List MemPlace} {base : Nat} {vars : List String} (hpar : fn.params = #[68, 68])
    (hval : ∀ (j : Nat) t v, fn.params[j]? = some t → args[j]? = some v → Value.okWide Try.prog W .any base t v)
    (hW : DataW.Whole en Try.prog fn.params.toList vars false W args.toList ds gs before) : ∃ v v' ws ws' d d', args = #[v, v'] ∧ ds = [d, d'] ∧ LiesL encV W v ws ∧ LiesL encV W v' ws' := by
  obtain ⟨p, q, hA, hV, rfl, hfz, hnd⟩ := hW
  rw [hpar] at hA hval
  have hlt := hA.lt
  obtain ⟨v0, v1, d0, d1, p0, p1, rfl, rfl, rfl, h0, h1⟩ := trodAll_two hA
  obtain ⟨ws, hL⟩ := law_cycs (hval 0 68 v0 rfl rfl) h0 (fun y hy => hlt y (List.mem_append_left _ hy))
  obtain ⟨ws', hL'⟩ := law_cycs (hval 1 68 v1 rfl rfl) h1 (fun y hy => hlt y (List.mem_append_right _ hy))
  exact ⟨v0, v1, ws, ws', _, _, rfl, rfl, hL, hL'⟩
/-- What the list and the number of a law are. -/
theorem cycsint_open {W : World} {args : Array Value} {ds gs : List (DataW H)} {before : List MemPlace} {base : Nat} {vars : List String} (hpar : fn.params = #[68, 3])
    (hval : ∀ (j : Nat) t v, fn.params[j]? = some t → args[j]? = some v → Value.okWide Try.prog W .any base t v)
    (hW : DataW.Whole en Try.prog fn.params.toList vars false W args.toList ds gs before) : ∃ v n ws d d', args = #[v, .int .i64 n] ∧ ds = [d, d'] ∧ LiesL encV W v ws ∧ -9223372036854775808 ≤ n ∧ n ≤ 9223372036854775807 := by
  obtain ⟨p, q, hA, hV, rfl, hfz, hnd⟩ := hW
  rw [hpar] at hA hval
  have hlt := hA.lt
  obtain ⟨v0, v1, d0, d1, p0, p1, rfl, rfl, rfl, h0, h1⟩ := trodAll_two hA
  obtain ⟨ws, hL⟩ := law_cycs (hval 0 68 v0 rfl rfl) h0 (fun y hy => hlt y (List.mem_append_left _ hy))
  obtain ⟨a1, rfl, rfl, rfl, w1⟩ := open_int Try.underlying3 (hval 1 3 v1 rfl rfl) h1
  exact ⟨v0, a1, ws, _, _, rfl, rfl, hL, (int_bound w1).1, (int_bound w1).2⟩
end
end Go.Proofs.Ytnidiikcnplebaa
