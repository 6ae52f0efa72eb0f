/-
  Both sides of the points in both widths; the exact laws of roots and points.
  Contracts of PointsFit on both sides.
  Lists of moves as a law's arguments.
-/
import Derived.Test.YtnidiikcnplebaaM13
import Derived.Test.YtnidiikcnplebaaM12
import Derived.Test.YtnidiikcnplebaaM04
import Derived.Deep.RegionHeld3
import Derived.Test.YtnidiikcnplebaaM08
/- Both sides of the points in both widths; the exact laws of roots and points. -/
namespace Go.Proofs.Ytnidiikcnplebaa
set_option maxRecDepth 20000
open Go.ChangeShapes Go.WideShapes Go.ChangeAt Go.RowKit
set_option linter.unusedVariables false
set_option linter.unusedSimpArgs false

theorem nn_const (k : Nat) (hk : k < 8) : NN (wDr k) ∧ NN (wDi k) := ⟨nn_val (rootDr k hk), nn_val (rootDi k hk)⟩
theorem wide_small {c : Nat → Int} {n : Nat} {v : Int} (hn : n ≤ 8) (h : -bnd n ≤ v ∧ v ≤ bnd n) : -1606938044258990275541962092341162602522202993782792835301375 ≤ v ∧ v ≤ 1606938044258990275541962092341162602522202993782792835301375 := by
  have := bnd_le n hn
  omega
theorem single_wider {x y : Nat} {v u : Int} (hx : ValS x v) (hy : ValS y u) (h1 : -1606938044258990275541962092341162602522202993782792835301375 ≤ v ∧ v ≤ 1606938044258990275541962092341162602522202993782792835301375)
    (h2 : -1606938044258990275541962092341162602522202993782792835301375 ≤ u ∧ u ≤ 1606938044258990275541962092341162602522202993782792835301375) :
    ∃ p q, floatToFloatBits .f32 x .f64 = some p ∧ floatToFloatBits .f32 y .f64 = some q ∧ ValD p v ∧ ValD q u := by
  obtain ⟨p, hp, vp⟩ := wider hx h1
  obtain ⟨q, hq, vq⟩ := wider hy h2
  exact ⟨p, q, hp, hq, vp, vq⟩
theorem single_val {a : Nat → Int} (va : okc a = true) : ∃ p q, floatToFloatBits .f32 (spr a 8) .f64 = some p ∧ floatToFloatBits .f32 (spi a 8) .f64 = some q ∧ ValD p (vsr a 8) ∧ ValD q (vsi a 8) := by
  have hv := sing_val (okc_inR va) 8 (Nat.le_refl _)
  exact single_wider hv.1.1 hv.2.1 (wide_small (c := a) (Nat.le_refl 8) hv.1.2) (wide_small (c := a) (Nat.le_refl 8) hv.2.2)
theorem both_SinglePoint (a : Nat → Int) : ∃ x y p q v, floatToFloatBits .f32 x .f64 = some p ∧ floatToFloatBits .f32 y .f64 = some q ∧ NN p ∧ NN q ∧
    (∀ w, Calls Try.prog 73 #[pt a] w fun e w' => e = .returned (.tuple #[cs x y, .bool v]) ∧ Below w.heap.size w w') ∧
    (∀ w, Calls Try.prog 24 #[pt a] w fun e w' => e = .returned (.tuple #[cs x y, .bool v]) ∧ Below w.heap.size w w') := by
  cases va : okc a
  · exact ⟨0, 0, 0, 0, _, by decide +kernel, by decide +kernel, nn_zero, nn_zero, fun w => specSinglePoint_no a va w, fun w => SinglePoint_no a va w⟩
  · obtain ⟨p, q, hp, hq, vp, vq⟩ := single_val va
    exact ⟨_, _, p, q, _, hp, hq, nn_val vp, nn_val vq, fun w => specSinglePoint_yes a va w, fun w => SinglePoint_yes a va w⟩

end Go.Proofs.Ytnidiikcnplebaa
/- Contracts of PointsFit on both sides. -/
namespace Go.Proofs.Ytnidiikcnplebaa
set_option maxRecDepth 20000
open Go.ChangeShapes Go.WideShapes Go.ChangeAt Go.RowKit
set_option linter.unusedVariables false
set_option linter.unusedSimpArgs false

/-- What a point's two widths say of each other. -/
def fitb (a : Nat → Int) : Bool := compare (vsr a 8) (vwr a 8) == .eq && compare (vsi a 8) (vwi a 8) == .eq
theorem fit_eq {a : Nat → Int} (va : okc a = true) : ∃ p q, (∀ w, (convert 35 102 (cs (spr a 8) (spi a 8))).run Try.prog w = .ok (cw p q) w) ∧
    (∀ t w, (binOp .eql t (cw p q) (cw (wpr a 8) (wpi a 8))).run Try.prog w = .ok (.bool (fitb a)) w) := by
  obtain ⟨p, q, hp, hq, vp, vq⟩ := single_val va
  have hv := wide_val (okc_inR va) 8 (Nat.le_refl _)
  exact ⟨p, q, fun w => run_wider hp hq w, fun t w => run_ceq (order_val vp hv.1.1) (order_val vq hv.2.1) t w⟩
end Go.Proofs.Ytnidiikcnplebaa
/- Lists of moves as a law's arguments. -/
namespace Go.Proofs.Ytnidiikcnplebaa
open Go.Joins Go.ChangeShapes Go.WideShapes Go.RowKit Go.Deep
set_option maxRecDepth 20000
set_option linter.unusedVariables false
set_option linter.unusedSimpArgs false

theorem cells_lmove : Try.prog.cellsOf 126 = 2 := by kernel_rfl
theorem cells_intP : Try.prog.cellsOf 3 = 1 := by kernel_rfl
section
variable {H : Type} {he : TypeId × Value → H} {w : World} {base : Nat} {spare : Nat → Bool} {held : Bool}
theorem trod_oneP {n : Nat} {v : Value} {y : DataW H × List MemPlace} (h : DataW.trod he Try.prog w base spare held n 3 [v] = some y) : ∃ z, v = .int .i64 z := by
  cases n with
  | zero => simp [DataW.trod] at h
  | succ n =>
    obtain ⟨z, hc, _, _⟩ := DataW.trod_int Try.underlying3 h
    exact ⟨z, by simpa using hc⟩
/-- The cells of a struct of two numbers are a move's. -/
theorem cells_move {t ti : TypeId} {g0 g1 : Field} {fuel : Nat} {cs : List Value} {x : DataW H × List MemPlace} (hc : Try.prog.underlying t = some (.struct #[g0, g1])) (hg0 : g0.type = 3) (hg1 : g1.type = 3) (ho0 : g0.offset = 0) (ho1 : g1.offset = 1)
    (h : DataW.trod he Try.prog w base spare held fuel t cs = some x) (hl : cs.length = 2) : ∃ a : Mv, cs = encM a := by
  obtain ⟨xs, m, _, hx, _, hlen, hg⟩ := DataW.trod_struct hc h
  match cs, hl with
  | [u, v], _ =>
    have b0 := hg 0 g0 rfl
    have b1 := hg 1 g1 rfl
    rw [hg0, ho0, cells_intP] at b0
    rw [hg1, ho1, cells_intP] at b1
    obtain ⟨y0, e0⟩ : ∃ y, xs[0]? = some y := ⟨_, List.getElem?_eq_getElem (by rw [hlen]; simp)⟩
    obtain ⟨y1, e1⟩ : ∃ y, xs[1]? = some y := ⟨_, List.getElem?_eq_getElem (by rw [hlen]; simp)⟩
    rw [e0] at b0
    rw [e1] at b1
    obtain ⟨p, rfl⟩ := trod_oneP b0
    obtain ⟨q, rfl⟩ := trod_oneP b1
    exact ⟨(p, q), rfl⟩
end
section
variable {H : Type} {en : TypeId × Value → H} {fn : Func}
instance : Inhabited Mv := ⟨(0, 0)⟩
theorem law_moves {w : World} {b0 : Nat} {r : Reach} {v : Value} {d : DataW H} {p : List MemPlace} (hv : Value.okWide Try.prog w r b0 75 v) (h : DataW.Trod en Try.prog w 0 (fun _ => true) true 75 v d p)
    (hlt : ∀ y ∈ p, y.block < w.heap.size) : ∃ ws, LiesL encM w v ws := by
  obtain ⟨fuel, hf⟩ := h
  obtain ⟨a, l, c, e⟩ := okWide_slice Try.underlying75 hv
  exact open_listL encM_ok Try.underlying75 cells_lmove (fun n cs y hy hl => cells_move (ti := 3) Try.underlying126 rfl rfl rfl rfl hy hl) ⟨a, l, c, e⟩ hf hlt
/-- What the one list of a law is. -/
theorem moves_open {W : World} {args : Array Value} {ds gs : List (DataW H)} {before : List MemPlace} {base : Nat} {vars : List String} (hpar : fn.params = #[75])
    (hval : ∀ (j : Nat) t v, fn.params[j]? = some t → args[j]? = some v → Value.okWide Try.prog W .any base t v)
    (hW : DataW.Whole en Try.prog fn.params.toList vars false W args.toList ds gs before) : ∃ v ws d, args = #[v] ∧ ds = [d] ∧ LiesL encM W v ws := by
  obtain ⟨p, q, hA, hV, rfl, hfz, hnd⟩ := hW
  rw [hpar] at hA hval
  have hlt := hA.lt
  obtain ⟨v0, d0, rfl, rfl, h0⟩ := trodAll_one hA
  obtain ⟨ws, hL⟩ := law_moves (hval 0 75 v0 rfl rfl) h0 hlt
  exact ⟨v0, ws, _, rfl, rfl, hL⟩
/-- What the list and the number of a law are. -/
theorem movesint_open {W : World} {args : Array Value} {ds gs : List (DataW H)} {before : List MemPlace} {base : Nat} {vars : List String} (hpar : fn.params = #[75, 3])
    (hval : ∀ (j : Nat) t v, fn.params[j]? = some t → args[j]? = some v → Value.okWide Try.prog W .any base t v)
    (hW : DataW.Whole en Try.prog fn.params.toList vars false W args.toList ds gs before) : ∃ v n ws d d', args = #[v, .int .i64 n] ∧ ds = [d, d'] ∧ LiesL encM W v ws ∧ -9223372036854775808 ≤ n ∧ n ≤ 9223372036854775807 := by
  obtain ⟨p, q, hA, hV, rfl, hfz, hnd⟩ := hW
  rw [hpar] at hA hval
  have hlt := hA.lt
  obtain ⟨v0, v1, d0, d1, p0, p1, rfl, rfl, rfl, h0, h1⟩ := trodAll_two hA
  obtain ⟨ws, hL⟩ := law_moves (hval 0 75 v0 rfl rfl) h0 (fun y hy => hlt y (List.mem_append_left _ hy))
  obtain ⟨a1, rfl, rfl, rfl, w1⟩ := open_int Try.underlying3 (hval 1 3 v1 rfl rfl) h1
  exact ⟨v0, a1, ws, _, _, rfl, rfl, hL, (int_bound w1).1, (int_bound w1).2⟩
end
end Go.Proofs.Ytnidiikcnplebaa
