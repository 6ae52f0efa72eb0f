/-
  The listed variables of chapter 9: what a row's list gives of their cells; a world for the witness.
-/
import Derived.Test.YtbdhbkedeglagaaDoorRows
import Derived.Test.YtbdhbkedeglagaaDoorStep
import Derived.Test.YtbdhbkedeglagaaDoorGearD
import Derived.Deep.DeepWitnessRowRef
import Derived.LaidSub
import Derived.LaidHandle
import Derived.LaidLaws
namespace Go.Proofs.YtbdhbkedeglagaaDoor
set_option maxRecDepth 20000
open Go.ChangeShapes Go.WideShapes Go.ChangeAt Go.RowKit
set_option linter.unusedVariables false
set_option linter.unusedSimpArgs false

theorem iface_of {P : Program} {w : World} {sp : Nat → Bool} {t : TypeId} {ms : Array (String × TypeId)} {fuel : Nat} {cs : List Value} {n : String} {d : DataW Unit} {p : List MemPlace} (ht : P.underlying t = some (.interface ms))
    (h : DataW.trod (fun _ => ()) P w 0 sp false fuel t cs = some (.iface n d, p)) : ∃ T x, cs = [.iface T x] := by
  cases fuel with
  | zero => simp [DataW.trod] at h
  | succ fuel =>
    match cs with
    | [] => simp [DataW.trod, ht] at h
    | [v] => cases v <;> first | exact ⟨_, _, rfl⟩ | simp [DataW.trod, ht] at h
    | _ :: _ :: _ => simp [DataW.trod, ht] at h
theorem laid_in {P : Program} {w : World} : ∀ {l : List (String × DataW Unit)} {ps : List MemPlace}, DataW.LaidVars P w l ps → ∀ x ∈ l, ∃ g t cs fuel p, P.globalNamed x.1 = some g ∧ (P.globals[g]?).map (·.type) = some t ∧ w.var? P x.1 = some cs ∧ DataW.trod (fun _ => ()) P w 0 (fun _ => true) false fuel t cs.toList = some (x.2, p)
  | [], ps, _, x, hx => by cases hx
  | (n, d) :: r, ps, h, x, hx => by
    obtain ⟨g, t, cs, fuel, p, q, h1, h2, h3, h4, h5, -⟩ := h
    rcases List.mem_cons.1 hx with rfl | hx
    · exact ⟨g, t, cs, fuel, p, h1, h2, h3, h4⟩
    · exact laid_in h5 x hx
theorem sentinel_at {W : World} {l : List (String × DataW Unit)} (h : laidMetH Tryd.prog l W) {n nm : String} {d : DataW Unit} {i g : Nat} (hx : (l.filter fun x => x.2.handleName?.isNone)[i]? = some (n, .iface nm d))
    (hg : Tryd.prog.globalNamed n = some g) (ht : (Tryd.prog.globals[g]?).map (·.type) = some 45) : g < W.heap.size ∧ ∃ T x, W.cell? ⟨g, 0, none⟩ = some (.iface T x) := by
  obtain ⟨ps, hl, -⟩ := (laidMetH_iff.1 h).1
  obtain ⟨g', t, cs, fuel, p, h1, h2, h3, h4⟩ := laid_in hl _ (List.mem_of_getElem? hx)
  obtain rfl := Option.some.inj (hg.symm.trans h1)
  obtain rfl := Option.some.inj (ht.symm.trans h2)
  obtain ⟨T, x, e⟩ := iface_of Tryd.underlying45 h4
  have hc : W.cell? ⟨g, 0, none⟩ = some (.iface T x) := by
    rw [World.var?_cell hg h3 0, ← Array.getElem?_toList, e]; rfl
  exact ⟨World.block_lt_of_cell? W _ hc, T, x, hc⟩
theorem gLen : Tryd.prog.globalNamed "loop.example/turningwheels/impl.errTrainLength" = some 1 := by kernel_rfl
theorem gFar : Tryd.prog.globalNamed "loop.example/turningwheels/impl.errRatioBeyond" = some 0 := by kernel_rfl
theorem gTyp : Tryd.prog.globalNamed "errors.errorType" = some 2 := by kernel_rfl
theorem tLen : (Tryd.prog.globals[1]?).map (·.type) = some 45 := by kernel_rfl
theorem tFar : (Tryd.prog.globals[0]?).map (·.type) = some 45 := by kernel_rfl
theorem rtypeRow : (Tryd.prog.cutTypes.find? (·.1 == "internal/reflectlite.rtype")).map (·.2) = some 79 := by kernel_rfl
theorem oneError : ((List.range 126).filter fun t => Tryd.prog.rowNamed t [101, 114, 114, 111, 114]) = [45] := by kernel_rfl
theorem typesSize : Tryd.prog.types.size = 126 := by kernel_rfl
theorem errHandle : typeHandle Tryd.prog 45 = hdl 45 := by kernel_rfl
theorem type_at {W : World} {l : List (String × DataW Unit)} (h : laidMetH Tryd.prog l W) {i : Nat} (hx : (l.filter fun x => x.2.handleName?.isSome)[i]? = some ("errors.errorType", Rows.laid_errors_errorType)) : TypeAt W := by
  obtain ⟨name, u, ty, e1, e2, e3, e4, e5⟩ := (laidMetH_iff.1 h).2 _ (List.mem_of_getElem? hx)
  have en : name = [101, 114, 114, 111, 114] := (Option.some.inj e1).symm
  subst en
  obtain rfl := Option.some.inj (rtypeRow.symm.trans e2)
  have hm : ty ∈ (List.range 126).filter fun t => Tryd.prog.rowNamed t [101, 114, 114, 111, 114] := List.mem_filter.2 ⟨List.mem_range.2 (by rw [← typesSize]; exact e3), e4⟩
  rw [oneError] at hm
  obtain rfl := List.mem_singleton.1 hm
  rw [errHandle] at e5
  have hc : W.cell? ⟨2, 0, none⟩ = some errT := by
    rw [World.var?_cell gTyp e5 0]; rfl
  exact ⟨World.block_lt_of_cell? W _ hc, hc⟩

/-- What the listed errors say. -/
def lenText : ByteArray := "a train has 2 to 10 gears, an even number".toUTF8
def farText : ByteArray := "a number of a ratio is greater than 1000000000".toUTF8
/-- A world for the witness: the settled one; the listed variables hold what their initialisers lay. -/
noncomputable def laidWorld (os : Os) : World :=
  let w0 := World.holding Tryd.prog os ⟨#[.cells #[.string lenText] 114, .cells #[.string farText] 114], #[], []⟩
  let n := (World.settled Tryd.prog os).heap.size
  { w0 with heap := ((w0.heap.modify 1 fun
      | .cells _ t frozen => .cells #[.iface 92 (.pointer (some ⟨n, 0, none⟩))] t frozen
      | o => o).modify 0 fun
      | .cells _ t frozen => .cells #[.iface 92 (.pointer (some ⟨n + 1, 0, none⟩))] t frozen
      | o => o).modify 2 fun
      | .cells _ t frozen => .cells #[errT] t frozen
      | o => o }
end Go.Proofs.YtbdhbkedeglagaaDoor
