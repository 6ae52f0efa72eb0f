/-
  What the walks of the exact laws of designs share.
-/
import Derived.Test.YtdbokcbbpegilaaM14
import Derived.Test.YtdbokcbbpegilaaM15
/- What the walks of the exact laws of designs share. -/
namespace Go.Proofs.Ytdbokcbbpegilaa
set_option maxRecDepth 20000
open Go.ChangeShapes Go.WideShapes Go.ChangeAt Go.RowKit
set_option linter.unusedVariables false
set_option linter.unusedSimpArgs false

theorem row_under {w w' : World} {B T n : Nat} {v : Value} {xs : List Value} (h : w.ownsRow B T 9 v n xs) (hb : Below w.heap.size w w') : w'.ownsRow B T 9 v n xs := by
  refine ⟨h.1, ?_⟩
  rcases h.2 with h0 | ⟨g, cap, cur, rfl, hB, hg, rest⟩
  · exact .inl h0
  · exact .inr ⟨g, cap, cur, rfl, hB, (hb.block g (Array.getElem?_eq_some_iff.1 hg).1).trans hg, rest⟩
/-- What lies elsewhere stays where a list is marked. -/
theorem own_above {w w' : World} {B T : Nat} {v u : Value} {ws : List Wh} (h : Own w B T v ws) (hg : w.grownBy w' u.ownBlock) (hu : ∀ k, u.ownBlock = some k → k < B) : Own w' B T v ws := by
  refine World.ownsRow.kept h hg ?_
  cases hv : v.ownBlock with
  | none => exact .inl rfl
  | some k =>
    refine .inr fun e => ?_
    have h1 := (h.lt k hv).1
    have h2 := hu k e.symm
    omega
theorem own_beneath {w w' : World} {B C T : Nat} {v u : Value} {ws : List Wh} (h : Own w B T v ws) (hg : w.grownBy w' u.ownBlock) (hv : ∀ k, v.ownBlock = some k → k < C) (hu : ∀ k, u.ownBlock = some k → C ≤ k) : Own w' B T v ws := by
  refine World.ownsRow.kept h hg ?_
  cases hvb : v.ownBlock with
  | none => exact .inl rfl
  | some k =>
    refine .inr fun e => ?_
    have h1 := hv k hvb
    have h2 := hu k e.symm
    omega
theorem marked_below {B C : Nat} {w0 w w' : World} {u : Value} (h : Below B w0 w) (hB : B ≤ w.heap.size) (hg : w.grownBy w' u.ownBlock) (hu : ∀ k, u.ownBlock = some k → C ≤ k) (hC : B ≤ C) : Below B w0 w' :=
  below_grown h hg hB fun k hk => Nat.le_trans hC (hu k hk)
theorem got_short {o : Option (List Wh)} (h : ∀ R, o = some R → valid R = true) : (got o).length ≤ 12 := by
  cases o with
  | none => simp [got]
  | some R => exact valid_len (h R rfl)
theorem tidy_short {b : Bool} {ws : List Wh} : ∀ R, tidy b ws = some R → valid R = true := fun R h => (tidy_some h).1.ok
theorem tid_short (ws : List Wh) : (got (tid ws)).length ≤ 12 := got_short fun R h => by
  unfold tid at h
  split at h
  · exact tidy_short R h
  · cases h
theorem dOf_short (f : Wh → Wh) (ws : List Wh) : (got (dOf f ws)).length ≤ 12 := got_short fun R h => by
  unfold dOf at h
  split at h
  · exact tidy_short R h
  · cases h
theorem dFast_short (n : Int) (ws : List Wh) : (got (dFast n ws)).length ≤ 12 := by
  unfold dFast
  split
  · exact dOf_short _ _
  · simp [got]
def Bit (w : World) (o : Option (List Wh)) (bit : Bool) (e : Ending) (w' : World) : Prop :=
  Below w.heap.size w w' ∧ ∃ v', e = .returned (.tuple #[v', .bool bit]) ∧ Own w' w.heap.size 43 v' (got o)
theorem told_bit {w w' : World} {o : Option (List Wh)} {bit : Bool} {e : Ending} (hb : o.isSome = bit) (h : Told w o e w') : Bit w o bit e w' := by
  subst hb
  exact h
theorem mark_number (k n : Nat) : ∃ M : Int, Aside (((k + n * 9 : Nat) : Int) = M) ∧ ¬ M < 0 ∧ (M != M) = false := ⟨_, (show _ = _ from rfl), by omega, by simp⟩

end Go.Proofs.Ytdbokcbbpegilaa
