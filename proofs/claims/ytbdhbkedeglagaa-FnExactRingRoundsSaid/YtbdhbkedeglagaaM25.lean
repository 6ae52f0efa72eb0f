/-
  What the walks of the exact laws of designs share.
  The walks of the rings' exact laws.
-/
import Derived.Test.YtbdhbkedeglagaaM11
import Derived.Test.YtbdhbkedeglagaaM12
import Derived.Test.YtbdhbkedeglagaaM23
/- What the walks of the exact laws of designs share. -/
namespace Go.Proofs.Ytbdhbkedeglagaa
set_option maxRecDepth 20000
open Go.ChangeShapes Go.WideShapes Go.ChangeAt Go.RowKit
set_option linter.unusedVariables false
set_option linter.unusedSimpArgs false

theorem row_under {w w' : World} {B T n : Nat} {v : Value} {xs : List Value} (h : w.ownsRow B T 9 v n xs) (hb : Below w.heap.size w w') : w'.ownsRow B T 9 v n xs := by
  refine ⟨h.1, ?_⟩
  rcases h.2 with h0 | ⟨g, cap, cur, rfl, hB, hg, rest⟩
  · exact .inl h0
  · exact .inr ⟨g, cap, cur, rfl, hB, (hb.block g (Array.getElem?_eq_some_iff.1 hg).1).trans hg, rest⟩
/-- What lies elsewhere stays where a list is marked. -/
theorem own_above {w w' : World} {B T : Nat} {v u : Value} {ws : List Wh} (h : Own w B T v ws) (hg : w.grownBy w' u.ownBlock) (hu : ∀ k, u.ownBlock = some k → k < B) : Own w' B T v ws := by
  refine World.ownsRow.kept h hg ?_
  cases hv : v.ownBlock with
  | none => exact .inl rfl
  | some k =>
    refine .inr fun e => ?_
    have h1 := (h.lt k hv).1
    have h2 := hu k e.symm
    omega
theorem own_beneath {w w' : World} {B C T : Nat} {v u : Value} {ws : List Wh} (h : Own w B T v ws) (hg : w.grownBy w' u.ownBlock) (hv : ∀ k, v.ownBlock = some k → k < C) (hu : ∀ k, u.ownBlock = some k → C ≤ k) : Own w' B T v ws := by
  refine World.ownsRow.kept h hg ?_
  cases hvb : v.ownBlock with
  | none => exact .inl rfl
  | some k =>
    refine .inr fun e => ?_
    have h1 := hv k hvb
    have h2 := hu k e.symm
    omega
theorem marked_below {B C : Nat} {w0 w w' : World} {u : Value} (h : Below B w0 w) (hB : B ≤ w.heap.size) (hg : w.grownBy w' u.ownBlock) (hu : ∀ k, u.ownBlock = some k → C ≤ k) (hC : B ≤ C) : Below B w0 w' :=
  below_grown h hg hB fun k hk => Nat.le_trans hC (hu k hk)
theorem got_short {o : Option (List Wh)} (h : ∀ R, o = some R → valid R = true) : (got o).length ≤ 12 := by
  cases o with
  | none => simp [got]
  | some R => exact valid_len (h R rfl)
theorem tidy_short {b : Bool} {ws : List Wh} : ∀ R, tidy b ws = some R → valid R = true := fun R h => (tidy_some h).1.ok
theorem tid_short (ws : List Wh) : (got (tid ws)).length ≤ 12 := got_short fun R h => by
  unfold tid at h
  split at h
  · exact tidy_short R h
  · cases h
theorem dOf_short (f : Wh → Wh) (ws : List Wh) : (got (dOf f ws)).length ≤ 12 := got_short fun R h => by
  unfold dOf at h
  split at h
  · exact tidy_short R h
  · cases h
theorem dFast_short (n : Int) (ws : List Wh) : (got (dFast n ws)).length ≤ 12 := by
  unfold dFast
  split
  · exact dOf_short _ _
  · simp [got]
def Bit (w : World) (o : Option (List Wh)) (bit : Bool) (e : Ending) (w' : World) : Prop :=
  Below w.heap.size w w' ∧ ∃ v', e = .returned (.tuple #[v', .bool bit]) ∧ Own w' w.heap.size 67 v' (got o)
theorem told_bit {w w' : World} {o : Option (List Wh)} {bit : Bool} {e : Ending} (hb : o.isSome = bit) (h : Told w o e w') : Bit w o bit e w' := by
  subst hb
  exact h
theorem mark_number (k n : Nat) : ∃ M : Int, Aside (((k + n * 9 : Nat) : Int) = M) ∧ ¬ M < 0 ∧ (M != M) = false := ⟨_, (show _ = _ from rfl), by omega, by simp⟩

end Go.Proofs.Ytbdhbkedeglagaa
/- The walks of the rings' exact laws. -/
namespace Go.Proofs.Ytbdhbkedeglagaa
set_option maxRecDepth 20000
open Go.ChangeShapes Go.WideShapes Go.ChangeAt Go.RowKit
set_option linter.unusedVariables false
set_option linter.unusedSimpArgs false

theorem toldN_parts (o : Option Int) : ∃ (m : Int) (q : Bool), toldN o = .tuple #[.int .i64 m, .bool q] := ⟨_, _, rfl⟩
theorem exactRingCusps_walk (a b : Int) (i : Bool) (w : World) : Calls Try.prog 7 #[.int .i64 a, .int .i64 b, .bool i] w (Fine w) := by
  have S := fun w => specRingCusps_any a b i w
  have I := fun w => RingCusps_any a b i w
  obtain ⟨m, q, e⟩ := toldN_parts (cuspO a b i)
  rw [e] at S I
  have hq : (q != q) = false := by simp
  have hm : (m != m) = false := by simp
  clear e
  go_enter Try.func7, Try.ntmps7
  go_wp2_with fail
  refine (S _).mono ?_; rintro e w1 ⟨rfl, rfl⟩
  go_wp2_with fail
  refine (I _).mono ?_; rintro e w1 ⟨rfl, hb⟩
  go_wp2
  go_ret
  exact ⟨rfl, hb⟩
theorem exactRingRounds_walk (a b : Int) (i : Bool) (w : World) : Calls Try.prog 8 #[.int .i64 a, .int .i64 b, .bool i] w (Fine w) := by
  have S := fun w => specRingRounds_any a b i w
  have I := fun w => RingRounds_any a b i w
  obtain ⟨m, q, e⟩ := toldN_parts (roundO a b i)
  rw [e] at S I
  have hq : (q != q) = false := by simp
  have hm : (m != m) = false := by simp
  clear e
  go_enter Try.func8, Try.ntmps8
  go_wp2_with fail
  refine (S _).mono ?_; rintro e w1 ⟨rfl, rfl⟩
  go_wp2_with fail
  refine (I _).mono ?_; rintro e w1 ⟨rfl, hb⟩
  go_wp2
  go_ret
  exact ⟨rfl, hb⟩
theorem exactRingSame_walk (a b p q : Int) (w : World) : Calls Try.prog 10 #[.int .i64 a, .int .i64 b, .int .i64 p, .int .i64 q] w (Fine w) := by
  have S := fun w => specRingSame_any a b p q _ rfl w
  have I := fun w => RingSame_any a b p q _ rfl w
  generalize sameR a b (IntKind.i64.wrap (a - b)) p q = s at *
  have hq : (s != s) = false := by simp
  go_enter Try.func10, Try.ntmps10
  go_wp2_with fail
  refine (S _).mono ?_; rintro e w1 ⟨rfl, hb1⟩
  go_wp2_with fail
  refine (I _).mono ?_; rintro e w2 ⟨rfl, hb⟩
  go_wp2
  go_ret
  exact ⟨rfl, below_next hb1 hb⟩
theorem ringO_short (a b : Int) (i : Bool) (p : Int) : (got (ringO a b i p)).length ≤ 12 := by
  cases h : ringO a b i p with
  | none => simp [got]
  | some R => exact valid_len (ringO_tidy h).2.2.2.1.ok
set_option maxHeartbeats 4000000 in
theorem exactRingDesign_walk (a b : Int) (i : Bool) (p : Int) (w : World) : Calls Try.prog 9 #[.int .i64 a, .int .i64 b, .bool i, .int .i64 p] w (Fine w) := by
  have hS := ringO_short a b i p
  have SP := fun (x : World) => specRingDesign_any a b i p x
  have IM := fun (x : World) => RingDesign_any a b i p x
  generalize ringO a b i p = o at *
  obtain ⟨bit, hbit⟩ : ∃ b, o.isSome = b := ⟨_, rfl⟩
  replace SP := fun c => Lib.hid ((SP c).mono fun e x h => told_bit hbit h)
  replace IM := fun c => Lib.hid ((IM c).mono fun e x h => told_bit hbit h)
  clear hbit
  have hbb : (bit != bit) = false := by simp
  go_enter Try.func9, Try.ntmps9
  go_wp2_with fail
  refine ((SP _).out).mono ?_; rintro e w2 ⟨hb, vW, rfl, hW⟩
  have hL := hb
  clear hb
  have nG_hW := Lib.hid (show ∀ k, vW.ownBlock = some k → k < w2.heap.size from fun k h => (hW.lt k h).2)
  have nG_z : w.heap.size ≤ w2.heap.size := hL.size
  go_wp2_with fail
  refine ((IM _).out).mono ?_; rintro e w4 ⟨hb, vG, rfl, hG⟩
  replace hW := own_below hW hb
  replace hL := below_next hL hb
  clear hb
  go_wp2_with fail
  refine (eqWheels_yes vG vW _ _ (own_reads hG) (own_reads hW)).mono ?_; rintro e w5 ⟨rfl, hb⟩
  replace hW := own_below hW hb
  replace hG := own_below hG hb
  replace hL := below_next hL hb
  clear hb
  obtain ⟨MG, HMG, MG0, MGe⟩ := mark_number 1 (got o).length
  have C := mark_any 1 (by omega) vG _ (got o) _ hG (by omega)
  rw [HMG.out] at C
  rw [show ((1 : Nat) : Int) = 1 from rfl] at C
  replace C := Lib.hid C
  go_wp2_with fail
  refine C.out.mono ?_; rintro e w10 ⟨rfl, hm, hgr⟩
  clear C
  replace hW := own_beneath hW hgr nG_hW.out (fun k h => (hG.lt k h).1)
  replace hL := marked_below hL hL.size hgr (fun k h => (hG.lt k h).1) nG_z
  clear hG
  have hG := hm
  clear hm hgr
  have C := held_any 1 (by omega) vG _ _ _ hG (by omega)
  rw [HMG.out, show ((1 : Nat) : Int) = 1 from rfl] at C
  replace C := Lib.hid C
  go_wp2_with fail
  refine C.out.mono ?_; rintro e x ⟨rfl, rfl⟩
  clear C
  go_wp2_with fail
  refine ((IM _).out).mono ?_; rintro e w12 ⟨hb, vH, rfl, hH⟩
  replace hW := own_below hW hb
  replace hG := row_under hG hb
  replace hL := below_next hL hb
  clear hb
  go_wp2_with fail
  refine (eqWheels_yes vH vW _ _ (own_reads hH) (own_reads hW)).mono ?_; rintro e w13 ⟨rfl, hb⟩
  replace hW := own_below hW hb
  replace hG := row_under hG hb
  replace hH := own_below hH hb
  replace hL := below_next hL hb
  clear hb
  have C := held_any 1 (by omega) vG _ _ _ hG (by omega)
  rw [HMG.out, show ((1 : Nat) : Int) = 1 from rfl] at C
  replace C := Lib.hid C
  go_wp2_with fail
  refine C.out.mono ?_; rintro e x ⟨rfl, rfl⟩
  clear C
  go_wp2
  go_ret
  exact ⟨rfl, hL⟩
end Go.Proofs.Ytbdhbkedeglagaa
