/-
  How spec draws two complex numbers and a bound.
-/
import Derived.Test.YtmbhbocfnpklpaaWideD
import Derived.Test.YtmbhbocfnpklpaaDrawTurn
namespace Go.Proofs.Ytmbhbocfnpklpaa
set_option maxRecDepth 20000
open Go.ChangeShapes Go.WideShapes Go.ChangeAt Go.RowKit
set_option linter.unusedVariables false
set_option linter.unusedSimpArgs false

abbrev mostCells : Array Value := #[.float .f64 0, .float .f64 4607182418800017408, .float .f64 4636737291354636288, .float .f64 13830554455654793216, .float .f64 4602678819172646912]
/-- The bounds that are drawn. -/
def Ms (m : Nat) : Prop := m = 0 ∨ m = 4607182418800017408 ∨ m = 4636737291354636288 ∨ m = 13830554455654793216 ∨ m = 4602678819172646912
theorem most_at (k : Nat) (hk : k < 5) : ∃ m, mostCells[k]? = some (.float .f64 m) ∧ Ms m := by
  rcases (show k = 0 ∨ k = 1 ∨ k = 2 ∨ k = 3 ∨ k = 4 by omega) with rfl | rfl | rfl | rfl | rfl
  · exact ⟨_, rfl, Or.inl rfl⟩
  · exact ⟨_, rfl, Or.inr (Or.inl rfl)⟩
  · exact ⟨_, rfl, Or.inr (Or.inr (Or.inl rfl))⟩
  · exact ⟨_, rfl, Or.inr (Or.inr (Or.inr (Or.inl rfl)))⟩
  · exact ⟨_, rfl, Or.inr (Or.inr (Or.inr (Or.inr rfl)))⟩
def NearA (W : World) (R p : Nat) (e : Ending) (w' : World) : Prop :=
  ∃ x y q, e = .returned (cw x y) ∧ Hid (WK x y) ∧ q ≤ p + 3 ∧ Hid (Rd w' R q) ∧ Hid (W.grownBy w' (some R)) ∧ W.heap.size < w'.heap.size ∧ Hid (∀ k, k < 5 → w'.cell? ⟨W.heap.size, k, none⟩ = mostCells[k]?)
def NearB (W : World) (R p : Nat) (e : Ending) (w' : World) : Prop :=
  ∃ x y q, e = .returned (cw x y) ∧ Hid (WK x y) ∧ q ≤ p + 3 ∧ Hid (Rd w' R q) ∧ Hid (W.grownBy w' (some R))
theorem nearA (W : World) (R p : Nat) (h : Rd W R p) (hp : p ≤ 900000) : Calls Try.prog 63 #[.pointer (some ⟨R, 0, none⟩)] (W.alloc (.cells mostCells 34)).drew (NearA W R p) := by
  have hlt := h.lt
  have hd : Rd (W.alloc (.cells mostCells 34)).drew R p := (h.alloc _).drew
  refine (wide_drawn R p _ hd hp).mono ?_
  rintro e w' ⟨x, y, q, rfl, hk, hq, hr, hg⟩
  refine ⟨x, y, q, rfl, Lib.hid hk, hq, Lib.hid hr, Lib.hid ?_, ?_, Lib.hid fun k hk5 => ?_⟩
  · exact only_trans' (b := (W.alloc (.cells mostCells 34)).drew) ⟨rfl, rfl, rfl, by simp [World.drew], fun i hi _ => Below.heap_alloc W _ i hi⟩ hg
  · have := hg.size; simp [World.drew] at this; omega
  · obtain ⟨m, hm, -⟩ := most_at k hk5
    rw [hm]
    exact hg.cell (a := ⟨W.heap.size, k, none⟩) ((World.cell?_alloc_at _ _ _ _ rfl).trans hm) (by simp; omega)
theorem nearB (W : World) (R p : Nat) (h : Rd W R p) (hp : p ≤ 900000) : Calls Try.prog 63 #[.pointer (some ⟨R, 0, none⟩)] W.drew (NearB W R p) := by
  refine (wide_drawn R p _ h.drew hp).mono ?_
  rintro e w' ⟨x, y, q, rfl, hk, hq, hr, hg⟩
  exact ⟨x, y, q, rfl, Lib.hid hk, hq, Lib.hid hr, Lib.hid (only_trans' (b := W.drew) ⟨rfl, rfl, rfl, Nat.le_refl _, fun _ _ _ => rfl⟩ hg)⟩
/-- What a pick out of the bounds hands back. -/
def PickMost (W : World) (R : Nat) (cell : World → Nat → Option Value) (e : Ending) (w' : World) : Prop :=
  ∃ (k : Nat) (m : Nat), e = .returned (.int .i64 k) ∧ (k : Int) < 5 ∧ Hid (Ms m) ∧ cell w' k = some (.float .f64 m) ∧ Hid (W.grownBy w' (some R))
theorem mostA {W V : World} {R q g : Nat} (hr : Rd V R q) (hq : q ≤ 900000) (hg : W.grownBy V (some R)) (hgR : R ≠ g) (hlt : g < V.heap.size) (hc : ∀ k, k < 5 → V.cell? ⟨g, k, none⟩ = mostCells[k]?) :
    Calls Try.prog 47 #[.pointer (some ⟨R, 0, none⟩), .int .i64 5] V (PickMost W R fun w' k => w'.cell? ⟨g, k, none⟩) := by
  refine (pick_any R q 5 V hr (by omega) (by omega)).mono ?_
  rintro e w' ⟨k, rfl, k0, k1, hr2, hg2⟩
  obtain ⟨j, rfl⟩ : ∃ j : Nat, k = j := ⟨k.toNat, by omega⟩
  obtain ⟨m, hm, ms⟩ := most_at j (by omega)
  refine ⟨j, m, rfl, by omega, Lib.hid ms, ?_, Lib.hid (only_trans' hg hg2)⟩
  exact hg2.cell (a := ⟨g, j, none⟩) ((hc j (by omega)).trans hm) (by simp; omega)
theorem mostB {W V : World} {R q : Nat} (hr : Rd V R q) (hq : q ≤ 900000) (hg : W.grownBy V (some R)) :
    Calls Try.prog 47 #[.pointer (some ⟨R, 0, none⟩), .int .i64 5] (V.alloc (.cells mostCells 34)) (PickMost W R fun w' k => w'.cell? ⟨V.heap.size, k, none⟩) := by
  have hlt := hr.lt
  refine (pick_any R q 5 _ (hr.alloc _) (by omega) (by omega)).mono ?_
  rintro e w' ⟨k, rfl, k0, k1, hr2, hg2⟩
  obtain ⟨j, rfl⟩ : ∃ j : Nat, k = j := ⟨k.toNat, by omega⟩
  obtain ⟨m, hm, ms⟩ := most_at j (by omega)
  refine ⟨j, m, rfl, by omega, Lib.hid ms, ?_, Lib.hid (only_trans' (only_alloc hg _) hg2)⟩
  exact hg2.cell (a := ⟨V.heap.size, j, none⟩) ((World.cell?_alloc_at _ _ _ _ rfl).trans hm) (by simp; omega)
theorem mostC {W V : World} {R q : Nat} (hr : Rd V R q) (hq : q ≤ 900000) (hg : W.grownBy V (some R)) :
    Calls Try.prog 47 #[.pointer (some ⟨R, 0, none⟩), .int .i64 5] V (PickMost W R fun w' k => (w'.alloc (.cells mostCells 34)).cell? ⟨w'.heap.size, k, none⟩) := by
  refine (pick_any R q 5 _ hr (by omega) (by omega)).mono ?_
  rintro e w' ⟨k, rfl, k0, k1, hr2, hg2⟩
  obtain ⟨j, rfl⟩ : ∃ j : Nat, k = j := ⟨k.toNat, by omega⟩
  obtain ⟨m, hm, ms⟩ := most_at j (by omega)
  exact ⟨j, m, rfl, by omega, Lib.hid ms, (World.cell?_alloc_at _ _ _ _ rfl).trans hm, Lib.hid (only_trans' hg hg2)⟩
set_option maxHeartbeats 4000000 in
theorem drawPointsNear (v : Value) (w : World) (h : CodeAt w v) : Calls Try.prog 42 #[v] w fun e w' => ∃ x y x' y' m, e = .returned (.tuple #[cw x y, cw x' y', .float .f64 m]) ∧ WK x y ∧ WK x' y' ∧ Ms m ∧ Below w.heap.size w w' := by
  have O := Lib.hid (open_any v w h)
  clear h
  go_enter Try.func42, Try.ntmps42
  go_wp2_with fail
  refine O.out.mono ?_; rintro e w1 ⟨rfl, hr, hb⟩
  have z1 := hr.lt
  have T1 := Lib.hid (wide_drawn _ _ w1 hr (by omega))
  clear hr O
  go_wp2_with fail
  refine T1.out.mono ?_; rintro e w2 ⟨x, y, q, rfl, hk, hq, hr2, hg2⟩
  have z2 := hg2.size
  have z0 := hb.size
  have zR := hr2.lt
  have DA := Lib.hid (nearA w2 _ _ hr2 (by omega))
  have DB := Lib.hid (nearB w2 _ _ hr2 (by omega))
  have HB := Lib.hid (below_only hb hg2 (by omega) (Nat.le_refl _))
  have HK := Lib.hid hk
  clear T1 hr2 hg2 hb hk
  unfold cw at *
  go_wp2_with fail
  go_region_with (first
    | (go_at_call 63; ((with_reducible refine DA.out.mono ?_); rintro e w3 ⟨x', y', q', rfl, hk', hq', hr3, hg3, zA, hcA⟩))
    | (go_at_call 63; ((with_reducible refine DB.out.mono ?_); rintro e w3 ⟨x', y', q', rfl, hk', hq', hr3, hg3⟩))
    | (go_at_call 47; ((with_reducible refine (mostA hr3.out (by omega) hg3.out (by omega) zA hcA.out).mono ?_); rintro e w4 ⟨k, m, rfl, k1, hm, hc, hg4⟩))
    | (go_at_call 47; ((with_reducible refine (mostB hr3.out (by omega) hg3.out).mono ?_); rintro e w4 ⟨k, m, rfl, k1, hm, hc, hg4⟩))
    | (go_at_call 47; ((with_reducible refine (mostC hr3.out (by omega) hg3.out).mono ?_); rintro e w4 ⟨k, m, rfl, k1, hm, hc, hg4⟩)))
  all_goals
    go_wp2_with fail
    go_ret3
    have z3 := hg4.out.size
    have hb3 := below_only HB.out hg4.out (by omega) (Nat.le_refl _)
    first
      | exact ⟨_, _, _, _, _, rfl, HK.out, hk'.out, hm.out, hb3⟩
      | exact ⟨_, _, _, _, _, rfl, HK.out, hk'.out, hm.out, hb3.alloc (by omega) _⟩
end Go.Proofs.Ytmbhbocfnpklpaa
