/-
  The walk of the law FnExactTurnGroup.
-/
import Derived.Test.YtnlbcfblfjcfnaaGroup
import Derived.Test.YtnlbcfblfjcfnaaSlices
namespace Go.Proofs.Ytnlbcfblfjcfnaa
open Go.ChangeShapes Go.WideShapes Go.ChangeAt Go.RowKit
set_option linter.unusedVariables false
set_option linter.unusedSimpArgs false

theorem own_some {w : World} {B n : Nat} {t : TypeId} {v : Value} {xs : List Value} (h : w.ownsRow B t 1 v n xs) (hn : 0 < n) : ∃ g cap, v = .slice (some ⟨g, 0, none⟩) n cap ∧ B ≤ g ∧ g < w.heap.size := by
  rcases h.2 with ⟨_, rfl⟩ | ⟨g, cap, cur, rfl, hb, _⟩
  · omega
  · exact ⟨g, cap, rfl, hb, (h.lt g rfl).2⟩
theorem own_below {w w' : World} {B n : Nat} {t : TypeId} {v : Value} {xs : List Value} (h : w.ownsRow B t 1 v n xs) (hb : Below w.heap.size w w') : w'.ownsRow B t 1 v n xs := by
  refine ⟨h.1, ?_⟩
  rcases h.2 with hn | ⟨g, cap, cur, rfl, hB, hg, rest⟩
  · exact .inl hn
  · exact .inr ⟨g, cap, cur, rfl, hB, (hb.block g (h.lt g rfl).2).trans hg, rest⟩
theorem own_drewN {w : World} {B n : Nat} {t : TypeId} {v : Value} {xs : List Value} (h : w.ownsRow B t 1 v n xs) (m : Nat) : (w.drewN m).ownsRow B t 1 v n xs := h
theorem own_far {w w' : World} {B n G : Nat} {t : TypeId} {v : Value} {xs : List Value} (h : w.ownsRow B t 1 v n xs) (hg : w.grownBy w' (some G)) (hne : v.ownBlock ≠ some G) : w'.ownsRow B t 1 v n xs :=
  h.kept hg (.inr hne)
theorem below_grown {w0 w w' : World} {B G : Nat} (h : Below B w0 w) (hg : w.grownBy w' (some G)) (hB : B ≤ w.heap.size) (hG : B ≤ G) : Below B w0 w' :=
  h.grown hg hB (fun k hk => by cases hk; exact hG)

set_option maxHeartbeats 800000 in
theorem exactGroup_yes (a b : Nat) (ha : a ≤ 23) (hb : b ≤ 23) (w : World) :
    Calls Try.prog 12 #[.int .i64 a, .int .i64 b] w (Fine w) := by
  obtain ⟨g0, g1, hn⟩ := stepOf_facts a b
  have S := fun w => specGroup_yes a b ha hb _ _ rfl g0 g1 hn w
  have I := fun w => implGroup_yes a b ha hb _ _ rfl g0 g1 hn w
  have hn0 : 0 < 24 / stepOf a b := Nat.div_pos g1 (by omega)
  have hn1 : 24 / stepOf a b ≤ 24 := Nat.div_le_self _ _
  have hL : (mults (stepOf a b) (24 / stepOf a b)).length ≤ 1000000 := by rw [mults_len]; omega
  clear hn g0 g1
  generalize stepOf a b = g at *
  generalize 24 / g = n at *
  generalize mults g n = L at hL
  have SH : ∀ w, Hid _ := fun w => Lib.hid (S w)
  have IH : ∀ w, Hid _ := fun w => Lib.hid (I w)
  clear S I
  go_enter Try.func12, Try.ntmps12
  go_wp2_with fail
  refine (SH _).out.mono ?_; rintro e w1 ⟨v1, rfl, own1, bel1⟩
  go_wp2_with fail
  refine (IH _).out.mono ?_; rintro e w2 ⟨v2, rfl, own2, bel2⟩
  have own1' := own_below own1 bel2
  have lt1 := own1.lt
  obtain ⟨G2, cap2, rfl, hG2, hG2'⟩ := own_some own2 hn0
  go_wp2_with fail
  refine (eqInts_yes _ _ _ _ (intsAt_of_own own2) (intsAt_of_own own1') (by rw [mults_len]; omega)).mono ?_; rintro e w3 ⟨rfl, m3, rfl⟩
  go_wp2_with fail
  refine (markInts_own _ _ _ _ _ _ (own_drewN own2 m3) (by omega) 1 (by omega) (by omega)).mono ?_; rintro e w4 ⟨rfl, own2m, gr4⟩
  go_wp2_with fail
  refine (heldInts_yes _ _ _ _ (intsAt_of_own own2m) (by omega) (by omega) (by omega)).mono ?_; rintro e w' ⟨rfl, rfl⟩
  go_wp2_with fail
  refine (IH _).out.mono ?_; rintro e w5 ⟨v3, rfl, own3, bel5⟩
  have own1a := own_below (own_far (own_drewN own1' m3) gr4 (fun h => by have := (lt1 G2 h).2; omega)) bel5
  have own2a := own_below own2m bel5
  go_wp2_with fail
  refine (eqInts_yes _ _ _ _ (intsAt_of_own own3) (intsAt_of_own own1a) (by rw [mults_len]; omega)).mono ?_; rintro e w6 ⟨rfl, m6, rfl⟩
  go_wp2_with fail
  refine (heldInts_yes _ _ _ _ (intsAt_of_own (own_drewN own2a m6)) (by omega) (by omega) (by omega)).mono ?_; rintro e w' ⟨rfl, rfl⟩
  go_wp2_with fail
  go_ret
  refine ⟨rfl, below_drewN ?_ _⟩
  have z1 := bel1.size
  have z2 := bel2.size
  have z4 := gr4.size
  have z : (w2.drewN m3).heap.size = w2.heap.size := rfl
  exact (below_grown (below_drewN (bel1.trans (bel2.mono z1)) m3) gr4 (by omega) (by omega)).trans (bel5.mono (by omega))

theorem exactGroup_no (a b : Int) (h : twoBad a b) (w : World) :
    Calls Try.prog 12 #[.int .i64 a, .int .i64 b] w (Fine w) := by
  have e0 : ∀ w, IntsAt w (.slice none 0 0) [] := fun w => ⟨none, 0, rfl, fun h => absurd rfl h⟩
  have h0 : ∀ w, IntsAt w (.slice none 0 0) (marks 1 0) := fun w => ⟨none, 0, rfl, fun h => absurd rfl h⟩
  have E0 : ∀ w, Hid _ := fun w => Lib.hid (e0 w)
  have H0 : ∀ w, Hid _ := fun w => Lib.hid (h0 w)
  clear e0 h0
  go_enter Try.func12, Try.ntmps12
  go_wp2_with fail
  refine (specGroup_no _ _ h _).mono ?_; rintro e w1 ⟨rfl, bel1⟩
  have e1 : IntsAt w1 (.slice (some ⟨w.heap.size, 0, none⟩) 0 0) [] := ⟨_, 0, rfl, fun h => absurd rfl h⟩
  go_wp2_with fail
  refine (implGroup_no _ _ h _).mono ?_; rintro e w' ⟨rfl, rfl⟩
  go_wp2_with fail
  refine (eqInts_yes _ _ _ _ (E0 _).out e1 (by simp)).mono ?_; rintro e w3 ⟨rfl, m3, rfl⟩
  go_wp2_with fail
  refine (markInts_nil _ _).mono ?_; rintro e w' ⟨rfl, rfl⟩
  go_wp2_with fail
  refine (heldInts_yes _ 0 _ _ (H0 _).out (by omega) (by omega) (by omega)).mono ?_; rintro e w' ⟨rfl, rfl⟩
  go_wp2_with fail
  refine (implGroup_no _ _ h _).mono ?_; rintro e w' ⟨rfl, rfl⟩
  have e2 : IntsAt (w1.drewN m3) (.slice (some ⟨w.heap.size, 0, none⟩) 0 0) [] := ⟨_, 0, rfl, fun h => absurd rfl h⟩
  go_wp2_with fail
  refine (eqInts_yes _ _ _ _ (E0 _).out e2 (by simp)).mono ?_; rintro e w3 ⟨rfl, m6, rfl⟩
  go_wp2_with fail
  refine (heldInts_yes _ 0 _ _ (H0 _).out (by omega) (by omega) (by omega)).mono ?_; rintro e w' ⟨rfl, rfl⟩
  go_wp2_with fail
  go_ret
  exact ⟨rfl, below_drewN bel1 _⟩

theorem exactGroup_walk (a b : Int) (w : World) :
    Calls Try.prog 12 #[.int .i64 a, .int .i64 b] w (Fine w) := by
  rcases two_cases a b with h | ⟨a0, a1, b0, b1⟩
  · exact exactGroup_no a b h w
  · obtain ⟨k, rfl⟩ : ∃ k : Nat, a = k := ⟨a.toNat, by omega⟩
    obtain ⟨l, rfl⟩ : ∃ l : Nat, b = l := ⟨b.toNat, by omega⟩
    exact exactGroup_yes k l (by omega) (by omega) w
end Go.Proofs.Ytnlbcfblfjcfnaa
