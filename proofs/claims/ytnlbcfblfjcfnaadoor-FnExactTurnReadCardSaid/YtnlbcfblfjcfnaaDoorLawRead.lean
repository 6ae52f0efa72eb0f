/-
  The walks of the laws FnTurnText, FnTurnRead, FnExactTurnText, FnExactTurnRead.
-/
import Derived.Test.YtnlbcfblfjcfnaaDoorReadTurn
namespace Go.Proofs.YtnlbcfblfjcfnaaDoor
open Go.ChangeShapes Go.WideShapes Go.ChangeAt Go.RowKit
set_option linter.unusedVariables false
set_option linter.unusedSimpArgs false

/-- A code is short enough, or the law answers true at once. -/
theorem code_len' {w : World} {v : Value} (h : CodeAt w v) : ∃ a n c, v = .slice a n c ∧ n ≤ 9223372036854775807 := by
  rcases h with ⟨a, rfl⟩ | ⟨b, off, len, cap, zs, rfl, _, h1, h2, _⟩
  · exact ⟨a, 0, 0, rfl, by omega⟩
  · exact ⟨_, _, _, rfl, by unfold maxLen at h2; omega⟩

theorem exactText_walk (t : Int) (w : World) (hN : NamesAt w) :
    Calls Tryd.prog 5 #[.int .i64 t] w (Fine w) := by
  have HN := Lib.hid hN; clear hN
  by_cases h : t < 0 ∨ 23 < t
  · go_enter Tryd.func5, Tryd.ntmps5
    go_wp2_with (first | (go_at_call 9; refine (specText_no _ h _).mono ?_; rintro e w' ⟨rfl, rfl⟩) | (go_at_call 8; refine (implText_no _ h _).mono ?_; rintro e w' ⟨rfl, rfl⟩))
    go_ret
    exact fine_same ⟨rfl, rfl⟩
  · obtain ⟨k, rfl⟩ : ∃ k : Nat, t = k := ⟨t.toNat, by omega⟩
    have hk : k ≤ 23 := by omega
    clear h
    have S := Lib.hid (specText_yes k hk w)
    have T := fun w1 hb => Lib.hid (implText_yes k hk w1 (HN.out.below hb))
    generalize strOf (names.getD k []) = s at *
    go_enter Tryd.func5, Tryd.ntmps5
    go_wp2_with fail
    refine S.out.mono ?_; rintro e w1 ⟨rfl, hb⟩
    have T1 := T w1 hb
    clear T S
    go_wp2_with fail
    refine T1.out.mono ?_; rintro e w' ⟨rfl, rfl⟩
    have hs : (s.toList != s.toList) = false := by simp
    go_wp2_with fail
    go_ret
    exact ⟨rfl, hb⟩

theorem exactRead_walk (s : ByteArray) (hsz : s.size ≤ maxLen) (w : World) (hN : NamesAt w) :
    Calls Tryd.prog 6 #[.string s] w (Fine w) := by
  have HN := Lib.hid hN; clear hN
  unfold maxLen at hsz
  by_cases hbig : 1048576 < s.size
  · have hb : (1048576 : Int) < (s.size : Int) := by omega
    go_enter Tryd.func6, Tryd.ntmps6
    go_wp2_with fail
    go_ret
    exact fine_same ⟨rfl, rfl⟩
  have hb : ¬ (1048576 : Int) < (s.size : Int) := by omega
  rcases is_cases s with ⟨t, ht⟩ | hno
  · have HT := Lib.hid ht; clear ht
    go_enter Tryd.func6, Tryd.ntmps6
    go_wp2_with fail
    refine (specRead_yes s t HT.out _).mono ?_; rintro e w1 ⟨rfl, hb1⟩
    have T := Lib.hid (implRead_yes s t HT.out w1 (HN.out.below hb1))
    go_wp2_with fail
    refine T.out.mono ?_; rintro e w' ⟨rfl, rfl⟩
    go_wp2_with fail
    go_ret
    exact ⟨rfl, hb1⟩
  · have HT := Lib.hid hno; clear hno
    go_enter Tryd.func6, Tryd.ntmps6
    go_wp2_with fail
    refine (specRead_no s HT.out _).mono ?_; rintro e w1 ⟨rfl, hb1⟩
    have T := Lib.hid (implRead_no s HT.out w1 (HN.out.below hb1))
    go_wp2_with fail
    refine T.out.mono ?_; rintro e w' ⟨rfl, rfl⟩
    go_wp2_with fail
    go_ret
    exact ⟨rfl, hb1⟩

theorem name_is (t : Nat) (ht : t ≤ 23) : Is (strOf (names.getD t [])) t := by
  refine ⟨ht, rfl, fun j hj he => ?_⟩
  have key : ∀ t : Fin 24, ∀ j : Fin 24, j.val < t.val → names.getD j.val [] ≠ names.getD t.val [] := by decide +kernel
  refine key ⟨t, by omega⟩ ⟨j, by omega⟩ hj ?_
  have := congrArg (fun x : ByteArray => x.data.toList) he
  simpa [strOf] using this
theorem name_long (t : Nat) (ht : t ≤ 23) : (strOf (names.getD t [])).toList ≠ [] := by
  have key : ∀ t : Fin 24, names.getD t.val [] ≠ [] := by decide +kernel
  rw [Lib.toList_data]
  intro he
  exact key ⟨t, by omega⟩ (by simpa [strOf] using he)

theorem drawText (v : Value) (w : World) (h : CodeAt w v) : Calls Tryd.prog 7 #[v] w fun e w' => ∃ a : Int, e = .returned (.int .i64 a) ∧ -1 ≤ a ∧ a ≤ 100 ∧ Below w.heap.size w w' := by
  have O := Lib.hid (open_any v w h)
  clear h
  go_enter Tryd.func7, Tryd.ntmps7
  go_wp2_with fail
  refine O.out.mono ?_; rintro e w1 ⟨rfl, hr, hb⟩
  have z1 := hr.lt
  have T1 := Lib.hid (turn_drawn _ _ w1 hr (by omega))
  clear hr O
  go_wp2_with fail
  refine T1.out.mono ?_; rintro e w2 ⟨a, q, rfl, a0, a1, hq, hr2, hg2⟩
  clear T1
  go_wp2_with fail
  go_ret
  exact ⟨_, rfl, a0, a1, below_only hb hg2 (by omega) (Nat.le_refl _)⟩

theorem lawText_walk (v : Value) (w : World) (h : CodeAt w v) (hN : NamesAt w) : Calls Tryd.prog 3 #[v] w (Fine w) := by
  have D := Lib.hid (drawText v w h)
  have HN := Lib.hid hN; clear hN
  obtain ⟨pa, pn, pc, rfl, hpn⟩ := code_len' h
  clear h
  by_cases hbig : 1048576 < pn
  · have hb : (1048576 : Int) < (pn : Int) := by omega
    go_enter Tryd.func3, Tryd.ntmps3
    go_wp2_with fail
    go_ret
    exact fine_same ⟨rfl, rfl⟩
  have hb : ¬ (1048576 : Int) < (pn : Int) := by omega
  go_enter Tryd.func3, Tryd.ntmps3
  go_wp2_with fail
  refine D.out.mono ?_; rintro e w1 ⟨t, rfl, t0, t1, hbel⟩
  clear D
  by_cases h : t < 0 ∨ 23 < t
  · go_wp2_with (first | (go_at_call 9; refine (specText_no _ h _).mono ?_; rintro e w' ⟨rfl, rfl⟩) | (go_at_call 8; refine (implText_no _ h _).mono ?_; rintro e w' ⟨rfl, rfl⟩))
    go_ret
    exact ⟨rfl, hbel⟩
  · obtain ⟨k, rfl⟩ : ∃ k : Nat, t = k := ⟨t.toNat, by omega⟩
    have hk : k ≤ 23 := by omega
    clear h
    have z := hbel.size
    have HB := Lib.hid hbel
    have T := Lib.hid (implText_yes k hk w1 (HN.out.below hbel))
    have T2 := Lib.hid (specText_yes k hk w1)
    clear hbel
    have hR := Lib.hid (name_is k hk)
    have hL := name_long k hk
    generalize strOf (names.getD k []) = s at *
    have hs1 : (s.toList != s.toList) = false := by simp
    have hs2 : s.toList.isEmpty = false := by simpa using hL
    have hs3 : (s.toList == []) = false := by simpa using hL
    clear hL
    go_wp2_with fail
    refine T.out.mono ?_; rintro e w' ⟨rfl, rfl⟩
    go_wp2_with fail
    refine T2.out.mono ?_; rintro e w2 ⟨rfl, hb2⟩
    have T3 := Lib.hid (implRead_yes s k hR.out w2 ((HN.out.below HB.out).below hb2))
    clear T T2
    go_wp2_with fail
    refine T3.out.mono ?_; rintro e w' ⟨rfl, rfl⟩
    go_wp2_with fail
    go_ret
    exact ⟨ret_bool (by simp), HB.out.trans (hb2.mono z)⟩

/-- A text out of a list of texts. -/
theorem of_any (R p b n : Nat) (ss : Nat → ByteArray) (w : World) (h : Rd w R p) (hp : p ≤ 900000) (hn : 1 ≤ n) (hn2 : n ≤ 1000) (hne : b ≠ R) (hss : ∀ j, j < n → w.cell? ⟨b, j, none⟩ = some (.string (ss j))) :
    Calls Tryd.prog 21 #[.pointer (some ⟨R, 0, none⟩), .slice (some ⟨b, 0, none⟩) n n] w fun e w' => ∃ s, e = .returned (.string s) ∧ Hid (Rd w' R (p + 1)) ∧ Hid (w.grownBy w' (some R)) := by
  have P := Lib.hid (pick_any R p n w h (by omega) (by omega))
  have HS : ∀ j, j < n → Hid (w.cell? ⟨b, j, none⟩ = some (.string (ss j))) := fun j hj => Lib.hid (hss j hj)
  clear h hss
  go_enter Tryd.func21, Tryd.ntmps21
  go_wp2_with fail
  refine P.out.mono ?_; rintro e w1 ⟨k, rfl, k0, k1, hr, hg⟩
  obtain ⟨j, rfl⟩ : ∃ j : Nat, k = j := ⟨k.toNat, by omega⟩
  have c : w1.cell? ⟨b, j, none⟩ = some (.string (ss j)) := hg.cell (a := ⟨b, j, none⟩) (HS j (by omega)).out (by simp; omega)
  generalize ss j = s at c
  have HR := Lib.hid hr
  have HG := Lib.hid hg
  clear hr hg HS P
  go_wp2_with fail
  go_ret
  exact ⟨s, rfl, HR, HG⟩
/-- The texts that are drawn, as they lie. -/
abbrev drawnCells : Array Value := #[.string ⟨#[]⟩, .string ⟨#[49, 47, 53]⟩, .string ⟨#[50, 47, 52]⟩, .string ⟨#[50, 52, 47, 50, 52]⟩, .string ⟨#[48, 47, 49]⟩, .string ⟨#[49, 47, 50, 52, 32]⟩]
theorem drawn_at (j : Nat) (h : j < 6) : drawnCells[j]? = some (.string ((fun i => match drawnCells[i]? with | some (.string s) => s | _ => ⟨#[]⟩) j)) := by
  match j, h with
  | 0, _ => rfl
  | 1, _ => rfl
  | 2, _ => rfl
  | 3, _ => rfl
  | 4, _ => rfl
  | 5, _ => rfl

theorem drawRead (v : Value) (w : World) (h : CodeAt w v) : Calls Tryd.prog 11 #[v] w fun e w' => ∃ s, e = .returned (.string s) ∧ Below w.heap.size w w' := by
  have O := Lib.hid (open_any v w h)
  clear h
  go_enter Tryd.func11, Tryd.ntmps11
  go_wp2_with fail
  refine O.out.mono ?_; rintro e w1 ⟨rfl, hr, hb⟩
  have z1 := hr.lt
  have z0 := hb.size
  have T1 := Lib.hid (pick_any _ _ 5 w1 hr (by omega) (by omega))
  clear hr O
  go_wp2_with fail
  refine T1.out.mono ?_; rintro e w2 ⟨k, rfl, k0, k1, hr2, hg2⟩
  have z2 := hg2.size
  clear T1
  have HB := Lib.hid (below_only hb hg2 (by omega) (Nat.le_refl _))
  by_cases hk : k = 0
  · subst hk
    have OF := Lib.hid (of_any _ _ w2.heap.size 6 _ _ (hr2.alloc (.cells drawnCells 9)) (by omega) (by omega) (by omega) (by omega) (fun j hj => (World.cell?_alloc_at _ _ _ _ rfl).trans (drawn_at j hj)))
    clear hr2 hg2 hb
    go_wp2_with fail
    refine OF.out.mono ?_; rintro e w3 ⟨s, rfl, hr3, hg3⟩
    clear OF
    go_wp2_with fail
    go_ret
    have z3 := HB.out.size
    exact ⟨s, rfl, below_only (HB.out.alloc z3 (.cells drawnCells 9)) hg3.out (by simp; omega) (Nat.le_refl _)⟩
  · have hk' : (k == 0) = false := by simpa using hk
    have T2 := Lib.hid (turn_drawn _ _ w2 hr2 (by omega))
    clear hr2 hg2 hb
    go_wp2_with fail
    refine T2.out.mono ?_; rintro e w3 ⟨t, q, rfl, t0, t1, hq, hr3, hg3⟩
    clear T2
    have HB3 := Lib.hid (below_only HB.out hg3 (by omega) (Nat.le_refl _))
    have z3 := HB3.out.size
    clear hr3 hg3
    by_cases h : t < 0 ∨ 23 < t
    · go_wp2_with fail
      refine (specText_no _ h _).mono ?_; rintro e w' ⟨rfl, rfl⟩
      go_wp2_with fail
      go_ret
      exact ⟨_, rfl, HB3.out⟩
    · obtain ⟨j, rfl⟩ : ∃ j : Nat, t = j := ⟨t.toNat, by omega⟩
      have S := Lib.hid (specText_yes j (by omega) w3)
      generalize strOf (names.getD j []) = s at S
      go_wp2_with fail
      refine S.out.mono ?_; rintro e w4 ⟨rfl, hb4⟩
      go_wp2_with fail
      go_ret
      exact ⟨_, rfl, HB3.out.trans (hb4.mono z3)⟩

theorem lawRead_walk (v : Value) (w : World) (h : CodeAt w v) (hN : NamesAt w) : Calls Tryd.prog 4 #[v] w (Fine w) := by
  have D := Lib.hid (drawRead v w h)
  have HN := Lib.hid hN; clear hN
  obtain ⟨pa, pn, pc, rfl, hpn⟩ := code_len' h
  clear h
  by_cases hbig : 1048576 < pn
  · have hb : (1048576 : Int) < (pn : Int) := by omega
    go_enter Tryd.func4, Tryd.ntmps4
    go_wp2_with fail
    go_ret
    exact fine_same ⟨rfl, rfl⟩
  have hb : ¬ (1048576 : Int) < (pn : Int) := by omega
  go_enter Tryd.func4, Tryd.ntmps4
  go_wp2_with fail
  refine D.out.mono ?_; rintro e w1 ⟨s, rfl, hbel⟩
  clear D
  have z := hbel.size
  have HB := Lib.hid hbel; clear hbel
  have HN1 := Lib.hid (HN.out.below HB.out)
  rcases is_cases s with ⟨t, ht⟩ | hno
  · have T := Lib.hid (implRead_yes s t ht w1 HN1.out)
    have S := Lib.hid (specRead_yes s t ht w1)
    have X := fun w2 hb => Lib.hid (implText_yes t ht.1 w2 (HN1.out.below hb))
    have htt := ht.1
    rw [ht.2.1] at X
    have hs : (s.toList == s.toList) = true := by simp
    clear ht
    go_wp2_with fail
    refine T.out.mono ?_; rintro e w' ⟨rfl, rfl⟩
    go_wp2_with fail
    refine S.out.mono ?_; rintro e w2 ⟨rfl, hb2⟩
    have X2 := X w2 hb2
    clear X T S
    go_wp2_with fail
    refine X2.out.mono ?_; rintro e w' ⟨rfl, rfl⟩
    go_wp2_with fail
    go_ret
    exact ⟨rfl, HB.out.trans (hb2.mono z)⟩
  · have T := Lib.hid (implRead_no s hno w1 HN1.out)
    have S := Lib.hid (specRead_no s hno w1)
    clear hno
    go_wp2_with fail
    refine T.out.mono ?_; rintro e w' ⟨rfl, rfl⟩
    go_wp2_with fail
    refine S.out.mono ?_; rintro e w2 ⟨rfl, hb2⟩
    go_wp2_with fail
    go_ret
    exact ⟨rfl, HB.out.trans (hb2.mono z)⟩
end Go.Proofs.YtnlbcfblfjcfnaaDoor
