/-
  TurnGroup: impl's and spec's make the same row of multiples in new memory.
-/
import Derived.Test.YtnlbcfblfjcfnaaExactTurnA
import Derived.Test.YtnlbcfblfjcfnaaShell
import Derived.OwnWalk
import Derived.Laws.AppendOwn
import Derived.Deep.Onto
import Derived.Deep.WholeRow
namespace Go.Proofs.Ytnlbcfblfjcfnaa
open Go.ChangeShapes Go.WideShapes Go.ChangeAt Go.RowKit
set_option linter.unusedVariables false
set_option linter.unusedSimpArgs false

theorem info_int : (Try.prog.info? 3).map (fun i => (i.zero, i.size, i.bytes)) = some (some (.int .i64 0), 1, 8) := by kernel_rfl

/-- The first n multiples of g. -/
def mults (g n : Nat) : List Int := (List.range n).map (fun i => ((i * g : Nat) : Int))
theorem mults_len (g n : Nat) : (mults g n).length = n := by simp [mults]
theorem mults_succ (g n : Nat) : mults g (n + 1) = mults g n ++ [((n * g : Nat) : Int)] := by simp [mults, List.range_succ]

/-- The step that both turns' divisors have: from 1 on, a divisor of 24. -/
def stepOf (a b : Nat) : Nat := Nat.gcd (Nat.gcd a b) 24
theorem stepOf_facts (a b : Nat) : 1 ≤ stepOf a b ∧ stepOf a b ≤ 24 ∧ (24 / stepOf a b) * stepOf a b = 24 :=
  ⟨Nat.gcd_pos_of_pos_right _ (by omega), Nat.le_of_dvd (by omega) (Nat.gcd_dvd_right _ _), Nat.div_mul_cancel (Nat.gcd_dvd_right _ _)⟩

/-- What TurnGroup hands back of two turns. -/
def GroupOut (w : World) (g n : Nat) (e : Ending) (w' : World) : Prop :=
  ∃ v, e = .returned (.tuple #[v, .bool true]) ∧ w'.ownsRow w.heap.size 3 1 v n ((mults g n).map (Value.int .i64)) ∧ Below w.heap.size w w'

theorem step_lt (k n g p : Nat) (hp : p = k * g) (hn : n * g = 24) (hk : k < n) : p + g ≤ 24 ∧ p + g = (k + 1) * g := by
  have e : (k + 1) * g = k * g + g := Nat.succ_mul _ _
  have h : (k + 1) * g ≤ n * g := Nat.mul_le_mul_right _ hk
  omega

theorem ownsRow_empty (w : World) (t : TypeId) : (w.alloc (.cells #[] t)).ownsRow w.heap.size t 1 (.slice (some ⟨w.heap.size, 0, none⟩) 0 0) 0 [] :=
  ⟨rfl, .inr ⟨w.heap.size, 0, #[], rfl, Nat.le_refl _, heap_alloc_last _ _, Nat.le_refl _, Nat.zero_le _, rfl, rfl⟩⟩

set_option maxHeartbeats 800000 in
theorem implGroup_yes (a b : Nat) (ha : a ≤ 23) (hb : b ≤ 23) (g n : Nat) (hg : stepOf a b = g) (hg0 : 1 ≤ g) (hg1 : g ≤ 24) (hn : n * g = 24) (w : World) :
    Calls Try.prog 26 #[.int .i64 a, .int .i64 b] w (GroupOut w g n) := by
  obtain ⟨i0, hi, hz0, hz1, hz2⟩ := info_parts info_int
  have c1 := fun w => gcd_any a b (by omega) (by omega) w
  have hgab : Nat.gcd a b ≤ 1000000 := by
    rcases Nat.eq_zero_or_pos a with rfl | h
    · simp; omega
    · have := Nat.le_of_dvd h (Nat.gcd_dvd_left a b); omega
  have c2 := fun w => gcd_any (Nat.gcd a b) 24 hgab (by omega) w
  have eg : Nat.gcd (Nat.gcd a b) 24 = g := hg
  rw [eg] at c2
  clear hg eg hgab
  generalize Nat.gcd a b = c at c1 c2
  have hq : (24 : Int) / (g : Int) = (n : Int) := by
    have h : (24 : Int) = (n : Int) * (g : Int) := by rw [← Int.natCast_mul, hn]; rfl
    rw [h, Int.mul_ediv_cancel _ (by omega)]
  have hn1 : n ≤ 24 := by rw [← hn]; exact Nat.le_mul_of_pos_right _ hg0
  have Q := Lib.hid hq; clear hq
  have HN := Lib.hid hn; clear hn
  have C1 : ∀ w, Hid _ := fun w => Lib.hid (c1 w)
  have C2 : ∀ w, Hid _ := fun w => Lib.hid (c2 w)
  clear c1 c2
  go_enter Try.func26, Try.ntmps26
  go_wp2_with fail
  refine (isTurn_yes _ (by omega) (by omega) _).mono ?_; rintro e w' ⟨rfl, rfl⟩
  go_wp2_with fail
  refine (isTurn_yes _ (by omega) (by omega) _).mono ?_; rintro e w' ⟨rfl, rfl⟩
  go_wp2_with fail
  refine (C1 _).out.mono ?_; rintro e w' ⟨rfl, m1, rfl⟩
  go_wp2_with fail
  refine (C2 _).out.mono ?_; rintro e w' ⟨rfl, m2, rfl⟩
  go_wp2_with (at_make; refine wpList_make_own _ rfl _ _ 30 rfl w.heap.size 3 i0 (.int .i64 0) 1 Try.underlying30 hi hz0 hz1 _ _ _ n rfl rfl Q.out ?b2 ?b3 (Nat.le_refl _) ?_)
  case b2 => rw [hz2]; omega
  case b3 => unfold maxLen; omega
  intro w0 hown0 hgrow0
  go_wp2_with fail
  go_loopw [7, 8] (fun v t wr => ∃ k p : Nat, Hid (p = k * g) ∧ k ≤ n ∧ t = .int .i64 p ∧ p ≤ 24 ∧ wr.ownsRow w.heap.size 3 1 v k ((mults g k).map (Value.int .i64)) ∧ Below w.heap.size w wr) (fun _ t _ => 24 - (intOf t).toNat)
  case atStart => exact ⟨0, 0, Lib.hid (by simp), Nat.zero_le _, rfl, by omega, hown0, (below_drewN (Below.refl _ _) _).grown hgrow0 (Nat.le_refl _) (fun k h => by cases h)⟩
  case round =>
    obtain ⟨k, p, hp, hk, rfl, hp24, hown, hbel⟩ := hrel
    by_cases hkn : k < n
    · obtain ⟨h1, h2⟩ := step_lt k n g p hp.out HN.out hkn
      have hlt : (p : Int) < 24 := by omega
      have H2 := Lib.hid h2; clear h2
      go_wp2_with (at_builtin; refine wpList_append_own _ rfl _ _ 30 rfl w.heap.size 3 i0 (.int .i64 0) 1 8 Try.underlying30 hi hz0 hz1 hz2 rfl (by decide) _ _ _ rfl (hown.alloc _) ⟨wr.heap.size, 0, none⟩ 1 1 [.int .i64 p] rfl rfl ?c1 ?c2 ?c3 ?c4 ?c5 ?_)
      case c1 => intro t u ht; match t, ht with | 0, ht => simp at ht; subst ht; simp [Addr.add]
      case c2 => intro u hu; simp at hu; subst hu; rfl
      case c3 => unfold maxLen; omega
      case c4 => omega
      case c5 => simp; have := hbel.size; omega
      intro v' w1 hown1 hgrow1 _
      have hbel1 : Below w.heap.size w w1 := (hbel.alloc (by have := hbel.size; omega) _).grown hgrow1 (by simp; have := hbel.size; omega) (fun j hj => (hown.lt j hj).1)
      clear hgrow1 hbel hown
      have hown2 : w1.ownsRow w.heap.size 3 1 v' (k + 1) ((mults g (k + 1)).map (Value.int .i64)) := by
        rw [mults_succ, List.map_append, ← hp.out]; exact hown1
      clear hown1
      go_wp2_with fail
      go_roundw
      case rel => exact ⟨k + 1, p + g, H2, by omega, by go_num, h1, hown2, hbel1⟩
      case measure => simp [intOf]; omega
    · obtain rfl : k = n := by omega
      have hge : ¬ (p : Int) < 24 := by have := hp.out; have := HN.out; omega
      go_wp2_with fail
      go_ret2
      exact ⟨_, rfl, hown, hbel⟩

set_option maxHeartbeats 800000 in
theorem specGroup_yes (a b : Nat) (ha : a ≤ 23) (hb : b ≤ 23) (g n : Nat) (hg : stepOf a b = g) (hg0 : 1 ≤ g) (hg1 : g ≤ 24) (hn : n * g = 24) (w : World) :
    Calls Try.prog 27 #[.int .i64 a, .int .i64 b] w (GroupOut w g n) := by
  obtain ⟨i0, hi, hz0, hz1, hz2⟩ := info_parts info_int
  have c1 := fun w => specGcd_any 24 a (by omega) (by omega) w
  have hga : Nat.gcd 24 a ≤ 24 := Nat.le_of_dvd (by omega) (Nat.gcd_dvd_left _ _)
  have c2 := fun w => specGcd_any (Nat.gcd 24 a) b (by omega) (by omega) w
  have eg : Nat.gcd (Nat.gcd 24 a) b = g := by rw [Nat.gcd_assoc, Nat.gcd_comm]; exact hg
  rw [eg] at c2
  clear hg eg hga
  generalize Nat.gcd 24 a = c at c1 c2
  have hn1 : n ≤ 24 := by rw [← hn]; exact Nat.le_mul_of_pos_right _ hg0
  have HN := Lib.hid hn; clear hn
  have C1 : ∀ w, Hid _ := fun w => Lib.hid (c1 w)
  have C2 : ∀ w, Hid _ := fun w => Lib.hid (c2 w)
  clear c1 c2
  go_enter Try.func27, Try.ntmps27
  go_wp2_with fail
  refine (is_yes _ (by omega) (by omega) _).mono ?_; rintro e w' ⟨rfl, rfl⟩
  go_wp2_with fail
  refine (is_yes _ (by omega) (by omega) _).mono ?_; rintro e w' ⟨rfl, rfl⟩
  go_wp2_with fail
  refine (C1 _).out.mono ?_; rintro e w' ⟨rfl, rfl⟩
  go_wp2_with fail
  refine (C2 _).out.mono ?_; rintro e w' ⟨rfl, rfl⟩
  go_wp2_with fail
  go_loopw [6, 8] (fun v t wr => ∃ k p : Nat, Hid (p = k * g) ∧ k ≤ n ∧ t = .int .i64 p ∧ p ≤ 24 ∧ wr.ownsRow w.heap.size 3 1 v k ((mults g k).map (Value.int .i64)) ∧ Below w.heap.size w wr) (fun _ t _ => 24 - (intOf t).toNat)
  case atStart => exact ⟨0, 0, Lib.hid (by simp), Nat.zero_le _, rfl, by omega, ownsRow_empty w _, (Below.refl _ _).alloc (Nat.le_refl _) _⟩
  case round =>
    obtain ⟨k, p, hp, hk, rfl, hp24, hown, hbel⟩ := hrel
    by_cases hkn : k < n
    · obtain ⟨h1, h2⟩ := step_lt k n g p hp.out HN.out hkn
      have hlt : (p : Int) < 24 := by omega
      have H2 := Lib.hid h2; clear h2
      go_wp2_with (at_builtin; refine wpList_append_own _ rfl _ _ 30 rfl w.heap.size 3 i0 (.int .i64 0) 1 8 Try.underlying30 hi hz0 hz1 hz2 rfl (by decide) _ _ _ rfl (hown.alloc _) ⟨wr.heap.size, 0, none⟩ 1 1 [.int .i64 p] rfl rfl ?c1 ?c2 ?c3 ?c4 ?c5 ?_)
      case c1 => intro t u ht; match t, ht with | 0, ht => simp at ht; subst ht; simp [Addr.add]
      case c2 => intro u hu; simp at hu; subst hu; rfl
      case c3 => unfold maxLen; omega
      case c4 => omega
      case c5 => simp; have := hbel.size; omega
      intro v' w1 hown1 hgrow1 _
      have hbel1 : Below w.heap.size w w1 := (hbel.alloc (by have := hbel.size; omega) _).grown hgrow1 (by simp; have := hbel.size; omega) (fun j hj => (hown.lt j hj).1)
      clear hgrow1 hbel hown
      have hown2 : w1.ownsRow w.heap.size 3 1 v' (k + 1) ((mults g (k + 1)).map (Value.int .i64)) := by
        rw [mults_succ, List.map_append, ← hp.out]; exact hown1
      clear hown1
      go_wp2_with fail
      go_roundw
      case rel => exact ⟨k + 1, p + g, H2, by omega, by go_num, h1, hown2, hbel1⟩
      case measure => simp [intOf]; omega
    · obtain rfl : k = n := by omega
      have hge : ¬ (p : Int) < 24 := by have := hp.out; have := HN.out; omega
      go_wp2_with fail
      go_ret2
      exact ⟨_, rfl, hown, hbel⟩

theorem implGroup_no (a b : Int) (h : twoBad a b) (w : World) :
    Calls Try.prog 26 #[.int .i64 a, .int .i64 b] w fun e w' => e = .returned (.tuple #[.slice none 0 0, .bool false]) ∧ w = w' := by
  rcases h with h | ⟨a0, a1, h⟩
  · go_enter Try.func26, Try.ntmps26
    go_wp2_with (go_at_call 38; refine (isTurn_no _ h _).mono ?_; rintro e w' ⟨rfl, rfl⟩)
    go_ret2
    exact ⟨rfl, rfl⟩
  · go_enter Try.func26, Try.ntmps26
    go_wp2_with fail
    refine (isTurn_yes _ a0 a1 _).mono ?_; rintro e w' ⟨rfl, rfl⟩
    go_wp2_with fail
    refine (isTurn_no _ h _).mono ?_; rintro e w' ⟨rfl, rfl⟩
    go_wp2_with fail
    go_ret2
    exact ⟨rfl, rfl⟩
theorem specGroup_no (a b : Int) (h : twoBad a b) (w : World) :
    Calls Try.prog 27 #[.int .i64 a, .int .i64 b] w fun e w' => e = .returned (.tuple #[.slice (some ⟨w.heap.size, 0, none⟩) 0 0, .bool false]) ∧ Below w.heap.size w w' := by
  rcases h with h | ⟨a0, a1, h⟩
  · go_enter Try.func27, Try.ntmps27
    go_wp2_with (go_at_call 42; refine (is_no _ h _).mono ?_; rintro e w' ⟨rfl, rfl⟩)
    go_ret2
    exact ⟨rfl, (Below.refl _ _).alloc (Nat.le_refl _) _⟩
  · go_enter Try.func27, Try.ntmps27
    go_wp2_with fail
    refine (is_yes _ a0 a1 _).mono ?_; rintro e w' ⟨rfl, rfl⟩
    go_wp2_with fail
    refine (is_no _ h _).mono ?_; rintro e w' ⟨rfl, rfl⟩
    go_wp2_with fail
    go_ret2
    exact ⟨rfl, (Below.refl _ _).alloc (Nat.le_refl _) _⟩
end Go.Proofs.Ytnlbcfblfjcfnaa
