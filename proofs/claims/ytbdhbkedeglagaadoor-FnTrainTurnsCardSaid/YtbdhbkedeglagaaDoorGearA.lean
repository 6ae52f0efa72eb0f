/-
  impl: gears, trains, lowest terms.
-/
import Derived.Test.YtbdhbkedeglagaaDoorGearAs
import Derived.Test.YtbdhbkedeglagaaDoorGearMath
import Derived.Test.YtbdhbkedeglagaaDoorInts
import Derived.Test.YtbdhbkedeglagaaDoorTurn
import Derived.Deep.RegionWith
namespace Go.Proofs.YtbdhbkedeglagaaDoor
set_option maxRecDepth 20000
open Go.ChangeShapes Go.WideShapes Go.ChangeAt Go.RowKit
set_option linter.unusedVariables false
set_option linter.unusedSimpArgs false

abbrev Aside (p : Prop) := Hid p
theorem gfits_yes (t m : Int) (h0 : 6 ≤ t) (h1 : t ≤ m) (w : World) : Calls Tryd.prog 37 #[.int .i64 t, .int .i64 m] w fun e w' => e = .returned .nilIface ∧ w = w' := by
  go_enter Tryd.func37, Tryd.ntmps37
  go_wp2
  go_ret
  exact ⟨rfl, rfl⟩
theorem gfits_no (t m : Int) (h : t < 6 ∨ m < t) (w : World) : Calls Tryd.prog 37 #[.int .i64 t, .int .i64 m] w fun e w' => e = .returned (misV t m) ∧ w = w' := by
  unfold misV
  by_cases h0 : t < 6
  · clear h
    go_enter Tryd.func37, Tryd.ntmps37
    go_wp2
    go_ret
    exact ⟨rfl, rfl⟩
  · have h1 : m < t := by omega
    clear h
    go_enter Tryd.func37, Tryd.ntmps37
    go_wp2
    go_ret
    exact ⟨rfl, rfl⟩
theorem few_any (t m : Int) (w : World) : Calls Tryd.prog 36 #[gerr t m] w fun e w' => e = .returned (.bool (decide (t < 6))) ∧ Below w.heap.size w w' := by
  by_cases h : t < 6
  · go_enter Tryd.func36, Tryd.ntmps36
    go_wp2
    go_ret
    exact ⟨ret_bool (by simp [h]), (Below.refl _ _).alloc (Nat.le_refl _) _⟩
  · go_enter Tryd.func36, Tryd.ntmps36
    go_wp2
    go_ret
    exact ⟨ret_bool (by simp [h]), (Below.refl _ _).alloc (Nat.le_refl _) _⟩
/-- Euclid, for great numbers. -/
theorem gcd_great (a b : Nat) (ha : a ≤ 1000000000000) (hb : b ≤ 1000000000000) (w : World) :
    Calls Tryd.prog 34 #[.int .i64 a, .int .i64 b] w fun e w' => e = .returned (.int .i64 (Nat.gcd a b)) ∧ ∃ m, w' = w.drewN m := by
  go_enter Tryd.func34, Tryd.ntmps34
  go_wp2
  go_loopw [0, 1] (fun x y wr => ∃ p q m : Nat, x = .int .i64 p ∧ y = .int .i64 q ∧ p ≤ 1000000000000 ∧ q ≤ 1000000000000 ∧ Nat.gcd p q = Nat.gcd a b ∧ wr = w.drewN m) (fun _ y _ => (intOf y).toNat)
  case atStart => exact ⟨a, b, 0, rfl, rfl, ha, hb, rfl, rfl⟩
  case round =>
    obtain ⟨p, q, m, rfl, rfl, hp, hq, hg, rfl⟩ := hrel
    have G := Lib.hid hg; clear hg
    by_cases h : q = 0
    · subst h
      go_wp2
      go_ret
      exact ⟨ret_int (by have := G.out; simp at this; omega), m, rfl⟩
    · have hq0 : ((q : Int) != 0) = true := by simpa using h
      have hq1 : (0 : Int) < q := by omega
      have hq2 : ((q : Int) == 0) = false := by simpa using h
      go_wp2
      go_quiet (fail)
      go_wp2
      go_roundw
      case rel => exact ⟨q, p % q, _, rfl, by go_num, hq, by have := Nat.mod_lt p (Nat.pos_of_ne_zero h); omega, by rw [← G.out, Nat.gcd_comm p q, Nat.gcd_rec q p, Nat.gcd_comm], World.drewN_drewN _ _ _⟩
      case measure => have := Nat.mod_lt p (Nat.pos_of_ne_zero h); simp [intOf]; omega
def ratV (t b : Int) : Value := .agg #[.int .i64 t, .int .i64 b]
theorem one_lies (w : World) (o : Obj) : Below w.heap.size w (w.alloc o) := (Below.refl _ _).alloc (Nat.le_refl _) _
theorem lowest_any (a b : Nat) (ha : 1 ≤ a ∧ a ≤ 1000000000000) (hb : 1 ≤ b ∧ b ≤ 1000000000000) (w : World) :
    Calls Tryd.prog 30 #[.int .i64 a, .int .i64 b] w fun e w' => e = .returned (ratV ((lowT a b).1 : Nat) ((lowT a b).2 : Nat)) ∧ Below w.heap.size w w' := by
  have G := fun w => gcd_great a b ha.2 hb.2 w
  have hl := lowT_pos ha.1 hb.1
  obtain ⟨e1, e2⟩ := low_parts a b
  have g1 : 1 ≤ Nat.gcd a b := Nat.gcd_pos_of_pos_left _ ha.1
  generalize Nat.gcd a b = g at *
  generalize (lowT a b).1 = p at *
  generalize (lowT a b).2 = q at *
  have d1 : (a : Int).tdiv (g : Int) = (p : Int) := by rw [e1, Int.natCast_mul]; exact Int.mul_tdiv_cancel _ (by omega)
  have d2 : (b : Int).tdiv (g : Int) = (q : Int) := by rw [e2, Int.natCast_mul]; exact Int.mul_tdiv_cancel _ (by omega)
  have w1 : IntKind.i64.wrap (p : Int) = (p : Int) := by rw [IntKind.wrap_i64]; omega
  have w2 : IntKind.i64.wrap (q : Int) = (q : Int) := by rw [IntKind.wrap_i64]; omega
  have hgz : ((g : Int) == 0) = false := by simp; omega
  have hgn : ¬ (g : Int) = 0 := by omega
  have hgm : ¬ g = 0 := by omega
  clear e1 e2 hl
  unfold ratV
  go_enter Tryd.func30, Tryd.ntmps30
  go_wp2_with fail
  refine (G _).mono ?_; rintro e w1 ⟨rfl, m, rfl⟩
  clear G
  go_wp2_with fail
  go_region
  go_wp2
  simp [bodyPost, results, Tryd.results30, go_sem]
  exact ((below_drewN (one_lies _ _) (m + 1)).setCell (p := ⟨w.heap.size, 0, none⟩) (Nat.le_refl _) _).setCell (p := ⟨w.heap.size, 1, none⟩) (Nat.le_refl _) _

/-! Trains. -/
def misO (xs : List Int) : Value := match xs.find? (fun x => !gearB x) with
  | none => .nilIface
  | some x => misV x 240
theorem misO_none {xs : List Int} (h : ∀ x ∈ xs, gearB x = true) : misO xs = .nilIface := by
  unfold misO
  rw [List.find?_eq_none.2 fun x hx => by simp [h x hx]]
theorem misO_some {xs : List Int} {k : Nat} {x : Int} (h : ∀ j y, j < k → xs[j]? = some y → gearB y = true) (hx : xs[k]? = some x) (hn : gearB x = false) : misO xs = misV x 240 := by
  have : xs.find? (fun x => !gearB x) = some x := by
    induction xs generalizing k with
    | nil => simp at hx
    | cons a xs ih =>
      cases k with
      | zero =>
        simp only [List.getElem?_cons_zero, Option.some.injEq] at hx
        subst hx
        simp [hn]
      | succ k =>
        have ha := h 0 a (by omega) rfl
        rw [List.find?_cons_of_neg (by simp [ha])]
        exact ih (k := k) (fun j y hj hy => h (j + 1) y (by omega) (by simpa using hy)) (by simpa using hx)
  unfold misO
  rw [this]
set_option maxHeartbeats 1000000 in
theorem fits_list (v : Value) (xs : List Int) (w : World) (hv : ReadsL encI w v xs) (h2 : 2 ≤ xs.length) (h10 : xs.length ≤ 10) (hev : xs.length % 2 = 0) :
    Calls Tryd.prog 32 #[v] w fun e w' => e = .returned (misO xs) ∧ w = w' := by
  obtain ⟨p, cap, rfl, hc1, hc2, hp0, hp⟩ := hv
  simp only [maxLen] at hc2
  obtain ⟨g, o, rfl, hg, hr⟩ := hp (by rintro rfl; have := hp0 rfl; omega)
  have HR := Lib.hid hr
  have l1 : ¬ (xs.length : Int) < 2 := by omega
  have l2 : ¬ (10 : Int) < (xs.length : Int) := by omega
  have l3 : (xs.length : Int).tmod 2 = 0 := by rw [Int.tmod_eq_emod_of_nonneg (by omega)]; omega
  clear hp hr
  go_enter Tryd.func32, Tryd.ntmps32
  go_wp2
  go_loopw [4, 5, 23] (fun _ _ i wr => ∃ k : Nat, k ≤ xs.length ∧ i = .int .i64 k ∧ Aside (∀ j y, j < k → xs[j]? = some y → gearB y = true) ∧ wr = w) (fun _ _ i _ => xs.length - (intOf i).toNat)
  case atStart => exact ⟨0, Nat.zero_le _, rfl, Lib.hid (fun j y h => absurd h (Nat.not_lt_zero j)), rfl⟩
  case round =>
    obtain ⟨k, hk, rfl, hall, rfl⟩ := hrel
    by_cases hlt : k < xs.length
    · have hkz : (k : Int) < (xs.length : Int) := by omega
      have hk0 : (0 : Int) ≤ (k : Int) := by omega
      obtain ⟨x, hx⟩ : ∃ x, xs[k]? = some x := ⟨_, List.getElem?_eq_getElem hlt⟩
      have c1 := int_cell HR.out hx
      have HX := Lib.hid hx
      clear hx
      cases hb : gearB x with
      | true =>
        obtain ⟨b1, b2⟩ := gearB_true.1 hb
        have HB := Lib.hid hb
        clear hb
        go_wp2_with fail
        refine (gfits_yes x 240 b1 b2 _).mono ?_; rintro e w1 ⟨rfl, rfl⟩
        go_wp2
        go_roundw
        case rel => exact ⟨k + 1, by omega, by go_num, Lib.hid (fun j y hj hy => by
            by_cases e : j = k
            · subst e
              rw [HX.out] at hy
              rw [← Option.some.inj hy]; exact HB.out
            · exact hall.out j y (by omega) hy), trivial⟩
        case measure => simp [intOf]; omega
      | false =>
        have hn := gearB_false.1 hb
        have HM := Lib.hid (misO_some hall.out HX.out hb)
        clear hb
        go_wp2_with fail
        refine (gfits_no x 240 hn _).mono ?_; rintro e w1 ⟨rfl, rfl⟩
        unfold misV at *
        go_wp2
        go_ret
        exact ⟨by rw [HM.out]; rfl, rfl⟩
    · obtain rfl : k = xs.length := by omega
      have HM := Lib.hid (misO_none (xs := xs) fun x hx => by
        obtain ⟨j, hj, rfl⟩ := List.getElem_of_mem hx
        exact hall.out j _ hj (List.getElem?_eq_getElem hj))
      go_wp2
      go_ret
      exact ⟨by rw [HM.out]; rfl, rfl⟩
/-- A list of a length that no train has. -/
theorem fits_len (v : Value) (xs : List Int) (w : World) (hv : ReadsL encI w v xs) (h : xs.length < 2 ∨ 10 < xs.length ∨ xs.length % 2 = 1) (T : Nat) (x : Value) (hE : w.cell? ⟨1, 0, none⟩ = some (.iface T x)) :
    Calls Tryd.prog 32 #[v] w fun e w' => e = .returned (.iface T x) ∧ w = w' := by
  obtain ⟨p, cap, rfl, hc1, hc2, hp0, hp⟩ := hv
  simp only [maxLen] at hc2
  clear hp
  by_cases l1 : (xs.length : Int) < 2
  · clear h
    go_enter Tryd.func32, Tryd.ntmps32
    go_wp2
    go_ret
    exact ⟨rfl, rfl⟩
  · by_cases l2 : (10 : Int) < (xs.length : Int)
    · clear h
      go_enter Tryd.func32, Tryd.ntmps32
      go_wp2
      go_ret
      exact ⟨rfl, rfl⟩
    · have l3 : (xs.length : Int).tmod 2 = 1 := by rw [Int.tmod_eq_emod_of_nonneg (by omega)]; omega
      clear h
      go_enter Tryd.func32, Tryd.ntmps32
      go_wp2
      go_ret
      exact ⟨rfl, rfl⟩
end Go.Proofs.YtbdhbkedeglagaaDoor
