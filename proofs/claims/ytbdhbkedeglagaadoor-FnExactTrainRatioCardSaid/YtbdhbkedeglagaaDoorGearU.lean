/-
  spec: TrainFind.
-/
import Derived.Test.YtbdhbkedeglagaaDoorGearS
namespace Go.Proofs.YtbdhbkedeglagaaDoor
set_option maxRecDepth 20000
open Go.ChangeShapes Go.WideShapes Go.ChangeAt Go.RowKit
set_option linter.unusedVariables false
set_option linter.unusedSimpArgs false

theorem none_told (w : World) (w' : World) (hb : Below w.heap.size w w') : ToldI w none (.returned (.tuple #[.slice (some ⟨w'.heap.size, 0, none⟩) 0 0, .bool false])) (w'.alloc (.cells #[] 3)) :=
  ⟨hb.alloc hb.size _, _, rfl, by
    show World.ownsRow _ _ _ _ _ _ _
    exact World.ownsRow_made w' #[] 0 hb.size (by simp [maxLen]) (by simp)⟩
theorem two_told (w : World) (x y : Int) : ToldI w (some [x, y]) (.returned (.tuple #[.slice (some ⟨w.heap.size, 0, none⟩) 2 2, .bool true])) (w.alloc (.cells #[.int .i64 x, .int .i64 y] 3)) := by
  refine ⟨one_lies _ _, _, rfl, ?_⟩
  show World.ownsRow _ _ _ _ _ _ _
  refine ⟨by rw [flt_ints]; simp, .inr ⟨w.heap.size, 2, _, rfl, Nat.le_refl _, heap_alloc_new _ _, by simp, by simp [maxLen], by simp, ?_⟩⟩
  rw [flt_ints]; simp

set_option maxHeartbeats 4000000 in
theorem specTrainFind_any (a b : Int) (w : World) : Calls Tryd.prog 17 #[.int .i64 a, .int .i64 b] w (ToldI w (findO a b)) := by
  cases ha : findB a with
  | false =>
    have e : findO a b = none := by unfold findO; rw [ha]; rfl
    have hn : a < 1 ∨ 1000 < a := by
      have : ¬ (1 ≤ a ∧ a ≤ 1000) := fun h => by rw [findB_true.2 h] at ha; cases ha
      omega
    have I1 := fun w => in_no a 1 1000 hn w
    have N := Lib.hid (none_told w w (Below.refl _ _))
    rw [e]
    clear ha e hn
    go_enter Tryd.func17, Tryd.ntmps17
    go_wp2_with fail
    refine (I1 _).mono ?_; rintro e w1 ⟨rfl, rfl⟩
    go_wp2
    go_ret2
    exact N.out
  | true =>
    obtain ⟨a1, a2⟩ := findB_true.1 ha
    have I1 := fun w => in_yes a 1 1000 a1 a2 w
    cases hb : findB b with
    | false =>
      have e : findO a b = none := by unfold findO; rw [hb, Bool.and_false]; rfl
      have hn : b < 1 ∨ 1000 < b := by
        have : ¬ (1 ≤ b ∧ b ≤ 1000) := fun h => by rw [findB_true.2 h] at hb; cases hb
        omega
      have I2 := fun w => in_no b 1 1000 hn w
      have N := Lib.hid (none_told w w (Below.refl _ _))
      rw [e]
      clear ha hb e hn
      go_enter Tryd.func17, Tryd.ntmps17
      go_wp2_with fail
      refine (I1 _).mono ?_; rintro e w1 ⟨rfl, rfl⟩
      go_wp2_with fail
      refine (I2 _).mono ?_; rintro e w1 ⟨rfl, rfl⟩
      go_wp2
      go_ret2
      exact N.out
    | true =>
      obtain ⟨b1, b2⟩ := findB_true.1 hb
      have I2 := fun w => in_yes b 1 1000 b1 b2 w
      have e : findO a b = pairO a.toNat b.toNat := by unfold findO; rw [ha, hb]; rfl
      rw [e]
      obtain ⟨x, rfl⟩ : ∃ x : Nat, a = x := ⟨a.toNat, by omega⟩
      obtain ⟨y, rfl⟩ : ∃ y : Nat, b = y := ⟨b.toNat, by omega⟩
      rw [Int.toNat_natCast, Int.toNat_natCast]
      clear ha hb e
      have x1 : 1 ≤ x := by omega
      have y1 : 1 ≤ y := by omega
      obtain ⟨r, hr⟩ : ∃ r, pairO x y = r := ⟨_, rfl⟩
      rw [hr]
      have HR := Lib.hid hr
      clear hr
      go_enter Tryd.func17, Tryd.ntmps17
      go_wp2_with fail
      refine (I1 _).mono ?_; rintro e w1 ⟨rfl, rfl⟩
      go_wp2_with fail
      refine (I2 _).mono ?_; rintro e w1 ⟨rfl, rfl⟩
      go_wp2
      go_loopw [6, 7] (fun i _ wr => ∃ k : Nat, 6 ≤ k ∧ k ≤ 241 ∧ i = .int .i64 k ∧ Aside (∀ m, m * (lowT x y).1 < k → fitP (lowT x y).1 (lowT x y).2 m = false) ∧ wr = w) (fun i _ _ => 241 - (intOf i).toNat)
      case atStart => exact ⟨6, Nat.le_refl _, by omega, rfl, Lib.hid (fun m hm => by
        cases h : fitP (lowT x y).1 (lowT x y).2 m with
        | false => rfl
        | true => have := (fitP_true.1 h).1.1; omega), rfl⟩
      case round =>
        obtain ⟨k, hk6, hk, rfl, hno, rfl⟩ := hrel
        by_cases hlt : k ≤ 240
        · have hkz : (k : Int) ≤ 240 := by omega
          have zb := Nat.mul_le_mul hlt (show y ≤ 1000 by omega)
          obtain ⟨z, hz⟩ : ∃ z, k * y = z := ⟨_, rfl⟩
          rw [hz] at zb
          have q1 : (k : Int) * (y : Int) = (z : Int) := by rw [← hz, Int.natCast_mul]
          have q2 : IntKind.i64.wrap (z : Int) = (z : Int) := by rw [IntKind.wrap_i64]; omega
          have xz : ((x : Int) == 0) = false := by simp; omega
          have xn : ¬ (x : Int) = 0 := by omega
          have xm : ¬ x = 0 := by omega
          have r1 : (z : Int).tmod (x : Int) = ((z % x : Nat) : Int) := (Int.ofNat_tmod z x).symm
          have r2 : (z : Int).tdiv (x : Int) = ((z / x : Nat) : Int) := (Int.ofNat_tdiv z x).symm
          have hml : z % x < x := Nat.mod_lt _ (by omega)
          have hdl : z / x ≤ z := Nat.div_le_self _ _
          obtain ⟨u, hu⟩ : ∃ u, z % x = u := ⟨_, rfl⟩
          obtain ⟨d, hd⟩ : ∃ d, z / x = d := ⟨_, rfl⟩
          rw [hu] at r1 hml
          rw [hd] at r2 hdl
          have r3 : IntKind.i64.wrap (u : Int) = (u : Int) := by rw [IntKind.wrap_i64]; omega
          have r4 : IntKind.i64.wrap (d : Int) = (d : Int) := by rw [IntKind.wrap_i64]; omega
          by_cases hm : u = 0
          · obtain ⟨n, hn1, hn2⟩ := gear_has (a := k) x1 y1 (by rw [hz, hu]; exact hm)
            rw [hz] at hn2
            subst hm
            have hm1 : ((0 : Nat) : Int) = 0 := rfl
            rw [hm1] at r1 r3
            rw [hd] at hn2
            have GD := fun w => sgear_any (d : Int) w
            have lt := (lowT_pos x1 y1).1
            have hlow : ∀ m, m < n → fitP (lowT x y).1 (lowT x y).2 m = false := fun m hm2 => hno.out m (by rw [hn1]; exact (lt_mul lt).2 hm2)
            cases hg : gearB (d : Int) with
            | true =>
              rw [hg] at GD
              have hf : fitP (lowT x y).1 (lowT x y).2 n = true := by
                unfold fitP
                rw [← hn1, ← hn2, hg, gearB_true.2 ⟨by omega, by omega⟩]; rfl
              have HO : Aside (r = some [(k : Int), (d : Int)]) := (show _ = _ from by
                rw [← HR.out, pairO_some x1 y1 hlow hf, ← hn1, ← hn2])
              have N := Lib.hid (two_told wr (k : Int) (d : Int))
              clear hz hu hn1 hn2 hd hlow hf hg hno hm1 hml
              go_wp2_with fail
              refine (GD _).mono ?_; rintro e w1 ⟨rfl, rfl⟩
              go_wp2
              go_ret2
              rw [HO.out]
              exact N.out
            | false =>
              rw [hg] at GD
              have HF : Aside (fitP (lowT x y).1 (lowT x y).2 n = false) := (show _ = _ from by
                unfold fitP
                rw [← hn2, hg, Bool.and_false])
              have HN1 := Lib.hid hn1
              have HLT := Lib.hid lt
              clear hz hu hn1 hn2 hd hlow hg lt hm1 hml
              go_wp2_with fail
              refine (GD _).mono ?_; rintro e w1 ⟨rfl, rfl⟩
              go_wp2
              go_roundw
              case rel => exact ⟨k + 1, by omega, by omega, by go_num, Lib.hid (fun m hm => by
                  by_cases e : m * (lowT x y).1 < k
                  · exact hno.out m e
                  · have e2 : m * (lowT x y).1 = n * (lowT x y).1 := by have := HN1.out; omega
                    have e3 : m = n := Nat.eq_of_mul_eq_mul_right HLT.out e2
                    rw [e3]; exact HF.out), trivial⟩
              case measure => simp [intOf]; omega
          · have hm1 : ¬ (u : Int) = 0 := by omega
            have hub : ((u : Int) != 0) = true := by simp; omega
            have hun : ¬ u = 0 := by omega
            have HNF : Aside (∀ m, m * (lowT x y).1 = k → False) := (show _ from fun m hm2 => by
              have := has_gear (n := m) x1 y1
              rw [hm2, hz, hu] at this
              exact hm this)
            clear hz hm hu hd r2 r4 hdl
            go_wp2
            go_roundw
            case rel => exact ⟨k + 1, by omega, by omega, by go_num, Lib.hid (fun m hm => by
                by_cases e : m * (lowT x y).1 < k
                · exact hno.out m e
                · exact (HNF.out m (by omega)).elim), trivial⟩
            case measure => simp [intOf]; omega
        · have hkz : ¬ (k : Int) ≤ 240 := by omega
          have HO : Aside (r = none) := (show _ = _ from by
            rw [← HR.out]
            refine pairO_none (N := 241) (fun m hm => ?_) (fun m hm => ?_)
            · by_cases e : m * (lowT x y).1 < k
              · exact hno.out m e
              · exact fit_beyond (n := m) (.inl (by omega)) (Nat.le_refl _)
            · cases h : fitP (lowT x y).1 (lowT x y).2 m with
              | false => rfl
              | true => have := fit_small (lowT_pos x1 y1).1 h; omega)
          have N := Lib.hid (none_told wr wr (Below.refl _ _))
          go_wp2
          go_ret2
          rw [HO.out]
          exact N.out
end Go.Proofs.YtbdhbkedeglagaaDoor
