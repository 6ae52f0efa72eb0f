/-
  The walk of the law FnOrder of every code.
-/
import Derived.Test.YtnlbcfblfjcfnaaLawTurn
namespace Go.Proofs.Ytnlbcfblfjcfnaa
open Go.ChangeShapes Go.WideShapes Go.ChangeAt Go.RowKit
set_option linter.unusedVariables false
set_option linter.unusedSimpArgs false

theorem order_facts (t n : Nat) (ht : t ≤ 23) (h1 : 1 ≤ n) (h2 : n ≤ 24 / Nat.gcd 24 t) : (t * n % 24 = 0) = (n = 24 / Nat.gcd 24 t) := by
  have key : ∀ t : Fin 24, ∀ n : Fin 25, 1 ≤ n.val → n.val ≤ 24 / Nat.gcd 24 t.val → ((t.val * n.val % 24 = 0) ↔ (n.val = 24 / Nat.gcd 24 t.val)) := by decide
  have h3 : 24 / Nat.gcd 24 t ≤ 24 := Nat.div_le_self _ _
  exact propext (key ⟨t, by omega⟩ ⟨n, by omega⟩ h1 h2)
theorem order_divides (t : Nat) (ht : t ≤ 23) : 1 ≤ 24 / Nat.gcd 24 t ∧ 24 % (24 / Nat.gcd 24 t) = 0 := by
  have key : ∀ t : Fin 24, 1 ≤ 24 / Nat.gcd 24 t.val ∧ 24 % (24 / Nat.gcd 24 t.val) = 0 := by decide
  exact key ⟨t, by omega⟩

set_option maxHeartbeats 800000 in
theorem lawOrder_walk (v : Value) (w : World) (h : CodeAt w v) : Calls Try.prog 6 #[v] w (Fine w) := by
  have D := Lib.hid (drawOrder v w h)
  obtain ⟨pa, pn, pc, rfl, hpn⟩ := code_len h
  clear h
  by_cases hbig : 1048576 < pn
  · have hb : (1048576 : Int) < (pn : Int) := by omega
    go_enter Try.func6, Try.ntmps6
    go_wp2_with fail
    go_ret
    exact fine_same ⟨rfl, rfl⟩
  have hb : ¬ (1048576 : Int) < (pn : Int) := by omega
  go_enter Try.func6, Try.ntmps6
  go_wp2_with fail
  refine D.out.mono ?_; rintro e w1 ⟨t, rfl, t0, t1, hbel⟩
  clear D
  by_cases h : t < 0 ∨ 23 < t
  · go_wp2_with fail
    refine (implOrder_no _ h _).mono ?_; rintro e w' ⟨rfl, rfl⟩
    go_wp2_with fail
    refine (specOrder_no _ h _).mono ?_; rintro e w' ⟨rfl, rfl⟩
    go_wp2_with fail
    go_ret
    exact ⟨rfl, hbel⟩
  · obtain ⟨s, rfl⟩ : ∃ s : Nat, t = s := ⟨t.toNat, by omega⟩
    have hs : s ≤ 23 := by omega
    clear h
    obtain ⟨o1, od⟩ := order_divides s hs
    have o2 : 24 / Nat.gcd 24 s ≤ 24 := Nat.div_le_self _ _
    have I := fun w => Lib.hid (implOrder_yes s hs w)
    have S := fun w => Lib.hid (specOrder_yes s hs w)
    have F := fun n a b => Lib.hid (order_facts s n hs a b)
    generalize 24 / Nat.gcd 24 s = o at *
    have OD := Lib.hid od; clear od
    have oz : ((o : Int) == 0) = false := by simp; omega
    go_wp2_with fail
    refine (I _).out.mono ?_; rintro e w2 ⟨rfl, m, rfl⟩
    go_wp2_with fail
    refine (S _).out.mono ?_; rintro e w' ⟨rfl, rfl⟩
    clear I S
    have hb2 := Lib.hid (below_drewN hbel m)
    clear hbel
    go_wp2_with fail
    go_loop [6, 7, 8] (fun n _ _ => ∃ k : Nat, 1 ≤ k ∧ k ≤ o + 1 ∧ n = .int .i64 k) (fun n _ _ => o + 1 - (intOf n).toNat)
    case atStart => exact ⟨1, by omega, by omega, rfl⟩
    case round =>
      obtain ⟨k, k1, k2, rfl⟩ := hrel
      by_cases hk : k ≤ o
      · have hf := F k k1 hk
        have hle : (k : Int) ≤ (o : Int) := by omega
        have hT := Lib.hid (implTimes_yes (s : Int) (k : Int) (by omega) (by omega) (by omega) (by omega) (w1.drewN m))
        by_cases he : k = o
        · have hz : s * k % 24 = 0 := by rw [hf.out]; exact he
          have hz' : ((s : Int) * (k : Int) % 24 == 0) = true := by
            have : (s : Int) * (k : Int) % 24 = ((s * k % 24 : Nat) : Int) := by simp
            rw [this, hz]; rfl
          have he' : ((k : Int) == (o : Int)) = true := by simp; omega
          clear hz he F hf
          go_wp2_with fail
          refine hT.out.mono ?_; rintro e w' ⟨rfl, rfl⟩
          go_wp2_with fail
          go_round
          case rel => exact ⟨k + 1, by omega, by omega, by go_num⟩
          case measure => simp [intOf]; omega
        · have hz : ¬ s * k % 24 = 0 := by rw [hf.out]; exact he
          have hz' : ((s : Int) * (k : Int) % 24 == 0) = false := by
            have : (s : Int) * (k : Int) % 24 = ((s * k % 24 : Nat) : Int) := by simp
            rw [this]; simp; omega
          have he' : ((k : Int) == (o : Int)) = false := by simp; omega
          clear hz he F hf
          go_wp2_with fail
          refine hT.out.mono ?_; rintro e w' ⟨rfl, rfl⟩
          go_wp2_with fail
          go_round
          case rel => exact ⟨k + 1, by omega, by omega, by go_num⟩
          case measure => simp [intOf]; omega
      · have hle : ¬ (k : Int) ≤ (o : Int) := by omega
        clear F
        go_wp2_with fail
        go_ret
        exact ⟨ret_bool (by have e : ((24 % o : Nat) : Int) = 0 := by rw [OD.out]; rfl
                            simp only [Int.natCast_emod, Int.cast_ofNat_Int] at e; simpa using e), hb2.out⟩
end Go.Proofs.Ytnlbcfblfjcfnaa
