/-
  The walks of the laws FnTrainTurns and FnTrainFind.
-/
import Derived.Test.YtbdhbkedeglagaaDoorGearL
import Derived.Test.YtbdhbkedeglagaaDoorGearD
import Derived.Test.YtbdhbkedeglagaaDoorGearE
import Derived.Test.YtbdhbkedeglagaaDoorGearT
import Derived.Test.YtbdhbkedeglagaaDoorGearU
import Derived.Test.YtbdhbkedeglagaaDoorGearDraw
import Derived.Test.YtbdhbkedeglagaaDoorLawCycBase
namespace Go.Proofs.YtbdhbkedeglagaaDoor
set_option maxRecDepth 20000
open Go.ChangeShapes Go.WideShapes Go.ChangeAt Go.RowKit
set_option linter.unusedVariables false
set_option linter.unusedSimpArgs false

theorem findO_some {a b : Int} {xs : List Int} (h : findO a b = some xs) : ∃ x y : Nat, a = x ∧ b = y ∧ (1 ≤ x ∧ x ≤ 1000) ∧ (1 ≤ y ∧ y ≤ 1000) ∧ pairO x y = some xs := by
  unfold findO at h
  cases ha : findB a with
  | false => rw [ha] at h; cases h
  | true =>
    cases hb : findB b with
    | false => rw [ha, hb] at h; cases h
    | true =>
      rw [ha, hb] at h
      have h1 := findB_true.1 ha
      have h2 := findB_true.1 hb
      exact ⟨a.toNat, b.toNat, by omega, by omega, by omega, by omega, h⟩
set_option maxHeartbeats 4000000 in
theorem lawFnTrainFind_walk (v : Value) (w : World) (h : CodeAt w v) (hE : LenAt w) (hF : FarAt w) (hG : TypeAt w) : Calls Tryd.prog 5 #[v] w (Fine w) := by
  have D := Lib.hid (drawTrainFind v w h)
  obtain ⟨pa, pn, pc, rfl, hpn⟩ := code_length h
  clear h
  by_cases hbig : 1048576 < pn
  · have hb : (1048576 : Int) < (pn : Int) := by omega
    go_enter Tryd.func5, Tryd.ntmps5
    go_wp2_with fail
    go_ret
    exact fine_same ⟨rfl, rfl⟩
  have hb : ¬ (1048576 : Int) < (pn : Int) := by omega
  go_enter Tryd.func5, Tryd.ntmps5
  go_wp2_with fail
  refine D.out.mono ?_; rintro e w1 ⟨a, b, rfl, ha, hb2, hL⟩
  clear D
  have T1 := fun w h => TrainFind_any a b w h
  have T2 := fun w => specTrainFind_any a b w
  cases ho : findO a b with
  | none =>
    rw [ho] at T1 T2
    clear ho
    go_wp2_with fail
    refine (T1 _ (hG.below hL)).mono ?_; rintro e w2 ⟨hb3, v2, rfl, h2⟩
    replace hL := below_next hL hb3
    clear hb3
    go_wp2_with fail
    refine (T2 _).mono ?_; rintro e w3 ⟨hb4, v3, rfl, h3⟩
    replace hL := below_next hL hb4
    replace h2 := rows_below h2 hb4
    clear hb4
    go_wp2_with fail
    refine (sameI_own h2 h3 (by simp)).mono ?_; rintro e w4 ⟨rfl, hb5⟩
    replace hL := below_next hL hb5
    replace h2 := rows_below h2 hb5
    replace h3 := rows_below h3 hb5
    clear hb5
    go_wp2_with fail
    refine (sameI_own h2 h3 (by simp)).mono ?_; rintro e w5 ⟨rfl, hb6⟩
    replace hL := below_next hL hb6
    go_wp2
    go_ret
    exact ⟨rfl, hL⟩
  | some xs =>
    obtain ⟨x, y, rfl, rfl, hx, hy, hp⟩ := findO_some ho
    obtain ⟨hl, a', b', rfl, a1, a2, b1, b2, t, c, hT, htc, ht, hc⟩ := pair_ratio hx.1 hy.1 hx.2 hy.2 hp
    rw [ho] at T1 T2
    have R := fun v w h hE hF => TrainRatio_any v [(a' : Int), (b' : Int)] w h hE hF
    rw [hT] at R
    obtain ⟨z, hz⟩ : ∃ z : Int, -(t : Int) = z := ⟨_, rfl⟩
    obtain ⟨m, hm⟩ : ∃ m : Int, (c : Int) * (x : Int) = m := ⟨_, rfl⟩
    have hmb : 0 ≤ m ∧ m ≤ 240000 := by
      rw [← hm, ← Int.natCast_mul]
      have := Nat.mul_le_mul hc hx.2
      omega
    have hzm : z * (y : Int) = -m := by
      rw [← hz, ← hm, Int.neg_mul, ← Int.natCast_mul, ← Int.natCast_mul, htc]
    have w1' : IntKind.i64.wrap m = m := by rw [IntKind.wrap_i64]; omega
    have w2' : IntKind.i64.wrap (-m) = -m := by rw [IntKind.wrap_i64]; omega
    have hmm : (m == m) = true := by simp
    unfold trainT at R
    simp only at R
    rw [hz] at R
    clear ho hp hT htc hz hl
    go_wp2_with fail
    refine (T1 _ (hG.below hL)).mono ?_; rintro e w2 ⟨hb3, v2, rfl, h2⟩
    replace hL := below_next hL hb3
    clear hb3
    go_wp2_with fail
    refine (T2 _).mono ?_; rintro e w3 ⟨hb4, v3, rfl, h3⟩
    replace hL := below_next hL hb4
    replace h2 := rows_below h2 hb4
    clear hb4
    go_wp2_with fail
    refine (sameI_own h2 h3 (by simp)).mono ?_; rintro e w4 ⟨rfl, hb5⟩
    replace hL := below_next hL hb5
    replace h2 := rows_below h2 hb5
    clear hb5 h3
    obtain ⟨g, cap, rfl, -⟩ := own_ptr h2 (by simp)
    have R2 := Lib.hid (R _ _ (ownL_reads h2) (hE.below hL) (hF.below hL))
    clear R h2 T1 T2
    go_wp2_with fail
    refine R2.out.mono ?_; rintro e w5 ⟨rfl, hb6⟩
    replace hL := below_next hL hb6
    clear R2
    go_wp2
    go_ret
    exact ⟨rfl, hL⟩

theorem tmod_none {t : Int} {b n : Nat} (hg : Nat.gcd t.natAbs b = 1) (h1 : 1 ≤ n) (hn : n < b) : ¬ ((n : Int) * t).tmod (b : Int) = 0 := fun h =>
  turns_least hg h1 hn (Int.emod_eq_zero_of_dvd (Int.dvd_of_tmod_eq_zero h))
theorem prodT_bound {t : Int} {n B : Nat} (ht : t.natAbs ≤ 1000000000) (hn : n ≤ B) : -((B * 1000000000 : Nat) : Int) ≤ (n : Int) * t ∧ (n : Int) * t ≤ ((B * 1000000000 : Nat) : Int) := by
  have h1 : ((n : Int) * t).natAbs ≤ B * 1000000000 := by
    rw [Int.natAbs_mul, Int.natAbs_natCast]; exact Nat.mul_le_mul hn ht
  omega
set_option maxHeartbeats 4000000 in
theorem lawFnTrainTurns_walk (v : Value) (w : World) (h : CodeAt w v) (hE : LenAt w) (hF : FarAt w) : Calls Tryd.prog 4 #[v] w (Fine w) := by
  have D := Lib.hid (drawTrainTurns v w h)
  obtain ⟨pa, pn, pc, rfl, hpn⟩ := code_length h
  clear h
  by_cases hbig : 1048576 < pn
  · have hb : (1048576 : Int) < (pn : Int) := by omega
    go_enter Tryd.func4, Tryd.ntmps4
    go_wp2_with fail
    go_ret
    exact fine_same ⟨rfl, rfl⟩
  have hb : ¬ (1048576 : Int) < (pn : Int) := by omega
  go_enter Tryd.func4, Tryd.ntmps4
  go_wp2_with fail
  refine D.out.mono ?_; rintro e w1 ⟨u, xs, rfl, hl6, hL, hu⟩
  clear D
  have T1 := fun w h hE hF => TrainTurns_any u xs w h hE hF
  have T2 := fun w h => specTrainTurns_any u xs w h
  have T3 := fun w h hE hF => TrainRatio_any u xs w h hE hF
  cases ho : trainO xs with
  | none =>
    rw [ho] at T1 T2
    clear ho T3
    unfold turnT at T1 T2
    simp only at T1 T2
    go_wp2_with fail
    refine (T1 _ hu (hE.below hL) (hF.below hL)).mono ?_; rintro e w2 ⟨rfl, hb3⟩
    replace hL := below_next hL hb3
    replace hu := hu.below hb3
    go_wp2_with fail
    refine (T2 _ hu).mono ?_; rintro e w3 ⟨rfl, rfl⟩
    go_wp2
    go_ret
    exact ⟨rfl, hL⟩
  | some p =>
    obtain ⟨t, b⟩ := p
    obtain ⟨b1, b2, t1, t2, -, hg, -⟩ := train_rev ho
    rw [ho] at T1 T2 T3
    unfold turnT at T1 T2
    unfold trainT at T3
    simp only at T1 T2 T3
    have HG := Lib.hid hg
    have HT2 := Lib.hid t2
    have bne : ((b : Int) != (b : Int)) = false := by simp
    have b0 : ¬ (b : Int) = 0 := by omega
    have b00 : ((b : Int) == 0) = false := by simp; omega
    have bn0 : ¬ b = 0 := by omega
    have bge : (1 : Int) ≤ (b : Int) := by omega
    clear ho hg t1 hl6
    go_wp2_with fail
    refine (T1 _ hu (hE.below hL) (hF.below hL)).mono ?_; rintro e w2 ⟨rfl, hb3⟩
    replace hL := below_next hL hb3
    replace hu := hu.below hb3
    go_wp2_with fail
    refine (T2 _ hu).mono ?_; rintro e w3 ⟨rfl, rfl⟩
    have R2 := Lib.hid (T3 _ hu (hE.below hL) (hF.below hL))
    clear T1 T2 T3 hu hb3
    go_wp2_with fail
    refine R2.out.mono ?_; rintro e w4 ⟨rfl, hb4⟩
    replace hL := below_next hL hb4
    clear R2 hb4 t2
    go_wp2_with fail
    go_loopw [11] (fun i wr => ∃ k : Nat, 1 ≤ k ∧ k ≤ b ∧ k ≤ 1000 ∧ i = .int .i64 k ∧ wr = w4) (fun i _ => 1000 - (intOf i).toNat)
    case atStart => exact ⟨1, by omega, by omega, by omega, rfl, rfl⟩
    case round =>
      obtain ⟨k, hk1, hkb, hk, rfl, rfl⟩ := hrel
      by_cases hlt : k < b ∧ k < 1000
      · obtain ⟨l1, l2⟩ := hlt
        have l1z : (k : Int) < (b : Int) := by omega
        have l2z : (k : Int) < 1000 := by omega
        have HB := prodT_bound HT2.out hk
        have HN := tmod_none HG.out hk1 l1
        obtain ⟨m, hm⟩ : ∃ m : Int, (k : Int) * t = m := ⟨_, rfl⟩
        rw [hm] at HB HN
        have mw : IntKind.i64.wrap m = m := by rw [IntKind.wrap_i64]; omega
        clear HB
        go_wp2_with fail
        go_roundw
        case rel => exact ⟨k + 1, by omega, by omega, by omega, by go_num, by first | trivial | rfl⟩
        case measure => simp [intOf]; omega
      · have HB := prodT_bound HT2.out b2
        obtain ⟨m, hm⟩ : ∃ m : Int, (b : Int) * t = m := ⟨_, rfl⟩
        have HN : m.tmod (b : Int) = 0 := by rw [← hm]; exact Int.mul_tmod_right _ _
        rw [hm] at HB
        have mw : IntKind.i64.wrap m = m := by rw [IntKind.wrap_i64]; omega
        clear HB
        rcases Nat.lt_or_ge k b with l1 | l1
        · have l2 : ¬ k < 1000 := fun e => hlt ⟨l1, e⟩
          obtain rfl : k = 1000 := by omega
          have l1z : (1000 : Int) < (b : Int) := by omega
          clear hlt
          go_wp2_with fail
          go_ret
          exact ⟨rfl, hL⟩
        · have l1z : ¬ (k : Int) < (b : Int) := by omega
          clear hlt
          go_wp2_with fail
          go_ret
          exact ⟨rfl, hL⟩
end Go.Proofs.YtbdhbkedeglagaaDoor
