/-
  The walk of the law FnRatio.
-/
import Derived.Test.YtbdhbkedeglagaaDoorLawGear
namespace Go.Proofs.YtbdhbkedeglagaaDoor
set_option maxRecDepth 20000
open Go.ChangeShapes Go.WideShapes Go.ChangeAt Go.RowKit
set_option linter.unusedVariables false
set_option linter.unusedSimpArgs false

theorem train_len {xs : List Int} {t : Int} {b : Nat} (h : trainO xs = some (t, b)) (hl : xs.length ≤ 6) : xs.length = 2 ∨ xs.length = 4 ∨ xs.length = 6 := by
  unfold trainO at h
  split at h
  · rename_i hT
    obtain ⟨h2, -, h3, -⟩ := trainB_true.1 hT
    omega
  · cases h
theorem rev_next {xs : List Int} {j : Nat} {x : Int} (h1 : 1 ≤ j) (h2 : j ≤ xs.length) (hx : xs[j - 1]? = some x) : xs.reverse.take (xs.length - j) ++ [x] = xs.reverse.take (xs.length - (j - 1)) := by
  have e : xs.length - (j - 1) = (xs.length - j) + 1 := by omega
  rw [e, List.take_add_one, List.getElem?_reverse (by omega)]
  rw [show xs.length - 1 - (xs.length - j) = j - 1 by omega, hx]
  rfl
set_option maxHeartbeats 4000000 in
theorem lawFnRatio_walk (v : Value) (w : World) (h : CodeAt w v) (hE : LenAt w) (hF : FarAt w) : Calls Tryd.prog 3 #[v] w (Fine w) := by
  have D := Lib.hid (drawTrainRatio v w h)
  obtain ⟨pa, pn, pc, rfl, hpn⟩ := code_length h
  clear h
  by_cases hbig : 1048576 < pn
  · have hb : (1048576 : Int) < (pn : Int) := by omega
    go_enter Tryd.func3, Tryd.ntmps3
    go_wp2_with fail
    go_ret
    exact fine_same ⟨rfl, rfl⟩
  have hb : ¬ (1048576 : Int) < (pn : Int) := by omega
  go_enter Tryd.func3, Tryd.ntmps3
  go_wp2_with fail
  refine D.out.mono ?_; rintro e w1 ⟨u, xs, rfl, hl6, hL, hu⟩
  clear D
  have T1 := fun w h hE hF => TrainRatio_any u xs w h hE hF
  have T2 := fun w h => specTrainRatio_any u xs w h
  cases ho : trainO xs with
  | none =>
    rw [ho] at T1 T2
    clear ho
    unfold trainT at T1 T2
    simp only at T1 T2
    go_wp2_with fail
    refine (T1 _ hu (hE.below hL) (hF.below hL)).mono ?_; rintro e w2 ⟨rfl, hb3⟩
    replace hL := below_next hL hb3
    replace hu := hu.below hb3
    go_wp2_with fail
    refine (T2 _ hu).mono ?_; rintro e w3 ⟨rfl, rfl⟩
    go_wp2
    go_ret
    exact ⟨rfl, hL⟩
  | some p =>
    obtain ⟨t, b⟩ := p
    obtain ⟨b1, b2, t1, t2, hsg, -, hrev⟩ := train_rev ho
    have hlen := train_len ho hl6
    rw [ho] at T1 T2
    unfold trainT at T1 T2
    simp only at T1 T2
    have HREV := Lib.hid (show ∀ (t' : Int) (b' : Nat), trainO xs.reverse = some (t', b') → t'.natAbs = b ∧ b' = t.natAbs ∧ decide (t' < 0) = decide (xs.length / 2 % 2 = 1) from fun t' b' h => hrev h)
    have HSG := Lib.hid hsg
    have HT := Lib.hid (And.intro t1 t2)
    have bne : ((b : Int) != (b : Int)) = false := by simp
    have tne : (t != t) = false := by simp
    have bge : (1 : Int) ≤ (b : Int) := by omega
    have bpos : 0 < b := by omega
    clear ho hsg hrev hl6 t1 t2
    go_wp2_with fail
    refine (T1 _ hu (hE.below hL) (hF.below hL)).mono ?_; rintro e w2 ⟨rfl, hb3⟩
    replace hL := below_next hL hb3
    replace hu := hu.below hb3
    go_wp2_with fail
    refine (T2 _ hu).mono ?_; rintro e w3 ⟨rfl, rfl⟩
    clear T1 T2 hb3
    obtain ⟨p, cap, rfl, hc1, hc2, hp0, hp⟩ := hu
    simp only [maxLen] at hc2
    obtain ⟨gx, ox, rfl, hgx, hrx⟩ := hp (by rintro rfl; have := hp0 rfl; omega)
    clear hp hp0
    have HLEN := Lib.hid hlen
    have HRX := Lib.hid hrx
    have HGX := Lib.hid hgx
    have hge : 2 ≤ xs.length ∧ xs.length ≤ 6 := by omega
    obtain ⟨l, hl⟩ : ∃ l, xs.length = l := ⟨_, rfl⟩
    have HX := Lib.hid hl
    rw [hl] at hge hc1 ⊢
    clear hl hlen hrx hgx
    have hO : OwnL encI 1 (w2.alloc (.cells #[] 3)) w2.heap.size 3 (.slice (some ⟨w2.heap.size, 0, none⟩) 0 0) [] := World.ownsRow_made w2 #[] 0 (Nat.le_refl _) (by simp [maxLen]) (by simp)
    have hB : Below w2.heap.size w2 (w2.alloc (.cells #[] 3)) := (Below.refl _ _).alloc (Nat.le_refl _) _
    go_wp2_with fail
    go_loopw [10, 11] (fun s i wr => ∃ j : Nat, j ≤ l ∧ i = .int .i64 ((j : Int) - 1) ∧ OwnL encI 1 wr w2.heap.size 3 s (xs.reverse.take (l - j)) ∧ Below w2.heap.size w2 wr) (fun _ i _ => (intOf i + 1).toNat)
    case atStart => exact ⟨l, Nat.le_refl _, rfl, by rw [Nat.sub_self]; exact hO, hB⟩
    case round =>
      clear hO hB
      obtain ⟨j, hj, rfl, hO, hB⟩ := hrel
      have HO := Lib.hid hO
      have HB := Lib.hid hB
      clear hO hB
      by_cases hj1 : 1 ≤ j
      · have hjz : (0 : Int) ≤ (j : Int) - 1 := by omega
        have hjl : (j : Int) - 1 < (l : Int) := by omega
        obtain ⟨i, hi⟩ : ∃ i : Nat, j - 1 = i := ⟨_, rfl⟩
        have hij : (j : Int) - 1 = (i : Int) := by omega
        obtain ⟨x, hx⟩ : ∃ x, xs[i]? = some x := ⟨_, List.getElem?_eq_getElem (by rw [HX.out]; omega)⟩
        have c1 := int_cell (cells_below HRX.out HGX.out HB.out) hx
        have HNX : Aside (xs.reverse.take (l - j) ++ [x] = xs.reverse.take (l - i)) := (show _ = _ from by
          have := rev_next (xs := xs) (j := j) (x := x) hj1 (by rw [HX.out]; exact hj) (by rw [hi]; exact hx)
          rwa [HX.out, hi] at this)
        have HI := Lib.hid hi
        clear hi hx
        rw [hij] at hjz hjl ⊢
        go_wp2_with (at_builtin; refine appendL tyI encI_ok rfl rfl (xs := xs.reverse.take (l - j)) (ys := [x]) rfl rfl (World.ownsRow.alloc HO.out _) (lit1 _ _ _) (by have := HX.out; simp; omega) (HB.out.alloc HB.out.size _) (Nat.le_trans HB.out.size (by simp)) ?_; intro v5 w5 ho5 hb5 hs5 hg5)
        rw [HNX.out] at ho5
        have HO5 := Lib.hid ho5
        have HB5 := Lib.hid hb5
        clear ho5 hb5 hs5 hg5 HO HB HNX
        go_wp2
        go_roundw
        case rel => exact ⟨i, by have := HI.out; omega, by go_num, HO5.out, HB5.out⟩
        case measure => have := HI.out; simp [intOf] <;> omega
      · obtain rfl : j = 0 := by omega
        have ho := HO.out
        rw [Nat.sub_zero, ← HX.out, ← List.length_reverse, List.take_length] at ho
        have HO2 := Lib.hid (ownL_reads ho)
        clear ho
        clear HO
        replace hL := below_next hL HB.out
        have R := TrainRatio_any _ xs.reverse wr HO2.out (hE.below hL) (hF.below hL)
        clear HB HO2 HRX HGX
        obtain ⟨o', ho'⟩ : ∃ o', trainO xs.reverse = o' := ⟨_, rfl⟩
        rw [ho'] at R
        have HOP := Lib.hid ho'
        clear ho'
        rcases HLEN.out with h | h | h
        · have hl : l = 2 := HX.out.symm.trans h
          subst hl
          obtain ⟨n, hn, rfl⟩ : ∃ n : Nat, (1 ≤ n ∧ n ≤ 1000000000) ∧ t = -(n : Int) := ⟨t.natAbs, HT.out, by have := of_decide_eq_true (HSG.out.trans (decide_eq_true (by rw [h]))); omega⟩
          have e1 : IntKind.i64.wrap (n : Int) = (n : Int) := by rw [IntKind.wrap_i64]; omega
          have e2 : IntKind.i64.wrap (-(n : Int)) = -(n : Int) := by rw [IntKind.wrap_i64]; omega
          have n0 : -(n : Int) < 0 := by omega
          have n1 : -(n : Int) < (n : Int) := by omega
          have n2 : ¬ (n : Int) < -(n : Int) := by omega
          cases o' with
          | none =>
            have R2 := Lib.hid R
            clear R
            go_wp2_with fail
            refine R2.out.mono ?_; rintro e w9 ⟨rfl, hb9⟩
            unfold trainT
            simp only
            replace hL := below_next hL hb9
            clear R2 hb9
            go_wp2
            go_ret
            exact ⟨rfl, hL⟩
          | some p' =>
            obtain ⟨t', b'⟩ := p'
            obtain ⟨r1, r2, r3⟩ := HREV.out _ _ HOP.out
            have q1 : t' = -(b : Int) := by have := of_decide_eq_true (r3.trans (decide_eq_true (by rw [h]))); omega
            have q2 : b' = n := by omega
            subst q1 q2
            clear r1 r2 r3
            have f1 : IntKind.i64.wrap (b : Int) = (b : Int) := by rw [IntKind.wrap_i64]; omega
            have f2 : IntKind.i64.wrap (-(b : Int)) = -(b : Int) := by rw [IntKind.wrap_i64]; omega
            have m0 : -(b : Int) < 0 := by omega
            have m1 : -(b : Int) < (b : Int) := by omega
            have m2 : ¬ (b : Int) < -(b : Int) := by omega
            have R2 := Lib.hid R
            clear R HREV
            go_wp2_with fail
            refine R2.out.mono ?_; rintro e w9 ⟨rfl, hb9⟩
            unfold trainT
            simp only
            replace hL := below_next hL hb9
            clear R2 hb9
            go_wp2
            go_ret
            exact ⟨rfl, hL⟩
        · have hl : l = 4 := HX.out.symm.trans h
          subst hl
          obtain ⟨n, hn, rfl⟩ : ∃ n : Nat, (1 ≤ n ∧ n ≤ 1000000000) ∧ t = (n : Int) := ⟨t.natAbs, HT.out, by have := of_decide_eq_false (HSG.out.trans (decide_eq_false (by rw [h]; omega))); omega⟩
          have e1 : IntKind.i64.wrap (n : Int) = (n : Int) := by rw [IntKind.wrap_i64]; omega
          have e2 : IntKind.i64.wrap (-(n : Int)) = -(n : Int) := by rw [IntKind.wrap_i64]; omega
          have n0 : ¬ (n : Int) < 0 := by omega
          have n1 : -(n : Int) < (n : Int) := by omega
          have n2 : ¬ (n : Int) < -(n : Int) := by omega
          cases o' with
          | none =>
            have R2 := Lib.hid R
            clear R
            go_wp2_with fail
            refine R2.out.mono ?_; rintro e w9 ⟨rfl, hb9⟩
            unfold trainT
            simp only
            replace hL := below_next hL hb9
            clear R2 hb9
            go_wp2
            go_ret
            exact ⟨rfl, hL⟩
          | some p' =>
            obtain ⟨t', b'⟩ := p'
            obtain ⟨r1, r2, r3⟩ := HREV.out _ _ HOP.out
            have q1 : t' = (b : Int) := by have := of_decide_eq_false (r3.trans (decide_eq_false (by rw [h]; omega))); omega
            have q2 : b' = n := by omega
            subst q1 q2
            clear r1 r2 r3
            have f1 : IntKind.i64.wrap (b : Int) = (b : Int) := by rw [IntKind.wrap_i64]; omega
            have f2 : IntKind.i64.wrap (-(b : Int)) = -(b : Int) := by rw [IntKind.wrap_i64]; omega
            have m0 : ¬ (b : Int) < 0 := by omega
            have m1 : -(b : Int) < (b : Int) := by omega
            have m2 : ¬ (b : Int) < -(b : Int) := by omega
            have R2 := Lib.hid R
            clear R HREV
            go_wp2_with fail
            refine R2.out.mono ?_; rintro e w9 ⟨rfl, hb9⟩
            unfold trainT
            simp only
            replace hL := below_next hL hb9
            clear R2 hb9
            go_wp2
            go_ret
            exact ⟨rfl, hL⟩
        · have hl : l = 6 := HX.out.symm.trans h
          subst hl
          obtain ⟨n, hn, rfl⟩ : ∃ n : Nat, (1 ≤ n ∧ n ≤ 1000000000) ∧ t = -(n : Int) := ⟨t.natAbs, HT.out, by have := of_decide_eq_true (HSG.out.trans (decide_eq_true (by rw [h]))); omega⟩
          have e1 : IntKind.i64.wrap (n : Int) = (n : Int) := by rw [IntKind.wrap_i64]; omega
          have e2 : IntKind.i64.wrap (-(n : Int)) = -(n : Int) := by rw [IntKind.wrap_i64]; omega
          have n0 : -(n : Int) < 0 := by omega
          have n1 : -(n : Int) < (n : Int) := by omega
          have n2 : ¬ (n : Int) < -(n : Int) := by omega
          cases o' with
          | none =>
            have R2 := Lib.hid R
            clear R
            go_wp2_with fail
            refine R2.out.mono ?_; rintro e w9 ⟨rfl, hb9⟩
            unfold trainT
            simp only
            replace hL := below_next hL hb9
            clear R2 hb9
            go_wp2
            go_ret
            exact ⟨rfl, hL⟩
          | some p' =>
            obtain ⟨t', b'⟩ := p'
            obtain ⟨r1, r2, r3⟩ := HREV.out _ _ HOP.out
            have q1 : t' = -(b : Int) := by have := of_decide_eq_true (r3.trans (decide_eq_true (by rw [h]))); omega
            have q2 : b' = n := by omega
            subst q1 q2
            clear r1 r2 r3
            have f1 : IntKind.i64.wrap (b : Int) = (b : Int) := by rw [IntKind.wrap_i64]; omega
            have f2 : IntKind.i64.wrap (-(b : Int)) = -(b : Int) := by rw [IntKind.wrap_i64]; omega
            have m0 : -(b : Int) < 0 := by omega
            have m1 : -(b : Int) < (b : Int) := by omega
            have m2 : ¬ (b : Int) < -(b : Int) := by omega
            have R2 := Lib.hid R
            clear R HREV
            go_wp2_with fail
            refine R2.out.mono ?_; rintro e w9 ⟨rfl, hb9⟩
            unfold trainT
            simp only
            replace hL := below_next hL hb9
            clear R2 hb9
            go_wp2
            go_ret
            exact ⟨rfl, hL⟩
end Go.Proofs.YtbdhbkedeglagaaDoor
