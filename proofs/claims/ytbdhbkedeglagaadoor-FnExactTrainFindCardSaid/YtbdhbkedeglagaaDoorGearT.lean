/-
  spec: the ratio of a train.
-/
import Derived.Test.YtbdhbkedeglagaaDoorGearS
namespace Go.Proofs.YtbdhbkedeglagaaDoor
set_option maxRecDepth 20000
open Go.ChangeShapes Go.WideShapes Go.ChangeAt Go.RowKit
set_option linter.unusedVariables false
set_option linter.unusedSimpArgs false

theorem trainO_no {xs : List Int} (h : trainB xs = false) : trainO xs = none := by unfold trainO; rw [h]; rfl
theorem trainB_no {xs : List Int} {k : Nat} {x : Int} (hx : xs[k]? = some x) (hn : gearB x = false) : trainB xs = false := by
  cases h : trainB xs with
  | false => rfl
  | true =>
    have := (trainB_true.1 h).2.2.2 x (List.mem_of_getElem? hx)
    rw [hn] at this; cases this

theorem ratN_pos {xs : List Int} : ∀ {k : Nat} {t b : Nat}, (∀ j y, j < 2 * k → xs[j]? = some y → gearB y = true) → 2 * k ≤ xs.length → ratN xs k = some (t, b) → 1 ≤ t ∧ 1 ≤ b
  | 0, t, b, _, _, h => by
    simp only [ratN, Option.some.injEq, Prod.mk.injEq] at h
    omega
  | k + 1, t, b, hx, hl, h => by
    have pos : ∀ j, j < 2 * (k + 1) → 1 ≤ nth xs j := fun j hj => by
      have := gearB_true.1 (hx j _ hj (List.getElem?_eq_getElem (by omega)))
      unfold nth
      rw [List.getD_eq_getElem?_getD, List.getElem?_eq_getElem (by omega)]
      simp only [Option.getD_some]; omega
    unfold ratN stepR at h
    cases hr : ratN xs k with
    | none => rw [hr] at h; cases h
    | some p =>
      obtain ⟨t0, b0⟩ := p
      have ih := ratN_pos (fun j y hj => hx j y (by omega)) (by omega) hr
      rw [hr] at h
      simp only at h
      split at h
      · simp only [Option.some.injEq] at h
        have hl := lowT_pos (a := t0 * nth xs (2 * k)) (b := b0 * nth xs (2 * k + 1)) (Nat.mul_pos ih.1 (pos _ (by omega))) (Nat.mul_pos ih.2 (pos _ (by omega)))
        rw [h] at hl
        exact ⟨hl.1, hl.2.1⟩
      · cases h
set_option maxHeartbeats 8000000 in
theorem specTrainRatio_any (v : Value) (xs : List Int) (w : World) (hv : ReadsL encI w v xs) : Calls Tryd.prog 11 #[v] w fun e w' => e = .returned (trainT (trainO xs)) ∧ w = w' := by
  obtain ⟨p, cap, rfl, hc1, hc2, hp0, hp⟩ := hv
  simp only [maxLen] at hc2
  by_cases hl : 2 ≤ xs.length ∧ xs.length ≤ 10
  · have I1 := fun w => in_yes (xs.length : Int) 2 10 (by omega) (by omega) w
    by_cases hev : xs.length % 2 = 0
    · obtain ⟨g, o, rfl, hg, hr⟩ := hp (by rintro rfl; have := hp0 rfl; omega)
      obtain ⟨m, hm⟩ : ∃ m, xs.length = 2 * m := ⟨xs.length / 2, by omega⟩
      have hm2 : xs.length / 2 = m := by omega
      have l3 : (xs.length : Int).tmod 2 = 0 := by rw [Int.tmod_eq_emod_of_nonneg (by omega)]; omega
      have HR := Lib.hid hr
      clear hp hr
      obtain ⟨n, hn⟩ : ∃ n : Nat, xs.length = n := ⟨_, rfl⟩
      rw [hn] at I1 l3 hc1 hm hl hev hm2 ⊢
      have HN := Lib.hid hn
      have HM := Lib.hid hm
      have HM2 := Lib.hid hm2
      have m5 : m ≤ 5 := by omega
      have m1 : 1 ≤ m := by omega
      clear hn hm hm2 hev hl
      go_enter Tryd.func11, Tryd.ntmps11
      go_wp2_with fail
      refine (I1 _).mono ?_; rintro e w1 ⟨rfl, rfl⟩
      go_wp2_with fail
      go_loopw [6, 7, 8, 9] (fun tp bt i _ wr => ∃ k t b : Nat, k ≤ m ∧ i = .int .i64 ((2 * k : Nat) : Int) ∧ tp = .int .i64 (sgnT k * (t : Int)) ∧ bt = .int .i64 b ∧ Aside (ratN xs k = some (t, b)) ∧ Aside (∀ j y, j < 2 * k → xs[j]? = some y → gearB y = true) ∧ wr = w) (fun _ _ i _ _ => 2 * m - (intOf i).toNat)
      case atStart => exact ⟨0, 1, 1, Nat.zero_le _, rfl, rfl, rfl, Lib.hid rfl, Lib.hid (fun j y h => absurd h (by omega)), rfl⟩
      case round =>
        obtain ⟨k, t, b, hk, rfl, rfl, rfl, hrat, hall, rfl⟩ := hrel
        have HL := Lib.hid (sgnT_next k)
        by_cases hlt : k < m
        · have hkz : ((2 * k : Nat) : Int) < (n : Int) := by have := HM.out; omega
          have hk0 : (0 : Int) ≤ ((2 * k : Nat) : Int) := by omega
          have hkz1 : ((2 * k : Nat) : Int) + 1 < (n : Int) := by have := HM.out; omega
          have hkw : IntKind.i64.wrap (((2 * k : Nat) : Int) + 1) = ((2 * k + 1 : Nat) : Int) := by rw [IntKind.wrap_i64]; omega
          have hkz2 : ((2 * k + 1 : Nat) : Int) < (n : Int) := by have := HM.out; omega
          have hk1 : (0 : Int) ≤ ((2 * k + 1 : Nat) : Int) := by omega
          obtain ⟨x, hx⟩ : ∃ x, xs[2 * k]? = some x := ⟨_, List.getElem?_eq_getElem (by have := HM.out; have := HN.out; omega)⟩
          obtain ⟨y, hy⟩ : ∃ y, xs[2 * k + 1]? = some y := ⟨_, List.getElem?_eq_getElem (by have := HM.out; have := HN.out; omega)⟩
          have c1 := int_cell HR.out hx
          have c2 := int_cell HR.out hy
          have GX := fun w => sgear_any x w
          have GY := fun w => sgear_any y w
          cases hgx : gearB x with
          | false =>
            have HO := Lib.hid (trainO_no (trainB_no hx hgx))
            rw [hgx] at GX
            clear hx hy hgx GY
            go_wp2_with fail
            refine (GX _).mono ?_; rintro e w2 ⟨rfl, rfl⟩
            go_wp2
            go_ret3
            rw [HO.out]
            exact ⟨rfl, rfl⟩
          | true =>
            rw [hgx] at GX
            cases hgy : gearB y with
            | false =>
              have HO := Lib.hid (trainO_no (trainB_no hy hgy))
              rw [hgy] at GY
              clear hx hy hgx hgy
              go_wp2_with fail
              refine (GX _).mono ?_; rintro e w2 ⟨rfl, rfl⟩
              go_wp2_with fail
              refine (GY _).mono ?_; rintro e w2 ⟨rfl, rfl⟩
              go_wp2
              go_ret3
              rw [HO.out]
              exact ⟨rfl, rfl⟩
            | true =>
              rw [hgy] at GY
              obtain ⟨g1, g2⟩ := gearB_true.1 hgx
              obtain ⟨g3, g4⟩ := gearB_true.1 hgy
              obtain ⟨X, rfl⟩ : ∃ X : Nat, x = X := ⟨x.toNat, by omega⟩
              obtain ⟨Y, rfl⟩ : ∃ Y : Nat, y = Y := ⟨y.toNat, by omega⟩
              have nx : nth xs (2 * k) = X := by unfold nth; rw [List.getD_eq_getElem?_getD, hx]; simp
              have ny : nth xs (2 * k + 1) = Y := by unfold nth; rw [List.getD_eq_getElem?_getD, hy]; simp
              have HALL : Aside (∀ j y, j < 2 * (k + 1) → xs[j]? = some y → gearB y = true) := (show _ from fun j y hj hy2 => by
                by_cases e : j < 2 * k
                · exact hall.out j y e hy2
                · rcases (show j = 2 * k ∨ j = 2 * k + 1 by omega) with rfl | rfl
                  · rw [hx] at hy2; rw [← Option.some.inj hy2]; exact hgx
                  · rw [hy] at hy2; rw [← Option.some.inj hy2]; exact hgy)
              have hnext : ratN xs (k + 1) = stepR (some (t, b)) X Y := by
                show stepR (ratN xs k) _ _ = _
                rw [hrat.out, nx, ny]
              have HMST := ratN_most hrat.out
              have hpos : 1 ≤ t ∧ 1 ≤ b := ratN_pos (fun j y hj hy2 => hall.out j y hj hy2) (by have := HM.out; have := HN.out; omega) hrat.out
              clear hx hy hgx hgy nx ny hrat hall
              simp only at HMST
              unfold stepR at hnext
              simp only at hnext
              have mxb := Nat.mul_le_mul HMST.1 (show X ≤ 240 by omega)
              have myb := Nat.mul_le_mul HMST.2 (show Y ≤ 240 by omega)
              have mx0 : 1 ≤ t * X := Nat.mul_pos hpos.1 (by omega)
              have my0 : 1 ≤ b * Y := Nat.mul_pos hpos.2 (by omega)
              obtain ⟨s, hs⟩ : ∃ s, sgnT k = s := ⟨_, rfl⟩
              have hs1 : s = 1 ∨ s = -1 := by rw [← hs]; exact sgnT_is _
              have HS : Aside (sgnT (k + 1) = -s) := (show _ = _ from by rw [HL.out, hs])
              rw [hs]
              obtain ⟨T, hT⟩ : ∃ T : Int, s * (t : Int) = T := ⟨_, rfl⟩
              rw [hT]
              obtain ⟨mx, hmx⟩ : ∃ mx, t * X = mx := ⟨_, rfl⟩
              obtain ⟨my, hmy⟩ : ∃ my, b * Y = my := ⟨_, rfl⟩
              rw [hmx] at mxb mx0 hnext
              rw [hmy] at myb my0 hnext
              obtain ⟨Z, hZ⟩ : ∃ Z : Int, s * (mx : Int) = Z := ⟨_, rfl⟩
              have q1 : T * (X : Int) = Z := by rw [← hT, ← hZ, ← hmx, Int.natCast_mul, Int.mul_assoc]
              have q2 : (b : Int) * (Y : Int) = (my : Int) := by rw [← hmy, Int.natCast_mul]
              have zb : Z.natAbs = mx := by rcases hs1 with rfl | rfl <;> omega
              have q3 : IntKind.i64.wrap Z = Z := by rw [IntKind.wrap_i64]; omega
              have q4 : IntKind.i64.wrap (my : Int) = (my : Int) := by rw [IntKind.wrap_i64]; omega
              obtain ⟨U, hU⟩ : ∃ U : Int, 0 - Z = U := ⟨_, rfl⟩
              have ub : U.natAbs = mx := by omega
              have q5 : IntKind.i64.wrap U = U := by rw [IntKind.wrap_i64]; omega
              have hlow := lowT_pos mx0 my0
              obtain ⟨e1, e2⟩ := low_parts mx my
              have G := fun w => sgcd_great U (my : Int) (by omega) (by omega) w
              have eg : Int.gcd U (my : Int) = Nat.gcd mx my := by unfold Int.gcd; rw [ub]; rfl
              rw [eg] at G
              have g1 : 1 ≤ Nat.gcd mx my := Nat.gcd_pos_of_pos_left _ mx0
              obtain ⟨gg, hgg⟩ : ∃ gg, Nat.gcd mx my = gg := ⟨_, rfl⟩
              obtain ⟨p, hp⟩ : ∃ p, (lowT mx my).1 = p := ⟨_, rfl⟩
              obtain ⟨q, hq⟩ : ∃ q, (lowT mx my).2 = q := ⟨_, rfl⟩
              have elow : lowT mx my = (p, q) := by rw [← hp, ← hq]
              rw [elow] at hnext hlow e1 e2
              rw [hgg] at G g1 e1 e2
              simp only at hlow e1 e2
              obtain ⟨P, hP⟩ : ∃ P : Int, -s * (p : Int) = P := ⟨_, rfl⟩
              have pb : P.natAbs = p := by rcases hs1 with rfl | rfl <;> omega
              have d1 : U.tdiv (gg : Int) = P := by
                have : U = P * (gg : Int) := by
                  rw [← hP, ← hU, ← hZ, e1, Int.natCast_mul, ← Int.mul_assoc]
                  rw [Int.zero_sub, ← Int.neg_mul, ← Int.neg_mul]
                rw [this]; exact Int.mul_tdiv_cancel _ (by omega)
              have d2 : (my : Int).tdiv (gg : Int) = (q : Int) := by rw [e2, Int.natCast_mul]; exact Int.mul_tdiv_cancel _ (by omega)
              have q6 : IntKind.i64.wrap P = P := by rw [IntKind.wrap_i64]; omega
              have q7 : IntKind.i64.wrap (q : Int) = (q : Int) := by rw [IntKind.wrap_i64]; omega
              have hgz : ((gg : Int) == 0) = false := by simp; omega
              have hgn : ¬ (gg : Int) = 0 := by omega
              have hgm : ¬ gg = 0 := by omega
              have HNX := Lib.hid hnext
              have HP := Lib.hid hP
              clear hnext elow hlow HMST mxb myb mx0 my0 hs hp hq hP hT hmx hmy hZ zb ub e1 e2 eg hgg g1 g2 g3 g4 hs1 hpos HL
              by_cases hM : p ≤ 1000000000 ∧ q ≤ 1000000000
              · have IN := fun w => in_yes P (-1000000000) 1000000000 (by omega) (by omega) w
                have hq1 : ¬ (1000000000 : Int) < (q : Int) := by omega
                have HN2 : Aside (ratN xs (k + 1) = some (p, q)) := (show _ = _ from by rw [HNX.out, if_pos (by unfold inM; rw [Bool.and_eq_true]; exact ⟨decide_eq_true hM.1, decide_eq_true hM.2⟩)])
                clear hM pb
                go_wp2_with fail
                refine (GX _).mono ?_; rintro e w2 ⟨rfl, rfl⟩
                go_wp2_with fail
                refine (GY _).mono ?_; rintro e w2 ⟨rfl, rfl⟩
                clear GX GY
                go_wp2_with fail
                refine (G _).mono ?_; rintro e w2 ⟨rfl, rfl⟩
                clear G
                go_wp2_with fail
                refine (IN _).mono ?_; rintro e w2 ⟨rfl, rfl⟩
                go_wp2
                go_roundw
                case rel => exact ⟨k + 1, p, q, by omega, by first | go_num | (simp; omega), by rw [HS.out, HP.out], rfl, HN2, HALL, trivial⟩
                case measure => simp [intOf]; omega
              · have HO : Aside (trainO xs = none) := (show _ = _ from by
                  have h0 : ratN xs (k + 1) = none := by rw [HNX.out, if_neg (by unfold inM; rw [Bool.and_eq_true]; rintro ⟨h1, h2⟩; exact hM ⟨of_decide_eq_true h1, of_decide_eq_true h2⟩)]
                  unfold trainO
                  split
                  · rw [HN.out, HM2.out, ratN_none h0 (m := m) (by omega)]; rfl
                  · rfl)
                by_cases hp1 : p ≤ 1000000000
                · have IN := fun w => in_yes P (-1000000000) 1000000000 (by omega) (by omega) w
                  have hq1 : (1000000000 : Int) < (q : Int) := by omega
                  clear hM pb
                  go_wp2_with fail
                  refine (GX _).mono ?_; rintro e w2 ⟨rfl, rfl⟩
                  go_wp2_with fail
                  refine (GY _).mono ?_; rintro e w2 ⟨rfl, rfl⟩
                  clear GX GY
                  go_wp2_with fail
                  refine (G _).mono ?_; rintro e w2 ⟨rfl, rfl⟩
                  clear G
                  go_wp2_with fail
                  refine (IN _).mono ?_; rintro e w2 ⟨rfl, rfl⟩
                  go_wp2
                  go_ret3
                  rw [HO.out]
                  exact ⟨rfl, rfl⟩
                · have IN := fun w => in_no P (-1000000000) 1000000000 (by omega) w
                  clear hM pb
                  go_wp2_with fail
                  refine (GX _).mono ?_; rintro e w2 ⟨rfl, rfl⟩
                  go_wp2_with fail
                  refine (GY _).mono ?_; rintro e w2 ⟨rfl, rfl⟩
                  clear GX GY
                  go_wp2_with fail
                  refine (G _).mono ?_; rintro e w2 ⟨rfl, rfl⟩
                  clear G
                  go_wp2_with fail
                  refine (IN _).mono ?_; rintro e w2 ⟨rfl, rfl⟩
                  go_wp2
                  go_ret3
                  rw [HO.out]
                  exact ⟨rfl, rfl⟩
        · obtain rfl : k = m := by omega
          have hkz : ¬ ((2 * k : Nat) : Int) < (n : Int) := by have := HM.out; omega
          have HO : Aside (trainO xs = some (sgnT k * (t : Int), b)) := (show _ = _ from by
            unfold trainO
            rw [trainB_true.2 ⟨by rw [HN.out]; have := HM.out; omega, by rw [HN.out]; have := HM.out; omega, by rw [HN.out, HM.out]; omega, fun x hx => by
              obtain ⟨j, hj, rfl⟩ := List.getElem_of_mem hx
              exact hall.out j _ (by have := HN.out; have := HM.out; omega) (List.getElem?_eq_getElem hj)⟩, if_pos rfl, HN.out, HM2.out, hrat.out]
            rfl)
          generalize sgnT k * (t : Int) = T at *
          clear hall hrat HL
          go_wp2
          go_ret3
          rw [HO.out]
          exact ⟨rfl, rfl⟩
    · have l3 : (xs.length : Int).tmod 2 = 1 := by rw [Int.tmod_eq_emod_of_nonneg (by omega)]; omega
      have HO : Aside (trainO xs = none) := (show _ = _ from trainO_no (by
        cases h : trainB xs with
        | false => rfl
        | true => exact absurd (trainB_true.1 h).2.2.1 hev))
      clear hp hl hev
      go_enter Tryd.func11, Tryd.ntmps11
      go_wp2_with fail
      refine (I1 _).mono ?_; rintro e w1 ⟨rfl, rfl⟩
      go_wp2
      go_ret3
      rw [HO.out]
      exact ⟨rfl, rfl⟩
  · have I1 := fun w => in_no (xs.length : Int) 2 10 (by omega) w
    have HO : Aside (trainO xs = none) := (show _ = _ from trainO_no (by
      cases h : trainB xs with
      | false => rfl
      | true => exact absurd ⟨(trainB_true.1 h).1, (trainB_true.1 h).2.1⟩ hl))
    clear hp hl
    go_enter Tryd.func11, Tryd.ntmps11
    go_wp2_with fail
    refine (I1 _).mono ?_; rintro e w1 ⟨rfl, rfl⟩
    go_wp2
    go_ret3
    rw [HO.out]
    exact ⟨rfl, rfl⟩

theorem specTrainTurns_any (v : Value) (xs : List Int) (w : World) (hv : ReadsL encI w v xs) : Calls Tryd.prog 14 #[v] w fun e w' => e = .returned (turnT (trainO xs)) ∧ w = w' := by
  have R := specTrainRatio_any v xs w hv
  clear hv
  cases h : trainO xs with
  | none =>
    rw [h] at R
    unfold trainT at R
    simp only at R
    clear h
    go_enter Tryd.func14, Tryd.ntmps14
    go_wp2_with fail
    refine R.mono ?_; rintro e w1 ⟨rfl, rfl⟩
    go_wp2
    go_ret2
    exact ⟨rfl, rfl⟩
  | some p =>
    rw [h] at R
    unfold trainT at R
    simp only at R
    clear h
    go_enter Tryd.func14, Tryd.ntmps14
    go_wp2_with fail
    refine R.mono ?_; rintro e w1 ⟨rfl, rfl⟩
    go_wp2
    go_ret2
    exact ⟨rfl, rfl⟩
end Go.Proofs.YtbdhbkedeglagaaDoor
