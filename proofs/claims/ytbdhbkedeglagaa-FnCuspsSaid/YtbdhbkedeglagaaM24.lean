/-
  The walks of the laws FnCusps, FnRounds, FnRing, FnRingSame.
-/
import Derived.Test.YtbdhbkedeglagaaM23
import Derived.Test.YtbdhbkedeglagaaM16
import Derived.Test.YtbdhbkedeglagaaM14
import Derived.Deep.QuietTactic
import Derived.BigQuiet
/- The walks of the laws FnCusps, FnRounds, FnRing, FnRingSame. -/
namespace Go.Proofs.Ytbdhbkedeglagaa
set_option maxRecDepth 20000
open Go.ChangeShapes Go.WideShapes Go.ChangeAt Go.RowKit
set_option linter.unusedVariables false
set_option linter.unusedSimpArgs false

theorem ring_none {a b : Int} {i : Bool} (h : ringB a b i = false) : cuspO a b i = none ∧ roundO a b i = none := by
  unfold cuspO roundO; rw [h]; exact ⟨rfl, rfl⟩
set_option maxHeartbeats 2000000 in
theorem lawFnCusps_walk (v : Value) (w : World) (h : CodeAt w v) : Calls Try.prog 3 #[v] w (Fine w) := by
  have D := Lib.hid (drawRingCusps v w h)
  obtain ⟨pa, pn, pc, rfl, hpn⟩ := code_length h
  clear h
  by_cases hbig : 1048576 < pn
  · have hb : (1048576 : Int) < (pn : Int) := by omega
    go_enter Try.func3, Try.ntmps3
    go_wp2_with fail
    go_ret
    exact fine_same ⟨rfl, rfl⟩
  have hb : ¬ (1048576 : Int) < (pn : Int) := by omega
  go_enter Try.func3, Try.ntmps3
  go_wp2_with fail
  refine D.out.mono ?_; rintro e w1 ⟨a, b, i, rfl, ha, hb2, hL⟩
  clear D
  have T1 := fun w => RingCusps_any a b i w
  have T2 := fun w => specRingCusps_any a b i w
  have T3 := fun w => RingRounds_any a b i w
  cases hB : ringB a b i with
  | false =>
    rw [(ring_none hB).1, toldN_none] at T1 T2
    clear hB T3
    go_wp2_with fail
    refine (T1 _).mono ?_; rintro e w2 ⟨rfl, hb3⟩
    replace hL := below_next hL hb3
    go_wp2_with fail
    refine (T2 _).mono ?_; rintro e w3 ⟨rfl, rfl⟩
    go_wp2
    go_ret
    exact ⟨rfl, hL⟩
  | true =>
    obtain ⟨x, y, k, l, g, rfl, rfl, ex, ey, g1, k1, l1, hk, hl, hx, hy, ec, er⟩ := cusp_round hB
    rw [ec, toldN_some] at T1 T2
    rw [er, toldN_some] at T3
    obtain ⟨m, hm⟩ : ∃ m : Int, (k : Int) * (y : Int) = m := ⟨_, rfl⟩
    have hm2 : (l : Int) * (x : Int) = m := by
      rw [← hm, ex, ey, Int.natCast_mul, Int.natCast_mul, ← Int.mul_assoc, ← Int.mul_assoc, Int.mul_comm (l : Int) (k : Int)]
    have hmb : 0 ≤ m ∧ m ≤ 57600 := by
      rw [← hm, ← Int.natCast_mul]
      have := Nat.mul_le_mul hk hy
      omega
    have hmw : IntKind.i64.wrap m = m := by rw [IntKind.wrap_i64]; omega
    have hk2 : (1 : Int) ≤ (k : Int) := by omega
    have hkk : ((k : Int) != (k : Int)) = false := by simp
    have hmm : (m == m) = true := by simp
    clear hB ec er ex ey
    go_wp2_with fail
    refine (T1 _).mono ?_; rintro e w2 ⟨rfl, hb3⟩
    replace hL := below_next hL hb3
    go_wp2_with fail
    refine (T2 _).mono ?_; rintro e w3 ⟨rfl, rfl⟩
    go_wp2_with fail
    refine (T3 _).mono ?_; rintro e w4 ⟨rfl, hb4⟩
    replace hL := below_next hL hb4
    go_wp2
    go_ret
    exact ⟨rfl, hL⟩
set_option maxHeartbeats 2000000 in
theorem lawFnRounds_walk (v : Value) (w : World) (h : CodeAt w v) : Calls Try.prog 4 #[v] w (Fine w) := by
  have D := Lib.hid (drawRingRounds v w h)
  obtain ⟨pa, pn, pc, rfl, hpn⟩ := code_length h
  clear h
  by_cases hbig : 1048576 < pn
  · have hb : (1048576 : Int) < (pn : Int) := by omega
    go_enter Try.func4, Try.ntmps4
    go_wp2_with fail
    go_ret
    exact fine_same ⟨rfl, rfl⟩
  have hb : ¬ (1048576 : Int) < (pn : Int) := by omega
  go_enter Try.func4, Try.ntmps4
  go_wp2_with fail
  refine D.out.mono ?_; rintro e w1 ⟨a, b, i, rfl, ha, hb2, hL⟩
  clear D
  have T1 := fun w => RingRounds_any a b i w
  have T2 := fun w => specRingRounds_any a b i w
  have T3 := fun w => RingCusps_any a b i w
  cases hB : ringB a b i with
  | false =>
    rw [(ring_none hB).2, toldN_none] at T1 T2
    clear hB T3
    go_wp2_with fail
    refine (T1 _).mono ?_; rintro e w2 ⟨rfl, hb3⟩
    replace hL := below_next hL hb3
    go_wp2_with fail
    refine (T2 _).mono ?_; rintro e w3 ⟨rfl, rfl⟩
    go_wp2
    go_ret
    exact ⟨rfl, hL⟩
  | true =>
    obtain ⟨x, y, k, l, g, rfl, rfl, ex, ey, g1, k1, l1, hk, hl, hx, hy, ec, er⟩ := cusp_round hB
    rw [er, toldN_some] at T1 T2
    rw [ec, toldN_some] at T3
    have r1 : (y : Int).tmod (l : Int) = 0 := by rw [ey, Int.natCast_mul]; exact Int.mul_tmod_right _ _
    have r2 : (x : Int).tmod (k : Int) = 0 := by rw [ex, Int.natCast_mul]; exact Int.mul_tmod_right _ _
    have d1 : (y : Int).tdiv (l : Int) = (g : Int) := by rw [ey, Int.natCast_mul]; exact Int.mul_tdiv_cancel_left _ (by omega)
    have d2 : (x : Int).tdiv (k : Int) = (g : Int) := by rw [ex, Int.natCast_mul]; exact Int.mul_tdiv_cancel_left _ (by omega)
    have hgx : g ≤ x := by rw [ex]; exact Nat.le_mul_of_pos_left _ k1
    have gw : IntKind.i64.wrap (g : Int) = (g : Int) := by rw [IntKind.wrap_i64]; omega
    have k2 : ¬ (k : Int) = 0 := by omega
    have k3 : ((k : Int) == 0) = false := by simp; omega
    have k4 : ¬ k = 0 := by omega
    have l2 : ¬ (l : Int) = 0 := by omega
    have l3 : ((l : Int) == 0) = false := by simp; omega
    have l4 : ¬ l = 0 := by omega
    have hll : ((l : Int) != (l : Int)) = false := by simp
    have hgg : ((g : Int) == (g : Int)) = true := by simp
    clear hB ec er ex ey
    go_wp2_with fail
    refine (T1 _).mono ?_; rintro e w2 ⟨rfl, hb3⟩
    replace hL := below_next hL hb3
    go_wp2_with fail
    refine (T2 _).mono ?_; rintro e w3 ⟨rfl, rfl⟩
    go_wp2_with fail
    refine (T3 _).mono ?_; rintro e w4 ⟨rfl, hb4⟩
    replace hL := below_next hL hb4
    go_wp2_with fail
    go_quiet (fail)
    go_wp2_with fail
    go_ret
    exact ⟨rfl, below_drewN hL _⟩
set_option maxHeartbeats 4000000 in
theorem lawFnRingSame_walk (v : Value) (w : World) (h : CodeAt w v) : Calls Try.prog 6 #[v] w (Fine w) := by
  have D := Lib.hid (drawRingSame v w h)
  obtain ⟨pa, pn, pc, rfl, hpn⟩ := code_length h
  clear h
  by_cases hbig : 1048576 < pn
  · have hb : (1048576 : Int) < (pn : Int) := by omega
    go_enter Try.func6, Try.ntmps6
    go_wp2_with fail
    go_ret
    exact fine_same ⟨rfl, rfl⟩
  have hb : ¬ (1048576 : Int) < (pn : Int) := by omega
  go_enter Try.func6, Try.ntmps6
  go_wp2_with fail
  refine D.out.mono ?_; rintro e w1 ⟨a, b, p, q, rfl, ha, hb2, hL⟩
  clear D
  obtain ⟨x, rfl⟩ : ∃ x : Nat, a = x := ⟨a.toNat, by omega⟩
  obtain ⟨y, rfl⟩ : ∃ y : Nat, b = y := ⟨b.toNat, by omega⟩
  have e1 : IntKind.i64.wrap ((x : Int) - (y : Int)) = (x : Int) - (y : Int) := by rw [IntKind.wrap_i64]; omega
  have e2 : IntKind.i64.wrap ((x : Int) - ((x : Int) - (y : Int))) = (y : Int) := by rw [IntKind.wrap_i64]; omega
  have T1 := fun w => RingSame_any x y p q _ e1 w
  have T2 := fun w => specRingSame_any x y p q _ e1 w
  have T3 := fun w => RingSame_any x ((x : Int) - (y : Int)) q p _ e2 w
  have T4 := fun w => RingSame_any x y y ((x : Int) - (y : Int)) _ e1 w
  have R1 := fun w => RingDesign_any x y true y w
  have R2 := fun w => RingDesign_any x ((x : Int) - (y : Int)) true ((x : Int) - (y : Int)) w
  have K1 := Lib.hid (sameR_swap (a := (x : Int)) (b := (y : Int)) (p := p) (q := q))
  have K2 := Lib.hid (sameR_two (x := x) (y := y) (by omega))
  generalize ringO (x : Int) (y : Int) true (y : Int) = o1 at *
  generalize ringO (x : Int) ((x : Int) - (y : Int)) true ((x : Int) - (y : Int)) = o2 at *
  generalize sameR (x : Int) (y : Int) ((x : Int) - (y : Int)) (y : Int) ((x : Int) - (y : Int)) = s4 at *
  generalize sameR (x : Int) (y : Int) ((x : Int) - (y : Int)) p q = s1 at *
  generalize sameR (x : Int) ((x : Int) - (y : Int)) (y : Int) q p = s3 at *
  clear e2
  cases s1 with
  | false =>
    go_wp2_with fail
    refine (T1 _).mono ?_; rintro e w2 ⟨rfl, hb3⟩
    replace hL := below_next hL hb3
    go_wp2_with fail
    refine (T2 _).mono ?_; rintro e w3 ⟨rfl, hb4⟩
    replace hL := below_next hL hb4
    go_wp2
    go_ret
    exact ⟨rfl, hL⟩
  | true =>
    obtain rfl := K1.out rfl
    clear K1
    obtain ⟨i1, hi1⟩ : ∃ i, o1.isSome = i := ⟨_, rfl⟩
    obtain ⟨i2, hi2⟩ : ∃ i, o2.isSome = i := ⟨_, rfl⟩
    have K2 : Aside (i1 = true → i2 = true → s4 = true) := (show i1 = true → i2 = true → s4 = true from fun h1 h2 => K2.out (by rw [hi1, h1]) (by rw [hi2, h2]))
    have HI1 := Lib.hid hi1
    have HI2 := Lib.hid hi2
    clear hi1 hi2
    go_wp2_with fail
    refine (T1 _).mono ?_; rintro e w2 ⟨rfl, hb3⟩
    replace hL := below_next hL hb3
    clear hb3 T1
    go_wp2_with fail
    refine (T2 _).mono ?_; rintro e w3 ⟨rfl, hb4⟩
    replace hL := below_next hL hb4
    clear hb4 T2
    go_wp2_with fail
    refine (R1 _).mono ?_; rintro e w4 ⟨hb5, v4, rfl, -⟩
    rw [HI1.out]
    replace hL := below_next hL hb5
    clear hb5 R1
    go_wp2_with fail
    refine (R2 _).mono ?_; rintro e w5 ⟨hb6, v5, rfl, -⟩
    rw [HI2.out]
    replace hL := below_next hL hb6
    clear hb6 R2
    go_wp2_with fail
    refine (T3 _).mono ?_; rintro e w6 ⟨rfl, hb7⟩
    replace hL := below_next hL hb7
    clear hb7 T3
    cases i1 with
    | false =>
      go_wp2
      go_ret
      exact ⟨rfl, hL⟩
    | true =>
      cases i2 with
      | false =>
        go_wp2
        go_ret
        exact ⟨rfl, hL⟩
      | true =>
        obtain rfl := K2.out rfl rfl
        go_wp2_with fail
        refine (T4 _).mono ?_; rintro e w7 ⟨rfl, hb8⟩
        replace hL := below_next hL hb8
        go_wp2
        go_ret
        exact ⟨rfl, hL⟩
set_option maxHeartbeats 8000000 in
theorem lawFnRing_walk (v : Value) (w : World) (h : CodeAt w v) : Calls Try.prog 5 #[v] w (Fine w) := by
  have D := Lib.hid (drawRingDesign v w h)
  obtain ⟨pa, pn, pc, rfl, hpn⟩ := code_length h
  clear h
  by_cases hbig : 1048576 < pn
  · have hb : (1048576 : Int) < (pn : Int) := by omega
    go_enter Try.func5, Try.ntmps5
    go_wp2_with fail
    go_ret
    exact fine_same ⟨rfl, rfl⟩
  have hb : ¬ (1048576 : Int) < (pn : Int) := by omega
  go_enter Try.func5, Try.ntmps5
  go_wp2_with fail
  refine D.out.mono ?_; rintro e w1 ⟨a, b, i, p, rfl, ha, hb2, hp, hL⟩
  clear D
  have T1 := fun w => RingDesign_any a b i p w
  have T2 := fun w => specRingDesign_any a b i p w
  have T3 := fun w => RingCusps_any a b i w
  cases hx : ringO a b i p with
  | none =>
    rw [hx] at T1 T2
    clear hx T3
    go_wp2_with fail
    refine (T1 _).mono ?_; rintro e w2 ⟨hbw, v2, rfl, ho⟩
    replace hL := below_next hL hbw
    have hO : Reads w2 v2 [] := own_reads ho
    clear ho hbw
    go_wp2_with fail
    refine (T2 _).mono ?_; rintro e w3 ⟨hbw, v3, rfl, ho⟩
    replace hL := below_next hL hbw
    replace hO := hO.below hbw
    have hW : Reads w3 v3 [] := own_reads ho
    clear ho hbw T1 T2
    go_wp2_with fail
    refine (same_self v2 v3 _ _ hO hW).mono ?_; rintro e w4 ⟨rfl, hbw⟩
    replace hL := below_next hL hbw
    replace hO := hO.below hbw
    replace hW := hW.below hbw
    clear hbw
    go_wp2_with fail
    refine (same_self v2 v3 _ _ hO hW).mono ?_; rintro e w5 ⟨rfl, hbw⟩
    replace hL := below_next hL hbw
    go_wp2
    go_ret
    exact ⟨rfl, hL⟩
  | some R =>
    rw [hx] at T1 T2
    have hB := (ringO_tidy hx).1
    obtain ⟨hA1, hA2, hA3⟩ := ring_first hx
    have HF := Lib.hid (fun h => ring_fold hx h)
    obtain ⟨c, hc⟩ : ∃ c : Int, cuspO a b i = some c := by unfold cuspO; rw [hB, if_pos rfl]; exact ⟨_, rfl⟩
    rw [hc, toldN_some] at T3
    have HF2 : Aside (p ≠ 0 → foldO R = c) := (show p ≠ 0 → foldO R = c from fun h => by
      obtain ⟨c2, h1, h2⟩ := HF.out h
      rw [hc] at h1
      rw [h2, ← Option.some.inj h1])
    clear HF hc
    obtain ⟨z, hz⟩ : ∃ z : Int, firstP2 a b i p = z := ⟨_, rfl⟩
    rw [hz] at hA1 hA2 hA3
    have HZ := Lib.hid hz
    have A1 := fun v w (h : Reads w v R) => DesignAt_any v R 0 w h
    have eA : pointOf (some (dn (gau z 0))) = .tuple #[.agg (vec 8 (gau z 0)), .bool true] := by
      show Value.tuple #[pt (dn (gau z 0)).up, .bool true] = _
      rw [pt_same (a := (dn (gau z 0)).up) (b := gau z 0) fun j hj => up_dn _ j hj]
    rw [hA1, eA] at A1
    have C := fun w => CycGauss_any z 0 w
    have hok : okc (gau z 0) = true := by
      have := okv_gau (r := z) (by omega)
      rwa [okv_dn] at this
    rw [ans_yes hok] at C
    have F := fun v w (h : Reads w v R) => DesignFold_any v R w h
    generalize foldO R = fo at *
    clear hx hB hA1 eA hz hok
    go_wp2_with fail
    refine (T1 _).mono ?_; rintro e w2 ⟨hbw, v2, rfl, ho⟩
    replace hL := below_next hL hbw
    have hO : Reads w2 v2 R := own_reads ho
    clear ho hbw
    go_wp2_with fail
    refine (T2 _).mono ?_; rintro e w3 ⟨hbw, v3, rfl, ho⟩
    replace hL := below_next hL hbw
    replace hO := hO.below hbw
    have hW : Reads w3 v3 R := own_reads ho
    clear ho hbw T1 T2
    go_wp2_with fail
    refine (same_self v2 v3 _ _ hO hW).mono ?_; rintro e w4 ⟨rfl, hbw⟩
    replace hL := below_next hL hbw
    replace hO := hO.below hbw
    clear hbw hW
    go_wp2_with fail
    refine (T3 _).mono ?_; rintro e w5 ⟨rfl, hbw⟩
    replace hL := below_next hL hbw
    replace hO := hO.below hbw
    clear hbw T3
    go_wp2_with fail
    refine (A1 _ _ hO).mono ?_; rintro e w6 ⟨rfl, hbw⟩
    replace hL := below_next hL hbw
    replace hO := hO.below hbw
    clear hbw A1
    go_upto_region 10 with (refine store_new (ty := 36) rfl rfl rfl rfl zero8 info_cyc ?_)
    show Code.wp _ _ _ _ (w6.alloc (.cells (vec 8 (gau z 0)) 36))
    replace hO := reads_box hO (.cells (vec 8 (gau z 0)) 36)
    have r_a := RowAt.new w6 8 36 (gau z 0)
    replace hL := hL.alloc hL.size (.cells (vec 8 (gau z 0)) 36)
    generalize w6.heap.size = g_r_a at *
    generalize w6.alloc (.cells (vec 8 (gau z 0)) 36) = W6 at *
    cases i with
    | false =>
      have hz : a + b - p = z := HZ.out
      have hz0 : IntKind.i64.wrap z = z := by rw [IntKind.wrap_i64]; omega
      go_wp2_with fail
      refine (C _).mono ?_; rintro e w7 ⟨rfl, hbw⟩
      replace hL := below_next hL hbw
      replace hO := hO.below hbw
      replace r_a := r_a.below hbw
      clear hbw C
      unfold pt
      go_upto_region 14 with (refine store_new (ty := 36) rfl rfl rfl rfl zero8 info_cyc ?_)
      show Code.wp _ _ _ _ (w7.alloc (.cells (vec 8 (gau z 0)) 36))
      replace hO := reads_box hO (.cells (vec 8 (gau z 0)) 36)
      replace r_a := r_a.alloc (.cells (vec 8 (gau z 0)) 36)
      have r_b := RowAt.new w7 8 36 (gau z 0)
      replace hL := hL.alloc hL.size (.cells (vec 8 (gau z 0)) 36)
      generalize w7.heap.size = g_r_b at *
      generalize w7.alloc (.cells (vec 8 (gau z 0)) 36) = W7 at *
      have EQ := fun w => equal_cyc (gau z 0) (gau z 0) w
      rw [eqv_true fun j _ => rfl] at EQ
      clear hz HZ
      generalize gau z 0 = f at *
      by_cases hp0 : p = 0
      · subst hp0
        go_wp2_with (first | (refine load_row rfl rfl rfl r_a Try.underlying36 rfl info_cyc ?_) | (refine load_row_on (by rfl) rfl rfl r_a Try.underlying36 rfl info_cyc ?_) | (refine load_row rfl rfl rfl r_b Try.underlying36 rfl info_cyc ?_) | (refine load_row_on (by rfl) rfl rfl r_b Try.underlying36 rfl info_cyc ?_))
        go_ret
        exact ⟨rfl, hL⟩
      · have hpb : (p == 0) = false := by simpa using hp0
        obtain rfl := HF2.out hp0
        have hff : (fo == fo) = true := by simp
        go_wp2_with (first | (refine load_row rfl rfl rfl r_a Try.underlying36 rfl info_cyc ?_) | (refine load_row_on (by rfl) rfl rfl r_a Try.underlying36 rfl info_cyc ?_) | (refine load_row rfl rfl rfl r_b Try.underlying36 rfl info_cyc ?_) | (refine load_row_on (by rfl) rfl rfl r_b Try.underlying36 rfl info_cyc ?_))
        refine (F _ _ hO).mono ?_; rintro e w8 ⟨rfl, hbw⟩
        replace hL := below_next hL hbw
        go_wp2
        go_ret
        exact ⟨rfl, hL⟩
    | true =>
      have hz : a - b + p = z := HZ.out
      have hz0 : IntKind.i64.wrap z = z := by rw [IntKind.wrap_i64]; omega
      go_wp2_with fail
      refine (C _).mono ?_; rintro e w7 ⟨rfl, hbw⟩
      replace hL := below_next hL hbw
      replace hO := hO.below hbw
      replace r_a := r_a.below hbw
      clear hbw C
      unfold pt
      go_upto_region 14 with (refine store_new (ty := 36) rfl rfl rfl rfl zero8 info_cyc ?_)
      show Code.wp _ _ _ _ (w7.alloc (.cells (vec 8 (gau z 0)) 36))
      replace hO := reads_box hO (.cells (vec 8 (gau z 0)) 36)
      replace r_a := r_a.alloc (.cells (vec 8 (gau z 0)) 36)
      have r_b := RowAt.new w7 8 36 (gau z 0)
      replace hL := hL.alloc hL.size (.cells (vec 8 (gau z 0)) 36)
      generalize w7.heap.size = g_r_b at *
      generalize w7.alloc (.cells (vec 8 (gau z 0)) 36) = W7 at *
      have EQ := fun w => equal_cyc (gau z 0) (gau z 0) w
      rw [eqv_true fun j _ => rfl] at EQ
      clear hz HZ
      generalize gau z 0 = f at *
      by_cases hp0 : p = 0
      · subst hp0
        go_wp2_with (first | (refine load_row rfl rfl rfl r_a Try.underlying36 rfl info_cyc ?_) | (refine load_row_on (by rfl) rfl rfl r_a Try.underlying36 rfl info_cyc ?_) | (refine load_row rfl rfl rfl r_b Try.underlying36 rfl info_cyc ?_) | (refine load_row_on (by rfl) rfl rfl r_b Try.underlying36 rfl info_cyc ?_))
        go_ret
        exact ⟨rfl, hL⟩
      · have hpb : (p == 0) = false := by simpa using hp0
        obtain rfl := HF2.out hp0
        have hff : (fo == fo) = true := by simp
        go_wp2_with (first | (refine load_row rfl rfl rfl r_a Try.underlying36 rfl info_cyc ?_) | (refine load_row_on (by rfl) rfl rfl r_a Try.underlying36 rfl info_cyc ?_) | (refine load_row rfl rfl rfl r_b Try.underlying36 rfl info_cyc ?_) | (refine load_row_on (by rfl) rfl rfl r_b Try.underlying36 rfl info_cyc ?_))
        refine (F _ _ hO).mono ?_; rintro e w8 ⟨rfl, hbw⟩
        replace hL := below_next hL hbw
        go_wp2
        go_ret
        exact ⟨rfl, hL⟩
end Go.Proofs.Ytbdhbkedeglagaa
