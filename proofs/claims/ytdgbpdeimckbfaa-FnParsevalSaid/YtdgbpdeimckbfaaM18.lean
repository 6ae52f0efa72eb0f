/-
  The model's rows: what is a row, transforms, shifted rows, products.
-/
import Derived.Test.YtdgbpdeimckbfaaM16
import Derived.Test.YtdgbpdeimckbfaaM01
import Derived.Test.YtdgbpdeimckbfaaM12
/- The model's rows: what is a row, transforms, shifted rows, products. -/
namespace Go.Proofs.Ytdgbpdeimckbfaa
set_option maxRecDepth 20000
open Go.ChangeShapes Go.WideShapes Go.ChangeAt Go.RowKit
set_option linter.unusedVariables false
set_option linter.unusedSimpArgs false

theorem specLength_any (n : Int) (w : World) : Calls Try.prog 72 #[.int .i64 n] w fun e w' => e = .returned (.bool (rowZ n)) ∧ w = w' := by
  by_cases h1 : 1 ≤ n
  · obtain ⟨m, rfl⟩ : ∃ m : Nat, n = m := ⟨n.toNat, by omega⟩
    rw [rowZ_nat]
    have h0 : ¬ (m : Int) = 0 := by omega
    by_cases h24 : (m : Int) ≤ 24
    · have h00 : ((m : Int) == 0) = false := by simpa using h0
      obtain ⟨q, hq⟩ : ∃ q, 24 % m = q := ⟨_, rfl⟩
      have hle : q ≤ 24 := by rw [← hq]; exact Nat.mod_le 24 m
      have e : Int.tmod 24 (m : Int) = (q : Int) := by
        rw [Int.tmod_eq_emod_of_nonneg (by decide), ← hq]; simp
      have er : rowLen m = ((q : Int) == 0) := by
        unfold rowLen
        rw [decide_eq_true (by omega : 1 ≤ m), Bool.true_and, hq]
        by_cases h : q = 0
        · subst h; rfl
        · rw [decide_eq_false h]; symm; simpa using h
      rw [er]
      clear er hq
      have e2 : (24 : Int).tmod (m : Int) = (q : Int) := e
      have q1 : IntKind.i64.wrap (q : Int) = (q : Int) := by rw [IntKind.wrap_i64]; omega
      go_enter Try.func72, Try.ntmps72
      go_wp2
      go_ret
      exact ⟨rfl, rfl⟩
    · have er : rowLen m = false := by
        cases h : rowLen m
        · rfl
        · have := (rowLen_in h).2.2; omega
      rw [er]
      go_enter Try.func72, Try.ntmps72
      go_wp2
      go_ret
      exact ⟨rfl, rfl⟩
  · have e : rowZ n = false := by unfold rowZ; rw [decide_eq_false h1]; rfl
    rw [e]
    go_enter Try.func72, Try.ntmps72
    go_wp2
    go_ret
    exact ⟨rfl, rfl⟩
theorem specV (a : V) (w : World) : Calls Try.prog 71 #[pt a.up] w fun e w' => e = .returned (.bool (okv a)) ∧ Below w.heap.size w w' := specValid_any a.up w
theorem specTurnV (a : V) {t : Nat} (ht : t ≤ 23) (ha : okv a = true) (w : World) : Calls Try.prog 129 #[pt a.up, .int .i64 t] w fun e w' => e = .returned (pt (tV t a).up) ∧ Below w.heap.size w w' := by
  rw [← pt_tV a ht]; exact specTurned_any a.up t ht (inR_bound ha) w
theorem specSumV (a b : V) (ha : Big a 8000000000000000) (hb : Big b 1000000000) (w : World) : Calls Try.prog 128 #[pt a.up, .int .i64 1, pt b.up] w fun e w' => e = .returned (pt (V.add a b).up) ∧ Below w.heap.size w w' := by
  have e : pt (mul1 a.up 1 b.up) = pt (V.add a b).up := pt_same fun j hj => by rw [add_up]; show a.up j + 1 * b.up j = a.up j + b.up j; omega
  rw [← e]; exact specSum_any a.up b.up 1 (by omega) ha hb w

set_option maxHeartbeats 2000000 in
theorem specRowValid_any (v : Value) (xs : List V) (w : World) (hv : ReadsL encV w v xs) : Calls Try.prog 24 #[v] w fun e w' => e = .returned (.bool (rowOk xs)) ∧ Below w.heap.size w w' := by
  obtain ⟨p, cap, rfl, hc1, hc2, hp0, hp⟩ := hv
  simp only [maxLen] at hc2
  have HP := Lib.hid hp
  clear hp
  generalize hres : rowOk xs = res
  have HRES := Lib.hid hres
  clear hres
  have LN := fun w => specLength_any (xs.length : Int) w
  rw [rowZ_nat] at LN
  go_enter Try.func24, Try.ntmps24
  go_wp2
  go_loopw [3] (fun i wr => ∃ k : Nat, k ≤ xs.length ∧ i = .int .i64 k ∧ (xs.take k).all okv = true ∧ Below w.heap.size w wr) (fun i _ => xs.length - (intOf i).toNat)
  case atStart => exact ⟨0, Nat.zero_le _, rfl, rfl, Below.refl _ _⟩
  case round =>
    obtain ⟨k, hk, rfl, hall, hbel⟩ := hrel
    have HL := Lib.hid hbel
    have HA := Lib.hid hall
    clear hall
    by_cases hlt : k < xs.length
    · have hkz : (k : Int) < (xs.length : Int) := by omega
      have hk0 : (0 : Int) ≤ (k : Int) := by omega
      obtain ⟨c, hc⟩ : ∃ c, xs[k]? = some c := ⟨_, List.getElem?_eq_getElem hlt⟩
      obtain ⟨g, o, rfl, hg, hr⟩ := HP.out (by rintro rfl; have := hp0 rfl; omega)
      have HE := Lib.hid (cells_part encV_ok (cells_below hr hg hbel) hc)
      have HC := Lib.hid hc
      have C := fun w => specV c w
      clear hr hbel hc LN
      cases h1 : okv c
      · have HF : Aside (res = false) := (show res = false from by rw [← HRES.out]; exact rowOk_bad HC.out h1)
        rw [h1] at C
        go_wp2_with (first | (refine load_part (T := 36) (f := c.up) rfl rfl rfl HE.out Try.underlying36 rfl info_cyc ?_))
        refine (C _).mono ?_; rintro e w2 ⟨rfl, hb2⟩
        have HL2 := Lib.hid (below_next HL.out hb2)
        clear C hb2
        go_wp2
        go_ret
        exact ⟨by rw [HF.out]; rfl, HL2.out⟩
      · rw [h1] at C
        go_wp2_with (first | (refine load_part (T := 36) (f := c.up) rfl rfl rfl HE.out Try.underlying36 rfl info_cyc ?_))
        refine (C _).mono ?_; rintro e w2 ⟨rfl, hb2⟩
        have HL2 := Lib.hid (below_next HL.out hb2)
        clear C hb2
        go_wp2
        go_roundw
        case rel => exact ⟨k + 1, by omega, by go_num, okAll_take HA.out HC.out h1, HL2.out⟩
        case measure => simp [intOf]; omega
    · obtain rfl : k = xs.length := by omega
      have HF : Aside (res = rowLen xs.length) := (show res = _ from by
        have ha := HA.out
        rw [List.take_length] at ha
        rw [← HRES.out]; unfold rowOk; rw [ha, Bool.and_true])
      clear hbel
      go_wp2_with fail
      refine (LN _).mono ?_; rintro e w2 ⟨rfl, rfl⟩
      clear LN
      go_wp2
      go_ret
      exact ⟨by rw [HF.out]; rfl, HL.out⟩

/-! Transforms. -/
theorem rowOk_ne' {xs : List V} (h : rowOk xs = true) : ¬ xs = [] := by
  intro e; have := (rowOk_short h).1; rw [e] at this; simp at this
theorem zeroV8 : pt V.zero.up = Value.agg (vec 8 nul) := by rw [zero_up]
theorem step_turn (s : Int) (p n j k : Nat) (hs : (s = -1 ∧ p = bw n) ∨ (s = 1 ∧ p = fw n)) : s * (j : Int) * (k : Int) * ((24 / n : Nat) : Int) % 24 = ((p * (j * k) % 24 : Nat) : Int) := by
  have h24 : 24 / n ≤ 24 := Nat.div_le_self 24 n
  have e0 : (j : Int) * (k : Int) * ((24 / n : Nat) : Int) = (((24 / n) * (j * k) : Nat) : Int) := by
    rw [← Int.natCast_mul, ← Int.natCast_mul, Nat.mul_comm]
  rcases hs with ⟨rfl, rfl⟩ | ⟨rfl, rfl⟩
  · have e1 : (-1 : Int) * (j : Int) * (k : Int) * ((24 / n : Nat) : Int) = -(((24 / n) * (j * k) : Nat) : Int) := by
      rw [← e0]; simp [Int.neg_mul]
    rw [e1]
    unfold bw
    have e2 : (24 - 24 / n) * (j * k) + 24 / n * (j * k) = 24 * (j * k) := by rw [← Nat.add_mul]; congr 1; omega
    omega
  · rw [Int.one_mul, e0]
    unfold fw
    omega
theorem step_bound {s : Int} {q j k : Nat} (hs : s = -1 ∨ s = 1) (hq : q ≤ 24) (hj : j ≤ 24) (hk : k ≤ 24) : (-600 ≤ s * (j : Int) ∧ s * (j : Int) ≤ 600) ∧ (-600 ≤ s * (j : Int) * (k : Int) ∧ s * (j : Int) * (k : Int) ≤ 600) ∧ (-20000 ≤ s * (j : Int) * (k : Int) * (q : Int) ∧ s * (j : Int) * (k : Int) * (q : Int) ≤ 20000) := by
  have h1 : j * k ≤ 24 * 24 := Nat.mul_le_mul hj hk
  have h2 : j * k * q ≤ 24 * 24 * 24 := Nat.mul_le_mul h1 hq
  have e1 : (j : Int) * (k : Int) = ((j * k : Nat) : Int) := by simp
  have e2 : ((j * k : Nat) : Int) * (q : Int) = ((j * k * q : Nat) : Int) := by rw [← Int.natCast_mul]
  rcases hs with rfl | rfl
  · have e3 : (-1 : Int) * (j : Int) = -(j : Int) := by omega
    have e4 : -(j : Int) * (k : Int) = -((j * k : Nat) : Int) := by rw [Int.neg_mul, e1]
    have e5 : -((j * k : Nat) : Int) * (q : Int) = -((j * k * q : Nat) : Int) := by rw [Int.neg_mul, e2]
    rw [e3, e4, e5]
    omega
  · rw [Int.one_mul, e1, e2]
    omega
theorem own_setRow {w : World} {B T n K : Nat} {v : Value} {cs : List Value} {gx : Nat} (h : w.ownsRow B T K v n cs) (hu : ∀ k, v.ownBlock = some k → k < gx) (xs : Array Value) : (w.setRow gx xs).ownsRow B T K v n cs := by
  refine World.ownsRow.kept (row := some gx) h ⟨rfl, rfl, rfl, by simp [World.setRow], fun k hk hne => setRow_other w gx k _ (fun e => hne (by rw [e]))⟩ ?_
  cases e : v.ownBlock with
  | none => exact .inl rfl
  | some k => exact .inr (by have := hu k e; simp; omega)
theorem ownL_nilB (w : World) (B : Nat) (T : Nat) (hB : B ≤ w.heap.size) : (w.alloc (.cells #[] T)).ownsRow B T 8 (.slice (some ⟨w.heap.size, 0, none⟩) 0 0) 0 [] := World.ownsRow_made w #[] 0 hB (by simp [maxLen]) (by simp)
theorem trO_sum {p : Nat} {xs : List V} (h : rowOk xs = true) : trO p xs = coll (fun j => sumN (fun k => tV (p * (j * k)) (at' xs k)) xs.length) xs.length := by unfold trO; rw [if_pos h]

set_option maxHeartbeats 6000000 in
theorem specTransform_any (v : Value) (xs : List V) (s : Int) (p : Nat) (w : World) (hv : ReadsL encV w v xs) (hs : (s = -1 ∧ p = bw xs.length) ∨ (s = 1 ∧ p = fw xs.length)) : Calls Try.prog 90 #[v, .int .i64 s] w (ToldL 36 w (trO p xs)) := by
  have RV := fun w h => specRowValid_any v xs w h
  have HV := Lib.hid hv
  generalize hres : trO p xs = res
  have HRES := Lib.hid hres
  clear hres
  have hz : Below w.heap.size w (w.alloc (.cells #[] 36)) := (Below.refl _ _).alloc (Nat.le_refl _) _
  have RV := RV (w.alloc (.cells #[] 36)) (hv.below hz)
  have HO0 := Lib.hid (ownL_nilB w w.heap.size 36 (Nat.le_refl _))
  have HL0 := Lib.hid hz
  clear hz hv
  cases hr : rowOk xs
  · have HF : Aside (res = none) := (show res = none from by rw [← HRES.out]; unfold trO; rw [hr]; rfl)
    rw [hr] at RV
    have RV := Lib.hid RV
    clear hr hs
    go_enter Try.func90, Try.ntmps90
    go_wp2_with fail
    refine RV.out.mono ?_; rintro e w1 ⟨rfl, hb1⟩
    have HL1 := Lib.hid (below_next HL0.out hb1)
    have HO1 := Lib.hid (rows_below HO0.out hb1)
    clear RV hb1 HL0 HO0
    go_wp2
    go_ret2
    rw [HF.out]
    exact ⟨HL1.out, _, rfl, HO1.out⟩
  · rw [hr] at RV
    obtain ⟨hl1, hl24⟩ := rowOk_short hr
    have HR := Lib.hid hr
    have HS := Lib.hid hs
    have hs1 : s = -1 ∨ s = 1 := by rcases hs with h | h; exact .inl h.1; exact .inr h.1
    obtain ⟨g0, o0, c0, rfl, hc0, hm0, hg0, hrg0⟩ : ∃ g o cap, v = .slice (some ⟨g, o, none⟩) xs.length cap ∧ xs.length ≤ cap ∧ cap ≤ maxLen ∧ g < w.heap.size ∧ w.rangeAt g o (flt encV xs) := by
      obtain ⟨q, cap, rfl, h1, h2, h3, h4⟩ := HV.out
      obtain ⟨g, o, rfl, hg, hr⟩ := h4 (by intro e; have := h3 e; omega)
      exact ⟨g, o, cap, rfl, h1, h2, hg, hr⟩
    have HR0 := Lib.hid hrg0
    simp only [maxLen] at hm0
    have RV := Lib.hid RV
    clear hr hs hrg0 HV
    go_enter Try.func90, Try.ntmps90
    go_wp2_with fail
    refine RV.out.mono ?_; rintro e w1 ⟨rfl, hb1⟩
    have HL1 := Lib.hid (below_next HL0.out hb1)
    have HO1 := Lib.hid (rows_below HO0.out hb1)
    clear RV hb1 HL0 HO0
    go_wp2
    generalize hb : w.heap.size = b at *
    go_loopw [6, 8, 9, 10] (fun s6 i _ _ wr => ∃ (j : Nat) (l : List V), j ≤ xs.length ∧ i = .int .i64 j ∧ coll (fun j => sumN (fun k => tV (p * (j * k)) (at' xs k)) xs.length) j = some l ∧ OwnL encV 8 wr b 36 s6 l ∧ Below b w wr) (fun _ i _ _ _ => xs.length - (intOf i).toNat)
    case atStart => exact ⟨0, [], Nat.zero_le _, rfl, rfl, HO1.out, HL1.out⟩
    case round =>
      clear HO1 HL1
      obtain ⟨j, l, hj, rfl, hl, hO, hbel⟩ := hrel
      have HL := Lib.hid hl
      have HO := Lib.hid hO
      have HB := Lib.hid hbel
      have hZ : b ≤ wr.heap.size := by have := hbel.size; omega
      clear hl hO hbel
      by_cases hlt : j < xs.length
      · have hjz : (j : Int) < (xs.length : Int) := by omega
        have hj0 : (0 : Int) ≤ (j : Int) := by omega
        have HOa := Lib.hid (World.ownsRow.alloc HO.out (.cells (vec 8 nul) 36))
        have HBa := Lib.hid (HB.out.alloc hZ (.cells (vec 8 nul) 36))
        have HXa := Lib.hid (show RowAt (wr.alloc (.cells (vec 8 nul) 36)) wr.heap.size 8 36 V.zero.up from by rw [zero_up]; exact RowAt.new wr 8 _ _)
        have hgb : b ≤ wr.heap.size := hZ
        have hub : ∀ k, u6.ownBlock = some k → k < wr.heap.size := fun k h => (HO.out.lt k h).2
        have hg0x : g0 < wr.heap.size := by omega
        have HNO : Aside (sumN (fun k => tV (p * (j * k)) (at' xs k)) xs.length = none → res = none) := (show _ → _ from fun h => by rw [← HRES.out, trO_sum HR.out]; exact coll_none (f := fun j => sumN (fun k => tV (p * (j * k)) (at' xs k)) xs.length) h hlt)
        clear HO HB
        go_upto_region 9 with (refine store_new (ty := 36) (f' := nul) rfl rfl rfl rfl zero8 info_cyc ?_)
        show Code.wp _ _ _ _ (wr.alloc (.cells (vec 8 nul) 36))
        generalize wr.alloc (.cells (vec 8 nul) 36) = W at *
        generalize wr.heap.size = gx at *
        go_wp2
        go_loopw [10] (fun i wr => ∃ (k : Nat) (t : V), k ≤ xs.length ∧ i = .int .i64 k ∧ sumN (fun k => tV (p * (j * k)) (at' xs k)) k = some t ∧ RowAt wr gx 8 36 t.up ∧ OwnL encV 8 wr b 36 u6 l ∧ Below b w wr) (fun i _ => xs.length - (intOf i).toNat)
        case atStart => exact ⟨0, V.zero, Nat.zero_le _, rfl, rfl, HXa.out, HOa.out, HBa.out⟩
        case round =>
          clear HXa HOa HBa
          obtain ⟨k, t, hk, rfl, ht, hX, hO, hbel⟩ := hrel
          have HX := Lib.hid hX
          have HO := Lib.hid hO
          have HB := Lib.hid hbel
          have HT := Lib.hid ht
          have hZ2 : b ≤ wr.heap.size := by have := hbel.size; omega
          clear hX hO hbel
          by_cases hltk : k < xs.length
          · have hkz : (k : Int) < (xs.length : Int) := by omega
            have hk0 : (0 : Int) ≤ (k : Int) := by omega
            obtain ⟨q, hq⟩ : ∃ q, 24 / xs.length = q := ⟨_, rfl⟩
            have h24 : q ≤ 24 := by rw [← hq]; exact Nat.div_le_self 24 _
            obtain ⟨b1, b2, b3⟩ := step_bound (s := s) (q := q) (j := j) (k := k) hs1 h24 (by omega) (by omega)
            have hst := step_turn s p xs.length j k HS.out
            rw [hq] at hst
            obtain ⟨m1, hm1⟩ : ∃ m, m = s * (j : Int) := ⟨_, rfl⟩
            obtain ⟨m2, hm2⟩ : ∃ m, m = m1 * (k : Int) := ⟨_, rfl⟩
            obtain ⟨m4, hm4⟩ : ∃ m, m = (q : Int) := ⟨_, rfl⟩
            obtain ⟨m3, hm3⟩ : ∃ m, m = m2 * m4 := ⟨_, rfl⟩
            rw [← hm1] at b1 b2 b3 hst
            rw [← hm2] at b2 b3 hst
            rw [← hm4] at b3 hst
            rw [← hm3] at b3 hst
            have q1 : IntKind.i64.wrap (s * (j : Int)) = m1 := by rw [← hm1, IntKind.wrap_i64]; omega
            have q2 : IntKind.i64.wrap (m1 * (k : Int)) = m2 := by rw [← hm2, IntKind.wrap_i64]; omega
            have q3 : IntKind.i64.wrap (m2 * m4) = m3 := by rw [← hm3, IntKind.wrap_i64]; omega
            have q4 : (24 : Int).tdiv (xs.length : Int) = m4 := by
              rw [Int.tdiv_eq_ediv_of_nonneg (by decide), hm4, ← hq]; simp
            have q5 : IntKind.i64.wrap m4 = m4 := by rw [IntKind.wrap_i64]; omega
            have q6 : ¬ (xs.length : Int) = 0 := by omega
            have q7 : ¬ xs = [] := rowOk_ne' HR.out
            have MO := fun w => mod_any m3 (by omega) (by omega) w
            rw [hst] at MO
            have hcv : okv (at' xs k) = true := rowOk_at HR.out hltk
            have TU := fun w => specTurnV (at' xs k) (t := p * (j * k) % 24) (by omega) hcv w
            have hbt : Big (tV (p * (j * k) % 24) (at' xs k)) 4000000 := big_tV hcv (by omega)
            rw [tV_mod] at TU hbt
            have SU := fun w => specSumV t (tV (p * (j * k)) (at' xs k)) ((big_ok (sumN_ok ht)).mono (by omega)) (hbt.mono (by omega)) w
            have VD := fun w => specV (V.add t (tV (p * (j * k)) (at' xs k))) w
            have HST := Lib.hid (sumN_step ht)
            have HE := Lib.hid (cells_part encV_ok (cells_below HR0.out (by omega) HB.out) (at_get hltk))
            have hg2z : g0 < gx := by omega
            clear hst hcv hbt ht b1 b2 b3 h24 hq hm1 hm2 hm3 hm4
            generalize (p * (j * k) % 24 : Nat) = tt at *
            generalize hadd : V.add t (tV (p * (j * k)) (at' xs k)) = t2 at *
            generalize tV (p * (j * k)) (at' xs k) = cx at *
            generalize at' xs k = c at *
            clear hadd
            go_upto_region 12 with fail
            have hG : RowAt wr.drew gx 8 36 t.up := HX.out.drew1
            have hO : OwnL encV 8 wr.drew b 36 u6 l := HO.out.drew
            have hB : Below b w wr.drew := HB.out.drew
            have hgz : gx ≤ wr.heap.size := Nat.le_of_lt HX.out.lt
            clear HX HO HB
            refine wp_region_held_drew (S := fun w' => Below gx wr w') (by kernel_rfl) (Below.refl _ _).drew (fun hHeld => ?_)
            refine wpAnyH_take (i := 1) (oi := _) (v := .slice (some ⟨g0, o0, none⟩) xs.length c0) rfl (by kernel_rfl) (by kernel_rfl) (by kernel_rfl) (fun _ _ _ h => h) (Or.inl ⟨by rfl, fun w h => by go_simp⟩) hHeld ?_
            try simp only [Act.put, List.setIfInBounds_toArray, List.set_cons_zero, List.set_cons_succ, List.getElem_toArray, List.getElem_cons_succ, List.getElem_cons_zero]
            refine wpAnyH_take (i := 2) (oi := _) (v := .int .i64 k) rfl (by kernel_rfl) (by kernel_rfl) (by kernel_rfl) (fun _ _ _ h => h) (Or.inl ⟨by rfl, fun w h => by go_simp⟩) hHeld ?_
            try simp only [Act.put, List.setIfInBounds_toArray, List.set_cons_zero, List.set_cons_succ, List.getElem_toArray, List.getElem_cons_succ, List.getElem_cons_zero]
            refine wpAnyH_take (i := 3) (oi := _) (v := .pointer (some ⟨g0, o0 + k * 8, none⟩)) rfl (by kernel_rfl) (by kernel_rfl) (by kernel_rfl) (fun _ _ _ h => h) (Or.inl ⟨by rfl, fun w h => by go_simp⟩) hHeld ?_
            try simp only [Act.put, List.setIfInBounds_toArray, List.set_cons_zero, List.set_cons_succ, List.getElem_toArray, List.getElem_cons_succ, List.getElem_cons_zero]
            refine wpAnyH_take (i := 4) (oi := _) (v := .agg (vec 8 c.up)) rfl (by kernel_rfl) (by kernel_rfl) (by kernel_rfl) (fun _ _ _ h => h) (yieldsIf_load_mid (by rfl) _ _ rfl _ _ rfl _ _ ((fun w h => range_kept HE.out hg2z h)) Try.underlying36 rfl (size_cyc8 c.up)) hHeld ?_
            try simp only [Act.put, List.setIfInBounds_toArray, List.set_cons_zero, List.set_cons_succ, List.getElem_toArray, List.getElem_cons_succ, List.getElem_cons_zero]
            refine wpAnyH_take (i := 5) (oi := _) (v := .int .i64 s) rfl (by kernel_rfl) (by kernel_rfl) (by kernel_rfl) (fun _ _ _ h => h) (Or.inl ⟨by rfl, fun w h => by go_simp⟩) hHeld ?_
            try simp only [Act.put, List.setIfInBounds_toArray, List.set_cons_zero, List.set_cons_succ, List.getElem_toArray, List.getElem_cons_succ, List.getElem_cons_zero]
            refine wpAnyH_take (i := 6) (oi := _) (v := .int .i64 j) rfl (by kernel_rfl) (by kernel_rfl) (by kernel_rfl) (fun _ _ _ h => h) (Or.inl ⟨by rfl, fun w h => by go_simp⟩) hHeld ?_
            try simp only [Act.put, List.setIfInBounds_toArray, List.set_cons_zero, List.set_cons_succ, List.getElem_toArray, List.getElem_cons_succ, List.getElem_cons_zero]
            refine wpAnyH_take (i := 7) (oi := _) (v := .int .i64 m1) rfl (by kernel_rfl) (by kernel_rfl) (by kernel_rfl) (fun _ _ _ h => h) (Or.inl ⟨by rfl, fun w h => by go_simp⟩) hHeld ?_
            try simp only [Act.put, List.setIfInBounds_toArray, List.set_cons_zero, List.set_cons_succ, List.getElem_toArray, List.getElem_cons_succ, List.getElem_cons_zero]
            refine wpAnyH_take (i := 8) (oi := _) (v := .int .i64 k) rfl (by kernel_rfl) (by kernel_rfl) (by kernel_rfl) (fun _ _ _ h => h) (Or.inl ⟨by rfl, fun w h => by go_simp⟩) hHeld ?_
            try simp only [Act.put, List.setIfInBounds_toArray, List.set_cons_zero, List.set_cons_succ, List.getElem_toArray, List.getElem_cons_succ, List.getElem_cons_zero]
            refine wpAnyH_take (i := 9) (oi := _) (v := .int .i64 m2) rfl (by kernel_rfl) (by kernel_rfl) (by kernel_rfl) (fun _ _ _ h => h) (Or.inl ⟨by rfl, fun w h => by go_simp⟩) hHeld ?_
            try simp only [Act.put, List.setIfInBounds_toArray, List.set_cons_zero, List.set_cons_succ, List.getElem_toArray, List.getElem_cons_succ, List.getElem_cons_zero]
            refine wpAnyH_take (i := 10) (oi := _) (v := .int .i64 xs.length) rfl (by kernel_rfl) (by kernel_rfl) (by kernel_rfl) (fun _ _ _ h => h) (Or.inl ⟨by rfl, fun w h => by go_simp⟩) hHeld ?_
            try simp only [Act.put, List.setIfInBounds_toArray, List.set_cons_zero, List.set_cons_succ, List.getElem_toArray, List.getElem_cons_succ, List.getElem_cons_zero]
            refine wpAnyH_take (i := 11) (oi := _) (v := .int .i64 m4) rfl (by kernel_rfl) (by kernel_rfl) (by kernel_rfl) (fun _ _ _ h => h) (Or.inl ⟨by rfl, fun w h => by go_simp⟩) hHeld ?_
            try simp only [Act.put, List.setIfInBounds_toArray, List.set_cons_zero, List.set_cons_succ, List.getElem_toArray, List.getElem_cons_succ, List.getElem_cons_zero]
            refine wpAnyH_take (i := 12) (oi := _) (v := .int .i64 m3) rfl (by kernel_rfl) (by kernel_rfl) (by kernel_rfl) (fun _ _ _ h => h) (Or.inl ⟨by rfl, fun w h => by go_simp⟩) hHeld ?_
            try simp only [Act.put, List.setIfInBounds_toArray, List.set_cons_zero, List.set_cons_succ, List.getElem_toArray, List.getElem_cons_succ, List.getElem_cons_zero]
            refine wpAnyH_ready (rs := [0, 13]) (by kernel_rfl) (by simp) ?_
            refine AllReadyH.cons (o := _) rfl (fun K hK => ?_) (AllReadyH.cons (o := _) rfl (fun K hK => ?_) AllReadyH.nil)
            · rw [if_pos (by rfl)]
              refine wp_load8 (T := 36) rfl rfl hG.range Try.underlying36 rfl info_cyc ?_
              refine hK.out _ _ hHeld (fun hHeld => ?_)
              clear hK K
              try simp only [Act.put, List.setIfInBounds_toArray, List.set_cons_zero, List.set_cons_succ, List.getElem_toArray, List.getElem_cons_succ, List.getElem_cons_zero]
              refine wpAnyH_ready (rs := [13]) (by kernel_rfl) (by simp) ?_
              refine AllReadyH.cons (o := _) rfl (fun K hK => ?_) AllReadyH.nil
              go_simp
              refine (MO _).mono ?_; rintro e w5 ⟨rfl, rfl⟩
              go_wp2_with fail
              refine hK.out _ _ hHeld (fun hHeld => ?_)
              clear hK K
              try simp only [Act.put, List.setIfInBounds_toArray, List.set_cons_zero, List.set_cons_succ, List.getElem_toArray, List.getElem_cons_succ, List.getElem_cons_zero]
              clear MO
              refine wpAnyH_ready (rs := [14]) (by kernel_rfl) (by simp) ?_
              refine AllReadyH.cons (o := _) rfl (fun K hK => ?_) AllReadyH.nil
              go_simp
              refine (TU _).mono ?_; rintro e w6 ⟨rfl, hb6⟩
              go_wp2_with fail
              replace hG := hG.below hb6
              replace hO := rows_below hO hb6
              replace hB := hB.trans (hb6.mono (by have := hB.size; omega))
              refine hK.out _ _ (below_on hHeld hgz hb6) (fun hHeld => ?_)
              clear hK K
              try simp only [Act.put, List.setIfInBounds_toArray, List.set_cons_zero, List.set_cons_succ, List.getElem_toArray, List.getElem_cons_succ, List.getElem_cons_zero]
              clear hb6 TU
              refine wpAnyH_ready (rs := [15]) (by kernel_rfl) (by simp) ?_
              refine AllReadyH.cons (o := _) rfl (fun K hK => ?_) AllReadyH.nil
              go_simp
              refine (SU _).mono ?_; rintro e w7 ⟨rfl, hb7⟩
              go_wp2_with fail
              replace hG := hG.below hb7
              replace hO := rows_below hO hb7
              replace hB := hB.trans (hb7.mono (by have := hB.size; omega))
              refine hK.out _ _ (below_on hHeld hgz hb7) (fun hHeld => ?_)
              clear hK K
              try simp only [Act.put, List.setIfInBounds_toArray, List.set_cons_zero, List.set_cons_succ, List.getElem_toArray, List.getElem_cons_succ, List.getElem_cons_zero]
              clear hb7 SU
              refine wpAnyH_ready (rs := [16]) (by kernel_rfl) (by simp) ?_
              refine AllReadyH.cons (o := _) rfl (fun K hK => ?_) AllReadyH.nil
              rw [if_pos (by rfl)]
              refine store_step (f' := t2.up) rfl rfl rfl hG info_cyc ?_
              have hG2 := hG.setRow (f' := t2.up)
              have hO2 := own_setRow hO hub (vec 8 t2.up)
              have hB2 := below_setRow hB hgb (vec 8 t2.up)
              refine hK.out _ _ (below_setRow hHeld (Nat.le_refl _) _) (fun hHeld => ?_)
              clear hK K
              try simp only [Act.put, List.setIfInBounds_toArray, List.set_cons_zero, List.set_cons_succ, List.getElem_toArray, List.getElem_cons_succ, List.getElem_cons_zero]
              clear hG hO hB
              refine wpAnyH_done (by kernel_rfl) ?_ _
              have HX := Lib.hid hG2
              have HO := Lib.hid hO2
              have HB := Lib.hid hB2
              clear hG2 hO2 hB2 hHeld
              generalize w7.setRow gx (vec 8 t2.up) = W8 at *
              go_wp2_with (first | (refine load_row (ty := 36) (g := gx) rfl rfl rfl HX.out Try.underlying36 rfl info_cyc ?_))
              refine (VD _).mono ?_; rintro e w9 ⟨rfl, hb9⟩
              have HX9 := Lib.hid (HX.out.below hb9)
              have HO9 := Lib.hid (rows_below HO.out hb9)
              have HB9 := Lib.hid (HB.out.trans (hb9.mono (by have := HB.out.size; omega)))
              clear HX HO HB hb9 VD
              cases hok : okv t2
              · have HF : Aside (res = none) := (show res = none from HNO.out (sumN_none (by rw [HST.out, hok]; rfl) (by omega : k + 1 ≤ xs.length)))
                clear HST HNO
                go_wp2
                go_ret2
                rw [HF.out]
                exact ⟨by rw [hb]; exact HB9.out.alloc (by have := HB9.out.size; omega) _, _, rfl, by rw [hb]; exact ownL_nilB _ _ _ (by have := HB9.out.size; omega)⟩
              · have HST2 : Aside (sumN (fun k => tV (p * (j * k)) (at' xs k)) (k + 1) = some t2) := (show _ = _ from by rw [HST.out, hok]; rfl)
                clear HST
                go_wp2
                go_roundw
                case rel => exact ⟨k + 1, t2, by omega, by go_num, HST2.out, HX9.out, HO9.out, HB9.out⟩
                case measure => simp [intOf]; omega
            · go_simp
              refine (MO _).mono ?_; rintro e w5 ⟨rfl, rfl⟩
              go_wp2_with fail
              refine hK.out _ _ hHeld (fun hHeld => ?_)
              clear hK K
              try simp only [Act.put, List.setIfInBounds_toArray, List.set_cons_zero, List.set_cons_succ, List.getElem_toArray, List.getElem_cons_succ, List.getElem_cons_zero]
              clear MO
              refine wpAnyH_ready (rs := [0, 14]) (by kernel_rfl) (by simp) ?_
              refine AllReadyH.cons (o := _) rfl (fun K hK => ?_) (AllReadyH.cons (o := _) rfl (fun K hK => ?_) AllReadyH.nil)
              · rw [if_pos (by rfl)]
                refine wp_load8 (T := 36) rfl rfl hG.range Try.underlying36 rfl info_cyc ?_
                refine hK.out _ _ hHeld (fun hHeld => ?_)
                clear hK K
                try simp only [Act.put, List.setIfInBounds_toArray, List.set_cons_zero, List.set_cons_succ, List.getElem_toArray, List.getElem_cons_succ, List.getElem_cons_zero]
                refine wpAnyH_ready (rs := [14]) (by kernel_rfl) (by simp) ?_
                refine AllReadyH.cons (o := _) rfl (fun K hK => ?_) AllReadyH.nil
                go_simp
                refine (TU _).mono ?_; rintro e w6 ⟨rfl, hb6⟩
                go_wp2_with fail
                replace hG := hG.below hb6
                replace hO := rows_below hO hb6
                replace hB := hB.trans (hb6.mono (by have := hB.size; omega))
                refine hK.out _ _ (below_on hHeld hgz hb6) (fun hHeld => ?_)
                clear hK K
                try simp only [Act.put, List.setIfInBounds_toArray, List.set_cons_zero, List.set_cons_succ, List.getElem_toArray, List.getElem_cons_succ, List.getElem_cons_zero]
                clear hb6 TU
                refine wpAnyH_ready (rs := [15]) (by kernel_rfl) (by simp) ?_
                refine AllReadyH.cons (o := _) rfl (fun K hK => ?_) AllReadyH.nil
                go_simp
                refine (SU _).mono ?_; rintro e w7 ⟨rfl, hb7⟩
                go_wp2_with fail
                replace hG := hG.below hb7
                replace hO := rows_below hO hb7
                replace hB := hB.trans (hb7.mono (by have := hB.size; omega))
                refine hK.out _ _ (below_on hHeld hgz hb7) (fun hHeld => ?_)
                clear hK K
                try simp only [Act.put, List.setIfInBounds_toArray, List.set_cons_zero, List.set_cons_succ, List.getElem_toArray, List.getElem_cons_succ, List.getElem_cons_zero]
                clear hb7 SU
                refine wpAnyH_ready (rs := [16]) (by kernel_rfl) (by simp) ?_
                refine AllReadyH.cons (o := _) rfl (fun K hK => ?_) AllReadyH.nil
                rw [if_pos (by rfl)]
                refine store_step (f' := t2.up) rfl rfl rfl hG info_cyc ?_
                have hG2 := hG.setRow (f' := t2.up)
                have hO2 := own_setRow hO hub (vec 8 t2.up)
                have hB2 := below_setRow hB hgb (vec 8 t2.up)
                refine hK.out _ _ (below_setRow hHeld (Nat.le_refl _) _) (fun hHeld => ?_)
                clear hK K
                try simp only [Act.put, List.setIfInBounds_toArray, List.set_cons_zero, List.set_cons_succ, List.getElem_toArray, List.getElem_cons_succ, List.getElem_cons_zero]
                clear hG hO hB
                refine wpAnyH_done (by kernel_rfl) ?_ _
                have HX := Lib.hid hG2
                have HO := Lib.hid hO2
                have HB := Lib.hid hB2
                clear hG2 hO2 hB2 hHeld
                generalize w7.setRow gx (vec 8 t2.up) = W8 at *
                go_wp2_with (first | (refine load_row (ty := 36) (g := gx) rfl rfl rfl HX.out Try.underlying36 rfl info_cyc ?_))
                refine (VD _).mono ?_; rintro e w9 ⟨rfl, hb9⟩
                have HX9 := Lib.hid (HX.out.below hb9)
                have HO9 := Lib.hid (rows_below HO.out hb9)
                have HB9 := Lib.hid (HB.out.trans (hb9.mono (by have := HB.out.size; omega)))
                clear HX HO HB hb9 VD
                cases hok : okv t2
                · have HF : Aside (res = none) := (show res = none from HNO.out (sumN_none (by rw [HST.out, hok]; rfl) (by omega : k + 1 ≤ xs.length)))
                  clear HST HNO
                  go_wp2
                  go_ret2
                  rw [HF.out]
                  exact ⟨by rw [hb]; exact HB9.out.alloc (by have := HB9.out.size; omega) _, _, rfl, by rw [hb]; exact ownL_nilB _ _ _ (by have := HB9.out.size; omega)⟩
                · have HST2 : Aside (sumN (fun k => tV (p * (j * k)) (at' xs k)) (k + 1) = some t2) := (show _ = _ from by rw [HST.out, hok]; rfl)
                  clear HST
                  go_wp2
                  go_roundw
                  case rel => exact ⟨k + 1, t2, by omega, by go_num, HST2.out, HX9.out, HO9.out, HB9.out⟩
                  case measure => simp [intOf]; omega
              · go_simp
                refine (TU _).mono ?_; rintro e w6 ⟨rfl, hb6⟩
                go_wp2_with fail
                replace hG := hG.below hb6
                replace hO := rows_below hO hb6
                replace hB := hB.trans (hb6.mono (by have := hB.size; omega))
                refine hK.out _ _ (below_on hHeld hgz hb6) (fun hHeld => ?_)
                clear hK K
                try simp only [Act.put, List.setIfInBounds_toArray, List.set_cons_zero, List.set_cons_succ, List.getElem_toArray, List.getElem_cons_succ, List.getElem_cons_zero]
                clear hb6 TU
                refine wpAnyH_ready (rs := [0]) (by kernel_rfl) (by simp) ?_
                refine AllReadyH.cons (o := _) rfl (fun K hK => ?_) AllReadyH.nil
                rw [if_pos (by rfl)]
                refine wp_load8 (T := 36) rfl rfl hG.range Try.underlying36 rfl info_cyc ?_
                refine hK.out _ _ hHeld (fun hHeld => ?_)
                clear hK K
                try simp only [Act.put, List.setIfInBounds_toArray, List.set_cons_zero, List.set_cons_succ, List.getElem_toArray, List.getElem_cons_succ, List.getElem_cons_zero]
                refine wpAnyH_ready (rs := [15]) (by kernel_rfl) (by simp) ?_
                refine AllReadyH.cons (o := _) rfl (fun K hK => ?_) AllReadyH.nil
                go_simp
                refine (SU _).mono ?_; rintro e w7 ⟨rfl, hb7⟩
                go_wp2_with fail
                replace hG := hG.below hb7
                replace hO := rows_below hO hb7
                replace hB := hB.trans (hb7.mono (by have := hB.size; omega))
                refine hK.out _ _ (below_on hHeld hgz hb7) (fun hHeld => ?_)
                clear hK K
                try simp only [Act.put, List.setIfInBounds_toArray, List.set_cons_zero, List.set_cons_succ, List.getElem_toArray, List.getElem_cons_succ, List.getElem_cons_zero]
                clear hb7 SU
                refine wpAnyH_ready (rs := [16]) (by kernel_rfl) (by simp) ?_
                refine AllReadyH.cons (o := _) rfl (fun K hK => ?_) AllReadyH.nil
                rw [if_pos (by rfl)]
                refine store_step (f' := t2.up) rfl rfl rfl hG info_cyc ?_
                have hG2 := hG.setRow (f' := t2.up)
                have hO2 := own_setRow hO hub (vec 8 t2.up)
                have hB2 := below_setRow hB hgb (vec 8 t2.up)
                refine hK.out _ _ (below_setRow hHeld (Nat.le_refl _) _) (fun hHeld => ?_)
                clear hK K
                try simp only [Act.put, List.setIfInBounds_toArray, List.set_cons_zero, List.set_cons_succ, List.getElem_toArray, List.getElem_cons_succ, List.getElem_cons_zero]
                clear hG hO hB
                refine wpAnyH_done (by kernel_rfl) ?_ _
                have HX := Lib.hid hG2
                have HO := Lib.hid hO2
                have HB := Lib.hid hB2
                clear hG2 hO2 hB2 hHeld
                generalize w7.setRow gx (vec 8 t2.up) = W8 at *
                go_wp2_with (first | (refine load_row (ty := 36) (g := gx) rfl rfl rfl HX.out Try.underlying36 rfl info_cyc ?_))
                refine (VD _).mono ?_; rintro e w9 ⟨rfl, hb9⟩
                have HX9 := Lib.hid (HX.out.below hb9)
                have HO9 := Lib.hid (rows_below HO.out hb9)
                have HB9 := Lib.hid (HB.out.trans (hb9.mono (by have := HB.out.size; omega)))
                clear HX HO HB hb9 VD
                cases hok : okv t2
                · have HF : Aside (res = none) := (show res = none from HNO.out (sumN_none (by rw [HST.out, hok]; rfl) (by omega : k + 1 ≤ xs.length)))
                  clear HST HNO
                  go_wp2
                  go_ret2
                  rw [HF.out]
                  exact ⟨by rw [hb]; exact HB9.out.alloc (by have := HB9.out.size; omega) _, _, rfl, by rw [hb]; exact ownL_nilB _ _ _ (by have := HB9.out.size; omega)⟩
                · have HST2 : Aside (sumN (fun k => tV (p * (j * k)) (at' xs k)) (k + 1) = some t2) := (show _ = _ from by rw [HST.out, hok]; rfl)
                  clear HST
                  go_wp2
                  go_roundw
                  case rel => exact ⟨k + 1, t2, by omega, by go_num, HST2.out, HX9.out, HO9.out, HB9.out⟩
                  case measure => simp [intOf]; omega
          · obtain rfl : k = xs.length := by omega
            have HSTEP := Lib.hid (coll_step HL.out)
            have HC2 : Aside (coll (fun j => sumN (fun k => tV (p * (j * k)) (at' xs k)) xs.length) (j + 1) = some (l ++ [t])) := (show _ = _ from by rw [HSTEP.out, HT.out]; rfl)
            clear HSTEP HNO
            go_wp2_with (first | (refine load_row (ty := 36) (g := gx) rfl rfl rfl HX.out Try.underlying36 rfl info_cyc ?_; clear HX) | (refine one8 tyY rfl rfl rfl ?_) |
              (refine appendL tyY encV_ok rfl rfl rfl rfl (xs := l) (World.ownsRow.alloc HO.out _) (lit8 _ _ _) (by have := coll_len HL.out; simp; omega) (HB.out.alloc hZ2 _) (by simp; omega) ?_; intro v2 w4 ho4 hb4 hB4 hgr4))
            go_roundw
            case rel => exact ⟨j + 1, l ++ [t], by omega, by go_num, HC2.out, ho4, hb4⟩
            case measure => simp [intOf]; omega
      · obtain rfl : j = xs.length := by omega
        have HF : Aside (res = some l) := (show res = some l from by rw [← HRES.out, trO_sum HR.out]; exact HL.out)
        go_wp2
        go_ret2
        rw [HF.out]
        exact ⟨by rw [hb]; exact HB.out, _, rfl, by rw [hb]; exact HO.out⟩
theorem specTransformOf_any (v : Value) (xs : List V) (w : World) (hv : ReadsL encV w v xs) : Calls Try.prog 34 #[v] w (ToldL 36 w (trF xs)) := by
  have C := Lib.hid (specTransform_any v xs (-1) _ w hv (.inl ⟨rfl, rfl⟩))
  change Aside (Calls _ _ _ _ (ToldL 36 w (trF xs))) at C
  generalize trF xs = o at *
  clear hv
  go_enter Try.func34, Try.ntmps34
  go_wp2_with fail
  refine C.out.mono ?_; rintro e w1 ⟨hb1, v1, rfl, ho1⟩
  have H := Lib.hid (show ToldL 36 w o (.returned (.tuple #[v1, .bool o.isSome])) w1 from ⟨hb1, v1, rfl, ho1⟩)
  clear C hb1 ho1
  go_wp2
  go_ret2
  exact H.out
theorem specTransformBack_any (v : Value) (xs : List V) (w : World) (hv : ReadsL encV w v xs) : Calls Try.prog 39 #[v] w (ToldL 36 w (trB xs)) := by
  have C := Lib.hid (specTransform_any v xs 1 _ w hv (.inr ⟨rfl, rfl⟩))
  change Aside (Calls _ _ _ _ (ToldL 36 w (trB xs))) at C
  generalize trB xs = o at *
  clear hv
  go_enter Try.func39, Try.ntmps39
  go_wp2_with fail
  refine C.out.mono ?_; rintro e w1 ⟨hb1, v1, rfl, ho1⟩
  have H := Lib.hid (show ToldL 36 w o (.returned (.tuple #[v1, .bool o.isSome])) w1 from ⟨hb1, v1, rfl, ho1⟩)
  clear C hb1 ho1
  go_wp2
  go_ret2
  exact H.out
end Go.Proofs.Ytdgbpdeimckbfaa
