/-
  The model's rows: shifted, products, circular products.
-/
import Derived.Test.YtdgbpdeimckbfaaM18
import Derived.Test.YtdgbpdeimckbfaaM19
import Derived.Test.YtdgbpdeimckbfaaM13
/- The model's rows: shifted, products, circular products. -/
namespace Go.Proofs.Ytdgbpdeimckbfaa
set_option maxRecDepth 20000
open Go.ChangeShapes Go.WideShapes Go.ChangeAt Go.RowKit
set_option linter.unusedVariables false
set_option linter.unusedSimpArgs false

def shTake (m : Nat) (xs : List V) (k : Nat) : List V := (List.range k).map fun i => at' xs ((i + m) % xs.length)
theorem shTake_next (m : Nat) (xs : List V) (k : Nat) : shTake m xs (k + 1) = shTake m xs k ++ [at' xs ((k + m) % xs.length)] := by unfold shTake; rw [List.range_succ, List.map_append]; rfl
theorem shO_none1 {m : Int} {xs : List V} (h : rowOk xs = false) : shO m xs = none := by unfold shO; rw [h]; rfl
theorem shO_none2 {m : Int} {xs : List V} (h : ¬ (0 ≤ m ∧ m ≤ 23)) : shO m xs = none := by
  unfold shO
  rw [if_neg]
  simp only [Bool.and_eq_true, decide_eq_true_eq]
  exact fun k => h ⟨k.1.2, k.2⟩
theorem reads_ptr {w : World} {v : Value} {xs : List V} (h : ReadsL encV w v xs) (hn : ¬ xs = []) : ∃ g o cap, v = .slice (some ⟨g, o, none⟩) xs.length cap ∧ xs.length ≤ cap ∧ cap ≤ maxLen ∧ g < w.heap.size ∧ w.rangeAt g o (flt encV xs) := by
  obtain ⟨p, cap, rfl, h1, h2, h3, h4⟩ := h
  have hl : 0 < xs.length := List.length_pos_iff.2 hn
  obtain ⟨g, o, rfl, hg, hr⟩ := h4 (by intro e; have := h3 e; omega)
  exact ⟨g, o, cap, rfl, h1, h2, hg, hr⟩
set_option maxHeartbeats 4000000 in
theorem specRowShift_any (v : Value) (m : Int) (xs : List V) (w : World) (hv : ReadsL encV w v xs) : Calls Try.prog 41 #[v, .int .i64 m] w (ToldL 36 w (shO m xs)) := by
  have hz : Below w.heap.size w (w.alloc (.cells #[] 36)) := (Below.refl _ _).alloc (Nat.le_refl _) _
  have RV := specRowValid_any v xs (w.alloc (.cells #[] 36)) (hv.below hz)
  have HV := Lib.hid hv
  have HO0 := Lib.hid (ownL_nilB w w.heap.size 36 (Nat.le_refl _))
  have HL0 := Lib.hid hz
  clear hz hv
  generalize hres : shO m xs = res
  have HRES := Lib.hid hres
  clear hres
  cases hr : rowOk xs
  · have HF : Aside (res = none) := (show res = none from by rw [← HRES.out]; exact shO_none1 hr)
    rw [hr] at RV
    have RV := Lib.hid RV
    clear hr
    go_enter Try.func41, Try.ntmps41
    go_wp2_with fail
    refine RV.out.mono ?_; rintro e w1 ⟨rfl, hb1⟩
    have HL1 := Lib.hid (below_next HL0.out hb1)
    have HO1 := Lib.hid (rows_below HO0.out hb1)
    clear RV hb1 HL0 HO0
    go_wp2
    go_ret2
    rw [HF.out]
    exact ⟨HL1.out, _, rfl, HO1.out⟩
  · rw [hr] at RV
    by_cases hm : 0 ≤ m ∧ m ≤ 23
    · obtain ⟨n, rfl⟩ : ∃ n : Nat, m = n := ⟨m.toNat, by omega⟩
      have IN := fun w => in_yes (n : Int) 0 23 hm.1 hm.2 w
      have HF : Aside (res = some (shL n xs)) := (show res = _ from by rw [← HRES.out]; exact shO_yes hr (by omega))
      have hne := rowOk_ne' hr
      obtain ⟨hl1, hl24⟩ := rowOk_short hr
      obtain ⟨g0, o0, c0, rfl, hc0, hm0, hg0, hrg0⟩ := reads_ptr HV.out hne
      have HR0 := Lib.hid hrg0
      simp only [maxLen] at hm0
      have RV := Lib.hid RV
      have hn23 : n ≤ 23 := by omega
      clear hr hrg0 HV hm HRES
      go_enter Try.func41, Try.ntmps41
      go_wp2_with fail
      refine RV.out.mono ?_; rintro e w1 ⟨rfl, hb1⟩
      have HL1 := Lib.hid (below_next HL0.out hb1)
      have HO1 := Lib.hid (rows_below HO0.out hb1)
      clear RV hb1 HL0 HO0
      go_wp2_with fail
      refine (IN _).mono ?_; rintro e w1x ⟨rfl, rfl⟩
      clear IN
      go_wp2
      generalize hb : w.heap.size = b at *
      go_loopw [6, 7] (fun s6 i wr => ∃ k : Nat, k ≤ xs.length ∧ i = .int .i64 k ∧ OwnL encV 8 wr b 36 s6 (shTake n xs k) ∧ Below b w wr) (fun _ i _ => xs.length - (intOf i).toNat)
      case atStart => exact ⟨0, Nat.zero_le _, rfl, HO1.out, HL1.out⟩
      case round =>
        clear HO1 HL1
        obtain ⟨k, hk, rfl, hO, hbel⟩ := hrel
        have HO := Lib.hid hO
        have HB := Lib.hid hbel
        have hZ : b ≤ wr.heap.size := by have := hbel.size; omega
        clear hO hbel
        by_cases hlt : k < xs.length
        · have hkz : (k : Int) < (xs.length : Int) := by omega
          have hk0 : (0 : Int) ≤ (k : Int) := by omega
          obtain ⟨r, hr⟩ : ∃ r, (k + n) % xs.length = r := ⟨_, rfl⟩
          have hrl : r < xs.length := by rw [← hr]; exact Nat.mod_lt _ (by omega)
          have q1 : IntKind.i64.wrap ((k : Int) + (n : Int)) = (k : Int) + (n : Int) := by rw [IntKind.wrap_i64]; omega
          have q2 : ((k : Int) + (n : Int)).tmod (xs.length : Int) = (r : Int) := by
            rw [Int.tmod_eq_emod_of_nonneg (by omega), ← hr]; simp
          have q3 : IntKind.i64.wrap (r : Int) = (r : Int) := by rw [IntKind.wrap_i64]; omega
          have q4 : ¬ (xs.length : Int) = 0 := by omega
          have q5 : (r : Int) < (xs.length : Int) := by omega
          have q6 : (0 : Int) ≤ (r : Int) := by omega
          have HNX := Lib.hid (shTake_next n xs k)
          rw [hr] at HNX
          have HE := Lib.hid (cells_part encV_ok (cells_below HR0.out (by omega) HB.out) (at_get hrl))
          have hsl : (shTake n xs k).length = k := by simp [shTake]
          generalize at' xs r = c at *
          clear hr
          go_wp2_with (first | (refine load_part (T := 36) (f := c.up) rfl rfl rfl HE.out Try.underlying36 rfl info_cyc ?_) | (refine one8 tyY rfl rfl rfl ?_) |
            (refine appendL tyY encV_ok rfl rfl rfl rfl (xs := shTake n xs k) (World.ownsRow.alloc HO.out _) (lit8 _ _ _) (by rw [hsl]; simp; omega) (HB.out.alloc hZ _) (by simp; omega) ?_; intro v2 w4 ho4 hb4 hB4 hgr4))
          go_roundw
          case rel => exact ⟨k + 1, by omega, by go_num, by rw [HNX.out]; exact ho4, hb4⟩
          case measure => simp [intOf]; omega
        · obtain rfl : k = xs.length := by omega
          go_wp2
          go_ret2
          rw [HF.out]
          exact ⟨by rw [hb]; exact HB.out, _, rfl, by rw [hb]; exact HO.out⟩
    · have HF : Aside (res = none) := (show res = none from by rw [← HRES.out]; exact shO_none2 hm)
      have IN := fun w => in_no m 0 23 (by omega) w
      have RV := Lib.hid RV
      clear hr hm
      go_enter Try.func41, Try.ntmps41
      go_wp2_with fail
      refine RV.out.mono ?_; rintro e w1 ⟨rfl, hb1⟩
      have HL1 := Lib.hid (below_next HL0.out hb1)
      have HO1 := Lib.hid (rows_below HO0.out hb1)
      clear RV hb1 HL0 HO0
      go_wp2_with fail
      refine (IN _).mono ?_; rintro e w1x ⟨rfl, rfl⟩
      clear IN
      go_wp2
      go_ret2
      rw [HF.out]
      exact ⟨HL1.out, _, rfl, HO1.out⟩

/-! Two rows. -/
set_option maxHeartbeats 1000000 in
theorem specTwo_any (v u : Value) (xs ys : List V) (w : World) (hv : ReadsL encV w v xs) (hu : ReadsL encV w u ys) : Calls Try.prog 102 #[v, u] w fun e w' => e = .returned (.bool (pairOk xs ys)) ∧ Below w.heap.size w w' := by
  have RV := specRowValid_any v xs w hv
  have HU := Lib.hid hu
  obtain ⟨p, c1, rfl, -⟩ := hv
  obtain ⟨q, c2, hue, -⟩ := hu
  cases hr : rowOk xs
  · have HF : Aside (pairOk xs ys = false) := (show _ = _ from by unfold pairOk; rw [hr]; rfl)
    rw [hr] at RV
    have RV := Lib.hid RV
    clear hr hue
    go_enter Try.func102, Try.ntmps102
    go_wp2_with fail
    refine RV.out.mono ?_; rintro e w1 ⟨rfl, hb1⟩
    have HL := Lib.hid hb1
    clear RV hb1
    go_wp2
    go_ret
    exact ⟨by rw [HF.out]; rfl, HL.out⟩
  · rw [hr] at RV
    have RV := Lib.hid RV
    have RU := fun w h => specRowValid_any u ys w h
    cases hs : rowOk ys
    · have HF : Aside (pairOk xs ys = false) := (show _ = _ from by unfold pairOk; rw [hs, Bool.and_false]; rfl)
      rw [hs] at RU
      have RU := Lib.hid RU
      clear hr hs hue
      go_enter Try.func102, Try.ntmps102
      go_wp2_with fail
      refine RV.out.mono ?_; rintro e w1 ⟨rfl, hb1⟩
      have RU1 := Lib.hid (RU.out w1 (HU.out.below hb1))
      have HL := Lib.hid hb1
      clear RV hb1 RU
      go_wp2_with fail
      refine RU1.out.mono ?_; rintro e w2 ⟨rfl, hb2⟩
      have HL2 := Lib.hid (below_next HL.out hb2)
      clear RU1 hb2 HL
      go_wp2
      go_ret
      exact ⟨by rw [HF.out]; rfl, HL2.out⟩
    · rw [hs] at RU
      have RU := Lib.hid RU
      have HP : Aside (pairOk xs ys = ((xs.length : Int) == (ys.length : Int))) := (show _ = _ from by
        unfold pairOk
        rw [hr, hs]
        by_cases h : xs.length = ys.length
        · rw [decide_eq_true h]; symm; simpa using (show (xs.length : Int) = (ys.length : Int) by omega)
        · rw [decide_eq_false h]; symm; simpa using (show ¬ (xs.length : Int) = (ys.length : Int) by omega))
      subst hue
      clear hr hs
      go_enter Try.func102, Try.ntmps102
      go_wp2_with fail
      refine RV.out.mono ?_; rintro e w1 ⟨rfl, hb1⟩
      have RU1 := Lib.hid (RU.out w1 (HU.out.below hb1))
      have HL := Lib.hid hb1
      clear RV hb1 RU
      go_wp2_with fail
      refine RU1.out.mono ?_; rintro e w2 ⟨rfl, hb2⟩
      have HL2 := Lib.hid (below_next HL.out hb2)
      clear RU1 hb2 HL
      go_wp2
      go_ret
      exact ⟨by rw [HP.out]; rfl, HL2.out⟩

theorem rows_below' {K : Nat} {w w' : World} {B T n : Nat} {v : Value} {cs : List Value} (h : w.ownsRow B T K v n cs) {S : Nat} (hb : Below S w w') (hS : S = w.heap.size := by rfl) : w'.ownsRow B T K v n cs := by
  subst hS; exact rows_below h hb
theorem tmO_pair {a b : List V} (h : pairOk a b = true) : tmO a b = collP (fun k => prV (at' a k) (at' b k)) a.length := by unfold tmO; rw [if_pos h]
theorem tmO_none {a b : List V} (h : pairOk a b = false) : tmO a b = none := by unfold tmO; rw [h]; rfl
set_option maxHeartbeats 3000000 in
theorem specRowTimes_any (v u : Value) (xs ys : List V) (w : World) (hv : ReadsL encV w v xs) (hu : ReadsL encV w u ys) : Calls Try.prog 45 #[v, u] w (ToldL 36 w (tmO xs ys)) := by
  have hz : Below w.heap.size w (w.alloc (.cells #[] 36)) := (Below.refl _ _).alloc (Nat.le_refl _) _
  have TW := specTwo_any v u xs ys (w.alloc (.cells #[] 36)) (hv.below hz) (hu.below hz)
  have HV := Lib.hid hv
  have HU := Lib.hid hu
  have HO0 := Lib.hid (ownL_nilB w w.heap.size 36 (Nat.le_refl _))
  have HL0 := Lib.hid hz
  clear hz hv hu
  generalize hres : tmO xs ys = res
  have HRES := Lib.hid hres
  clear hres
  cases hr : pairOk xs ys
  · have HF : Aside (res = none) := (show res = none from by rw [← HRES.out]; exact tmO_none hr)
    rw [hr] at TW
    have TW := Lib.hid TW
    clear hr
    go_enter Try.func45, Try.ntmps45
    go_wp2_with fail
    refine TW.out.mono ?_; rintro e w1 ⟨rfl, hb1⟩
    have HL1 := Lib.hid (below_next HL0.out hb1)
    have HO1 := Lib.hid (rows_below HO0.out hb1)
    clear TW hb1 HL0 HO0
    go_wp2
    go_ret2
    rw [HF.out]
    exact ⟨HL1.out, _, rfl, HO1.out⟩
  · rw [hr] at TW
    obtain ⟨hrx, hry, hlen⟩ := pairOk_in hr
    obtain ⟨hl1, hl24⟩ := rowOk_short hrx
    have HLEN := Lib.hid hlen
    clear hlen
    have HRX := Lib.hid hrx
    have HRY := Lib.hid hry
    have HRS : Aside (collP (fun k => prV (at' xs k) (at' ys k)) xs.length = res) := (show _ = res from by rw [← HRES.out, tmO_pair hr])
    obtain ⟨g1, o1, c1, rfl, hc1, hm1, hg1, hrg1⟩ := reads_ptr HV.out (rowOk_ne' hrx)
    obtain ⟨g2, o2, c2, rfl, hc2, hm2, hg2, hrg2⟩ := reads_ptr HU.out (rowOk_ne' hry)
    have HR1 := Lib.hid hrg1
    have HR2 := Lib.hid hrg2
    simp only [maxLen] at hm1 hm2
    have TW := Lib.hid TW
    clear hr hrg1 hrg2 HV HU hrx hry HRES
    go_enter Try.func45, Try.ntmps45
    go_wp2_with fail
    refine TW.out.mono ?_; rintro e w1 ⟨rfl, hb1⟩
    have HL1 := Lib.hid (below_next HL0.out hb1)
    have HO1 := Lib.hid (rows_below HO0.out hb1)
    clear TW hb1 HL0 HO0
    go_wp2
    generalize hb : w.heap.size = b at *
    go_loopw [6, 7, 8, 9] (fun s6 i _ _ wr => ∃ (k : Nat) (l : List V), k ≤ xs.length ∧ i = .int .i64 k ∧ collP (fun k => prV (at' xs k) (at' ys k)) k = some l ∧ OwnL encV 8 wr b 36 s6 l ∧ Below b w wr) (fun _ i _ _ _ => xs.length - (intOf i).toNat)
    case atStart => exact ⟨0, [], Nat.zero_le _, rfl, rfl, HO1.out, HL1.out⟩
    case round =>
      clear HO1 HL1
      obtain ⟨k, l, hk, rfl, hl, hO, hbel⟩ := hrel
      have HL := Lib.hid hl
      have HO := Lib.hid hO
      have HB := Lib.hid hbel
      have hZ : b ≤ wr.heap.size := by have := hbel.size; omega
      have hlk := coll_len hl
      clear hl hO hbel
      by_cases hlt : k < xs.length
      · have hkz : (k : Int) < (xs.length : Int) := by omega
        have hkz2 : (k : Int) < (ys.length : Int) := by have := HLEN.out; omega
        have hk0 : (0 : Int) ≤ (k : Int) := by omega
        have HE1 := Lib.hid (cells_part encV_ok (cells_below HR1.out (by omega) HB.out) (at_get hlt))
        have HE2 := Lib.hid (cells_part encV_ok (cells_below HR2.out (by omega) HB.out) (at_get (by have := HLEN.out; omega : k < ys.length)))
        have TM := fun w => specProdV (at' xs k) (at' ys k) (rowOk_at HRX.out hlt) (rowOk_at HRY.out (by have := HLEN.out; omega)) w
        have HST := Lib.hid (collP_step HL.out)
        have HNO : Aside (okv (prV (at' xs k) (at' ys k)) = false → res = none) := (show _ → _ from fun h => by rw [← HRS.out]; exact collP_none h hlt)
        have hg1z : g1 < wr.heap.size := by omega
        have hg2z : g2 < wr.heap.size := by omega
        generalize prV (at' xs k) (at' ys k) = P at *
        generalize at' xs k = c at *
        generalize at' ys k = d at *
        cases hok : okv P
        · rw [hok] at TM
          simp only [Bool.false_eq_true, if_false, zero_up] at TM
          go_upto_region 7 with fail
          refine wp_region_held_drew (S := fun w' => Below wr.heap.size wr w') (by kernel_rfl) (Below.refl _ _).drew (fun hHeld => ?_)
          refine wpAnyH_take (i := 0) (oi := _) (v := .slice (some ⟨g1, o1, none⟩) xs.length c1) rfl (by kernel_rfl) (by kernel_rfl) (by kernel_rfl) (fun _ _ _ h => h) (Or.inl ⟨by rfl, fun w h => by go_simp⟩) hHeld ?_
          try simp only [Act.put, List.setIfInBounds_toArray, List.set_cons_zero, List.set_cons_succ, List.getElem_toArray, List.getElem_cons_succ, List.getElem_cons_zero]
          refine wpAnyH_take (i := 1) (oi := _) (v := .int .i64 k) rfl (by kernel_rfl) (by kernel_rfl) (by kernel_rfl) (fun _ _ _ h => h) (Or.inl ⟨by rfl, fun w h => by go_simp⟩) hHeld ?_
          try simp only [Act.put, List.setIfInBounds_toArray, List.set_cons_zero, List.set_cons_succ, List.getElem_toArray, List.getElem_cons_succ, List.getElem_cons_zero]
          refine wpAnyH_take (i := 2) (oi := _) (v := .pointer (some ⟨g1, o1 + k * 8, none⟩)) rfl (by kernel_rfl) (by kernel_rfl) (by kernel_rfl) (fun _ _ _ h => h) (Or.inl ⟨by rfl, fun w h => by go_simp⟩) hHeld ?_
          try simp only [Act.put, List.setIfInBounds_toArray, List.set_cons_zero, List.set_cons_succ, List.getElem_toArray, List.getElem_cons_succ, List.getElem_cons_zero]
          refine wpAnyH_take (i := 3) (oi := _) (v := .agg (vec 8 c.up)) rfl (by kernel_rfl) (by kernel_rfl) (by kernel_rfl) (fun _ _ _ h => h) (yieldsIf_load_mid (by rfl) _ _ rfl _ _ rfl _ _ ((fun w h => range_kept HE1.out hg1z h)) Try.underlying36 rfl (size_cyc8 c.up)) hHeld ?_
          try simp only [Act.put, List.setIfInBounds_toArray, List.set_cons_zero, List.set_cons_succ, List.getElem_toArray, List.getElem_cons_succ, List.getElem_cons_zero]
          refine wpAnyH_take (i := 4) (oi := _) (v := .slice (some ⟨g2, o2, none⟩) ys.length c2) rfl (by kernel_rfl) (by kernel_rfl) (by kernel_rfl) (fun _ _ _ h => h) (Or.inl ⟨by rfl, fun w h => by go_simp⟩) hHeld ?_
          try simp only [Act.put, List.setIfInBounds_toArray, List.set_cons_zero, List.set_cons_succ, List.getElem_toArray, List.getElem_cons_succ, List.getElem_cons_zero]
          refine wpAnyH_take (i := 5) (oi := _) (v := .int .i64 k) rfl (by kernel_rfl) (by kernel_rfl) (by kernel_rfl) (fun _ _ _ h => h) (Or.inl ⟨by rfl, fun w h => by go_simp⟩) hHeld ?_
          try simp only [Act.put, List.setIfInBounds_toArray, List.set_cons_zero, List.set_cons_succ, List.getElem_toArray, List.getElem_cons_succ, List.getElem_cons_zero]
          refine wpAnyH_take (i := 6) (oi := _) (v := .pointer (some ⟨g2, o2 + k * 8, none⟩)) rfl (by kernel_rfl) (by kernel_rfl) (by kernel_rfl) (fun _ _ _ h => h) (Or.inl ⟨by rfl, fun w h => by go_simp⟩) hHeld ?_
          try simp only [Act.put, List.setIfInBounds_toArray, List.set_cons_zero, List.set_cons_succ, List.getElem_toArray, List.getElem_cons_succ, List.getElem_cons_zero]
          refine wpAnyH_take (i := 7) (oi := _) (v := .agg (vec 8 d.up)) rfl (by kernel_rfl) (by kernel_rfl) (by kernel_rfl) (fun _ _ _ h => h) (yieldsIf_load_mid (by rfl) _ _ rfl _ _ rfl _ _ ((fun w h => range_kept HE2.out hg2z h)) Try.underlying36 rfl (size_cyc8 d.up)) hHeld ?_
          try simp only [Act.put, List.setIfInBounds_toArray, List.set_cons_zero, List.set_cons_succ, List.getElem_toArray, List.getElem_cons_succ, List.getElem_cons_zero]
          refine wpAnyH_ready (rs := [8, 12]) (by kernel_rfl) (by simp) ?_
          refine AllReadyH.cons (o := _) rfl (fun K hK => ?_) (AllReadyH.cons (o := _) rfl (fun K hK => ?_) AllReadyH.nil)
          · go_simp
            refine (TM _).mono ?_; rintro e w5 ⟨rfl, hb5⟩
            go_wp2_with fail
            refine hK.out _ _ (below_next hHeld hb5) (fun hHeld => ?_)
            clear hK K
            try simp only [Act.put, List.setIfInBounds_toArray, List.set_cons_zero, List.set_cons_succ, List.getElem_toArray, List.getElem_cons_succ, List.getElem_cons_zero]
            clear hb5 TM
            refine wpAnyH_take (i := 9) (oi := _) (v := .tuple #[.agg (vec 8 nul), .bool false]) rfl (by kernel_rfl) (by kernel_rfl) (by kernel_rfl) (fun _ _ _ h => h) (Or.inl ⟨by rfl, fun w h => by go_simp⟩) hHeld ?_
            try simp only [Act.put, List.setIfInBounds_toArray, List.set_cons_zero, List.set_cons_succ, List.getElem_toArray, List.getElem_cons_succ, List.getElem_cons_zero]
            refine wpAnyH_take (i := 10) (oi := _) (v := .agg (vec 8 nul)) rfl (by kernel_rfl) (by kernel_rfl) (by kernel_rfl) (fun _ _ _ h => h) (Or.inl ⟨by rfl, fun w h => by go_simp⟩) hHeld ?_
            try simp only [Act.put, List.setIfInBounds_toArray, List.set_cons_zero, List.set_cons_succ, List.getElem_toArray, List.getElem_cons_succ, List.getElem_cons_zero]
            refine wpAnyH_take (i := 11) (oi := _) (v := .bool false) rfl (by kernel_rfl) (by kernel_rfl) (by kernel_rfl) (fun _ _ _ h => h) (Or.inl ⟨by rfl, fun w h => by go_simp⟩) hHeld ?_
            try simp only [Act.put, List.setIfInBounds_toArray, List.set_cons_zero, List.set_cons_succ, List.getElem_toArray, List.getElem_cons_succ, List.getElem_cons_zero]
            refine wpAnyH_ready (rs := [12]) (by kernel_rfl) (by simp) ?_
            refine AllReadyH.cons (o := _) rfl (fun K hK => ?_) AllReadyH.nil
            rw [if_pos (by rfl)]
            go_simp
            have hG : RowAt (w5.alloc (.cells #[.int .i64 0, .int .i64 0, .int .i64 0, .int .i64 0, .int .i64 0, .int .i64 0, .int .i64 0, .int .i64 0] 36)) w5.heap.size 8 36 nul := RowAt.newAt zero8 rfl
            have hgz : wr.heap.size ≤ w5.heap.size := hHeld.size
            refine hK.out _ _ (hHeld.alloc hgz _) (fun hHeld => ?_)
            clear hK K
            try simp only [Act.put, List.setIfInBounds_toArray, List.set_cons_zero, List.set_cons_succ, List.getElem_toArray, List.getElem_cons_succ, List.getElem_cons_zero]
            refine wpAnyH_ready (rs := [13]) (by kernel_rfl) (by simp) ?_
            refine AllReadyH.cons (o := _) rfl (fun K hK => ?_) AllReadyH.nil
            rw [if_pos (by rfl)]
            refine store_step (f' := nul) rfl rfl rfl hG info_cyc ?_
            have hG2 := hG.setRow (f' := nul)
            refine hK.out _ _ (below_setRow hHeld hgz _) (fun hHeld => ?_)
            clear hK K
            try simp only [Act.put, List.setIfInBounds_toArray, List.set_cons_zero, List.set_cons_succ, List.getElem_toArray, List.getElem_cons_succ, List.getElem_cons_zero]
            clear hG
            refine wpAnyH_take (i := 14) (oi := _) (v := .bool false) rfl (by kernel_rfl) (by kernel_rfl) (by kernel_rfl) (fun _ _ _ h => h) (Or.inl ⟨by rfl, fun w h => by go_simp⟩) hHeld ?_
            try simp only [Act.put, List.setIfInBounds_toArray, List.set_cons_zero, List.set_cons_succ, List.getElem_toArray, List.getElem_cons_succ, List.getElem_cons_zero]
            refine wpAnyH_done (by kernel_rfl) ?_ _
            have HS5 := Lib.hid hHeld
            have HG5 := Lib.hid hG2
            clear hG2 hHeld
            generalize (w5.alloc (.cells #[.int .i64 0, .int .i64 0, .int .i64 0, .int .i64 0, .int .i64 0, .int .i64 0, .int .i64 0, .int .i64 0] 36)).setRow w5.heap.size (vec 8 nul) = W6 at *
            generalize w5.heap.size = g9 at *
            have HB6 := Lib.hid (HB.out.trans (HS5.out.mono hZ))
            clear HS5
            go_wp2
            go_ret2
            rw [HNO.out hok]
            exact ⟨by rw [hb]; exact HB6.out.alloc (by have := HB6.out.size; omega) _, _, rfl, by rw [hb]; exact ownL_nilB _ _ _ (by have := HB6.out.size; omega)⟩
          · rw [if_pos (by rfl)]
            go_simp
            have hgz : wr.heap.size ≤ wr.heap.size := Nat.le_refl _
            have hG : RowAt (wr.drew.alloc (.cells #[.int .i64 0, .int .i64 0, .int .i64 0, .int .i64 0, .int .i64 0, .int .i64 0, .int .i64 0, .int .i64 0] 36)) wr.heap.size 8 36 nul := RowAt.newAt zero8 rfl
            refine hK.out _ _ (hHeld.alloc hgz _) (fun hHeld => ?_)
            clear hK K
            try simp only [Act.put, List.setIfInBounds_toArray, List.set_cons_zero, List.set_cons_succ, List.getElem_toArray, List.getElem_cons_succ, List.getElem_cons_zero]
            refine wpAnyH_ready (rs := [8]) (by kernel_rfl) (by simp) ?_
            refine AllReadyH.cons (o := _) rfl (fun K hK => ?_) AllReadyH.nil
            go_simp
            refine (TM _).mono ?_; rintro e w5 ⟨rfl, hb5⟩
            go_wp2_with fail
            replace hG := hG.below hb5
            refine hK.out _ _ (below_next hHeld hb5) (fun hHeld => ?_)
            clear hK K
            try simp only [Act.put, List.setIfInBounds_toArray, List.set_cons_zero, List.set_cons_succ, List.getElem_toArray, List.getElem_cons_succ, List.getElem_cons_zero]
            clear hb5 TM
            refine wpAnyH_take (i := 9) (oi := _) (v := .tuple #[.agg (vec 8 nul), .bool false]) rfl (by kernel_rfl) (by kernel_rfl) (by kernel_rfl) (fun _ _ _ h => h) (Or.inl ⟨by rfl, fun w h => by go_simp⟩) hHeld ?_
            try simp only [Act.put, List.setIfInBounds_toArray, List.set_cons_zero, List.set_cons_succ, List.getElem_toArray, List.getElem_cons_succ, List.getElem_cons_zero]
            refine wpAnyH_take (i := 10) (oi := _) (v := .agg (vec 8 nul)) rfl (by kernel_rfl) (by kernel_rfl) (by kernel_rfl) (fun _ _ _ h => h) (Or.inl ⟨by rfl, fun w h => by go_simp⟩) hHeld ?_
            try simp only [Act.put, List.setIfInBounds_toArray, List.set_cons_zero, List.set_cons_succ, List.getElem_toArray, List.getElem_cons_succ, List.getElem_cons_zero]
            refine wpAnyH_take (i := 11) (oi := _) (v := .bool false) rfl (by kernel_rfl) (by kernel_rfl) (by kernel_rfl) (fun _ _ _ h => h) (Or.inl ⟨by rfl, fun w h => by go_simp⟩) hHeld ?_
            try simp only [Act.put, List.setIfInBounds_toArray, List.set_cons_zero, List.set_cons_succ, List.getElem_toArray, List.getElem_cons_succ, List.getElem_cons_zero]
            refine wpAnyH_ready (rs := [13]) (by kernel_rfl) (by simp) ?_
            refine AllReadyH.cons (o := _) rfl (fun K hK => ?_) AllReadyH.nil
            rw [if_pos (by rfl)]
            refine store_step (f' := nul) rfl rfl rfl hG info_cyc ?_
            have hG2 := hG.setRow (f' := nul)
            refine hK.out _ _ (below_setRow hHeld hgz _) (fun hHeld => ?_)
            clear hK K
            try simp only [Act.put, List.setIfInBounds_toArray, List.set_cons_zero, List.set_cons_succ, List.getElem_toArray, List.getElem_cons_succ, List.getElem_cons_zero]
            clear hG
            refine wpAnyH_take (i := 14) (oi := _) (v := .bool false) rfl (by kernel_rfl) (by kernel_rfl) (by kernel_rfl) (fun _ _ _ h => h) (Or.inl ⟨by rfl, fun w h => by go_simp⟩) hHeld ?_
            try simp only [Act.put, List.setIfInBounds_toArray, List.set_cons_zero, List.set_cons_succ, List.getElem_toArray, List.getElem_cons_succ, List.getElem_cons_zero]
            refine wpAnyH_done (by kernel_rfl) ?_ _
            have HS5 := Lib.hid hHeld
            have HG5 := Lib.hid hG2
            clear hG2 hHeld
            generalize w5.setRow wr.heap.size (vec 8 nul) = W6 at *
            generalize hgen9 : wr.heap.size = g9 at *
            have HB6 := Lib.hid (HB.out.trans (HS5.out.mono hZ))
            clear HS5
            go_wp2
            go_ret2
            rw [HNO.out hok]
            exact ⟨by rw [hb]; exact HB6.out.alloc (by have := HB6.out.size; omega) _, _, rfl, by rw [hb]; exact ownL_nilB _ _ _ (by have := HB6.out.size; omega)⟩
        · rw [hok] at TM
          simp only [if_true] at TM
          go_upto_region 7 with fail
          refine wp_region_held_drew (S := fun w' => Below wr.heap.size wr w') (by kernel_rfl) (Below.refl _ _).drew (fun hHeld => ?_)
          refine wpAnyH_take (i := 0) (oi := _) (v := .slice (some ⟨g1, o1, none⟩) xs.length c1) rfl (by kernel_rfl) (by kernel_rfl) (by kernel_rfl) (fun _ _ _ h => h) (Or.inl ⟨by rfl, fun w h => by go_simp⟩) hHeld ?_
          try simp only [Act.put, List.setIfInBounds_toArray, List.set_cons_zero, List.set_cons_succ, List.getElem_toArray, List.getElem_cons_succ, List.getElem_cons_zero]
          refine wpAnyH_take (i := 1) (oi := _) (v := .int .i64 k) rfl (by kernel_rfl) (by kernel_rfl) (by kernel_rfl) (fun _ _ _ h => h) (Or.inl ⟨by rfl, fun w h => by go_simp⟩) hHeld ?_
          try simp only [Act.put, List.setIfInBounds_toArray, List.set_cons_zero, List.set_cons_succ, List.getElem_toArray, List.getElem_cons_succ, List.getElem_cons_zero]
          refine wpAnyH_take (i := 2) (oi := _) (v := .pointer (some ⟨g1, o1 + k * 8, none⟩)) rfl (by kernel_rfl) (by kernel_rfl) (by kernel_rfl) (fun _ _ _ h => h) (Or.inl ⟨by rfl, fun w h => by go_simp⟩) hHeld ?_
          try simp only [Act.put, List.setIfInBounds_toArray, List.set_cons_zero, List.set_cons_succ, List.getElem_toArray, List.getElem_cons_succ, List.getElem_cons_zero]
          refine wpAnyH_take (i := 3) (oi := _) (v := .agg (vec 8 c.up)) rfl (by kernel_rfl) (by kernel_rfl) (by kernel_rfl) (fun _ _ _ h => h) (yieldsIf_load_mid (by rfl) _ _ rfl _ _ rfl _ _ ((fun w h => range_kept HE1.out hg1z h)) Try.underlying36 rfl (size_cyc8 c.up)) hHeld ?_
          try simp only [Act.put, List.setIfInBounds_toArray, List.set_cons_zero, List.set_cons_succ, List.getElem_toArray, List.getElem_cons_succ, List.getElem_cons_zero]
          refine wpAnyH_take (i := 4) (oi := _) (v := .slice (some ⟨g2, o2, none⟩) ys.length c2) rfl (by kernel_rfl) (by kernel_rfl) (by kernel_rfl) (fun _ _ _ h => h) (Or.inl ⟨by rfl, fun w h => by go_simp⟩) hHeld ?_
          try simp only [Act.put, List.setIfInBounds_toArray, List.set_cons_zero, List.set_cons_succ, List.getElem_toArray, List.getElem_cons_succ, List.getElem_cons_zero]
          refine wpAnyH_take (i := 5) (oi := _) (v := .int .i64 k) rfl (by kernel_rfl) (by kernel_rfl) (by kernel_rfl) (fun _ _ _ h => h) (Or.inl ⟨by rfl, fun w h => by go_simp⟩) hHeld ?_
          try simp only [Act.put, List.setIfInBounds_toArray, List.set_cons_zero, List.set_cons_succ, List.getElem_toArray, List.getElem_cons_succ, List.getElem_cons_zero]
          refine wpAnyH_take (i := 6) (oi := _) (v := .pointer (some ⟨g2, o2 + k * 8, none⟩)) rfl (by kernel_rfl) (by kernel_rfl) (by kernel_rfl) (fun _ _ _ h => h) (Or.inl ⟨by rfl, fun w h => by go_simp⟩) hHeld ?_
          try simp only [Act.put, List.setIfInBounds_toArray, List.set_cons_zero, List.set_cons_succ, List.getElem_toArray, List.getElem_cons_succ, List.getElem_cons_zero]
          refine wpAnyH_take (i := 7) (oi := _) (v := .agg (vec 8 d.up)) rfl (by kernel_rfl) (by kernel_rfl) (by kernel_rfl) (fun _ _ _ h => h) (yieldsIf_load_mid (by rfl) _ _ rfl _ _ rfl _ _ ((fun w h => range_kept HE2.out hg2z h)) Try.underlying36 rfl (size_cyc8 d.up)) hHeld ?_
          try simp only [Act.put, List.setIfInBounds_toArray, List.set_cons_zero, List.set_cons_succ, List.getElem_toArray, List.getElem_cons_succ, List.getElem_cons_zero]
          refine wpAnyH_ready (rs := [8, 12]) (by kernel_rfl) (by simp) ?_
          refine AllReadyH.cons (o := _) rfl (fun K hK => ?_) (AllReadyH.cons (o := _) rfl (fun K hK => ?_) AllReadyH.nil)
          · go_simp
            refine (TM _).mono ?_; rintro e w5 ⟨rfl, hb5⟩
            go_wp2_with fail
            refine hK.out _ _ (below_next hHeld hb5) (fun hHeld => ?_)
            clear hK K
            try simp only [Act.put, List.setIfInBounds_toArray, List.set_cons_zero, List.set_cons_succ, List.getElem_toArray, List.getElem_cons_succ, List.getElem_cons_zero]
            clear hb5 TM
            refine wpAnyH_take (i := 9) (oi := _) (v := .tuple #[.agg (vec 8 P.up), .bool true]) rfl (by kernel_rfl) (by kernel_rfl) (by kernel_rfl) (fun _ _ _ h => h) (Or.inl ⟨by rfl, fun w h => by go_simp⟩) hHeld ?_
            try simp only [Act.put, List.setIfInBounds_toArray, List.set_cons_zero, List.set_cons_succ, List.getElem_toArray, List.getElem_cons_succ, List.getElem_cons_zero]
            refine wpAnyH_take (i := 10) (oi := _) (v := .agg (vec 8 P.up)) rfl (by kernel_rfl) (by kernel_rfl) (by kernel_rfl) (fun _ _ _ h => h) (Or.inl ⟨by rfl, fun w h => by go_simp⟩) hHeld ?_
            try simp only [Act.put, List.setIfInBounds_toArray, List.set_cons_zero, List.set_cons_succ, List.getElem_toArray, List.getElem_cons_succ, List.getElem_cons_zero]
            refine wpAnyH_take (i := 11) (oi := _) (v := .bool true) rfl (by kernel_rfl) (by kernel_rfl) (by kernel_rfl) (fun _ _ _ h => h) (Or.inl ⟨by rfl, fun w h => by go_simp⟩) hHeld ?_
            try simp only [Act.put, List.setIfInBounds_toArray, List.set_cons_zero, List.set_cons_succ, List.getElem_toArray, List.getElem_cons_succ, List.getElem_cons_zero]
            refine wpAnyH_ready (rs := [12]) (by kernel_rfl) (by simp) ?_
            refine AllReadyH.cons (o := _) rfl (fun K hK => ?_) AllReadyH.nil
            rw [if_pos (by rfl)]
            go_simp
            have hG : RowAt (w5.alloc (.cells #[.int .i64 0, .int .i64 0, .int .i64 0, .int .i64 0, .int .i64 0, .int .i64 0, .int .i64 0, .int .i64 0] 36)) w5.heap.size 8 36 nul := RowAt.newAt zero8 rfl
            have hgz : wr.heap.size ≤ w5.heap.size := hHeld.size
            refine hK.out _ _ (hHeld.alloc hgz _) (fun hHeld => ?_)
            clear hK K
            try simp only [Act.put, List.setIfInBounds_toArray, List.set_cons_zero, List.set_cons_succ, List.getElem_toArray, List.getElem_cons_succ, List.getElem_cons_zero]
            refine wpAnyH_ready (rs := [13]) (by kernel_rfl) (by simp) ?_
            refine AllReadyH.cons (o := _) rfl (fun K hK => ?_) AllReadyH.nil
            rw [if_pos (by rfl)]
            refine store_step (f' := P.up) rfl rfl rfl hG info_cyc ?_
            have hG2 := hG.setRow (f' := P.up)
            refine hK.out _ _ (below_setRow hHeld hgz _) (fun hHeld => ?_)
            clear hK K
            try simp only [Act.put, List.setIfInBounds_toArray, List.set_cons_zero, List.set_cons_succ, List.getElem_toArray, List.getElem_cons_succ, List.getElem_cons_zero]
            clear hG
            refine wpAnyH_take (i := 14) (oi := _) (v := .bool true) rfl (by kernel_rfl) (by kernel_rfl) (by kernel_rfl) (fun _ _ _ h => h) (Or.inl ⟨by rfl, fun w h => by go_simp⟩) hHeld ?_
            try simp only [Act.put, List.setIfInBounds_toArray, List.set_cons_zero, List.set_cons_succ, List.getElem_toArray, List.getElem_cons_succ, List.getElem_cons_zero]
            refine wpAnyH_done (by kernel_rfl) ?_ _
            have HS5 := Lib.hid hHeld
            have HG5 := Lib.hid hG2
            clear hG2 hHeld
            generalize (w5.alloc (.cells #[.int .i64 0, .int .i64 0, .int .i64 0, .int .i64 0, .int .i64 0, .int .i64 0, .int .i64 0, .int .i64 0] 36)).setRow w5.heap.size (vec 8 P.up) = W6 at *
            generalize w5.heap.size = g9 at *
            have HB6 := Lib.hid (HB.out.trans (HS5.out.mono hZ))
            have HO6 := Lib.hid (rows_below' HO.out HS5.out (by first | rfl | exact hgen9.symm))
            have hZ6 : b ≤ W6.heap.size := by have := HB6.out.size; omega
            clear HS5
            go_wp2_with (first | (refine load_row (ty := 36) (g := g9) rfl rfl rfl HG5.out Try.underlying36 rfl info_cyc ?_; clear HG5) | (refine one8 tyY rfl rfl rfl ?_) |
              (refine appendL tyY encV_ok rfl rfl rfl rfl (xs := l) (World.ownsRow.alloc HO6.out _) (lit8 _ _ _) (by simp; omega) (HB6.out.alloc hZ6 _) (by simp; omega) ?_; intro v2 w8 ho8 hb8 hB8 hg8))
            go_roundw
            case rel => exact ⟨k + 1, l ++ [P], by omega, by go_num, by rw [HST.out, if_pos hok], ho8, hb8⟩
            case measure => simp [intOf]; omega
          · rw [if_pos (by rfl)]
            go_simp
            have hgz : wr.heap.size ≤ wr.heap.size := Nat.le_refl _
            have hG : RowAt (wr.drew.alloc (.cells #[.int .i64 0, .int .i64 0, .int .i64 0, .int .i64 0, .int .i64 0, .int .i64 0, .int .i64 0, .int .i64 0] 36)) wr.heap.size 8 36 nul := RowAt.newAt zero8 rfl
            refine hK.out _ _ (hHeld.alloc hgz _) (fun hHeld => ?_)
            clear hK K
            try simp only [Act.put, List.setIfInBounds_toArray, List.set_cons_zero, List.set_cons_succ, List.getElem_toArray, List.getElem_cons_succ, List.getElem_cons_zero]
            refine wpAnyH_ready (rs := [8]) (by kernel_rfl) (by simp) ?_
            refine AllReadyH.cons (o := _) rfl (fun K hK => ?_) AllReadyH.nil
            go_simp
            refine (TM _).mono ?_; rintro e w5 ⟨rfl, hb5⟩
            go_wp2_with fail
            replace hG := hG.below hb5
            refine hK.out _ _ (below_next hHeld hb5) (fun hHeld => ?_)
            clear hK K
            try simp only [Act.put, List.setIfInBounds_toArray, List.set_cons_zero, List.set_cons_succ, List.getElem_toArray, List.getElem_cons_succ, List.getElem_cons_zero]
            clear hb5 TM
            refine wpAnyH_take (i := 9) (oi := _) (v := .tuple #[.agg (vec 8 P.up), .bool true]) rfl (by kernel_rfl) (by kernel_rfl) (by kernel_rfl) (fun _ _ _ h => h) (Or.inl ⟨by rfl, fun w h => by go_simp⟩) hHeld ?_
            try simp only [Act.put, List.setIfInBounds_toArray, List.set_cons_zero, List.set_cons_succ, List.getElem_toArray, List.getElem_cons_succ, List.getElem_cons_zero]
            refine wpAnyH_take (i := 10) (oi := _) (v := .agg (vec 8 P.up)) rfl (by kernel_rfl) (by kernel_rfl) (by kernel_rfl) (fun _ _ _ h => h) (Or.inl ⟨by rfl, fun w h => by go_simp⟩) hHeld ?_
            try simp only [Act.put, List.setIfInBounds_toArray, List.set_cons_zero, List.set_cons_succ, List.getElem_toArray, List.getElem_cons_succ, List.getElem_cons_zero]
            refine wpAnyH_take (i := 11) (oi := _) (v := .bool true) rfl (by kernel_rfl) (by kernel_rfl) (by kernel_rfl) (fun _ _ _ h => h) (Or.inl ⟨by rfl, fun w h => by go_simp⟩) hHeld ?_
            try simp only [Act.put, List.setIfInBounds_toArray, List.set_cons_zero, List.set_cons_succ, List.getElem_toArray, List.getElem_cons_succ, List.getElem_cons_zero]
            refine wpAnyH_ready (rs := [13]) (by kernel_rfl) (by simp) ?_
            refine AllReadyH.cons (o := _) rfl (fun K hK => ?_) AllReadyH.nil
            rw [if_pos (by rfl)]
            refine store_step (f' := P.up) rfl rfl rfl hG info_cyc ?_
            have hG2 := hG.setRow (f' := P.up)
            refine hK.out _ _ (below_setRow hHeld hgz _) (fun hHeld => ?_)
            clear hK K
            try simp only [Act.put, List.setIfInBounds_toArray, List.set_cons_zero, List.set_cons_succ, List.getElem_toArray, List.getElem_cons_succ, List.getElem_cons_zero]
            clear hG
            refine wpAnyH_take (i := 14) (oi := _) (v := .bool true) rfl (by kernel_rfl) (by kernel_rfl) (by kernel_rfl) (fun _ _ _ h => h) (Or.inl ⟨by rfl, fun w h => by go_simp⟩) hHeld ?_
            try simp only [Act.put, List.setIfInBounds_toArray, List.set_cons_zero, List.set_cons_succ, List.getElem_toArray, List.getElem_cons_succ, List.getElem_cons_zero]
            refine wpAnyH_done (by kernel_rfl) ?_ _
            have HS5 := Lib.hid hHeld
            have HG5 := Lib.hid hG2
            clear hG2 hHeld
            generalize w5.setRow wr.heap.size (vec 8 P.up) = W6 at *
            generalize hgen9 : wr.heap.size = g9 at *
            have HB6 := Lib.hid (HB.out.trans (HS5.out.mono hZ))
            have HO6 := Lib.hid (rows_below' HO.out HS5.out (by first | rfl | exact hgen9.symm))
            have hZ6 : b ≤ W6.heap.size := by have := HB6.out.size; omega
            clear HS5
            go_wp2_with (first | (refine load_row (ty := 36) (g := g9) rfl rfl rfl HG5.out Try.underlying36 rfl info_cyc ?_; clear HG5) | (refine one8 tyY rfl rfl rfl ?_) |
              (refine appendL tyY encV_ok rfl rfl rfl rfl (xs := l) (World.ownsRow.alloc HO6.out _) (lit8 _ _ _) (by simp; omega) (HB6.out.alloc hZ6 _) (by simp; omega) ?_; intro v2 w8 ho8 hb8 hB8 hg8))
            go_roundw
            case rel => exact ⟨k + 1, l ++ [P], by omega, by go_num, by rw [HST.out, if_pos hok], ho8, hb8⟩
            case measure => simp [intOf]; omega
      · obtain rfl : k = xs.length := by omega
        have HF : Aside (res = some l) := (show res = some l from by rw [← HRS.out]; exact HL.out)
        go_wp2
        go_ret2
        rw [HF.out]
        exact ⟨by rw [hb]; exact HB.out, _, rfl, by rw [hb]; exact HO.out⟩
end Go.Proofs.Ytdgbpdeimckbfaa
