/-
  The model's rows: circular products.
-/
import Derived.Test.YtdgbpdeimckbfaaM21
/- The model's rows: circular products. -/
namespace Go.Proofs.Ytdgbpdeimckbfaa
set_option maxRecDepth 20000
open Go.ChangeShapes Go.WideShapes Go.ChangeAt Go.RowKit
set_option linter.unusedVariables false
set_option linter.unusedSimpArgs false

theorem ownL_nilC (w : World) (B : Nat) (T : Nat) (g : Nat) (hg : w.heap.size = g) (hB : B ≤ w.heap.size) : (w.alloc (.cells #[] T)).ownsRow B T 8 (.slice (some ⟨g, 0, none⟩) 0 0) 0 [] := by subst hg; exact ownL_nilB w B T hB
theorem crO_pair {a b : List V} (h : pairOk a b = true) : crO a b = coll (crSum a b) a.length := by unfold crO; rw [if_pos h]; rfl
theorem crO_none {a b : List V} (h : pairOk a b = false) : crO a b = none := by unfold crO; rw [h]; rfl
theorem ans_any (v : Bool) (c : Nat → Int) : ∃ d q, ans v c = .tuple #[.agg (vec 8 d), .bool q] := by
  cases h : (v && okc c)
  · exact ⟨nul, false, by unfold ans; rw [h]; rfl⟩
  · exact ⟨c, true, by unfold ans; rw [h]; rfl⟩
theorem specAddV (a b : V) (ha : okv a = true) (hb : okv b = true) (w : World) : Calls Try.prog 105 #[pt a.up, pt b.up] w fun e w' => e = .returned (.tuple #[pt (if okv (V.add a b) then V.add a b else V.zero).up, .bool (okv (V.add a b))]) ∧ Below w.heap.size w w' := by
  have h := specAdd_any a.up b.up w
  have e : okv (V.add a b) = okc (add a.up b.up) := by unfold okv; rw [add_up]
  rw [show okc a.up = true from ha, show okc b.up = true from hb] at h
  rw [e]
  cases hk : okc (add a.up b.up)
  · rw [show (true && true) = true from rfl, ans_bad hk] at h
    rw [if_neg (by decide), zero_up]
    exact h
  · rw [show (true && true) = true from rfl, ans_yes hk, ← add_up] at h
    rw [if_pos rfl]
    exact h
theorem sumP_no1 {f : Nat → V} {k n : Nat} (h : okv (f k) = false) (hk : k < n) : sumP f n = none := by unfold sumP; rw [collP_none h hk]; rfl
theorem sumP_no2 {f : Nat → V} {m n : Nat} (h : sumN f m = none) (hm : m ≤ n) : sumP f n = none := by
  unfold sumP
  split
  · exact sumN_none h hm
  · rfl
set_option maxHeartbeats 6000000 in
theorem specRowCircular_any (v u : Value) (xs ys : List V) (w : World) (hv : ReadsL encV w v xs) (hu : ReadsL encV w u ys) : Calls Try.prog 48 #[v, u] w (ToldL 36 w (crO xs ys)) := by
  have hz : Below w.heap.size w (w.alloc (.cells #[] 36)) := (Below.refl _ _).alloc (Nat.le_refl _) _
  have TW := specTwo_any v u xs ys (w.alloc (.cells #[] 36)) (hv.below hz) (hu.below hz)
  have HV := Lib.hid hv
  have HU := Lib.hid hu
  have HO0 := Lib.hid (ownL_nilB w w.heap.size 36 (Nat.le_refl _))
  have HL0 := Lib.hid hz
  clear hz hv hu
  generalize hres : crO xs ys = res
  have HRES := Lib.hid hres
  clear hres
  cases hr : pairOk xs ys
  · have HF : Aside (res = none) := (show res = none from by rw [← HRES.out]; exact crO_none hr)
    rw [hr] at TW
    have TW := Lib.hid TW
    clear hr
    go_enter Try.func48, Try.ntmps48
    go_wp2_with fail
    refine TW.out.mono ?_; rintro e w1 ⟨rfl, hb1⟩
    have HL1 := Lib.hid (below_next HL0.out hb1)
    have HO1 := Lib.hid (rows_below HO0.out hb1)
    clear TW hb1 HL0 HO0
    go_wp2
    go_ret2
    rw [HF.out]
    exact ⟨HL1.out, _, rfl, HO1.out⟩
  · rw [hr] at TW
    obtain ⟨hrx, hry, hlen⟩ := pairOk_in hr
    obtain ⟨hl1, hl24⟩ := rowOk_short hrx
    have HLEN := Lib.hid hlen
    clear hlen
    have HRX := Lib.hid hrx
    have HRY := Lib.hid hry
    have HRS : Aside (coll (crSum xs ys) xs.length = res) := (show _ = res from by rw [← HRES.out, crO_pair hr])
    obtain ⟨g1, o1, c1, rfl, hc1, hm1, hg1, hrg1⟩ := reads_ptr HV.out (rowOk_ne' hrx)
    obtain ⟨g2, o2, c2, rfl, hc2, hm2, hg2, hrg2⟩ := reads_ptr HU.out (rowOk_ne' hry)
    have HR1 := Lib.hid hrg1
    have HR2 := Lib.hid hrg2
    simp only [maxLen] at hm1 hm2
    have TW := Lib.hid TW
    clear hr hrg1 hrg2 HV HU hrx hry HRES
    go_enter Try.func48, Try.ntmps48
    go_wp2_with fail
    refine TW.out.mono ?_; rintro e w1 ⟨rfl, hb1⟩
    have HL1 := Lib.hid (below_next HL0.out hb1)
    have HO1 := Lib.hid (rows_below HO0.out hb1)
    clear TW hb1 HL0 HO0
    go_wp2
    generalize hb : w.heap.size = b at *
    go_loopw [6, 8, 9, 10, 11, 12, 13, 14] (fun s6 i _ _ _ _ _ _ wr => ∃ (k : Nat) (l : List V), k ≤ xs.length ∧ i = .int .i64 k ∧ coll (crSum xs ys) k = some l ∧ OwnL encV 8 wr b 36 s6 l ∧ Below b w wr) (fun _ i _ _ _ _ _ _ _ => xs.length - (intOf i).toNat)
    case atStart => exact ⟨0, [], Nat.zero_le _, rfl, rfl, HO1.out, HL1.out⟩
    case round =>
      clear HO1 HL1
      obtain ⟨k, l, hk, rfl, hl, hO, hbel⟩ := hrel
      have HL := Lib.hid hl
      have HO := Lib.hid hO
      have HB := Lib.hid hbel
      have hZ : b ≤ wr.heap.size := by have := hbel.size; omega
      have hlk := coll_len hl
      clear hl hO hbel
      by_cases hlt : k < xs.length
      · have hkz : (k : Int) < (xs.length : Int) := by omega
        have hk0 : (0 : Int) ≤ (k : Int) := by omega
        have HOa := Lib.hid (World.ownsRow.alloc HO.out (.cells (vec 8 nul) 36))
        have HBa := Lib.hid (HB.out.alloc hZ (.cells (vec 8 nul) 36))
        have HXa := Lib.hid (show RowAt (wr.alloc (.cells (vec 8 nul) 36)) wr.heap.size 8 36 V.zero.up from by rw [zero_up]; exact RowAt.new wr 8 _ _)
        have hgb : b ≤ wr.heap.size := hZ
        have hub : ∀ k, u6.ownBlock = some k → k < wr.heap.size := fun k h => (HO.out.lt k h).2
        have HNO : Aside (crSum xs ys k = none → res = none) := (show _ → _ from fun h => by rw [← HRS.out]; exact coll_none h hlt)
        obtain ⟨f, hf⟩ : ∃ f : Nat → V, f = fun i => prV (at' xs i) (at' ys (cix xs.length k i)) := ⟨_, rfl⟩
        have HCR : Aside (crSum xs ys k = sumP f xs.length) := (show _ = _ from by rw [hf]; rfl)
        have HFF := Lib.hid hf
        clear HO HB hf
        go_upto_region 9 with (refine store_new (ty := 36) (f' := nul) rfl rfl rfl rfl zero8 info_cyc ?_)
        show Code.wp _ _ _ _ (wr.alloc (.cells (vec 8 nul) 36))
        generalize wr.alloc (.cells (vec 8 nul) 36) = W at *
        generalize wr.heap.size = gx at *
        go_wp2
        go_loopw [10, 11, 12, 13, 14] (fun i _ _ _ _ wr => ∃ (m : Nat) (L : List V) (s : V), m ≤ xs.length ∧ i = .int .i64 m ∧ collP f m = some L ∧ sumN f m = some s ∧ RowAt wr gx 8 36 s.up ∧ OwnL encV 8 wr b 36 u6 l ∧ Below b w wr) (fun i _ _ _ _ _ => xs.length - (intOf i).toNat)
        case atStart => exact ⟨0, [], V.zero, Nat.zero_le _, rfl, rfl, rfl, HXa.out, HOa.out, HBa.out⟩
        case round =>
          clear HXa HOa HBa
          obtain ⟨m, L, s, hm, rfl, hL, hs, hX, hO, hbel⟩ := hrel
          have HX := Lib.hid hX
          have HO := Lib.hid hO
          have HB := Lib.hid hbel
          have HCL := Lib.hid hL
          have HT := Lib.hid hs
          have hZ2 : b ≤ wr.heap.size := by have := hbel.size; omega
          clear hX hO hbel hL hs
          by_cases hltm : m < xs.length
          · have hmz : (m : Int) < (xs.length : Int) := by omega
            have hm0 : (0 : Int) ≤ (m : Int) := by omega
            have hcx : cix xs.length k m < xs.length := cix_lt (by omega)
            have q1 : IntKind.i64.wrap ((k : Int) - (m : Int)) = (k : Int) - (m : Int) := by rw [IntKind.wrap_i64]; omega
            have q2 : IntKind.i64.wrap ((k : Int) - (m : Int) + (xs.length : Int)) = (k : Int) - (m : Int) + (xs.length : Int) := by rw [IntKind.wrap_i64]; omega
            have q3 : ((k : Int) - (m : Int) + (xs.length : Int)).tmod (xs.length : Int) = ((cix xs.length k m : Nat) : Int) := by
              unfold cix
              rw [Int.tmod_eq_emod_of_nonneg (by omega), show (k : Int) - (m : Int) + (xs.length : Int) = ((k + xs.length - m : Nat) : Int) by omega]; simp
            have q4 : IntKind.i64.wrap ((cix xs.length k m : Nat) : Int) = ((cix xs.length k m : Nat) : Int) := by rw [IntKind.wrap_i64]; omega
            have q5 : ¬ (xs.length : Int) = 0 := by omega
            have q5b : ¬ xs = [] := rowOk_ne' HRX.out
            have q6 : ((cix xs.length k m : Nat) : Int) < (ys.length : Int) := by have := HLEN.out; omega
            have q7 : (0 : Int) ≤ ((cix xs.length k m : Nat) : Int) := by omega
            have HE1 := Lib.hid (cells_part encV_ok (cells_below HR1.out (by omega) HB.out) (at_get hltm))
            have HE2 := Lib.hid (cells_part encV_ok (cells_below HR2.out (by omega) HB.out) (at_get (by have := HLEN.out; omega : cix xs.length k m < ys.length)))
            have TM := fun w => specProdV (at' xs m) (at' ys (cix xs.length k m)) (rowOk_at HRX.out hltm) (rowOk_at HRY.out (by have := HLEN.out; omega)) w
            have hfm : f m = prV (at' xs m) (at' ys (cix xs.length k m)) := by rw [HFF.out]
            have HST1 := Lib.hid (collP_step HCL.out)
            have HST2 := Lib.hid (sumN_step HT.out)
            have HN1 : Aside (okv (f m) = false → res = none) := (show _ → _ from fun h => HNO.out (by rw [HCR.out]; exact sumP_no1 h hltm))
            have HN2 : Aside (sumN f (m + 1) = none → res = none) := (show _ → _ from fun h => HNO.out (by rw [HCR.out]; exact sumP_no2 h (by omega)))
            have hsok := sumN_ok HT.out
            have hg1z : g1 < wr.heap.size := by omega
            have hg2z : g2 < wr.heap.size := by omega
            rw [← hfm] at TM
            generalize f m = P at *
            generalize at' xs m = c at *
            generalize at' ys (cix xs.length k m) = d at *
            generalize cix xs.length k m = cx at *
            clear hfm
            cases hok : okv P
            · rw [hok] at TM
              simp only [Bool.false_eq_true, if_false, zero_up] at TM
              go_upto_region 12 with fail
              refine wp_region_held_drew (S := fun w' => Below wr.heap.size wr w') (by kernel_rfl) (Below.refl _ _).drew (fun hHeld => ?_)
              refine wpAnyH_take (i := 0) (oi := _) (v := .slice (some ⟨g1, o1, none⟩) xs.length c1) rfl (by kernel_rfl) (by kernel_rfl) (by kernel_rfl) (fun _ _ _ h => h) (Or.inl ⟨by rfl, fun w h => by go_simp⟩) hHeld ?_
              try simp only [Act.put, List.setIfInBounds_toArray, List.set_cons_zero, List.set_cons_succ, List.getElem_toArray, List.getElem_cons_succ, List.getElem_cons_zero]
              refine wpAnyH_take (i := 1) (oi := _) (v := .int .i64 m) rfl (by kernel_rfl) (by kernel_rfl) (by kernel_rfl) (fun _ _ _ h => h) (Or.inl ⟨by rfl, fun w h => by go_simp⟩) hHeld ?_
              try simp only [Act.put, List.setIfInBounds_toArray, List.set_cons_zero, List.set_cons_succ, List.getElem_toArray, List.getElem_cons_succ, List.getElem_cons_zero]
              refine wpAnyH_take (i := 2) (oi := _) (v := .pointer (some ⟨g1, o1 + m * 8, none⟩)) rfl (by kernel_rfl) (by kernel_rfl) (by kernel_rfl) (fun _ _ _ h => h) (Or.inl ⟨by rfl, fun w h => by go_simp⟩) hHeld ?_
              try simp only [Act.put, List.setIfInBounds_toArray, List.set_cons_zero, List.set_cons_succ, List.getElem_toArray, List.getElem_cons_succ, List.getElem_cons_zero]
              refine wpAnyH_take (i := 3) (oi := _) (v := .agg (vec 8 c.up)) rfl (by kernel_rfl) (by kernel_rfl) (by kernel_rfl) (fun _ _ _ h => h) (yieldsIf_load_mid (by rfl) _ _ rfl _ _ rfl _ _ ((fun w h => range_kept HE1.out hg1z h)) Try.underlying36 rfl (size_cyc8 c.up)) hHeld ?_
              try simp only [Act.put, List.setIfInBounds_toArray, List.set_cons_zero, List.set_cons_succ, List.getElem_toArray, List.getElem_cons_succ, List.getElem_cons_zero]
              refine wpAnyH_take (i := 4) (oi := _) (v := .slice (some ⟨g2, o2, none⟩) ys.length c2) rfl (by kernel_rfl) (by kernel_rfl) (by kernel_rfl) (fun _ _ _ h => h) (Or.inl ⟨by rfl, fun w h => by go_simp⟩) hHeld ?_
              try simp only [Act.put, List.setIfInBounds_toArray, List.set_cons_zero, List.set_cons_succ, List.getElem_toArray, List.getElem_cons_succ, List.getElem_cons_zero]
              refine wpAnyH_take (i := 5) (oi := _) (v := .int .i64 k) rfl (by kernel_rfl) (by kernel_rfl) (by kernel_rfl) (fun _ _ _ h => h) (Or.inl ⟨by rfl, fun w h => by go_simp⟩) hHeld ?_
              try simp only [Act.put, List.setIfInBounds_toArray, List.set_cons_zero, List.set_cons_succ, List.getElem_toArray, List.getElem_cons_succ, List.getElem_cons_zero]
              refine wpAnyH_take (i := 6) (oi := _) (v := .int .i64 m) rfl (by kernel_rfl) (by kernel_rfl) (by kernel_rfl) (fun _ _ _ h => h) (Or.inl ⟨by rfl, fun w h => by go_simp⟩) hHeld ?_
              try simp only [Act.put, List.setIfInBounds_toArray, List.set_cons_zero, List.set_cons_succ, List.getElem_toArray, List.getElem_cons_succ, List.getElem_cons_zero]
              refine wpAnyH_take (i := 7) (oi := _) (v := .int .i64 ((k : Int) - (m : Int))) rfl (by kernel_rfl) (by kernel_rfl) (by kernel_rfl) (fun _ _ _ h => h) (Or.inl ⟨by rfl, fun w h => by go_simp⟩) hHeld ?_
              try simp only [Act.put, List.setIfInBounds_toArray, List.set_cons_zero, List.set_cons_succ, List.getElem_toArray, List.getElem_cons_succ, List.getElem_cons_zero]
              refine wpAnyH_take (i := 8) (oi := _) (v := .int .i64 xs.length) rfl (by kernel_rfl) (by kernel_rfl) (by kernel_rfl) (fun _ _ _ h => h) (Or.inl ⟨by rfl, fun w h => by go_simp⟩) hHeld ?_
              try simp only [Act.put, List.setIfInBounds_toArray, List.set_cons_zero, List.set_cons_succ, List.getElem_toArray, List.getElem_cons_succ, List.getElem_cons_zero]
              refine wpAnyH_take (i := 9) (oi := _) (v := .int .i64 ((k : Int) - (m : Int) + (xs.length : Int))) rfl (by kernel_rfl) (by kernel_rfl) (by kernel_rfl) (fun _ _ _ h => h) (Or.inl ⟨by rfl, fun w h => by go_simp⟩) hHeld ?_
              try simp only [Act.put, List.setIfInBounds_toArray, List.set_cons_zero, List.set_cons_succ, List.getElem_toArray, List.getElem_cons_succ, List.getElem_cons_zero]
              refine wpAnyH_take (i := 10) (oi := _) (v := .int .i64 xs.length) rfl (by kernel_rfl) (by kernel_rfl) (by kernel_rfl) (fun _ _ _ h => h) (Or.inl ⟨by rfl, fun w h => by go_simp⟩) hHeld ?_
              try simp only [Act.put, List.setIfInBounds_toArray, List.set_cons_zero, List.set_cons_succ, List.getElem_toArray, List.getElem_cons_succ, List.getElem_cons_zero]
              refine wpAnyH_take (i := 11) (oi := _) (v := .int .i64 cx) rfl (by kernel_rfl) (by kernel_rfl) (by kernel_rfl) (fun _ _ _ h => h) (Or.inl ⟨by rfl, fun w h => by go_simp⟩) hHeld ?_
              try simp only [Act.put, List.setIfInBounds_toArray, List.set_cons_zero, List.set_cons_succ, List.getElem_toArray, List.getElem_cons_succ, List.getElem_cons_zero]
              refine wpAnyH_take (i := 12) (oi := _) (v := .pointer (some ⟨g2, o2 + cx * 8, none⟩)) rfl (by kernel_rfl) (by kernel_rfl) (by kernel_rfl) (fun _ _ _ h => h) (Or.inl ⟨by rfl, fun w h => by go_simp⟩) hHeld ?_
              try simp only [Act.put, List.setIfInBounds_toArray, List.set_cons_zero, List.set_cons_succ, List.getElem_toArray, List.getElem_cons_succ, List.getElem_cons_zero]
              refine wpAnyH_take (i := 13) (oi := _) (v := .agg (vec 8 d.up)) rfl (by kernel_rfl) (by kernel_rfl) (by kernel_rfl) (fun _ _ _ h => h) (yieldsIf_load_mid (by rfl) _ _ rfl _ _ rfl _ _ ((fun w h => range_kept HE2.out hg2z h)) Try.underlying36 rfl (size_cyc8 d.up)) hHeld ?_
              try simp only [Act.put, List.setIfInBounds_toArray, List.set_cons_zero, List.set_cons_succ, List.getElem_toArray, List.getElem_cons_succ, List.getElem_cons_zero]
              refine wpAnyH_ready (rs := [14, 18]) (by kernel_rfl) (by simp) ?_
              refine AllReadyH.cons (o := _) rfl (fun K hK => ?_) (AllReadyH.cons (o := _) rfl (fun K hK => ?_) AllReadyH.nil)
              · go_simp
                refine (TM _).mono ?_; rintro e w5 ⟨rfl, hb5⟩
                go_wp2_with fail
                refine hK.out _ _ (below_next hHeld hb5) (fun hHeld => ?_)
                clear hK K
                try simp only [Act.put, List.setIfInBounds_toArray, List.set_cons_zero, List.set_cons_succ, List.getElem_toArray, List.getElem_cons_succ, List.getElem_cons_zero]
                clear hb5 TM
                refine wpAnyH_take (i := 15) (oi := _) (v := .tuple #[.agg (vec 8 nul), .bool false]) rfl (by kernel_rfl) (by kernel_rfl) (by kernel_rfl) (fun _ _ _ h => h) (Or.inl ⟨by rfl, fun w h => by go_simp⟩) hHeld ?_
                try simp only [Act.put, List.setIfInBounds_toArray, List.set_cons_zero, List.set_cons_succ, List.getElem_toArray, List.getElem_cons_succ, List.getElem_cons_zero]
                refine wpAnyH_take (i := 16) (oi := _) (v := .agg (vec 8 nul)) rfl (by kernel_rfl) (by kernel_rfl) (by kernel_rfl) (fun _ _ _ h => h) (Or.inl ⟨by rfl, fun w h => by go_simp⟩) hHeld ?_
                try simp only [Act.put, List.setIfInBounds_toArray, List.set_cons_zero, List.set_cons_succ, List.getElem_toArray, List.getElem_cons_succ, List.getElem_cons_zero]
                refine wpAnyH_take (i := 17) (oi := _) (v := .bool false) rfl (by kernel_rfl) (by kernel_rfl) (by kernel_rfl) (fun _ _ _ h => h) (Or.inl ⟨by rfl, fun w h => by go_simp⟩) hHeld ?_
                try simp only [Act.put, List.setIfInBounds_toArray, List.set_cons_zero, List.set_cons_succ, List.getElem_toArray, List.getElem_cons_succ, List.getElem_cons_zero]
                refine wpAnyH_ready (rs := [18]) (by kernel_rfl) (by simp) ?_
                refine AllReadyH.cons (o := _) rfl (fun K hK => ?_) AllReadyH.nil
                rw [if_pos (by rfl)]
                go_simp
                have hG : RowAt (w5.alloc (.cells #[.int .i64 0, .int .i64 0, .int .i64 0, .int .i64 0, .int .i64 0, .int .i64 0, .int .i64 0, .int .i64 0] 36)) w5.heap.size 8 36 nul := RowAt.newAt zero8 rfl
                have hgz : wr.heap.size ≤ w5.heap.size := hHeld.size
                refine hK.out _ _ (hHeld.alloc hgz _) (fun hHeld => ?_)
                clear hK K
                try simp only [Act.put, List.setIfInBounds_toArray, List.set_cons_zero, List.set_cons_succ, List.getElem_toArray, List.getElem_cons_succ, List.getElem_cons_zero]
                refine wpAnyH_ready (rs := [19]) (by kernel_rfl) (by simp) ?_
                refine AllReadyH.cons (o := _) rfl (fun K hK => ?_) AllReadyH.nil
                rw [if_pos (by rfl)]
                refine store_step (f' := nul) rfl rfl rfl hG info_cyc ?_
                have hG2 := hG.setRow (f' := nul)
                refine hK.out _ _ (below_setRow hHeld hgz _) (fun hHeld => ?_)
                clear hK K
                try simp only [Act.put, List.setIfInBounds_toArray, List.set_cons_zero, List.set_cons_succ, List.getElem_toArray, List.getElem_cons_succ, List.getElem_cons_zero]
                clear hG
                refine wpAnyH_take (i := 20) (oi := _) (v := .bool false) rfl (by kernel_rfl) (by kernel_rfl) (by kernel_rfl) (fun _ _ _ h => h) (Or.inl ⟨by rfl, fun w h => by go_simp⟩) hHeld ?_
                try simp only [Act.put, List.setIfInBounds_toArray, List.set_cons_zero, List.set_cons_succ, List.getElem_toArray, List.getElem_cons_succ, List.getElem_cons_zero]
                refine wpAnyH_done (by kernel_rfl) ?_ _
                have HS5 := Lib.hid hHeld
                have HG5 := Lib.hid hG2
                clear hG2 hHeld
                generalize (w5.alloc (.cells #[.int .i64 0, .int .i64 0, .int .i64 0, .int .i64 0, .int .i64 0, .int .i64 0, .int .i64 0, .int .i64 0] 36)).setRow w5.heap.size (vec 8 nul) = W6 at *
                generalize w5.heap.size = g9 at *
                have HX6 : Aside (RowAt W6 gx 8 36 s.up) := row_kept HX.out (by first | exact HX.out.lt | (rw [← hgen9]; exact HX.out.lt)) HS5.out
                have HB6 := Lib.hid (HB.out.trans (HS5.out.mono hZ2))
                have HO6 := Lib.hid (rows_below' HO.out HS5.out (by first | rfl | exact hgen9.symm))
                have hZ6 : b ≤ W6.heap.size := by have := HB6.out.size; omega
                clear HS5 HX HB HO
                have HF : Aside (res = none) := (show res = none from HN1.out hok)
                obtain ⟨c', u', htl⟩ := ans_any (okc s.up && okc nul) (add s.up nul)
                have AD := fun w => specAdd_any s.up nul w
                rw [htl] at AD
                clear htl
                go_wp2_with (first | (refine load_row (ty := 36) (g := gx) rfl rfl rfl HX6.out Try.underlying36 rfl info_cyc ?_) | (refine load_row (ty := 36) (g := g9) rfl rfl rfl HG5.out Try.underlying36 rfl info_cyc ?_))
                refine (AD _).mono ?_; rintro e w7 ⟨rfl, hb7⟩
                have hb8 := HB6.out.trans (hb7.mono hZ6)
                have HB8 := Lib.hid (hb8.alloc (by have := hb8.size; omega) (.cells (vec 8 c') 36))
                clear AD hb7 hb8 HX6 HG5 HB6 HO6
                go_wp2_with (refine store_new (ty := 36) (f' := c') rfl rfl rfl rfl zero8 info_cyc ?_)
                go_ret2
                rw [HF.out]
                exact ⟨by rw [hb]; exact HB8.out.alloc (by have := HB8.out.size; omega) _, _, rfl, by rw [hb]; exact ownL_nilC _ _ _ _ (by simp) (by have := HB8.out.size; omega)⟩
              · rw [if_pos (by rfl)]
                go_simp
                have hgz : wr.heap.size ≤ wr.heap.size := Nat.le_refl _
                have hG : RowAt (wr.drew.alloc (.cells #[.int .i64 0, .int .i64 0, .int .i64 0, .int .i64 0, .int .i64 0, .int .i64 0, .int .i64 0, .int .i64 0] 36)) wr.heap.size 8 36 nul := RowAt.newAt zero8 rfl
                refine hK.out _ _ (hHeld.alloc hgz _) (fun hHeld => ?_)
                clear hK K
                try simp only [Act.put, List.setIfInBounds_toArray, List.set_cons_zero, List.set_cons_succ, List.getElem_toArray, List.getElem_cons_succ, List.getElem_cons_zero]
                refine wpAnyH_ready (rs := [14]) (by kernel_rfl) (by simp) ?_
                refine AllReadyH.cons (o := _) rfl (fun K hK => ?_) AllReadyH.nil
                go_simp
                refine (TM _).mono ?_; rintro e w5 ⟨rfl, hb5⟩
                go_wp2_with fail
                replace hG := hG.below hb5
                refine hK.out _ _ (below_next hHeld hb5) (fun hHeld => ?_)
                clear hK K
                try simp only [Act.put, List.setIfInBounds_toArray, List.set_cons_zero, List.set_cons_succ, List.getElem_toArray, List.getElem_cons_succ, List.getElem_cons_zero]
                clear hb5 TM
                refine wpAnyH_take (i := 15) (oi := _) (v := .tuple #[.agg (vec 8 nul), .bool false]) rfl (by kernel_rfl) (by kernel_rfl) (by kernel_rfl) (fun _ _ _ h => h) (Or.inl ⟨by rfl, fun w h => by go_simp⟩) hHeld ?_
                try simp only [Act.put, List.setIfInBounds_toArray, List.set_cons_zero, List.set_cons_succ, List.getElem_toArray, List.getElem_cons_succ, List.getElem_cons_zero]
                refine wpAnyH_take (i := 16) (oi := _) (v := .agg (vec 8 nul)) rfl (by kernel_rfl) (by kernel_rfl) (by kernel_rfl) (fun _ _ _ h => h) (Or.inl ⟨by rfl, fun w h => by go_simp⟩) hHeld ?_
                try simp only [Act.put, List.setIfInBounds_toArray, List.set_cons_zero, List.set_cons_succ, List.getElem_toArray, List.getElem_cons_succ, List.getElem_cons_zero]
                refine wpAnyH_take (i := 17) (oi := _) (v := .bool false) rfl (by kernel_rfl) (by kernel_rfl) (by kernel_rfl) (fun _ _ _ h => h) (Or.inl ⟨by rfl, fun w h => by go_simp⟩) hHeld ?_
                try simp only [Act.put, List.setIfInBounds_toArray, List.set_cons_zero, List.set_cons_succ, List.getElem_toArray, List.getElem_cons_succ, List.getElem_cons_zero]
                refine wpAnyH_ready (rs := [19]) (by kernel_rfl) (by simp) ?_
                refine AllReadyH.cons (o := _) rfl (fun K hK => ?_) AllReadyH.nil
                rw [if_pos (by rfl)]
                refine store_step (f' := nul) rfl rfl rfl hG info_cyc ?_
                have hG2 := hG.setRow (f' := nul)
                refine hK.out _ _ (below_setRow hHeld hgz _) (fun hHeld => ?_)
                clear hK K
                try simp only [Act.put, List.setIfInBounds_toArray, List.set_cons_zero, List.set_cons_succ, List.getElem_toArray, List.getElem_cons_succ, List.getElem_cons_zero]
                clear hG
                refine wpAnyH_take (i := 20) (oi := _) (v := .bool false) rfl (by kernel_rfl) (by kernel_rfl) (by kernel_rfl) (fun _ _ _ h => h) (Or.inl ⟨by rfl, fun w h => by go_simp⟩) hHeld ?_
                try simp only [Act.put, List.setIfInBounds_toArray, List.set_cons_zero, List.set_cons_succ, List.getElem_toArray, List.getElem_cons_succ, List.getElem_cons_zero]
                refine wpAnyH_done (by kernel_rfl) ?_ _
                have HS5 := Lib.hid hHeld
                have HG5 := Lib.hid hG2
                clear hG2 hHeld
                generalize w5.setRow wr.heap.size (vec 8 nul) = W6 at *
                generalize hgen9 : wr.heap.size = g9 at *
                have HX6 : Aside (RowAt W6 gx 8 36 s.up) := row_kept HX.out (by first | exact HX.out.lt | (rw [← hgen9]; exact HX.out.lt)) HS5.out
                have HB6 := Lib.hid (HB.out.trans (HS5.out.mono hZ2))
                have HO6 := Lib.hid (rows_below' HO.out HS5.out (by first | rfl | exact hgen9.symm))
                have hZ6 : b ≤ W6.heap.size := by have := HB6.out.size; omega
                clear HS5 HX HB HO
                have HF : Aside (res = none) := (show res = none from HN1.out hok)
                obtain ⟨c', u', htl⟩ := ans_any (okc s.up && okc nul) (add s.up nul)
                have AD := fun w => specAdd_any s.up nul w
                rw [htl] at AD
                clear htl
                go_wp2_with (first | (refine load_row (ty := 36) (g := gx) rfl rfl rfl HX6.out Try.underlying36 rfl info_cyc ?_) | (refine load_row (ty := 36) (g := g9) rfl rfl rfl HG5.out Try.underlying36 rfl info_cyc ?_))
                refine (AD _).mono ?_; rintro e w7 ⟨rfl, hb7⟩
                have hb8 := HB6.out.trans (hb7.mono hZ6)
                have HB8 := Lib.hid (hb8.alloc (by have := hb8.size; omega) (.cells (vec 8 c') 36))
                clear AD hb7 hb8 HX6 HG5 HB6 HO6
                go_wp2_with (refine store_new (ty := 36) (f' := c') rfl rfl rfl rfl zero8 info_cyc ?_)
                go_ret2
                rw [HF.out]
                exact ⟨by rw [hb]; exact HB8.out.alloc (by have := HB8.out.size; omega) _, _, rfl, by rw [hb]; exact ownL_nilC _ _ _ _ (by simp) (by have := HB8.out.size; omega)⟩
            · rw [hok] at TM
              simp only [if_true] at TM
              go_upto_region 12 with fail
              refine wp_region_held_drew (S := fun w' => Below wr.heap.size wr w') (by kernel_rfl) (Below.refl _ _).drew (fun hHeld => ?_)
              refine wpAnyH_take (i := 0) (oi := _) (v := .slice (some ⟨g1, o1, none⟩) xs.length c1) rfl (by kernel_rfl) (by kernel_rfl) (by kernel_rfl) (fun _ _ _ h => h) (Or.inl ⟨by rfl, fun w h => by go_simp⟩) hHeld ?_
              try simp only [Act.put, List.setIfInBounds_toArray, List.set_cons_zero, List.set_cons_succ, List.getElem_toArray, List.getElem_cons_succ, List.getElem_cons_zero]
              refine wpAnyH_take (i := 1) (oi := _) (v := .int .i64 m) rfl (by kernel_rfl) (by kernel_rfl) (by kernel_rfl) (fun _ _ _ h => h) (Or.inl ⟨by rfl, fun w h => by go_simp⟩) hHeld ?_
              try simp only [Act.put, List.setIfInBounds_toArray, List.set_cons_zero, List.set_cons_succ, List.getElem_toArray, List.getElem_cons_succ, List.getElem_cons_zero]
              refine wpAnyH_take (i := 2) (oi := _) (v := .pointer (some ⟨g1, o1 + m * 8, none⟩)) rfl (by kernel_rfl) (by kernel_rfl) (by kernel_rfl) (fun _ _ _ h => h) (Or.inl ⟨by rfl, fun w h => by go_simp⟩) hHeld ?_
              try simp only [Act.put, List.setIfInBounds_toArray, List.set_cons_zero, List.set_cons_succ, List.getElem_toArray, List.getElem_cons_succ, List.getElem_cons_zero]
              refine wpAnyH_take (i := 3) (oi := _) (v := .agg (vec 8 c.up)) rfl (by kernel_rfl) (by kernel_rfl) (by kernel_rfl) (fun _ _ _ h => h) (yieldsIf_load_mid (by rfl) _ _ rfl _ _ rfl _ _ ((fun w h => range_kept HE1.out hg1z h)) Try.underlying36 rfl (size_cyc8 c.up)) hHeld ?_
              try simp only [Act.put, List.setIfInBounds_toArray, List.set_cons_zero, List.set_cons_succ, List.getElem_toArray, List.getElem_cons_succ, List.getElem_cons_zero]
              refine wpAnyH_take (i := 4) (oi := _) (v := .slice (some ⟨g2, o2, none⟩) ys.length c2) rfl (by kernel_rfl) (by kernel_rfl) (by kernel_rfl) (fun _ _ _ h => h) (Or.inl ⟨by rfl, fun w h => by go_simp⟩) hHeld ?_
              try simp only [Act.put, List.setIfInBounds_toArray, List.set_cons_zero, List.set_cons_succ, List.getElem_toArray, List.getElem_cons_succ, List.getElem_cons_zero]
              refine wpAnyH_take (i := 5) (oi := _) (v := .int .i64 k) rfl (by kernel_rfl) (by kernel_rfl) (by kernel_rfl) (fun _ _ _ h => h) (Or.inl ⟨by rfl, fun w h => by go_simp⟩) hHeld ?_
              try simp only [Act.put, List.setIfInBounds_toArray, List.set_cons_zero, List.set_cons_succ, List.getElem_toArray, List.getElem_cons_succ, List.getElem_cons_zero]
              refine wpAnyH_take (i := 6) (oi := _) (v := .int .i64 m) rfl (by kernel_rfl) (by kernel_rfl) (by kernel_rfl) (fun _ _ _ h => h) (Or.inl ⟨by rfl, fun w h => by go_simp⟩) hHeld ?_
              try simp only [Act.put, List.setIfInBounds_toArray, List.set_cons_zero, List.set_cons_succ, List.getElem_toArray, List.getElem_cons_succ, List.getElem_cons_zero]
              refine wpAnyH_take (i := 7) (oi := _) (v := .int .i64 ((k : Int) - (m : Int))) rfl (by kernel_rfl) (by kernel_rfl) (by kernel_rfl) (fun _ _ _ h => h) (Or.inl ⟨by rfl, fun w h => by go_simp⟩) hHeld ?_
              try simp only [Act.put, List.setIfInBounds_toArray, List.set_cons_zero, List.set_cons_succ, List.getElem_toArray, List.getElem_cons_succ, List.getElem_cons_zero]
              refine wpAnyH_take (i := 8) (oi := _) (v := .int .i64 xs.length) rfl (by kernel_rfl) (by kernel_rfl) (by kernel_rfl) (fun _ _ _ h => h) (Or.inl ⟨by rfl, fun w h => by go_simp⟩) hHeld ?_
              try simp only [Act.put, List.setIfInBounds_toArray, List.set_cons_zero, List.set_cons_succ, List.getElem_toArray, List.getElem_cons_succ, List.getElem_cons_zero]
              refine wpAnyH_take (i := 9) (oi := _) (v := .int .i64 ((k : Int) - (m : Int) + (xs.length : Int))) rfl (by kernel_rfl) (by kernel_rfl) (by kernel_rfl) (fun _ _ _ h => h) (Or.inl ⟨by rfl, fun w h => by go_simp⟩) hHeld ?_
              try simp only [Act.put, List.setIfInBounds_toArray, List.set_cons_zero, List.set_cons_succ, List.getElem_toArray, List.getElem_cons_succ, List.getElem_cons_zero]
              refine wpAnyH_take (i := 10) (oi := _) (v := .int .i64 xs.length) rfl (by kernel_rfl) (by kernel_rfl) (by kernel_rfl) (fun _ _ _ h => h) (Or.inl ⟨by rfl, fun w h => by go_simp⟩) hHeld ?_
              try simp only [Act.put, List.setIfInBounds_toArray, List.set_cons_zero, List.set_cons_succ, List.getElem_toArray, List.getElem_cons_succ, List.getElem_cons_zero]
              refine wpAnyH_take (i := 11) (oi := _) (v := .int .i64 cx) rfl (by kernel_rfl) (by kernel_rfl) (by kernel_rfl) (fun _ _ _ h => h) (Or.inl ⟨by rfl, fun w h => by go_simp⟩) hHeld ?_
              try simp only [Act.put, List.setIfInBounds_toArray, List.set_cons_zero, List.set_cons_succ, List.getElem_toArray, List.getElem_cons_succ, List.getElem_cons_zero]
              refine wpAnyH_take (i := 12) (oi := _) (v := .pointer (some ⟨g2, o2 + cx * 8, none⟩)) rfl (by kernel_rfl) (by kernel_rfl) (by kernel_rfl) (fun _ _ _ h => h) (Or.inl ⟨by rfl, fun w h => by go_simp⟩) hHeld ?_
              try simp only [Act.put, List.setIfInBounds_toArray, List.set_cons_zero, List.set_cons_succ, List.getElem_toArray, List.getElem_cons_succ, List.getElem_cons_zero]
              refine wpAnyH_take (i := 13) (oi := _) (v := .agg (vec 8 d.up)) rfl (by kernel_rfl) (by kernel_rfl) (by kernel_rfl) (fun _ _ _ h => h) (yieldsIf_load_mid (by rfl) _ _ rfl _ _ rfl _ _ ((fun w h => range_kept HE2.out hg2z h)) Try.underlying36 rfl (size_cyc8 d.up)) hHeld ?_
              try simp only [Act.put, List.setIfInBounds_toArray, List.set_cons_zero, List.set_cons_succ, List.getElem_toArray, List.getElem_cons_succ, List.getElem_cons_zero]
              refine wpAnyH_ready (rs := [14, 18]) (by kernel_rfl) (by simp) ?_
              refine AllReadyH.cons (o := _) rfl (fun K hK => ?_) (AllReadyH.cons (o := _) rfl (fun K hK => ?_) AllReadyH.nil)
              · go_simp
                refine (TM _).mono ?_; rintro e w5 ⟨rfl, hb5⟩
                go_wp2_with fail
                refine hK.out _ _ (below_next hHeld hb5) (fun hHeld => ?_)
                clear hK K
                try simp only [Act.put, List.setIfInBounds_toArray, List.set_cons_zero, List.set_cons_succ, List.getElem_toArray, List.getElem_cons_succ, List.getElem_cons_zero]
                clear hb5 TM
                refine wpAnyH_take (i := 15) (oi := _) (v := .tuple #[.agg (vec 8 P.up), .bool true]) rfl (by kernel_rfl) (by kernel_rfl) (by kernel_rfl) (fun _ _ _ h => h) (Or.inl ⟨by rfl, fun w h => by go_simp⟩) hHeld ?_
                try simp only [Act.put, List.setIfInBounds_toArray, List.set_cons_zero, List.set_cons_succ, List.getElem_toArray, List.getElem_cons_succ, List.getElem_cons_zero]
                refine wpAnyH_take (i := 16) (oi := _) (v := .agg (vec 8 P.up)) rfl (by kernel_rfl) (by kernel_rfl) (by kernel_rfl) (fun _ _ _ h => h) (Or.inl ⟨by rfl, fun w h => by go_simp⟩) hHeld ?_
                try simp only [Act.put, List.setIfInBounds_toArray, List.set_cons_zero, List.set_cons_succ, List.getElem_toArray, List.getElem_cons_succ, List.getElem_cons_zero]
                refine wpAnyH_take (i := 17) (oi := _) (v := .bool true) rfl (by kernel_rfl) (by kernel_rfl) (by kernel_rfl) (fun _ _ _ h => h) (Or.inl ⟨by rfl, fun w h => by go_simp⟩) hHeld ?_
                try simp only [Act.put, List.setIfInBounds_toArray, List.set_cons_zero, List.set_cons_succ, List.getElem_toArray, List.getElem_cons_succ, List.getElem_cons_zero]
                refine wpAnyH_ready (rs := [18]) (by kernel_rfl) (by simp) ?_
                refine AllReadyH.cons (o := _) rfl (fun K hK => ?_) AllReadyH.nil
                rw [if_pos (by rfl)]
                go_simp
                have hG : RowAt (w5.alloc (.cells #[.int .i64 0, .int .i64 0, .int .i64 0, .int .i64 0, .int .i64 0, .int .i64 0, .int .i64 0, .int .i64 0] 36)) w5.heap.size 8 36 nul := RowAt.newAt zero8 rfl
                have hgz : wr.heap.size ≤ w5.heap.size := hHeld.size
                refine hK.out _ _ (hHeld.alloc hgz _) (fun hHeld => ?_)
                clear hK K
                try simp only [Act.put, List.setIfInBounds_toArray, List.set_cons_zero, List.set_cons_succ, List.getElem_toArray, List.getElem_cons_succ, List.getElem_cons_zero]
                refine wpAnyH_ready (rs := [19]) (by kernel_rfl) (by simp) ?_
                refine AllReadyH.cons (o := _) rfl (fun K hK => ?_) AllReadyH.nil
                rw [if_pos (by rfl)]
                refine store_step (f' := P.up) rfl rfl rfl hG info_cyc ?_
                have hG2 := hG.setRow (f' := P.up)
                refine hK.out _ _ (below_setRow hHeld hgz _) (fun hHeld => ?_)
                clear hK K
                try simp only [Act.put, List.setIfInBounds_toArray, List.set_cons_zero, List.set_cons_succ, List.getElem_toArray, List.getElem_cons_succ, List.getElem_cons_zero]
                clear hG
                refine wpAnyH_take (i := 20) (oi := _) (v := .bool true) rfl (by kernel_rfl) (by kernel_rfl) (by kernel_rfl) (fun _ _ _ h => h) (Or.inl ⟨by rfl, fun w h => by go_simp⟩) hHeld ?_
                try simp only [Act.put, List.setIfInBounds_toArray, List.set_cons_zero, List.set_cons_succ, List.getElem_toArray, List.getElem_cons_succ, List.getElem_cons_zero]
                refine wpAnyH_done (by kernel_rfl) ?_ _
                have HS5 := Lib.hid hHeld
                have HG5 := Lib.hid hG2
                clear hG2 hHeld
                generalize (w5.alloc (.cells #[.int .i64 0, .int .i64 0, .int .i64 0, .int .i64 0, .int .i64 0, .int .i64 0, .int .i64 0, .int .i64 0] 36)).setRow w5.heap.size (vec 8 P.up) = W6 at *
                generalize w5.heap.size = g9 at *
                have HX6 : Aside (RowAt W6 gx 8 36 s.up) := row_kept HX.out (by first | exact HX.out.lt | (rw [← hgen9]; exact HX.out.lt)) HS5.out
                have HB6 := Lib.hid (HB.out.trans (HS5.out.mono hZ2))
                have HO6 := Lib.hid (rows_below' HO.out HS5.out (by first | rfl | exact hgen9.symm))
                have hZ6 : b ≤ W6.heap.size := by have := HB6.out.size; omega
                clear HS5 HX HB HO
                have AD := fun w => specAddV s P hsok hok w
                rw [hok] at HST1
                cases hok2 : okv (V.add s P)
                · have HF : Aside (res = none) := (show res = none from HN2.out (by rw [HST2.out, hok2]; rfl))
                  rw [hok2] at AD
                  simp only [Bool.false_eq_true, if_false, zero_up] at AD
                  go_wp2_with (first | (refine load_row (ty := 36) (g := gx) rfl rfl rfl HX6.out Try.underlying36 rfl info_cyc ?_) | (refine load_row (ty := 36) (g := g9) rfl rfl rfl HG5.out Try.underlying36 rfl info_cyc ?_))
                  refine (AD _).mono ?_; rintro e w7 ⟨rfl, hb7⟩
                  have hb8 := HB6.out.trans (hb7.mono hZ6)
                  have HB8 := Lib.hid (hb8.alloc (by have := hb8.size; omega) (.cells (vec 8 nul) 36))
                  clear AD hb7 hb8 HX6 HG5 HB6 HO6
                  go_wp2_with (refine store_new (ty := 36) (f' := nul) rfl rfl rfl rfl zero8 info_cyc ?_)
                  go_ret2
                  rw [HF.out]
                  exact ⟨by rw [hb]; exact HB8.out.alloc (by have := HB8.out.size; omega) _, _, rfl, by rw [hb]; exact ownL_nilC _ _ _ _ (by simp) (by have := HB8.out.size; omega)⟩
                · rw [hok2] at AD
                  simp only [if_true] at AD
                  have HC1 : Aside (collP f (m + 1) = some (L ++ [P])) := (show _ = _ from by rw [HST1.out]; rfl)
                  have HC2 : Aside (sumN f (m + 1) = some (V.add s P)) := (show _ = _ from by rw [HST2.out, hok2]; rfl)
                  clear HST1 HST2 HN1 HN2 hok2
                  generalize V.add s P = s2 at *
                  go_wp2_with (first | (refine load_row (ty := 36) (g := gx) rfl rfl rfl HX6.out Try.underlying36 rfl info_cyc ?_) | (refine load_row (ty := 36) (g := g9) rfl rfl rfl HG5.out Try.underlying36 rfl info_cyc ?_))
                  refine (AD _).mono ?_; rintro e w7 ⟨rfl, hb7⟩
                  have HX8 := Lib.hid ((HX6.out.below hb7).alloc (.cells (vec 8 s2.up) 36))
                  have HO8 := Lib.hid (World.ownsRow.alloc (rows_below HO6.out hb7) (.cells (vec 8 s2.up) 36))
                  have HN8 := Lib.hid (RowAt.new w7 8 36 s2.up)
                  have hb8 := HB6.out.trans (hb7.mono hZ6)
                  have HB8 := Lib.hid (hb8.alloc (by have := hb8.size; omega) (.cells (vec 8 s2.up) 36))
                  clear AD hb7 hb8 HX6 HG5 HB6 HO6
                  go_upto_region 14 with (refine store_new (ty := 36) (f' := s2.up) rfl rfl rfl rfl zero8 info_cyc ?_)
                  show Code.wp _ _ _ _ (w7.alloc (.cells (vec 8 s2.up) 36))
                  generalize w7.alloc (.cells (vec 8 s2.up) 36) = W8 at *
                  generalize w7.heap.size = g7 at *
                  have HX9 := Lib.hid (HX8.out.setRow (f' := s2.up))
                  have HO9 := Lib.hid (own_setRow HO8.out hub (vec 8 s2.up))
                  have HB9 := Lib.hid (below_setRow HB8.out hgb (vec 8 s2.up))
                  go_wp2_with (first | (refine load_row (ty := 36) (g := g7) rfl rfl rfl HN8.out Try.underlying36 rfl info_cyc ?_) | (refine store_row (ty := 36) (g := gx) rfl rfl rfl rfl HX8.out info_cyc ?_))
                  go_roundw
                  case rel => exact ⟨m + 1, L ++ [P], s2, by omega, by go_num, HC1.out, HC2.out, HX9.out, HO9.out, HB9.out⟩
                  case measure => simp [intOf]; omega
              · rw [if_pos (by rfl)]
                go_simp
                have hgz : wr.heap.size ≤ wr.heap.size := Nat.le_refl _
                have hG : RowAt (wr.drew.alloc (.cells #[.int .i64 0, .int .i64 0, .int .i64 0, .int .i64 0, .int .i64 0, .int .i64 0, .int .i64 0, .int .i64 0] 36)) wr.heap.size 8 36 nul := RowAt.newAt zero8 rfl
                refine hK.out _ _ (hHeld.alloc hgz _) (fun hHeld => ?_)
                clear hK K
                try simp only [Act.put, List.setIfInBounds_toArray, List.set_cons_zero, List.set_cons_succ, List.getElem_toArray, List.getElem_cons_succ, List.getElem_cons_zero]
                refine wpAnyH_ready (rs := [14]) (by kernel_rfl) (by simp) ?_
                refine AllReadyH.cons (o := _) rfl (fun K hK => ?_) AllReadyH.nil
                go_simp
                refine (TM _).mono ?_; rintro e w5 ⟨rfl, hb5⟩
                go_wp2_with fail
                replace hG := hG.below hb5
                refine hK.out _ _ (below_next hHeld hb5) (fun hHeld => ?_)
                clear hK K
                try simp only [Act.put, List.setIfInBounds_toArray, List.set_cons_zero, List.set_cons_succ, List.getElem_toArray, List.getElem_cons_succ, List.getElem_cons_zero]
                clear hb5 TM
                refine wpAnyH_take (i := 15) (oi := _) (v := .tuple #[.agg (vec 8 P.up), .bool true]) rfl (by kernel_rfl) (by kernel_rfl) (by kernel_rfl) (fun _ _ _ h => h) (Or.inl ⟨by rfl, fun w h => by go_simp⟩) hHeld ?_
                try simp only [Act.put, List.setIfInBounds_toArray, List.set_cons_zero, List.set_cons_succ, List.getElem_toArray, List.getElem_cons_succ, List.getElem_cons_zero]
                refine wpAnyH_take (i := 16) (oi := _) (v := .agg (vec 8 P.up)) rfl (by kernel_rfl) (by kernel_rfl) (by kernel_rfl) (fun _ _ _ h => h) (Or.inl ⟨by rfl, fun w h => by go_simp⟩) hHeld ?_
                try simp only [Act.put, List.setIfInBounds_toArray, List.set_cons_zero, List.set_cons_succ, List.getElem_toArray, List.getElem_cons_succ, List.getElem_cons_zero]
                refine wpAnyH_take (i := 17) (oi := _) (v := .bool true) rfl (by kernel_rfl) (by kernel_rfl) (by kernel_rfl) (fun _ _ _ h => h) (Or.inl ⟨by rfl, fun w h => by go_simp⟩) hHeld ?_
                try simp only [Act.put, List.setIfInBounds_toArray, List.set_cons_zero, List.set_cons_succ, List.getElem_toArray, List.getElem_cons_succ, List.getElem_cons_zero]
                refine wpAnyH_ready (rs := [19]) (by kernel_rfl) (by simp) ?_
                refine AllReadyH.cons (o := _) rfl (fun K hK => ?_) AllReadyH.nil
                rw [if_pos (by rfl)]
                refine store_step (f' := P.up) rfl rfl rfl hG info_cyc ?_
                have hG2 := hG.setRow (f' := P.up)
                refine hK.out _ _ (below_setRow hHeld hgz _) (fun hHeld => ?_)
                clear hK K
                try simp only [Act.put, List.setIfInBounds_toArray, List.set_cons_zero, List.set_cons_succ, List.getElem_toArray, List.getElem_cons_succ, List.getElem_cons_zero]
                clear hG
                refine wpAnyH_take (i := 20) (oi := _) (v := .bool true) rfl (by kernel_rfl) (by kernel_rfl) (by kernel_rfl) (fun _ _ _ h => h) (Or.inl ⟨by rfl, fun w h => by go_simp⟩) hHeld ?_
                try simp only [Act.put, List.setIfInBounds_toArray, List.set_cons_zero, List.set_cons_succ, List.getElem_toArray, List.getElem_cons_succ, List.getElem_cons_zero]
                refine wpAnyH_done (by kernel_rfl) ?_ _
                have HS5 := Lib.hid hHeld
                have HG5 := Lib.hid hG2
                clear hG2 hHeld
                generalize w5.setRow wr.heap.size (vec 8 P.up) = W6 at *
                generalize hgen9 : wr.heap.size = g9 at *
                have HX6 : Aside (RowAt W6 gx 8 36 s.up) := row_kept HX.out (by first | exact HX.out.lt | (rw [← hgen9]; exact HX.out.lt)) HS5.out
                have HB6 := Lib.hid (HB.out.trans (HS5.out.mono hZ2))
                have HO6 := Lib.hid (rows_below' HO.out HS5.out (by first | rfl | exact hgen9.symm))
                have hZ6 : b ≤ W6.heap.size := by have := HB6.out.size; omega
                clear HS5 HX HB HO
                have AD := fun w => specAddV s P hsok hok w
                rw [hok] at HST1
                cases hok2 : okv (V.add s P)
                · have HF : Aside (res = none) := (show res = none from HN2.out (by rw [HST2.out, hok2]; rfl))
                  rw [hok2] at AD
                  simp only [Bool.false_eq_true, if_false, zero_up] at AD
                  go_wp2_with (first | (refine load_row (ty := 36) (g := gx) rfl rfl rfl HX6.out Try.underlying36 rfl info_cyc ?_) | (refine load_row (ty := 36) (g := g9) rfl rfl rfl HG5.out Try.underlying36 rfl info_cyc ?_))
                  refine (AD _).mono ?_; rintro e w7 ⟨rfl, hb7⟩
                  have hb8 := HB6.out.trans (hb7.mono hZ6)
                  have HB8 := Lib.hid (hb8.alloc (by have := hb8.size; omega) (.cells (vec 8 nul) 36))
                  clear AD hb7 hb8 HX6 HG5 HB6 HO6
                  go_wp2_with (refine store_new (ty := 36) (f' := nul) rfl rfl rfl rfl zero8 info_cyc ?_)
                  go_ret2
                  rw [HF.out]
                  exact ⟨by rw [hb]; exact HB8.out.alloc (by have := HB8.out.size; omega) _, _, rfl, by rw [hb]; exact ownL_nilC _ _ _ _ (by simp) (by have := HB8.out.size; omega)⟩
                · rw [hok2] at AD
                  simp only [if_true] at AD
                  have HC1 : Aside (collP f (m + 1) = some (L ++ [P])) := (show _ = _ from by rw [HST1.out]; rfl)
                  have HC2 : Aside (sumN f (m + 1) = some (V.add s P)) := (show _ = _ from by rw [HST2.out, hok2]; rfl)
                  clear HST1 HST2 HN1 HN2 hok2
                  generalize V.add s P = s2 at *
                  go_wp2_with (first | (refine load_row (ty := 36) (g := gx) rfl rfl rfl HX6.out Try.underlying36 rfl info_cyc ?_) | (refine load_row (ty := 36) (g := g9) rfl rfl rfl HG5.out Try.underlying36 rfl info_cyc ?_))
                  refine (AD _).mono ?_; rintro e w7 ⟨rfl, hb7⟩
                  have HX8 := Lib.hid ((HX6.out.below hb7).alloc (.cells (vec 8 s2.up) 36))
                  have HO8 := Lib.hid (World.ownsRow.alloc (rows_below HO6.out hb7) (.cells (vec 8 s2.up) 36))
                  have HN8 := Lib.hid (RowAt.new w7 8 36 s2.up)
                  have hb8 := HB6.out.trans (hb7.mono hZ6)
                  have HB8 := Lib.hid (hb8.alloc (by have := hb8.size; omega) (.cells (vec 8 s2.up) 36))
                  clear AD hb7 hb8 HX6 HG5 HB6 HO6
                  go_upto_region 14 with (refine store_new (ty := 36) (f' := s2.up) rfl rfl rfl rfl zero8 info_cyc ?_)
                  show Code.wp _ _ _ _ (w7.alloc (.cells (vec 8 s2.up) 36))
                  generalize w7.alloc (.cells (vec 8 s2.up) 36) = W8 at *
                  generalize w7.heap.size = g7 at *
                  have HX9 := Lib.hid (HX8.out.setRow (f' := s2.up))
                  have HO9 := Lib.hid (own_setRow HO8.out hub (vec 8 s2.up))
                  have HB9 := Lib.hid (below_setRow HB8.out hgb (vec 8 s2.up))
                  go_wp2_with (first | (refine load_row (ty := 36) (g := g7) rfl rfl rfl HN8.out Try.underlying36 rfl info_cyc ?_) | (refine store_row (ty := 36) (g := gx) rfl rfl rfl rfl HX8.out info_cyc ?_))
                  go_roundw
                  case rel => exact ⟨m + 1, L ++ [P], s2, by omega, by go_num, HC1.out, HC2.out, HX9.out, HO9.out, HB9.out⟩
                  case measure => simp [intOf]; omega
          · obtain rfl : m = xs.length := by omega
            have HC2 : Aside (coll (crSum xs ys) (k + 1) = some (l ++ [s])) := (show _ = _ from by
              rw [coll_step HL.out, HCR.out]
              unfold sumP
              rw [HCL.out, HT.out]; rfl)
            clear HNO
            go_wp2_with (first | (refine load_row (ty := 36) (g := gx) rfl rfl rfl HX.out Try.underlying36 rfl info_cyc ?_; clear HX) | (refine one8 tyY rfl rfl rfl ?_) |
              (refine appendL tyY encV_ok rfl rfl rfl rfl (xs := l) (World.ownsRow.alloc HO.out _) (lit8 _ _ _) (by simp; omega) (HB.out.alloc hZ2 _) (by simp; omega) ?_; intro v2 w4 ho4 hb4 hB4 hgr4))
            go_roundw
            case rel => exact ⟨k + 1, l ++ [s], by omega, by go_num, HC2.out, ho4, hb4⟩
            case measure => simp [intOf]; omega
      · obtain rfl : k = xs.length := by omega
        have HF : Aside (res = some l) := (show res = some l from by rw [← HRS.out]; exact HL.out)
        go_wp2
        go_ret2
        rw [HF.out]
        exact ⟨by rw [hb]; exact HB.out, _, rfl, by rw [hb]; exact HO.out⟩
end Go.Proofs.Ytdgbpdeimckbfaa
