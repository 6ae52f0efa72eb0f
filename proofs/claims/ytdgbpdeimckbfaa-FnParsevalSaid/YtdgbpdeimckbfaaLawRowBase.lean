/-
  What the walks of the laws of rows share: rows compared, rows scaled.
-/
import Derived.Test.YtdgbpdeimckbfaaDrawRow
import Derived.Test.YtdgbpdeimckbfaaM17
import Derived.Test.YtdgbpdeimckbfaaM02
namespace Go.Proofs.Ytdgbpdeimckbfaa
set_option maxRecDepth 20000
open Go.ChangeShapes Go.WideShapes Go.ChangeAt Go.RowKit
set_option linter.unusedVariables false
set_option linter.unusedSimpArgs false

theorem readsL_form {w : World} {v : Value} {xs : List V} (h : ReadsL encV w v xs) : ∃ p c, v = .slice p xs.length c := by
  obtain ⟨p, c, e, -⟩ := h
  exact ⟨p, c, e⟩
theorem shL_whole {xs : List V} {m : Nat} (h : m % xs.length = 0) : shL m xs = xs := list_same (shL_len m xs) fun i hi => by
  rw [shL_len] at hi
  rw [shL_at m hi]
  obtain ⟨q, hq⟩ := Nat.dvd_of_mod_eq_zero h
  rw [hq, Nat.add_mul_mod_self_left, Nat.mod_eq_of_lt hi]
theorem shO_in {xs : List V} {m : Nat} (hk : rowOk xs = true) (hm : m ≤ 23) (h : m % xs.length = 0) : shO (m : Int) xs = some xs := by
  unfold shO
  rw [hk, decide_eq_true (by omega : (0 : Int) ≤ (m : Int)), decide_eq_true (by omega : (m : Int) ≤ 23), Int.toNat_natCast, shL_whole h]
  rfl
theorem shO_home {xs : List V} (hk : rowOk xs = true) : shO 0 xs = some xs := shO_in (m := 0) hk (by omega) (Nat.zero_mod _)
theorem shO_round {xs : List V} {m : Nat} (hk : rowOk xs = true) (hm : xs.length % 24 = m) : shO (m : Int) xs = some xs := by
  refine shO_in hk (by omega) ?_
  have h1 := (rowOk_short hk).1
  have h24 := (rowOk_short hk).2
  rcases Nat.lt_or_ge xs.length 24 with h | h
  · rw [← hm, Nat.mod_eq_of_lt h, Nat.mod_self]
  · have e : xs.length = 24 := by omega
    rw [← hm, e]
theorem readsL_box {w : World} {v : Value} {xs : List V} (h : ReadsL encV w v xs) (o : Obj) : ReadsL encV (w.alloc o) v xs := h.below ((Below.refl _ _).alloc (Nat.le_refl _) _)
set_option maxHeartbeats 2000000 in
theorem sameC_self (va vb : Value) (L : List V) (w : World) (ha : ReadsL encV w va L) (hb : ReadsL encV w vb L) : Calls Try.prog 26 #[va, vb] w fun e w' => e = .returned (.bool true) ∧ Below w.heap.size w w' := by
  obtain ⟨p, cap, rfl, hc1, hc2, hp0, hp⟩ := ha
  obtain ⟨q, cap2, rfl, hd1, hd2, hq0, hq⟩ := hb
  simp only [maxLen] at hc2
  have hlb : ((L.length : Int) != (L.length : Int)) = false := by simp
  have HP := Lib.hid hp
  have HQ := Lib.hid hq
  clear hp hq
  go_enter Try.func26, Try.ntmps26
  go_wp2
  go_loopw [5] (fun i wr => ∃ k : Nat, k ≤ L.length ∧ i = .int .i64 k ∧ Below w.heap.size w wr) (fun i _ => L.length - (intOf i).toNat)
  case atStart => exact ⟨0, Nat.zero_le _, rfl, Below.refl _ _⟩
  case round =>
    obtain ⟨k, hk, rfl, hbel⟩ := hrel
    have HL := Lib.hid hbel
    clear hbel
    by_cases hlt : k < L.length
    · have hkz : (k : Int) < (L.length : Int) := by omega
      have hk0 : (0 : Int) ≤ (k : Int) := by omega
      obtain ⟨c, hc⟩ : ∃ c, L[k]? = some c := ⟨_, List.getElem?_eq_getElem hlt⟩
      obtain ⟨g, o, rfl, hg, hr⟩ := HP.out (by rintro rfl; have := hp0 rfl; omega)
      obtain ⟨g2, o2, rfl, hg2, hr2⟩ := HQ.out (by rintro rfl; have := hq0 rfl; omega)
      have HE : Aside (g < w.heap.size ∧ w.rangeAt g (o + k * 8) (encV c)) := (show _ ∧ _ from ⟨hg, cells_part encV_ok hr hc⟩)
      have HE2 : Aside (g2 < w.heap.size ∧ w.rangeAt g2 (o2 + k * 8) (encV c)) := (show _ ∧ _ from ⟨hg2, cells_part encV_ok hr2 hc⟩)
      have E := equal_cyc c.up c.up
      rw [eqv_true (n := 8) (f := c.up) (g := c.up) fun _ _ => rfl] at E
      clear hr hr2 hc hg hg2
      go_upto_region 6 with fail
      refine wp_region_held_drew (S := fun w' => Below w.heap.size w w') (by kernel_rfl) HL.out.drew (fun hHeld => ?_)
      refine wpAnyH_take (i := 0) (oi := _) (v := .slice (some ⟨g, o, none⟩) L.length cap) rfl (by kernel_rfl) (by kernel_rfl) (by kernel_rfl) (fun _ _ _ h => h) (Or.inl ⟨by rfl, fun w h => by go_simp⟩) hHeld ?_
      try simp only [Act.put, List.setIfInBounds_toArray, List.set_cons_zero, List.set_cons_succ, List.getElem_toArray, List.getElem_cons_succ, List.getElem_cons_zero]
      refine wpAnyH_take (i := 1) (oi := _) (v := .int .i64 k) rfl (by kernel_rfl) (by kernel_rfl) (by kernel_rfl) (fun _ _ _ h => h) (Or.inl ⟨by rfl, fun w h => by go_simp⟩) hHeld ?_
      try simp only [Act.put, List.setIfInBounds_toArray, List.set_cons_zero, List.set_cons_succ, List.getElem_toArray, List.getElem_cons_succ, List.getElem_cons_zero]
      refine wpAnyH_take (i := 2) (oi := _) (v := .pointer (some ⟨g, o + k * 8, none⟩)) rfl (by kernel_rfl) (by kernel_rfl) (by kernel_rfl) (fun _ _ _ h => h) (Or.inl ⟨by rfl, fun w h => by go_simp⟩) hHeld ?_
      try simp only [Act.put, List.setIfInBounds_toArray, List.set_cons_zero, List.set_cons_succ, List.getElem_toArray, List.getElem_cons_succ, List.getElem_cons_zero]
      refine wpAnyH_take (i := 3) (oi := _) (v := .agg (vec 8 c.up)) rfl (by kernel_rfl) (by kernel_rfl) (by kernel_rfl) (fun _ _ _ h => h) (yieldsIf_load_mid (by rfl) _ _ rfl _ _ rfl _ _ ((fun w h => range_kept HE.out.2 HE.out.1 h)) Try.underlying36 rfl (size_cycL c)) hHeld ?_
      try simp only [Act.put, List.setIfInBounds_toArray, List.set_cons_zero, List.set_cons_succ, List.getElem_toArray, List.getElem_cons_succ, List.getElem_cons_zero]
      refine wpAnyH_take (i := 4) (oi := _) (v := .slice (some ⟨g2, o2, none⟩) L.length cap2) rfl (by kernel_rfl) (by kernel_rfl) (by kernel_rfl) (fun _ _ _ h => h) (Or.inl ⟨by rfl, fun w h => by go_simp⟩) hHeld ?_
      try simp only [Act.put, List.setIfInBounds_toArray, List.set_cons_zero, List.set_cons_succ, List.getElem_toArray, List.getElem_cons_succ, List.getElem_cons_zero]
      refine wpAnyH_take (i := 5) (oi := _) (v := .int .i64 k) rfl (by kernel_rfl) (by kernel_rfl) (by kernel_rfl) (fun _ _ _ h => h) (Or.inl ⟨by rfl, fun w h => by go_simp⟩) hHeld ?_
      try simp only [Act.put, List.setIfInBounds_toArray, List.set_cons_zero, List.set_cons_succ, List.getElem_toArray, List.getElem_cons_succ, List.getElem_cons_zero]
      refine wpAnyH_take (i := 6) (oi := _) (v := .pointer (some ⟨g2, o2 + k * 8, none⟩)) rfl (by kernel_rfl) (by kernel_rfl) (by kernel_rfl) (fun _ _ _ h => h) (Or.inl ⟨by rfl, fun w h => by go_simp⟩) hHeld ?_
      try simp only [Act.put, List.setIfInBounds_toArray, List.set_cons_zero, List.set_cons_succ, List.getElem_toArray, List.getElem_cons_succ, List.getElem_cons_zero]
      refine wpAnyH_take (i := 7) (oi := _) (v := .agg (vec 8 c.up)) rfl (by kernel_rfl) (by kernel_rfl) (by kernel_rfl) (fun _ _ _ h => h) (yieldsIf_load_mid (by rfl) _ _ rfl _ _ rfl _ _ ((fun w h => range_kept HE2.out.2 HE2.out.1 h)) Try.underlying36 rfl (size_cycL c)) hHeld ?_
      try simp only [Act.put, List.setIfInBounds_toArray, List.set_cons_zero, List.set_cons_succ, List.getElem_toArray, List.getElem_cons_succ, List.getElem_cons_zero]
      refine wpAnyH_take (i := 8) (oi := _) (v := .bool (!true)) rfl (by kernel_rfl) (by kernel_rfl) (by kernel_rfl) (fun _ _ _ h => h) (Or.inl ⟨by rfl, fun w h => by go_simp⟩) hHeld ?_
      try simp only [Act.put, List.setIfInBounds_toArray, List.set_cons_zero, List.set_cons_succ, List.getElem_toArray, List.getElem_cons_succ, List.getElem_cons_zero]
      refine wpAnyH_done (by kernel_rfl) ?_ _
      have HL5 := Lib.hid hHeld
      clear hHeld
      go_wp2
      go_roundw
      case rel => exact ⟨k + 1, by omega, by go_num, HL5.out⟩
      case measure => simp [intOf]; omega
    · obtain rfl : k = L.length := by omega
      go_wp2
      go_ret
      exact ⟨rfl, HL.out⟩

/-! Scaled rows. -/
theorem scl_up (n : Int) (a : V) : (mulV n a).up = scl n a.up ∨ ∀ j, j < 8 → (mulV n a).up j = scl n a.up j := .inr fun j hj => by
  rw [← mulV_dn]; exact up_dn _ j hj
theorem ScaleV (a : V) (n : Int) (ha : okv a = true) (hn : -1000000 ≤ n ∧ n ≤ 1000000) (w : World) : Calls Try.prog 92 #[pt a.up, .int .i64 n] w fun e w' => e = .returned (.tuple #[pt (if okv (mulV n a) then mulV n a else V.zero).up, .bool (okv (mulV n a))]) ∧ Below w.heap.size w w' := by
  have h := CycScale_yes a.up n ha hn w
  have e : okv (mulV n a) = okc (scl n a.up) := by rw [← mulV_dn]; exact okv_dn _
  have e2 : pt (mulV n a).up = pt (scl n a.up) := by unfold pt; rw [← mulV_dn, vec_same (up_dn _)]
  rw [e]
  cases hk : okc (scl n a.up)
  · rw [ans_bad hk] at h
    rw [if_neg (by decide), zero_up]
    exact h
  · rw [ans_yes hk, ← e2] at h
    rw [if_pos rfl]
    exact h
theorem scO_step {n : Int} {xs : List V} {k : Nat} {l : List V} (h : coll (fun k => if okv (mulV n (at' xs k)) then some (mulV n (at' xs k)) else none) k = some l) :
    coll (fun k => if okv (mulV n (at' xs k)) then some (mulV n (at' xs k)) else none) (k + 1) = if okv (mulV n (at' xs k)) then some (l ++ [mulV n (at' xs k)]) else none := by
  rw [coll_step h]
  split <;> rfl
/-- What the laws' own scaling tells. -/
def ScaledL (w : World) (o : Option (List V)) (e : Ending) (w' : World) : Prop :=
  Below w.heap.size w w' ∧ ∃ v', e = .returned (.tuple #[v', .bool o.isSome]) ∧ (∀ R, o = some R → ReadsL encV w' v' R)
set_option maxHeartbeats 4000000 in
theorem lawScaled_any (v : Value) (n : Int) (hn : -1000000 ≤ n ∧ n ≤ 1000000) (xs : List V) (hok : xs.all okv = true) (hlen : xs.length ≤ 1000) (w : World) (hv : ReadsL encV w v xs) :
    Calls Try.prog 36 #[v, .int .i64 n] w (ScaledL w (scO n xs)) := by
  obtain ⟨p, cap, rfl, hc1, hc2, hp0, hp⟩ := hv
  simp only [maxLen] at hc2
  have HP := Lib.hid hp
  have HOK := Lib.hid hok
  obtain ⟨F, hF⟩ : ∃ F : Nat → Option V, F = fun k => if okv (mulV n (at' xs k)) then some (mulV n (at' xs k)) else none := ⟨_, rfl⟩
  have HF := Lib.hid hF
  obtain ⟨res, hres⟩ : ∃ r, scO n xs = r := ⟨_, rfl⟩
  have HRES : Aside (coll F xs.length = res) := (show _ = _ from by rw [hF]; exact hres)
  have HO0 := Lib.hid (ownL_nilB w w.heap.size 36 (Nat.le_refl _))
  have HB0 := Lib.hid (show Below w.heap.size w (w.alloc (.cells #[] 36)) from (Below.refl _ _).alloc (Nat.le_refl _) _)
  rw [hres]
  clear hp hok hF hres
  go_enter Try.func36, Try.ntmps36
  go_wp2
  go_loopw [6, 7] (fun s6 i wr => ∃ (k : Nat) (l : List V), k ≤ xs.length ∧ i = .int .i64 k ∧ coll F k = some l ∧ OwnL encV 8 wr w.heap.size 36 s6 l ∧ Below w.heap.size w wr) (fun _ i _ => xs.length - (intOf i).toNat)
  case atStart => exact ⟨0, [], Nat.zero_le _, rfl, rfl, HO0.out, HB0.out⟩
  case round =>
    clear HO0 HB0
    obtain ⟨k, l, hk, rfl, hl, ho, hb⟩ := hrel
    have HO := Lib.hid ho
    have HB := Lib.hid hb
    have HLL := Lib.hid (coll_len hl)
    have HL := Lib.hid hl
    clear ho hb hl
    by_cases hlt : k < xs.length
    · have hkz : (k : Int) < (xs.length : Int) := by omega
      have hk0 : (0 : Int) ≤ (k : Int) := by omega
      obtain ⟨g, o, rfl, hg, hr⟩ := HP.out (by rintro rfl; have := hp0 rfl; omega)
      have HE := Lib.hid (cells_part encV_ok (cells_below hr hg HB.out) (at_get hlt))
      have HST : Aside (coll F (k + 1) = if okv (mulV n (at' xs k)) then some (l ++ [mulV n (at' xs k)]) else none) := (show _ = _ from by
        have h := HL.out
        rw [HF.out] at h ⊢
        exact scO_step h)
      have HNO : Aside (F k = none → res = none) := (show _ → _ from fun h => by rw [← HRES.out]; exact coll_none h hlt)
      have HFK : Aside (F k = if okv (mulV n (at' xs k)) then some (mulV n (at' xs k)) else none) := (show _ = _ from by rw [HF.out])
      have S := fun w => ScaleV (at' xs k) n (okAll_at HOK.out hlt) hn w
      generalize at' xs k = a at *
      generalize mulV n a = d at *
      clear hr hg
      go_wp2_with (first | (refine load_part (T := 36) (f := a.up) rfl rfl rfl HE.out Try.underlying36 rfl info_cyc ?_; clear HE))
      refine (S _).mono ?_; rintro e w2 ⟨rfl, hb2⟩
      have HO2 := Lib.hid (rows_below HO.out hb2)
      have HB2 := Lib.hid (below_next HB.out hb2)
      clear S hb2 HO HB
      cases hkd : okv d
      · have HR : Aside (none = res) := (show none = res from (HNO.out (by rw [HFK.out, hkd]; rfl)).symm)
        rw [if_neg (by decide)]
        clear HNO HFK HST
        go_upto_region 6 with (refine store_new (ty := 36) (f' := V.zero.up) rfl rfl rfl rfl zero8 info_cyc ?_)
        show Code.wp _ _ _ _ (w2.alloc (.cells (vec 8 V.zero.up) 36))
        have HB3 := Lib.hid (HB2.out.alloc HB2.out.size (.cells (vec 8 V.zero.up) 36))
        generalize w2.alloc (.cells (vec 8 V.zero.up) 36) = w3 at *
        clear HB2 HO2
        go_wp2_with fail
        go_ret2
        rw [← HR.out]
        exact ⟨HB3.out, _, rfl, fun R h => by cases h⟩
      · have HS : Aside (coll F (k + 1) = some (l ++ [d])) := (show _ = _ from by rw [HST.out, hkd]; rfl)
        rw [if_pos rfl]
        clear HNO HFK HST
        go_upto_region 6 with (refine store_new (ty := 36) (f' := d.up) rfl rfl rfl rfl zero8 info_cyc ?_)
        show Code.wp _ _ _ _ (w2.alloc (.cells (vec 8 d.up) 36))
        have HX := Lib.hid (RowAt.new w2 8 36 d.up)
        have HB3 := Lib.hid (HB2.out.alloc HB2.out.size (.cells (vec 8 d.up) 36))
        have HO3 := Lib.hid (World.ownsRow.alloc HO2.out (.cells (vec 8 d.up) 36))
        generalize w2.heap.size = gX at *
        generalize w2.alloc (.cells (vec 8 d.up) 36) = w3 at *
        clear HB2 HO2
        have hz : w.heap.size ≤ w3.heap.size := HB3.out.size
        have hll : l.length = k := HLL.out
        go_wp2_with (first | (refine load_row (ty := 36) (g := gX) rfl rfl rfl HX.out Try.underlying36 rfl info_cyc ?_; clear HX) | (refine one8 tyY rfl rfl rfl ?_) |
          (refine appendL tyY encV_ok rfl rfl (xs := l) (ys := [d]) rfl rfl (World.ownsRow.alloc HO3.out _) (lit8 _ _ _) (by simp; omega) (HB3.out.alloc hz _) (by simp; omega) ?_; intro v5 w5 ho5 hb5 hz5 hg5))
        have HO5 := Lib.hid ho5
        have HB5 := Lib.hid hb5
        clear ho5 hb5 hz5 hg5 HO3 HB3
        go_wp2
        go_roundw
        case rel => exact ⟨k + 1, l ++ [d], by omega, by go_num, HS.out, HO5.out, HB5.out⟩
        case measure => simp [intOf]; omega
    · obtain rfl : k = xs.length := by omega
      have HR : Aside (some l = res) := (show some l = res from by rw [← HRES.out, HL.out])
      go_wp2
      go_ret2
      rw [← HR.out]
      exact ⟨HB.out, _, rfl, fun R h => by cases h; exact ownL_reads HO.out⟩

end Go.Proofs.Ytdgbpdeimckbfaa
