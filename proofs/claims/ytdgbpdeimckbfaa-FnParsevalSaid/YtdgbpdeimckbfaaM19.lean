/-
  impl: products of rows, circular products.
-/
import Derived.Test.YtdgbpdeimckbfaaM17
/- impl: products of rows, circular products. -/
namespace Go.Proofs.Ytdgbpdeimckbfaa
set_option maxRecDepth 20000
open Go.ChangeShapes Go.WideShapes Go.ChangeAt Go.RowKit
set_option linter.unusedVariables false
set_option linter.unusedSimpArgs false

theorem collP_step {f : Nat → V} {n : Nat} {l : List V} (h : collP f n = some l) : collP f (n + 1) = if okv (f n) then some (l ++ [f n]) else none := by
  unfold collP at *
  rw [coll_step h]
  split <;> rfl
theorem collP_none {f : Nat → V} {k : Nat} (h : okv (f k) = false) {n : Nat} (hk : k < n) : collP f n = none := coll_none (f := fun i => if okv (f i) then some (f i) else none) (by rw [h]; rfl) hk
theorem readsL_ptr {w : World} {v : Value} {xs : List V} (h : ReadsL encV w v xs) (hn : xs ≠ []) : ∃ g o cap, v = .slice (some ⟨g, o, none⟩) xs.length cap ∧ xs.length ≤ cap ∧ cap ≤ maxLen ∧ g < w.heap.size ∧ w.rangeAt g o (flt encV xs) := by
  obtain ⟨p, cap, rfl, h1, h2, h3, h4⟩ := h
  have hl : 0 < xs.length := List.length_pos_iff.2 hn
  obtain ⟨g, o, rfl, hg, hr⟩ := h4 (by intro e; have := h3 e; omega)
  exact ⟨g, o, cap, rfl, h1, h2, hg, hr⟩
theorem readsL_of {w : World} {g o cap : Nat} {xs : List V} (h1 : xs.length ≤ cap) (h2 : cap ≤ maxLen) (hg : g < w.heap.size) (hr : w.rangeAt g o (flt encV xs)) : ReadsL encV w (.slice (some ⟨g, o, none⟩) xs.length cap) xs :=
  ⟨_, cap, rfl, h1, h2, (fun h => by cases h), fun _ => ⟨g, o, rfl, hg, hr⟩⟩

set_option maxHeartbeats 4000000 in
theorem productsOf_any (g1 o1 c1 g2 o2 c2 : Nat) (xs ys : List V) (w : World) (hg1 : g1 < w.heap.size) (hr1 : w.rangeAt g1 o1 (flt encV xs)) (hc1 : xs.length ≤ c1) (hm1 : c1 ≤ maxLen) (hg2 : g2 < w.heap.size) (hr2 : w.rangeAt g2 o2 (flt encV ys)) (hc2 : ys.length ≤ c2) (hm2 : c2 ≤ maxLen)
    (hlen : ys.length = xs.length) (hok1 : xs.all okv = true) (hok2 : ys.all okv = true) (hn : xs.length ≤ 24) :
    Calls Try.prog 101 #[.slice (some ⟨g1, o1, none⟩) xs.length c1, .slice (some ⟨g2, o2, none⟩) ys.length c2] w (ToldL 92 w (collP (fun k => prV (at' xs k) (at' ys k)) xs.length)) := by
  simp only [maxLen] at hm1 hm2
  have HR1 := Lib.hid hr1
  have HR2 := Lib.hid hr2
  have HOK1 := Lib.hid hok1
  have HOK2 := Lib.hid hok2
  clear hr1 hr2 hok1 hok2
  generalize hres : collP (fun k => prV (at' xs k) (at' ys k)) xs.length = res
  have HRES := Lib.hid hres
  clear hres
  go_enter Try.func101, Try.ntmps101
  go_wp2_with (first | (refine makeL (en := encV) tyE rfl rfl xs.length rfl rfl (by omega) (Below.refl _ w) (Nat.le_refl _) ?_; intro w1 ho1 hb1 hB1))
  generalize hb : w.heap.size = b at *
  go_loopw [6, 7, 8, 9, 15] (fun s6 _ _ _ i wr => ∃ (k : Nat) (l : List V), k ≤ xs.length ∧ i = .int .i64 k ∧ collP (fun k => prV (at' xs k) (at' ys k)) k = some l ∧ OwnL encV 8 wr b 92 s6 l ∧ Below b w wr ∧ b ≤ wr.heap.size) (fun _ _ _ _ i _ => xs.length - (intOf i).toNat)
  case atStart => exact ⟨0, [], Nat.zero_le _, rfl, rfl, ho1, hb1, hB1⟩
  case round =>
    clear ho1 hb1 hB1
    obtain ⟨k, l, hk, rfl, hl, hO, hbel, hB⟩ := hrel
    have HL := Lib.hid hl
    have HO := Lib.hid hO
    have HB := Lib.hid hbel
    have HZ := Lib.hid hB
    have hlk := coll_len hl
    clear hl hO hbel hB
    by_cases hlt : k < xs.length
    · have hkz : (k : Int) < (xs.length : Int) := by omega
      have hkz2 : (k : Int) < (ys.length : Int) := by omega
      have hk0 : (0 : Int) ≤ (k : Int) := by omega
      have HE1 := Lib.hid (cells_part encV_ok (cells_below HR1.out hg1 HB.out) (at_get hlt))
      have HE2 := Lib.hid (cells_part encV_ok (cells_below HR2.out hg2 HB.out) (at_get (by omega : k < ys.length)))
      have TM := fun w => timesV (at' xs k) (at' ys k) (okAll_at HOK1.out hlt) (okAll_at HOK2.out (by omega)) w
      have VD := fun w => validOf (prV (at' xs k) (at' ys k)) w
      have HST := Lib.hid (collP_step HL.out)
      have HNO : Aside (okv (prV (at' xs k) (at' ys k)) = false → res = none) := (show _ → _ from fun h => by rw [← HRES.out]; exact collP_none h hlt)
      generalize prV (at' xs k) (at' ys k) = P at *
      generalize at' xs k = c at *
      generalize at' ys k = d at *
      have HX := Lib.hid (RowAt.new wr 8 92 c.up)
      have HOa := Lib.hid (World.ownsRow.alloc HO.out (.cells (vec 8 c.up) 92))
      have HBa := Lib.hid (HB.out.alloc HZ.out (.cells (vec 8 c.up) 92))
      have hZa : b ≤ (wr.alloc (.cells (vec 8 c.up) 92)).heap.size := by have := HZ.out; simp; omega
      have HEa := Lib.hid (cells_below (B := wr.heap.size) HE2.out (by have := HB.out.size; omega) ((Below.refl _ _).alloc (Nat.le_refl _) (.cells (vec 8 c.up) 92)))
      have hgx : g2 < (wr.alloc (.cells (vec 8 c.up) 92)).heap.size := by have := HZ.out; simp; omega
      clear HE2 HL HO HB HZ
      go_upto_region 5 with (first | (refine load_part (T := 92) (f := c.up) rfl rfl rfl HE1.out Try.underlying92 rfl info_exact ?_; clear HE1) | (refine store_new (ty := 92) rfl rfl rfl rfl zero8 info_exact ?_))
      show Code.wp _ _ _ _ (wr.alloc (.cells (vec 8 c.up) 92))
      generalize wr.alloc (.cells (vec 8 c.up) 92) = W at *
      generalize wr.heap.size = gx at *
      refine wp_region_held_drew (S := fun w' => Below W.heap.size W w') (by kernel_rfl) (Below.refl _ _).drew (fun hHeld => ?_)
      refine wpAnyH_take (i := 0) (oi := _) (v := .agg (vec 8 c.up)) rfl (by kernel_rfl) (by kernel_rfl) (by kernel_rfl) (fun _ _ _ h => h) (yieldsIf_load_mid (by rfl) _ _ rfl _ _ rfl _ _ ((fun w h => (HX.out.below h).range)) Try.underlying92 rfl (size_exact c.up)) hHeld ?_
      try simp only [Act.put, List.setIfInBounds_toArray, List.set_cons_zero, List.set_cons_succ, List.getElem_toArray, List.getElem_cons_succ, List.getElem_cons_zero]
      refine wpAnyH_take (i := 1) (oi := _) (v := .iface 92 (.agg (vec 8 c.up))) rfl (by kernel_rfl) (by kernel_rfl) (by kernel_rfl) (fun _ _ _ h => h) (Or.inl ⟨by rfl, fun w h => by go_simp⟩) hHeld ?_
      try simp only [Act.put, List.setIfInBounds_toArray, List.set_cons_zero, List.set_cons_succ, List.getElem_toArray, List.getElem_cons_succ, List.getElem_cons_zero]
      refine wpAnyH_take (i := 2) (oi := _) (v := .slice (some ⟨g2, o2, none⟩) ys.length c2) rfl (by kernel_rfl) (by kernel_rfl) (by kernel_rfl) (fun _ _ _ h => h) (Or.inl ⟨by rfl, fun w h => by go_simp⟩) hHeld ?_
      try simp only [Act.put, List.setIfInBounds_toArray, List.set_cons_zero, List.set_cons_succ, List.getElem_toArray, List.getElem_cons_succ, List.getElem_cons_zero]
      refine wpAnyH_take (i := 3) (oi := _) (v := .int .i64 k) rfl (by kernel_rfl) (by kernel_rfl) (by kernel_rfl) (fun _ _ _ h => h) (Or.inl ⟨by rfl, fun w h => by go_simp⟩) hHeld ?_
      try simp only [Act.put, List.setIfInBounds_toArray, List.set_cons_zero, List.set_cons_succ, List.getElem_toArray, List.getElem_cons_succ, List.getElem_cons_zero]
      refine wpAnyH_take (i := 4) (oi := _) (v := .pointer (some ⟨g2, o2 + k * 8, none⟩)) rfl (by kernel_rfl) (by kernel_rfl) (by kernel_rfl) (fun _ _ _ h => h) (Or.inl ⟨by rfl, fun w h => by go_simp⟩) hHeld ?_
      try simp only [Act.put, List.setIfInBounds_toArray, List.set_cons_zero, List.set_cons_succ, List.getElem_toArray, List.getElem_cons_succ, List.getElem_cons_zero]
      refine wpAnyH_take (i := 5) (oi := _) (v := .agg (vec 8 d.up)) rfl (by kernel_rfl) (by kernel_rfl) (by kernel_rfl) (fun _ _ _ h => h) (yieldsIf_load_mid (by rfl) _ _ rfl _ _ rfl _ _ ((fun w h => cells_below HEa.out hgx h)) Try.underlying92 rfl (size_exact d.up)) hHeld ?_
      try simp only [Act.put, List.setIfInBounds_toArray, List.set_cons_zero, List.set_cons_succ, List.getElem_toArray, List.getElem_cons_succ, List.getElem_cons_zero]
      refine wpAnyH_ready (rs := [6, 7]) (by kernel_rfl) (by simp) ?_
      refine AllReadyH.cons (o := _) rfl (fun K hK => ?_) (AllReadyH.cons (o := _) rfl (fun K hK => ?_) AllReadyH.nil)
      · go_simp
        go_invoke
        go_simp
        refine (TM _).mono ?_; rintro e w5 ⟨rfl, hb5⟩
        go_wp2_with fail
        refine hK.out _ _ (below_next hHeld hb5) (fun hHeld => ?_)
        clear hK K
        try simp only [Act.put, List.setIfInBounds_toArray, List.set_cons_zero, List.set_cons_succ, List.getElem_toArray, List.getElem_cons_succ, List.getElem_cons_zero]
        clear hb5 TM
        refine wpAnyH_ready (rs := [7]) (by kernel_rfl) (by simp) ?_
        refine AllReadyH.cons (o := _) rfl (fun K hK => ?_) AllReadyH.nil
        rw [if_pos (by rfl)]
        go_simp
        have hG : RowAt (w5.alloc (.cells #[.int .i64 0, .int .i64 0, .int .i64 0, .int .i64 0, .int .i64 0, .int .i64 0, .int .i64 0, .int .i64 0] 92)) w5.heap.size 8 92 nul := RowAt.newAt zero8 rfl
        have hgz : W.heap.size ≤ w5.heap.size := hHeld.size
        refine hK.out _ _ (hHeld.alloc hgz _) (fun hHeld => ?_)
        clear hK K
        try simp only [Act.put, List.setIfInBounds_toArray, List.set_cons_zero, List.set_cons_succ, List.getElem_toArray, List.getElem_cons_succ, List.getElem_cons_zero]
        refine wpAnyH_ready (rs := [8]) (by kernel_rfl) (by simp) ?_
        refine AllReadyH.cons (o := _) rfl (fun K hK => ?_) AllReadyH.nil
        rw [if_pos (by rfl)]
        refine store_step (f' := P.up) rfl rfl rfl hG info_exact ?_
        have hG2 := hG.setRow (f' := P.up)
        refine hK.out _ _ (below_setRow hHeld hgz _) (fun hHeld => ?_)
        clear hK K
        try simp only [Act.put, List.setIfInBounds_toArray, List.set_cons_zero, List.set_cons_succ, List.getElem_toArray, List.getElem_cons_succ, List.getElem_cons_zero]
        clear hG
        refine wpAnyH_done (by kernel_rfl) ?_ _
        have HS5 := Lib.hid hHeld
        have HG5 := Lib.hid hG2
        clear hG2 hHeld
        generalize (w5.alloc (.cells #[.int .i64 0, .int .i64 0, .int .i64 0, .int .i64 0, .int .i64 0, .int .i64 0, .int .i64 0, .int .i64 0] 92)).setRow w5.heap.size (vec 8 P.up) = W6 at *
        go_wp2_with (first | (refine load_row (ty := 92) (g := w5.heap.size) rfl rfl rfl HG5.out Try.underlying92 rfl info_exact ?_))
        refine (VD _).mono ?_; rintro e w7 ⟨rfl, hb7⟩
        have HX7 := Lib.hid (HG5.out.below hb7)
        have hb8 := below_next HS5.out hb7
        have HB7 : Aside (Below b w w7) := (show Below b w w7 from HBa.out.trans (hb8.mono hZa))
        have HO7 := Lib.hid (rows_below HOa.out hb8)
        have HZ7 : Aside (b ≤ w7.heap.size) := Nat.le_trans hZa hb8.size
        clear hb7 hb8 VD HG5 HS5
        cases hok : okv P
        · go_wp2
          go_ret2
          rw [HNO.out hok]
          exact ⟨by rw [hb]; exact HB7.out, _, rfl, ownL_none _ _ _⟩
        · go_wp2_with (first | (refine load_row (ty := 92) (g := w5.heap.size) rfl rfl rfl HX7.out Try.underlying92 rfl info_exact ?_; clear HX7) | (refine one8 tyE rfl rfl rfl ?_) |
            (refine appendL tyE encV_ok rfl rfl rfl rfl (xs := l) (World.ownsRow.alloc HO7.out _) (lit8 _ _ _) (by simp; omega) (HB7.out.alloc HZ7.out _) (by simp; have := HZ7.out; omega) ?_; intro v2 w8 ho8 hb8 hB8 hg8))
          go_roundw
          case rel => exact ⟨k + 1, l ++ [P], by omega, by go_num, by rw [HST.out, if_pos hok], ho8, hb8, hB8⟩
          case measure => simp [intOf]; omega
      · rw [if_pos (by rfl)]
        go_simp
        have hgz : W.heap.size ≤ W.heap.size := Nat.le_refl _
        have hG : RowAt (W.drew.alloc (.cells #[.int .i64 0, .int .i64 0, .int .i64 0, .int .i64 0, .int .i64 0, .int .i64 0, .int .i64 0, .int .i64 0] 92)) W.heap.size 8 92 nul := RowAt.newAt zero8 rfl
        refine hK.out _ _ (hHeld.alloc hgz _) (fun hHeld => ?_)
        clear hK K
        try simp only [Act.put, List.setIfInBounds_toArray, List.set_cons_zero, List.set_cons_succ, List.getElem_toArray, List.getElem_cons_succ, List.getElem_cons_zero]
        refine wpAnyH_ready (rs := [6]) (by kernel_rfl) (by simp) ?_
        refine AllReadyH.cons (o := _) rfl (fun K hK => ?_) AllReadyH.nil
        go_simp
        go_invoke
        go_simp
        refine (TM _).mono ?_; rintro e w5 ⟨rfl, hb5⟩
        go_wp2_with fail
        replace hG := hG.below hb5
        refine hK.out _ _ (below_next hHeld hb5) (fun hHeld => ?_)
        clear hK K
        try simp only [Act.put, List.setIfInBounds_toArray, List.set_cons_zero, List.set_cons_succ, List.getElem_toArray, List.getElem_cons_succ, List.getElem_cons_zero]
        clear hb5 TM
        refine wpAnyH_ready (rs := [8]) (by kernel_rfl) (by simp) ?_
        refine AllReadyH.cons (o := _) rfl (fun K hK => ?_) AllReadyH.nil
        rw [if_pos (by rfl)]
        refine store_step (f' := P.up) rfl rfl rfl hG info_exact ?_
        have hG2 := hG.setRow (f' := P.up)
        refine hK.out _ _ (below_setRow hHeld hgz _) (fun hHeld => ?_)
        clear hK K
        try simp only [Act.put, List.setIfInBounds_toArray, List.set_cons_zero, List.set_cons_succ, List.getElem_toArray, List.getElem_cons_succ, List.getElem_cons_zero]
        clear hG
        refine wpAnyH_done (by kernel_rfl) ?_ _
        have HS5 := Lib.hid hHeld
        have HG5 := Lib.hid hG2
        clear hG2 hHeld
        generalize w5.setRow W.heap.size (vec 8 P.up) = W6 at *
        go_wp2_with (first | (refine load_row (ty := 92) (g := W.heap.size) rfl rfl rfl HG5.out Try.underlying92 rfl info_exact ?_))
        refine (VD _).mono ?_; rintro e w7 ⟨rfl, hb7⟩
        have HX7 := Lib.hid (HG5.out.below hb7)
        have hb8 := below_next HS5.out hb7
        have HB7 : Aside (Below b w w7) := (show Below b w w7 from HBa.out.trans (hb8.mono hZa))
        have HO7 := Lib.hid (rows_below HOa.out hb8)
        have HZ7 : Aside (b ≤ w7.heap.size) := Nat.le_trans hZa hb8.size
        clear hb7 hb8 VD HG5 HS5
        cases hok : okv P
        · go_wp2
          go_ret2
          rw [HNO.out hok]
          exact ⟨by rw [hb]; exact HB7.out, _, rfl, ownL_none _ _ _⟩
        · go_wp2_with (first | (refine load_row (ty := 92) (g := W.heap.size) rfl rfl rfl HX7.out Try.underlying92 rfl info_exact ?_; clear HX7) | (refine one8 tyE rfl rfl rfl ?_) |
            (refine appendL tyE encV_ok rfl rfl rfl rfl (xs := l) (World.ownsRow.alloc HO7.out _) (lit8 _ _ _) (by simp; omega) (HB7.out.alloc HZ7.out _) (by simp; have := HZ7.out; omega) ?_; intro v2 w8 ho8 hb8 hB8 hg8))
          go_roundw
          case rel => exact ⟨k + 1, l ++ [P], by omega, by go_num, by rw [HST.out, if_pos hok], ho8, hb8, hB8⟩
          case measure => simp [intOf]; omega
    · obtain rfl : k = xs.length := by omega
      have HF : Aside (res = some l) := (show res = some l from by rw [← HRES.out]; exact HL.out)
      go_wp2
      go_ret2
      rw [HF.out]
      exact ⟨by rw [hb]; exact HB.out, _, rfl, by rw [hb]; exact HO.out⟩

theorem cix_lt {n k i : Nat} (hn : 0 < n) : cix n k i < n := Nat.mod_lt _ hn
/-- One point of a circular product. -/
def crSum (xs ys : List V) (k : Nat) : Option V := sumP (fun i => prV (at' xs i) (at' ys (cix xs.length k i))) xs.length
set_option maxHeartbeats 6000000 in
theorem circularOf_any (g1 o1 c1 g2 o2 c2 : Nat) (xs ys : List V) (w : World) (hg1 : g1 < w.heap.size) (hr1 : w.rangeAt g1 o1 (flt encV xs)) (hc1 : xs.length ≤ c1) (hm1 : c1 ≤ maxLen) (hg2 : g2 < w.heap.size) (hr2 : w.rangeAt g2 o2 (flt encV ys)) (hc2 : ys.length ≤ c2) (hm2 : c2 ≤ maxLen)
    (hlen : ys.length = xs.length) (hok1 : xs.all okv = true) (hok2 : ys.all okv = true) (hn : xs.length ≤ 24) :
    Calls Try.prog 104 #[.slice (some ⟨g1, o1, none⟩) xs.length c1, .slice (some ⟨g2, o2, none⟩) ys.length c2] w (ToldL 92 w (coll (crSum xs ys) xs.length)) := by
  have HM1 := Lib.hid hm1
  have HR1 := Lib.hid hr1
  have HR2 := Lib.hid hr2
  have HOK1 := Lib.hid hok1
  have HOK2 := Lib.hid hok2
  simp only [maxLen] at hm1 hm2
  clear hr1 hr2 hok1 hok2
  generalize hres : coll (crSum xs ys) xs.length = res
  have HRES := Lib.hid hres
  clear hres
  rw [hlen]
  rw [hlen] at hc2
  go_enter Try.func104, Try.ntmps104
  go_wp2_with (first | (refine makeL (en := encV) tyE rfl rfl xs.length rfl rfl (by omega) (Below.refl _ w) (Nat.le_refl _) ?_; intro w1 ho1 hb1 hB1) | (refine make_fullL tyE zero_exact rfl rfl xs.length rfl rfl (by omega) ?_; intro w2 ho2 hb2))
  have hbT : w.heap.size < w1.heap.size := (ho1.lt w.heap.size rfl).2
  have ho1' := rows_below ho1 hb2
  have hb12 := hb1.trans (hb2.mono (by omega))
  generalize hb : w.heap.size = b at *
  generalize hT : w1.heap.size = bT at *
  clear ho1 hb1 hb2 hB1
  go_loopw [7, 9, 10, 11, 12, 13, 21] (fun s7 _ _ _ _ _ i wr => ∃ (k : Nat) (l T : List V), k ≤ xs.length ∧ i = .int .i64 k ∧ s7 = .slice (some ⟨b, 0, none⟩) k xs.length ∧ coll (crSum xs ys) k = some l ∧ wr.ownsRow b 92 8 (.slice (some ⟨b, 0, none⟩) k xs.length) k (flt encV l) ∧
    T.length = xs.length ∧ wr.ownsRow bT 92 8 (.slice (some ⟨bT, 0, none⟩) xs.length xs.length) xs.length (flt encV T) ∧ Below b w wr) (fun _ _ _ _ _ _ i _ => xs.length - (intOf i).toNat)
  case atStart => exact ⟨0, [], _, Nat.zero_le _, rfl, rfl, rfl, ho1', by simp, ho2, hb12⟩
  case round =>
    clear ho1' ho2 hb12
    obtain ⟨k, l, T, hk, rfl, rfl, hl, hO, hTl, hOT, hbel⟩ := hrel
    have HL := Lib.hid hl
    have HO := Lib.hid hO
    have HOT := Lib.hid hOT
    have HB := Lib.hid hbel
    have HTL := Lib.hid hTl
    clear hl hO hOT hbel hTl
    by_cases hlt : k < xs.length
    · have hkz : (k : Int) < (xs.length : Int) := by omega
      have hk0 : (0 : Int) ≤ (k : Int) := by omega
      go_wp2
      go_loopw [10, 25] (fun _ i wr => ∃ m : Nat, m ≤ xs.length ∧ i = .int .i64 m ∧ wr.ownsRow b 92 8 (.slice (some ⟨b, 0, none⟩) k xs.length) k (flt encV l) ∧
        wr.ownsRow bT 92 8 (.slice (some ⟨bT, 0, none⟩) xs.length xs.length) xs.length (flt encV (tuL (fun i => at' ys (cix xs.length k i)) T m)) ∧ Below b w wr) (fun _ i _ => xs.length - (intOf i).toNat)
      case atStart => exact ⟨0, Nat.zero_le _, rfl, HO.out, by rw [tuL_none]; exact HOT.out, HB.out⟩
      case round =>
        clear HO HOT HB
        obtain ⟨m, hm, rfl, hO, hOT, hbel⟩ := hrel
        have HO := Lib.hid hO
        have HOT := Lib.hid hOT
        have HB := Lib.hid hbel
        clear hO hOT hbel
        by_cases hltm : m < xs.length
        · have hmz : (m : Int) < (xs.length : Int) := by omega
          have hm0 : (0 : Int) ≤ (m : Int) := by omega
          have hbz : bT < wr.heap.size := (HOT.out.lt bT rfl).2
          have hcx : cix xs.length k m < xs.length := cix_lt (by omega)
          have q1 : IntKind.i64.wrap ((k : Int) - (m : Int)) = (k : Int) - (m : Int) := by rw [IntKind.wrap_i64]; omega
          have q2 : IntKind.i64.wrap ((k : Int) - (m : Int) + (xs.length : Int)) = (k : Int) - (m : Int) + (xs.length : Int) := by rw [IntKind.wrap_i64]; omega
          have q3 : ((k : Int) - (m : Int) + (xs.length : Int)).tmod (xs.length : Int) = ((cix xs.length k m : Nat) : Int) := by
            unfold cix
            rw [Int.tmod_eq_emod_of_nonneg (by omega), show (k : Int) - (m : Int) + (xs.length : Int) = ((k + xs.length - m : Nat) : Int) by omega]; simp
          have q4 : IntKind.i64.wrap ((cix xs.length k m : Nat) : Int) = ((cix xs.length k m : Nat) : Int) := by rw [IntKind.wrap_i64]; omega
          have q5 : ¬ (xs.length : Int) = 0 := by omega
          have q6 : ((cix xs.length k m : Nat) : Int) < (xs.length : Int) := by omega
          have q7 : (0 : Int) ≤ ((cix xs.length k m : Nat) : Int) := by omega
          have HE := Lib.hid (cells_part encV_ok (cells_below HR2.out (by omega) HB.out) (at_get (by omega : cix xs.length k m < ys.length)))
          have HSET : Aside ((tuL (fun i => at' ys (cix xs.length k i)) T m).set m (at' ys (cix xs.length k m)) = tuL (fun i => at' ys (cix xs.length k i)) T (m + 1)) := (show _ = _ from tuL_set (fun i => at' ys (cix xs.length k i)) (by rw [HTL.out]; exact hltm))
          have HHERE := Lib.hid (tuL_here (fun i => at' ys (cix xs.length k i)) (xs := T) (m := m) (by rw [HTL.out]; exact hltm))
          generalize at' ys (cix xs.length k m) = d at *
          generalize tuL (fun i => at' ys (cix xs.length k i)) T m = Lm at *
          generalize hLn : tuL (fun i => at' ys (cix xs.length k i)) T (m + 1) = Ln at *
          have HLN := Lib.hid hLn
          generalize cix xs.length k m = cx at *
          clear hLn
          have HT := Lib.hid (rows_there (K := 8) (o := 0) (m := 8) HOT.out hltm (Nat.le_refl _))
          have HOn := Lib.hid (own_setCells HO.out (row := bT) (by omega) (m * 8) (lst 8 d.up))
          have HOTn : Aside ((wr.setCells bT (m * 8) (lst 8 d.up)).ownsRow bT 92 8 (.slice (some ⟨bT, 0, none⟩) xs.length xs.length) xs.length (flt encV Ln)) := (show World.ownsRow _ _ _ _ _ _ _ from by
            rw [← HSET.out]; exact ownL_set encV_ok d HOT.out HHERE.out)
          have HBn := Lib.hid (below_setCells (G := bT) (by omega : b ≤ bT) (lst 8 d.up) (m * 8) _ HB.out)
          clear HO HOT HB
          go_wp2_with (first | (refine load_part (T := 92) (f := d.up) rfl rfl rfl HE.out Try.underlying92 rfl info_exact ?_; clear HE) | (refine store_part (ty := 92) (g := bT) (p := m * 8) (f := d.up) rfl rfl rfl rfl HT.out info_exact ?_; clear HT))
          go_roundw
          case rel => exact ⟨m + 1, by omega, by go_num, HOn.out, by rw [HLN.out]; exact HOTn.out, HBn.out⟩
          case measure => simp [intOf]; omega
        · obtain rfl : m = xs.length := by omega
          have hFl : (tuL (fun i => at' ys (cix xs.length k i)) T xs.length).length = xs.length := by rw [tuL_len, HTL.out]
          have hFat : ∀ i, i < xs.length → at' (tuL (fun i => at' ys (cix xs.length k i)) T xs.length) i = at' ys (cix xs.length k i) := fun i hi => by
            have := tuL_all (fun i => at' ys (cix xs.length k i)) T (k := i) (by rw [HTL.out]; exact hi)
            rw [HTL.out] at this; exact this
          generalize tuL (fun i => at' ys (cix xs.length k i)) T xs.length = F at *
          obtain ⟨hbz, hrng, -, hml⟩ := ownL_parts (en := encV) (xs := F) HOT.out hFl
          have hLk := coll_len HL.out
          have hZ : b ≤ wr.heap.size := by have := HB.out.size; omega
          have PR := productsOf_any g1 o1 c1 bT 0 xs.length xs F wr (by omega) (cells_below HR1.out hg1 HB.out) hc1 HM1.out hbz hrng (by omega) hml hFl HOK1.out (by
            rw [List.all_eq_true]
            intro x hx
            obtain ⟨i, hi⟩ := List.getElem?_of_mem hx
            have hl := (List.getElem?_eq_some_iff.1 hi).1
            rw [← at_some hi, hFat i (by omega)]
            exact okAll_at HOK2.out (by rw [hlen]; exact cix_lt (by omega))) hn
          rw [hFl] at PR
          have eP : collP (fun i => prV (at' xs i) (at' F i)) xs.length = collP (fun i => prV (at' xs i) (at' ys (cix xs.length k i))) xs.length := collP_same fun i hi => by rw [hFat i hi]
          rw [eP] at PR
          clear hrng eP hFat
          have HSTEP := Lib.hid (coll_step HL.out)
          have HNO : Aside (crSum xs ys k = none → res = none) := (show _ → _ from fun h => by rw [← HRES.out]; exact coll_none h hlt)
          have HCR : Aside (crSum xs ys k = sumP (fun i => prV (at' xs i) (at' ys (cix xs.length k i))) xs.length) := (show _ = _ from rfl)
          generalize hf : (fun i => prV (at' xs i) (at' ys (cix xs.length k i))) = f at *
          have HFF := Lib.hid hf
          clear hf
          cases hcp : collP f xs.length
          · have HF : Aside (res = none) := (show res = none from HNO.out (by rw [HCR.out]; unfold sumP; rw [hcp]; rfl))
            rw [hcp] at PR
            have PR := Lib.hid PR
            clear hcp HSTEP HNO HCR
            go_wp2_with fail
            refine PR.out.mono ?_; rintro e w4 ⟨hb4, v4, rfl, -⟩
            have HB4 := Lib.hid (HB.out.trans (hb4.mono hZ))
            clear hb4 PR
            go_wp2
            go_ret2
            rw [HF.out]
            exact ⟨by rw [hb]; exact HB4.out, _, rfl, ownL_none _ _ _⟩
          · rename_i P
            rw [hcp] at PR
            have hPl := collP_some hcp
            have PR := Lib.hid PR
            have HCR2 : Aside (crSum xs ys k = sumN f xs.length) := (show _ = _ from by rw [HCR.out]; unfold sumP; rw [hcp]; rfl)
            have HEP : Aside (sumN (at' P) P.length = sumN f xs.length) := (show _ = _ from by rw [hPl.1]; exact sumN_same fun i hi => (hPl.2 i hi).1)
            have HPB : Aside (P.length ≤ 1000 ∧ ∀ x ∈ P, Big x 4000000) := (show _ ∧ _ from ⟨by omega, fun x hx => by
              obtain ⟨i, hi⟩ := List.getElem?_of_mem hx
              have hl := (List.getElem?_eq_some_iff.1 hi).1
              have h1 := hPl.2 i (by omega)
              rw [← at_some hi, h1.1]
              exact (big_ok h1.2).mono (by omega)⟩)
            clear hcp hPl HCR
            go_wp2_with fail
            refine PR.out.mono ?_; rintro e w4 ⟨hb4, v4, rfl, ho4⟩
            have HO4 := Lib.hid (rows_below HO.out hb4)
            have HOT4 := Lib.hid (rows_below HOT.out hb4)
            have HB4 := Lib.hid (HB.out.trans (hb4.mono hZ))
            have hZ4 : b ≤ w4.heap.size := by have := HB4.out.size; omega
            have SM := sumOf_any v4 P w4 (ownL_reads (show OwnL encV 8 w4 wr.heap.size 92 v4 P from ho4)) HPB.out.1 HPB.out.2
            rw [HEP.out] at SM
            clear hb4 ho4 PR HO HOT HB
            cases hs : sumN f xs.length
            · rw [hs, pointO_none] at SM
              have HF : Aside (res = none) := (show res = none from HNO.out (by rw [HCR2.out]; exact hs))
              clear hs HSTEP HNO
              go_wp2_with fail
              refine SM.mono ?_; rintro e w5 ⟨rfl, hb5⟩
              have HB5 := Lib.hid (HB4.out.trans (hb5.mono hZ4))
              clear hb5 SM
              go_wp2_with (refine store_new (ty := 92) rfl rfl rfl rfl zero8 info_exact ?_)
              go_ret2
              rw [HF.out]
              exact ⟨by rw [hb]; exact HB5.out.alloc (by have := HB5.out.size; omega) _, _, rfl, ownL_none _ _ _⟩
            · rename_i s
              rw [hs, pointO_some] at SM
              have HC2 : Aside (coll (crSum xs ys) (k + 1) = some (l ++ [s])) := (show _ = _ from by rw [HSTEP.out, HCR2.out, hs]; rfl)
              clear hs HSTEP HNO
              go_wp2_with fail
              refine SM.mono ?_; rintro e w5 ⟨rfl, hb5⟩
              have HO5 := Lib.hid (World.ownsRow.alloc (rows_below HO4.out hb5) (.cells (vec 8 s.up) 92))
              have HOT5 := Lib.hid (World.ownsRow.alloc (rows_below HOT4.out hb5) (.cells (vec 8 s.up) 92))
              have hB5 := HB4.out.trans (hb5.mono hZ4)
              have HB5 := Lib.hid (hB5.alloc (by have := hB5.size; omega) (.cells (vec 8 s.up) 92))
              have HX5 := Lib.hid (RowAt.new w5 8 92 s.up)
              clear hb5 SM hB5 HO4 HOT4 HB4
              go_upto_region 16 with (refine store_new (ty := 92) (f' := s.up) rfl rfl rfl rfl zero8 info_exact ?_)
              show Code.wp _ _ _ _ (w5.alloc (.cells (vec 8 s.up) 92))
              generalize w5.alloc (.cells (vec 8 s.up) 92) = W5 at *
              generalize w5.heap.size = g5 at *
              subst hLk
              go_wp2_with (first | (refine load_row (ty := 92) (g := g5) rfl rfl rfl HX5.out Try.underlying92 rfl info_exact ?_; clear HX5) | (refine one8 tyE rfl rfl rfl ?_) |
                (refine append_fitL tyE encV_ok rfl rfl (xs := l) (ys := [s]) rfl rfl (World.ownsRow.alloc HO5.out _) (litL_range (en := encV) _ s _) (by simp; omega) ?_; intro w6 ho6 hg6))
              have HO6 := Lib.hid ho6
              have HOT6 := Lib.hid (own_blocks (World.ownsRow.alloc HOT5.out _) hg6 (by omega))
              have HB6 : Aside (Below b w w6) := (show Below b w w6 from (HB5.out.alloc (by have := HB5.out.size; omega) _).grown hg6 (by have := HB5.out.size; simp; omega) fun k hk => by simp at hk; omega)
              clear ho6 hg6 HO5 HOT5 HB5
              go_roundw
              case rel => exact ⟨l.length + 1, l ++ [s], F, by omega, by go_num, rfl, HC2.out, own_next HO6.out, hFl, HOT6.out, HB6.out⟩
              case measure => simp [intOf]; omega
    · obtain rfl : k = xs.length := by omega
      have HF : Aside (res = some l) := (show res = some l from by rw [← HRES.out]; exact HL.out)
      have hLk := coll_len HL.out
      go_wp2
      go_ret2
      rw [HF.out]
      exact ⟨by rw [hb]; exact HB.out, _, rfl, by
        show World.ownsRow _ _ _ _ _ l.length _
        rw [hLk, hb]; exact HO.out⟩
end Go.Proofs.Ytdgbpdeimckbfaa
