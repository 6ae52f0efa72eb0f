/-
  The walk of the law FnArea.
-/
import Derived.Test.YtdpakhggpgdgbaaM30
import Derived.Test.YtdpakhggpgdgbaaM20
namespace Go.Proofs.Ytdpakhggpgdgbaa
set_option maxRecDepth 20000
open Go.ChangeShapes Go.WideShapes Go.ChangeAt Go.RowKit
set_option linter.unusedVariables false
set_option linter.unusedSimpArgs false

theorem drawPolyArea (v : Value) (w : World) (h : CodeAt w v) : Calls Try.prog 28 #[v] w (DrewPoly w) := by
  have O := Lib.hid (open_any v w h)
  clear h
  go_enter Try.func28, Try.ntmps28
  go_wp2_with fail
  refine O.out.mono ?_; rintro e w1 ⟨rfl, hr, hb⟩
  have D := Lib.hid (poly_drawn _ _ w1 hr (by omega))
  have z1 := hr.lt
  clear hr O
  go_wp2_with fail
  refine D.out.mono ?_; rintro e w2 ⟨v2, xs, q, rfl, hq, hl, hr2, hg2, ho2⟩
  have HB := Lib.hid (below_only hb hg2 hb.size (Nat.le_refl _))
  have HO := Lib.hid ho2
  clear D hb hr2 hg2 ho2
  go_wp2
  go_ret
  exact ⟨v2, xs, rfl, hl, HO.out, HB.out⟩

theorem range_next {w : World} {g o : Nat} {c : V} {cs : List V} (h : w.rangeAt g o (flt encV (c :: cs))) : w.rangeAt g (o + 8) (flt encV cs) := fun j v hv => by
  have := h (8 + j) v (by rw [flt_cons, List.getElem?_append_right (by rw [encV_ok.len]; omega), encV_ok.len, Nat.add_sub_cancel_left]; exact hv)
  rw [← Nat.add_assoc] at this
  exact this
theorem lit_grown {w w' : World} {l : Nat} {x : V} {row : Option Nat} (h : ReadsL encV w (.slice (some ⟨l, 0, none⟩) 1 1) [x]) (hg : w.grownBy w' row) (hne : row ≠ some l) : ReadsL encV w' (.slice (some ⟨l, 0, none⟩) 1 1) [x] := by
  obtain ⟨p, cap, e, h1, h2, h3, h4⟩ := h
  refine ⟨p, cap, e, h1, h2, h3, fun hn => ?_⟩
  obtain ⟨g, o, e2, hlt, hra⟩ := h4 hn
  refine ⟨g, o, e2, Nat.lt_of_lt_of_le hlt hg.size, fun j v hv => hg.cell (hra j v hv) ?_⟩
  rw [e2] at e
  simp only [Value.slice.injEq, Option.some.injEq, Addr.mk.injEq] at e
  obtain ⟨⟨e1, -⟩, -⟩ := e
  exact fun e => hne (by rw [e1]; exact e.symm)
theorem next_addr {w : World} {g o cap : Nat} {cs : List V} (hc : cs.length + 1 ≤ cap) (h : w.rangeAt g (o + 8) (flt encV cs)) : ∃ o' : Nat, (if cap = 1 then (some ⟨g, o, none⟩ : Option Addr) else some ⟨g, o + 8, none⟩) = some ⟨g, o', none⟩ ∧ w.rangeAt g o' (flt encV cs) := by
  by_cases e : cap = 1
  · have : cs = [] := List.length_eq_zero_iff.1 (by omega)
    subst this
    exact ⟨o, by rw [if_pos e], fun j v hv => by simp [flt] at hv⟩
  · exact ⟨o + 8, by rw [if_neg e], h⟩

set_option maxHeartbeats 8000000 in
theorem lawFnArea_walk (v : Value) (w : World) (h : CodeAt w v) : Calls Try.prog 5 #[v] w (Fine w) := by
  have D := Lib.hid (drawPolyArea v w h)
  obtain ⟨pa, pn, pc, rfl, hpn⟩ := code_length h
  clear h
  by_cases hbig : 1048576 < pn
  · have hb : (1048576 : Int) < (pn : Int) := by omega
    go_enter Try.func5, Try.ntmps5
    go_wp2_with fail
    go_ret
    exact fine_same ⟨rfl, rfl⟩
  have hb : ¬ (1048576 : Int) < (pn : Int) := by omega
  go_enter Try.func5, Try.ntmps5
  go_wp2_with fail
  refine D.out.mono ?_; rintro e w1 ⟨v2, xs, rfl, hl48, hR, hL⟩
  clear D
  have IM := fun w h => PolyArea_any v2 xs w h
  have SP := fun w h => specPolyArea_any v2 xs w h
  obtain ⟨c, v, hcv, hk⟩ := tls_some (polyOk xs) (areaV xs)
  rw [hcv] at IM SP
  have HK := Lib.hid hk
  clear hk hcv
  go_wp2_with fail
  refine (IM _ hR).mono ?_; rintro e w2 ⟨rfl, hb⟩
  replace hR := hR.below hb
  replace hL := below_next hL hb
  clear hb
  go_upto_region 5 with (refine store_row rfl rfl rfl rfl (RowAt.newAt zero4 rfl) info_surd ?_)
  show Code.wp _ _ _ _ (sole4 w2 c 37)
  have r_out := sole_first4 w2 c 37
  replace hL := sole_below4 hL c 37
  replace hR := hR.below (sole_below4 (Below.refl _ w2) c 37)
  generalize w2.heap.size = g_out at *
  generalize sole4 w2 c 37 = W_out at *
  go_wp2_with (first | (refine load_row (g := g_out) rfl rfl rfl r_out Try.underlying37 rfl info_surd ?_))
  refine (SP _ hR).mono ?_; rintro e w3 ⟨rfl, hb⟩
  replace r_out := r_out.below hb
  replace hR := hR.below hb
  replace hL := below_next hL hb
  clear hb
  go_upto_region 6 with (refine store_row rfl rfl rfl rfl (RowAt.newAt zero4 rfl) info_surd ?_)
  show Code.wp _ _ _ _ (sole4 w3 c 37)
  replace r_out := sole_keep4 r_out c 37
  have r_want := sole_first4 w3 c 37
  replace hL := sole_below4 hL c 37
  replace hR := hR.below (sole_below4 (Below.refl _ w3) c 37)
  generalize w3.heap.size = g_want at *
  generalize sole4 w3 c 37 = W_want at *
  have p0 := r_out.cell (k := 0) (by omega)
  have p1 := r_out.cell (k := 1) (by omega)
  have p2 := r_out.cell (k := 2) (by omega)
  have p3 := r_out.cell (k := 3) (by omega)
  have q0 := r_want.cell (k := 0) (by omega)
  have q1 := r_want.cell (k := 1) (by omega)
  have q2 := r_want.cell (k := 2) (by omega)
  have q3 := r_want.cell (k := 3) (by omega)
  have EQ := fun w => eqs_cells c w
  cases v
  · go_wp2_with fail
    go_ret
    exact ⟨rfl, hL⟩
  go_upto_region 8 with fail
  clear EQ p0 p1 p2 p3 q0 q1 q2 q3 r_want
  obtain ⟨hx, hok, hc⟩ := HK.out rfl
  rw [← hc] at hok
  have hln := polyOk_len hx
  obtain ⟨d, hd⟩ : ∃ d : Nat → Int, ∀ j, d j = -c j := ⟨_, fun _ => rfl⟩
  have hdo := okf_neg4 hd hok
  have n0 := okf_wrap hd hok 0 (by omega)
  have n1 := okf_wrap hd hok 1 (by omega)
  have n2 := okf_wrap hd hok 2 (by omega)
  have n3 := okf_wrap hd hok 3 (by omega)
  have B1 := fun w h => PolyBack_any v2 xs w h
  rw [back_yes hx] at B1
  have K1 := fun v w h => PolyArea_any v xs.reverse w h
  have e1 : tls (polyOk xs.reverse) (areaV xs.reverse) = .tuple #[.agg (vec 4 d), .bool true] := tls_is (d := d) (fun j hj => by rw [hd, hc]; exact area_rev xs j hj) (by rw [polyOk_rev hx, hdo]; rfl)
  rw [e1] at K1
  have K2 := fun v w h => PolyArea_any v (nextL xs) w h
  have e2 : tls (polyOk (nextL xs)) (areaV (nextL xs)) = .tuple #[.agg (vec 4 c), .bool true] := tls_is (d := c) (fun j hj => by rw [hc]; exact area_nextL hln.1 j hj) (by rw [polyOk_next hx, hok]; rfl)
  rw [e2] at K2
  clear e1 e2 hx hok hc hd hdo HK
  go_wp2_with (first | (refine load_row (g := g_out) rfl rfl rfl r_out Try.underlying37 rfl info_surd ?_))
  refine (B1 _ hR).mono ?_; rintro e w4 ⟨hb, v3, rfl, ho3⟩
  replace r_out := r_out.below hb
  replace hR := hR.below hb
  replace hL := below_next hL hb
  clear hb
  have hS := ownL_reads ho3
  change ReadsL encV _ v3 xs.reverse at hS
  clear ho3
  go_wp2_with (first | (refine load_row (g := g_out) rfl rfl rfl r_out Try.underlying37 rfl info_surd ?_))
  refine (K1 v3 _ hS).mono ?_; rintro e w5 ⟨rfl, hb⟩
  replace r_out := r_out.below hb
  replace hR := hR.below hb
  replace hS := hS.below hb
  replace hL := below_next hL hb
  clear hb
  go_upto_region 10 with (refine store_row rfl rfl rfl rfl (RowAt.newAt zero4 rfl) info_surd ?_)
  show Code.wp _ _ _ _ (sole4 w5 d 37)
  replace r_out := sole_keep4 r_out d 37
  have r_x := sole_first4 w5 d 37
  replace hL := sole_below4 hL d 37
  replace hR := hR.below (sole_below4 (Below.refl _ w5) d 37)
  replace hS := hS.below (sole_below4 (Below.refl _ w5) d 37)
  generalize w5.heap.size = g_x at *
  generalize sole4 w5 d 37 = W_x at *
  clear hS
  go_cut [12] (fun s12 wx => ReadsL encV wx s12 (nextL xs) ∧ Below W_x.heap.size W_x wx)
  case first =>
    clear K2 IM SP B1 K1
    cases xs with
    | nil => simp at hln
    | cons x0 cs =>
    obtain ⟨p, cap, rfl, hc1, hc2, hp, hr⟩ := hR
    have hpn : p ≠ none := fun e => by have := hp e; simp at hc1; omega
    obtain ⟨g, o, rfl, hgl, hra⟩ := hr hpn
    clear hp hpn hr
    have hp0 : W_x.rangeAt g o (encV x0) := by have := cells_part encV_ok hra (i := 0) (a := x0) rfl; rwa [Nat.zero_mul, Nat.add_zero] at this
    simp only [List.length_cons] at hc1 hln hl48 ⊢
    obtain ⟨o', ho', hrd⟩ := next_addr hc1 (range_next hra)
    have HR2 := Lib.hid hrd
    have h1n : (1 : Int) ≤ (cs.length : Int) + 1 := by omega
    clear hrd
    have HP0 := Lib.hid hp0
    clear hra hp0
    have hcl : ((cs.length + 1 : Nat) : Int) = (cs.length : Int) + 1 := by omega
    have hcp : 1 ≤ cap := by omega
    refine wp_region_held_drew (S := fun w' => Below W_x.heap.size W_x w') (by kernel_rfl) (Below.refl _ _).drew (fun hHeld => ?_)
    generalize W_x.drew = D at *
    refine wpAnyH_take (i := 1) (oi := _) (v := .slice (some ⟨g, o, none⟩) (cs.length + 1) cap) rfl (by kernel_rfl) (by kernel_rfl) (by kernel_rfl) (fun _ _ _ h => h) (Or.inl ⟨by rfl, fun w h => by go_simp⟩) hHeld ?_
    try simp only [Act.put, List.setIfInBounds_toArray, List.set_cons_zero, List.set_cons_succ, List.getElem_toArray, List.getElem_cons_succ, List.getElem_cons_zero]
    refine wpAnyH_take (i := 2) (oi := _) (v := .slice (some ⟨g, o', none⟩) cs.length (cap - 1)) rfl (by kernel_rfl) (by kernel_rfl) (by kernel_rfl) (fun _ _ _ h => h) (Or.inl ⟨by rfl, fun w h => by go_simp⟩) hHeld ?_
    try simp only [Act.put, List.setIfInBounds_toArray, List.set_cons_zero, List.set_cons_succ, List.getElem_toArray, List.getElem_cons_succ, List.getElem_cons_zero]
    refine wpAnyH_take (i := 4) (oi := _) (v := .slice (some ⟨g, o, none⟩) (cs.length + 1) cap) rfl (by kernel_rfl) (by kernel_rfl) (by kernel_rfl) (fun _ _ _ h => h) (Or.inl ⟨by rfl, fun w h => by go_simp⟩) hHeld ?_
    try simp only [Act.put, List.setIfInBounds_toArray, List.set_cons_zero, List.set_cons_succ, List.getElem_toArray, List.getElem_cons_succ, List.getElem_cons_zero]
    refine wpAnyH_take (i := 5) (oi := _) (v := .pointer (some ⟨g, o, none⟩)) rfl (by kernel_rfl) (by kernel_rfl) (by kernel_rfl) (fun _ _ _ h => h) (Or.inl ⟨by rfl, fun w h => by go_simp⟩) hHeld ?_
    try simp only [Act.put, List.setIfInBounds_toArray, List.set_cons_zero, List.set_cons_succ, List.getElem_toArray, List.getElem_cons_succ, List.getElem_cons_zero]
    refine wpAnyH_take (i := 6) (oi := _) (v := .agg (vec 8 x0.up)) rfl (by kernel_rfl) (by kernel_rfl) (by kernel_rfl) (fun _ _ _ h => h) (yieldsIf_load_mid (by rfl) _ _ rfl _ _ rfl _ _ ((fun w h => range_kept8 HP0.out hgl h)) Try.underlying32 rfl (size_cycL x0)) hHeld ?_
    try simp only [Act.put, List.setIfInBounds_toArray, List.set_cons_zero, List.set_cons_succ, List.getElem_toArray, List.getElem_cons_succ, List.getElem_cons_zero]
    refine wpAnyH_ready (rs := [0, 7]) (by kernel_rfl) (by simp) ?_
    refine AllReadyH.cons (o := _) rfl (fun K hK => ?_) (AllReadyH.cons (o := _) rfl (fun K hK => ?_) AllReadyH.nil)
    · try rw [if_pos (by rfl)]
      go_simp
      have hO : OwnL encV 8 ((D).alloc (.cells #[] 32)) W_x.heap.size 32 (.slice (some ⟨D.heap.size, 0, none⟩) 0 0) ([] : List V) := ownL_nilB _ _ _ hHeld.size
      refine hK.out _ _ (hHeld.alloc hHeld.size _) (fun hHeld => ?_)
      clear hK K
      try simp only [Act.put, List.setIfInBounds_toArray, List.set_cons_zero, List.set_cons_succ, List.getElem_toArray, List.getElem_cons_succ, List.getElem_cons_zero]
      refine wpAnyH_ready (rs := [3, 7]) (by kernel_rfl) (by simp) ?_
      refine AllReadyH.cons (o := _) rfl (fun K hK => ?_) (AllReadyH.cons (o := _) rfl (fun K hK => ?_) AllReadyH.nil)
      · try rw [if_pos (by rfl)]
        have hrd : ReadsL encV ((D).alloc (.cells #[] 32)) (.slice (some ⟨g, o', none⟩) cs.length (cap - 1)) cs := ⟨_, cap - 1, rfl, by omega, by omega, (fun e => by cases e), fun _ => ⟨g, o', rfl, Nat.lt_of_lt_of_le hgl hHeld.size, range_kept8 HR2.out hgl hHeld⟩⟩
        refine wp_appendL (v := .slice (some ⟨D.heap.size, 0, none⟩) 0 0) tyY encV_ok rfl rfl rfl hO hrd (by simp; omega) hHeld hHeld.size ?_; intro v5 w5_1 hO5 hX5 _ hg5
        rw [List.nil_append] at hO5
        clear hrd hO
        have hO := hO5
        clear hO5 hg5
        refine hK.out _ _ hX5 (fun hHeld => ?_)
        clear hK K hX5
        try simp only [Act.put, List.setIfInBounds_toArray, List.set_cons_zero, List.set_cons_succ, List.getElem_toArray, List.getElem_cons_succ, List.getElem_cons_zero]
        refine wpAnyH_ready (rs := [7]) (by kernel_rfl) (by simp) ?_
        refine AllReadyH.cons (o := _) rfl (fun K hK => ?_) AllReadyH.nil
        try rw [if_pos (by rfl)]
        refine wp_one8 tyY rfl rfl ?_
        have hA := lit8 (w5_1) x0 32
        replace hO : OwnL encV 8 ((w5_1).alloc (.cells (vec 8 x0.up) 32)) _ _ _ _ := World.ownsRow.alloc hO (.cells (vec 8 x0.up) 32)
        refine hK.out _ _ (hHeld.alloc hHeld.size _) (fun hHeld => ?_)
        clear hK K
        try simp only [Act.put, List.setIfInBounds_toArray, List.set_cons_zero, List.set_cons_succ, List.getElem_toArray, List.getElem_cons_succ, List.getElem_cons_zero]
        refine wpAnyH_ready (rs := [8]) (by kernel_rfl) (by simp) ?_
        refine AllReadyH.cons (o := _) rfl (fun K hK => ?_) AllReadyH.nil
        try rw [if_pos (by rfl)]
        refine wp_appendL tyY encV_ok rfl rfl rfl hO hA (by simp; omega) hHeld hHeld.size ?_; intro v8 w8 hO8 hX8 _ _
        refine hK.out _ _ hX8 (fun hHeld => ?_)
        clear hK K hX8 hO hA
        try simp only [Act.put, List.setIfInBounds_toArray, List.set_cons_zero, List.set_cons_succ, List.getElem_toArray, List.getElem_cons_succ, List.getElem_cons_zero]
        refine wpAnyH_take (i := 9) (oi := _) (v := v8) rfl (by kernel_rfl) (by kernel_rfl) (by kernel_rfl) (fun _ _ _ h => h) (Or.inl ⟨by rfl, fun w h => by go_simp⟩) hHeld ?_
        try simp only [Act.put, List.setIfInBounds_toArray, List.set_cons_zero, List.set_cons_succ, List.getElem_toArray, List.getElem_cons_succ, List.getElem_cons_zero]
        refine wpAnyH_done (by kernel_rfl) ?_ _
        go_wp2_with fail
        go_meet
        exact ⟨ownL_reads hO8, hHeld⟩
      · try rw [if_pos (by rfl)]
        refine wp_one8 tyY rfl rfl ?_
        have hA := lit8 (((D).alloc (.cells #[] 32))) x0 32
        replace hO : OwnL encV 8 ((((D).alloc (.cells #[] 32))).alloc (.cells (vec 8 x0.up) 32)) _ _ _ _ := World.ownsRow.alloc hO (.cells (vec 8 x0.up) 32)
        refine hK.out _ _ (hHeld.alloc hHeld.size _) (fun hHeld => ?_)
        clear hK K
        try simp only [Act.put, List.setIfInBounds_toArray, List.set_cons_zero, List.set_cons_succ, List.getElem_toArray, List.getElem_cons_succ, List.getElem_cons_zero]
        refine wpAnyH_ready (rs := [3]) (by kernel_rfl) (by simp) ?_
        refine AllReadyH.cons (o := _) rfl (fun K hK => ?_) AllReadyH.nil
        try rw [if_pos (by rfl)]
        have hrd : ReadsL encV ((((D).alloc (.cells #[] 32))).alloc (.cells (vec 8 x0.up) 32)) (.slice (some ⟨g, o', none⟩) cs.length (cap - 1)) cs := ⟨_, cap - 1, rfl, by omega, by omega, (fun e => by cases e), fun _ => ⟨g, o', rfl, Nat.lt_of_lt_of_le hgl hHeld.size, range_kept8 HR2.out hgl hHeld⟩⟩
        refine wp_appendL (v := .slice (some ⟨D.heap.size, 0, none⟩) 0 0) tyY encV_ok rfl rfl rfl hO hrd (by simp; omega) hHeld hHeld.size ?_; intro v5 w5_2 hO5 hX5 _ hg5
        rw [List.nil_append] at hO5
        replace hA := lit_grown hA hg5 (by simp [Value.ownBlock])
        clear hrd hO
        have hO := hO5
        clear hO5 hg5
        refine hK.out _ _ hX5 (fun hHeld => ?_)
        clear hK K hX5
        try simp only [Act.put, List.setIfInBounds_toArray, List.set_cons_zero, List.set_cons_succ, List.getElem_toArray, List.getElem_cons_succ, List.getElem_cons_zero]
        refine wpAnyH_ready (rs := [8]) (by kernel_rfl) (by simp) ?_
        refine AllReadyH.cons (o := _) rfl (fun K hK => ?_) AllReadyH.nil
        try rw [if_pos (by rfl)]
        refine wp_appendL tyY encV_ok rfl rfl rfl hO hA (by simp; omega) hHeld hHeld.size ?_; intro v8 w8 hO8 hX8 _ _
        refine hK.out _ _ hX8 (fun hHeld => ?_)
        clear hK K hX8 hO hA
        try simp only [Act.put, List.setIfInBounds_toArray, List.set_cons_zero, List.set_cons_succ, List.getElem_toArray, List.getElem_cons_succ, List.getElem_cons_zero]
        refine wpAnyH_take (i := 9) (oi := _) (v := v8) rfl (by kernel_rfl) (by kernel_rfl) (by kernel_rfl) (fun _ _ _ h => h) (Or.inl ⟨by rfl, fun w h => by go_simp⟩) hHeld ?_
        try simp only [Act.put, List.setIfInBounds_toArray, List.set_cons_zero, List.set_cons_succ, List.getElem_toArray, List.getElem_cons_succ, List.getElem_cons_zero]
        refine wpAnyH_done (by kernel_rfl) ?_ _
        go_wp2_with fail
        go_meet
        exact ⟨ownL_reads hO8, hHeld⟩
    · try rw [if_pos (by rfl)]
      refine wp_one8 tyY rfl rfl ?_
      have hA := lit8 (D) x0 32
      refine hK.out _ _ (hHeld.alloc hHeld.size _) (fun hHeld => ?_)
      clear hK K
      try simp only [Act.put, List.setIfInBounds_toArray, List.set_cons_zero, List.set_cons_succ, List.getElem_toArray, List.getElem_cons_succ, List.getElem_cons_zero]
      refine wpAnyH_ready (rs := [0]) (by kernel_rfl) (by simp) ?_
      refine AllReadyH.cons (o := _) rfl (fun K hK => ?_) AllReadyH.nil
      try rw [if_pos (by rfl)]
      go_simp
      have hO : OwnL encV 8 ((((D).alloc (.cells (vec 8 x0.up) 32))).alloc (.cells #[] 32)) W_x.heap.size 32 (.slice (some ⟨D.heap.size + 1, 0, none⟩) 0 0) ([] : List V) := by rw [show D.heap.size + 1 = (((D).alloc (.cells (vec 8 x0.up) 32))).heap.size by simp]; exact ownL_nilB _ _ _ hHeld.size
      replace hA := readsL_box hA (.cells #[] 32)
      refine hK.out _ _ (hHeld.alloc hHeld.size _) (fun hHeld => ?_)
      clear hK K
      try simp only [Act.put, List.setIfInBounds_toArray, List.set_cons_zero, List.set_cons_succ, List.getElem_toArray, List.getElem_cons_succ, List.getElem_cons_zero]
      refine wpAnyH_ready (rs := [3]) (by kernel_rfl) (by simp) ?_
      refine AllReadyH.cons (o := _) rfl (fun K hK => ?_) AllReadyH.nil
      try rw [if_pos (by rfl)]
      have hrd : ReadsL encV ((((D).alloc (.cells (vec 8 x0.up) 32))).alloc (.cells #[] 32)) (.slice (some ⟨g, o', none⟩) cs.length (cap - 1)) cs := ⟨_, cap - 1, rfl, by omega, by omega, (fun e => by cases e), fun _ => ⟨g, o', rfl, Nat.lt_of_lt_of_le hgl hHeld.size, range_kept8 HR2.out hgl hHeld⟩⟩
      refine wp_appendL (v := .slice (some ⟨D.heap.size + 1, 0, none⟩) 0 0) tyY encV_ok rfl rfl rfl hO hrd (by simp; omega) hHeld hHeld.size ?_; intro v5 w5_3 hO5 hX5 _ hg5
      rw [List.nil_append] at hO5
      replace hA := lit_grown hA hg5 (by simp [Value.ownBlock])
      clear hrd hO
      have hO := hO5
      clear hO5 hg5
      refine hK.out _ _ hX5 (fun hHeld => ?_)
      clear hK K hX5
      try simp only [Act.put, List.setIfInBounds_toArray, List.set_cons_zero, List.set_cons_succ, List.getElem_toArray, List.getElem_cons_succ, List.getElem_cons_zero]
      refine wpAnyH_ready (rs := [8]) (by kernel_rfl) (by simp) ?_
      refine AllReadyH.cons (o := _) rfl (fun K hK => ?_) AllReadyH.nil
      try rw [if_pos (by rfl)]
      refine wp_appendL tyY encV_ok rfl rfl rfl hO hA (by simp; omega) hHeld hHeld.size ?_; intro v8 w8 hO8 hX8 _ _
      refine hK.out _ _ hX8 (fun hHeld => ?_)
      clear hK K hX8 hO hA
      try simp only [Act.put, List.setIfInBounds_toArray, List.set_cons_zero, List.set_cons_succ, List.getElem_toArray, List.getElem_cons_succ, List.getElem_cons_zero]
      refine wpAnyH_take (i := 9) (oi := _) (v := v8) rfl (by kernel_rfl) (by kernel_rfl) (by kernel_rfl) (fun _ _ _ h => h) (Or.inl ⟨by rfl, fun w h => by go_simp⟩) hHeld ?_
      try simp only [Act.put, List.setIfInBounds_toArray, List.set_cons_zero, List.set_cons_succ, List.getElem_toArray, List.getElem_cons_succ, List.getElem_cons_zero]
      refine wpAnyH_done (by kernel_rfl) ?_ _
      go_wp2_with fail
      go_meet
      exact ⟨ownL_reads hO8, hHeld⟩
  case rest =>
  clear IM SP B1 K1 hR
  obtain ⟨hN, hbx⟩ := hcut
  replace r_out := r_out.below hbx
  replace r_x := r_x.below hbx
  replace hL := below_next hL hbx
  clear hbx
  go_wp2_with (first | (refine load_row (g := g_out) rfl rfl rfl r_out Try.underlying37 rfl info_surd ?_) | (refine load_row (g := g_x) rfl rfl rfl r_x Try.underlying37 rfl info_surd ?_))
  refine (K2 _ _ hN).mono ?_; rintro e w6 ⟨rfl, hb⟩
  replace r_out := r_out.below hb
  replace r_x := r_x.below hb
  replace hN := hN.below hb
  replace hL := below_next hL hb
  clear hb
  go_upto_region 12 with (refine store_row rfl rfl rfl rfl (RowAt.newAt zero4 rfl) info_surd ?_)
  show Code.wp _ _ _ _ (sole4 w6 c 37)
  replace r_out := sole_keep4 r_out c 37
  replace r_x := sole_keep4 r_x c 37
  have r_y := sole_first4 w6 c 37
  replace hL := sole_below4 hL c 37
  replace hN := hN.below (sole_below4 (Below.refl _ w6) c 37)
  generalize w6.heap.size = g_y at *
  generalize sole4 w6 c 37 = W_y at *
  have p0 := r_out.cell (k := 0) (by omega)
  have p1 := r_out.cell (k := 1) (by omega)
  have p2 := r_out.cell (k := 2) (by omega)
  have p3 := r_out.cell (k := 3) (by omega)
  have x0 := r_x.cell (k := 0) (by omega)
  have x1 := r_x.cell (k := 1) (by omega)
  have x2 := r_x.cell (k := 2) (by omega)
  have x3 := r_x.cell (k := 3) (by omega)
  have y0 := r_y.cell (k := 0) (by omega)
  have y1 := r_y.cell (k := 1) (by omega)
  have y2 := r_y.cell (k := 2) (by omega)
  have y3 := r_y.cell (k := 3) (by omega)
  have EQ := fun w => eqs_cells d w
  have EQ2 := fun w => eqs_cells c w
  go_wp2_with fail
  go_ret
  exact ⟨rfl, hL⟩

end Go.Proofs.Ytdpakhggpgdgbaa
