/-
  The walk of the law FnPathMoves.
-/
import Derived.Test.YtibhlaojinedoaaM32
import Derived.Test.YtibhlaojinedoaaM27
import Derived.Test.YtibhlaojinedoaaM26
namespace Go.Proofs.Ytibhlaojinedoaa
set_option maxRecDepth 20000
open Go.ChangeShapes Go.WideShapes Go.ChangeAt Go.RowKit
set_option linter.unusedVariables false
set_option linter.unusedSimpArgs false

theorem moves_sum {n : Nat} {xs : List Pn} (h1 : 1 ≤ xs.length) : ∀ k, k ≤ xs.length → sumM ((movesL n xs).take k) = gpt n (prevP xs k)
  | 0, _ => by rw [prev_zero, gpt_zero]; rfl
  | k + 1, hk => by
    obtain ⟨a, ha⟩ : ∃ a, xs[k]? = some a := ⟨_, List.getElem?_eq_getElem (by omega)⟩
    have ih := moves_sum (n := n) h1 k (by omega)
    rw [sumM_next (moves_at ha), ih, prev_next ha]
    unfold addM subM
    exact Prod.ext (by simp only; omega) (by simp only; omega)
theorem moves_take {n k : Nat} {xs : List Pn} (h1 : 1 ≤ k) (hk : k ≤ xs.length) : movesL n (xs.take k) = (movesL n xs).take k := by
  have hl : (xs.take k).length = k := by rw [List.length_take]; omega
  apply List.ext_getElem?
  intro j
  by_cases hj : j < k
  · obtain ⟨a, ha⟩ : ∃ a, xs[j]? = some a := ⟨_, List.getElem?_eq_getElem (by omega)⟩
    have ha2 : (xs.take k)[j]? = some a := by rw [List.getElem?_take, if_pos hj, ha]
    have hp : prevP (xs.take k) j = prevP xs j := by
      cases j with
      | zero => rfl
      | succ j =>
        obtain ⟨b, hb⟩ : ∃ b, xs[j]? = some b := ⟨_, List.getElem?_eq_getElem (by omega)⟩
        rw [prev_next hb, prev_next (by rw [List.getElem?_take, if_pos (by omega), hb])]
    rw [moves_at ha2, List.getElem?_take, if_pos hj, moves_at ha, hp]
  · rw [List.getElem?_eq_none (by rw [moves_len (by omega)]; omega), List.getElem?_take, if_neg hj]
theorem moves_okM {n : Nat} {xs : List Pn} (hn : n ≤ 8) (hp : pvB xs = true) : mvB (movesL n xs) = true := by
  obtain ⟨h1, h2, h3⟩ := pvB_parts hp
  refine mvB_yes (by rw [moves_len h1]; exact h2) fun m hm => ?_
  obtain ⟨k, hk⟩ := List.mem_iff_getElem?.1 hm
  have hkl : k < xs.length := by have := (List.getElem?_eq_some_iff.1 hk).1; rw [moves_len h1] at this; exact this
  obtain ⟨a, ha⟩ : ∃ a, xs[k]? = some a := ⟨_, List.getElem?_eq_getElem hkl⟩
  rw [moves_at ha] at hk
  cases hk
  have b1 := gpt_in (h3 a (List.mem_of_getElem? ha)) hn
  have b2 := gpt_in (prev_in h3 (Nat.le_of_lt hkl)) hn
  unfold okM okN subM
  rw [Bool.and_eq_true, decide_eq_true_iff, decide_eq_true_iff]
  simp only
  omega
theorem below_dr {B : Nat} {w w' : World} (h : Below B w w') : Below B w w'.drew := h.drew
set_option maxHeartbeats 4000000 in
theorem lawFnPathMoves_walk (v : Value) (w : World) (h : CodeAt w v) : Calls Try.prog 4 #[v] w (Fine w) := by
  have D := Lib.hid (drawPathMoves v w h)
  obtain ⟨pa, pn, pc, rfl, hpn⟩ := code_length h
  clear h
  by_cases hbig : 1048576 < pn
  · have hb : (1048576 : Int) < (pn : Int) := by omega
    go_enter Try.func4, Try.ntmps4
    go_wp2_with fail
    go_ret
    exact fine_same ⟨rfl, rfl⟩
  have hb : ¬ (1048576 : Int) < (pn : Int) := by omega
  go_enter Try.func4, Try.ntmps4
  go_wp2_with fail
  refine D.out.mono ?_; rintro e w1 ⟨v2, xs, g, rfl, hO, hL⟩
  clear D
  have hR := ownL_reads hO
  clear hO
  have T1 := PathMoves_any v2 g xs w1 hR
  have T2 := fun w h => specPathMoves_any v2 g xs w h
  have HO := Lib.hid (show ∀ L, pmO xs g = some L → ∃ n : Nat, g = n ∧ n ≤ 8 ∧ L = movesL n xs ∧ pvB xs = true from fun L hL => by
    unfold pmO at hL
    split at hL
    · next hh =>
      rw [Bool.and_eq_true] at hh
      cases hL
      have hg : 0 ≤ g ∧ g ≤ 8 := by have := hh.2; unfold grB at this; exact of_decide_eq_true this
      exact ⟨g.toNat, by omega, by omega, rfl, hh.1⟩
    · cases hL)
  cases ho : pmO xs g with
  | none =>
    rw [ho] at T1 T2
    clear ho HO
    go_wp2_with fail
    refine (T1).mono ?_; rintro e w2 ⟨hb, v3, rfl, ho3⟩
    have HR := Lib.hid (hR.below hb)
    replace hL := below_next hL hb
    have H3 := Lib.hid (show OwnL encM 2 w2 _ _ v3 ([] : List Mv) from ho3)
    clear hR ho3 hb T1
    go_wp2_with fail
    refine (T2 _ HR.out).mono ?_; rintro e w3 ⟨hb, v4, rfl, ho4⟩
    replace hL := below_next hL hb
    have H3 := Lib.hid (rows_below H3.out hb)
    have H4 := Lib.hid (show OwnL encM 2 w3 _ _ v4 ([] : List Mv) from ho4)
    clear hb ho4 T2
    go_wp2_with fail
    refine (sameMoves_yes v3 v4 [] _ (ownL_reads (en := encM) (xs := []) H3.out) (ownL_reads H4.out)).mono ?_; rintro e w4 ⟨rfl, hb⟩
    replace hL := below_next hL hb
    have H3 := Lib.hid (rows_below H3.out hb)
    have H4 := Lib.hid (rows_below H4.out hb)
    clear hb
    go_wp2_with fail
    refine (sameMoves_yes v3 v4 [] _ (ownL_reads (en := encM) (xs := []) H3.out) (ownL_reads (en := encM) (xs := []) H4.out)).mono ?_; rintro e w5 ⟨rfl, hb⟩
    replace hL := below_next hL hb
    clear hb
    go_wp2
    go_ret
    exact ⟨rfl, hL⟩
  | some L =>
    obtain ⟨n, rfl, hn8, hLL, hpv⟩ := HO.out L ho
    obtain ⟨h1, h100, h3⟩ := pvB_parts hpv
    have hmv := moves_okM hn8 hpv
    have hsum := moves_sum (n := n) h1 xs.length (Nat.le_refl _)
    rw [List.take_of_length_le (by rw [moves_len h1]; exact Nat.le_refl _)] at hsum
    have hlenL : L.length = xs.length := by rw [hLL, moves_len h1]
    obtain ⟨m, hm⟩ : ∃ m, xs.length = m + 1 := ⟨xs.length - 1, by omega⟩
    obtain ⟨a, ha⟩ : ∃ a, xs[m]? = some a := ⟨_, List.getElem?_eq_getElem (by omega)⟩
    rw [hm, prev_next ha] at hsum
    rw [← hLL] at hmv hsum
    have hga : gpB a n = true := by unfold gpB grB; rw [h3 a (List.mem_of_getElem? ha), Bool.true_and, decide_eq_true_iff]; omega
    have G := fun w => GridPoint_any a n w
    rw [hga, gpM_yes hga] at G
    have RE := fun v w h => reached_any v L w h hmv
    rw [hsum] at RE
    have hpt : 1 ≤ m → pmO (xs.take m) n = some (L.take m) := fun hm1 => by
      rw [pmO_yes (pvB_take hpv hm1) (by unfold grB; rw [decide_eq_true_iff]; omega), moves_take hm1 (by omega), hLL]
    have hL0 : m = 0 → L[0]? = some (gpt n a) := fun e => by
      subst e
      rw [hLL, moves_at ha, prev_zero, gpt_zero]
      unfold subM
      simp
    rw [ho] at T1 T2
    generalize gpt n a = s at *
    obtain ⟨sa, sb⟩ := s
    unfold mvV csP at *
    simp only at G RE hL0
    have EQ := fun w => eq_two sa sb sa sb w
    have ea : (sa == sa && sb == sb) = true := by simp
    rw [ea] at EQ
    have HG := Lib.hid G
    have HRE := Lib.hid RE
    have HPT := Lib.hid hpt
    have HL0 := Lib.hid hL0
    have HA := Lib.hid ha
    have HLEN := Lib.hid hlenL
    have HM := Lib.hid hm
    clear ho HO hLL hpv h3 hmv hsum hga G RE hpt hL0 ha ea hlenL
    go_wp2_with fail
    refine (T1).mono ?_; rintro e w2 ⟨hb, v3, rfl, ho3⟩
    have HR := Lib.hid (hR.below hb)
    replace hL := below_next hL hb
    have H3 := Lib.hid (show OwnL encM 2 w2 _ _ v3 L from ho3)
    clear hR ho3 hb T1
    go_wp2_with fail
    refine (T2 _ HR.out).mono ?_; rintro e w3 ⟨hb, v4, rfl, ho4⟩
    replace hL := below_next hL hb
    have HR := Lib.hid (HR.out.below hb)
    have H3 := Lib.hid (rows_below H3.out hb)
    have H4 := Lib.hid (show OwnL encM 2 w3 _ _ v4 L from ho4)
    clear hb ho4 T2
    go_wp2_with fail
    refine (sameMoves_yes v3 v4 L _ (ownL_reads (en := encM) (xs := L) H3.out) (ownL_reads H4.out)).mono ?_; rintro e w4 ⟨rfl, hb⟩
    replace hL := below_next hL hb
    have HR := Lib.hid (HR.out.below hb)
    have H3 := Lib.hid (ownL_reads (en := encM) (xs := L) (rows_below H3.out hb))
    clear hb H4
    obtain ⟨g1, o1, cap1, rfl, hc1, hc2, hg1, hr1⟩ := readsL_shape HR.out h1
    obtain ⟨g2, o2, cap2, rfl, hd1, hd2, hg2, hr2⟩ := readsL_shape H3.out (by have := HLEN.out; omega)
    have c1 := pt_cell hr1 HA.out
    unfold cs at c1 HG
    have HT := Lib.hid (readsL_take encC_ok (k := m) (by omega) hc1 hc2 hg1 hr1)
    have HT2 := Lib.hid (readsL_take encM_ok (k := m) (by have := HLEN.out; omega) hd1 hd2 hg2 hr2)
    have HR2 := Lib.hid hr2
    have HLX := Lib.hid hL
    have HG2 := Lib.hid hg2
    rw [HLEN.out] at hd1 ⊢
    rw [hm] at hc1 hd1 ⊢
    simp only [maxLen] at hc2 hd2
    have q1 : IntKind.i64.wrap (((m + 1 : Nat) : Int) - 1) = (m : Int) := by rw [IntKind.wrap_i64]; omega
    have q1' : IntKind.i64.wrap ((m : Int) + 1 - 1) = (m : Int) := by rw [IntKind.wrap_i64]; omega
    have q2 : (0 : Int) ≤ (m : Int) := by omega
    have q3 : (m : Int) ≤ (cap1 : Int) := by omega
    have q4 : (m : Int) ≤ (cap2 : Int) := by omega
    have q5 : (m : Int) < (m : Int) + 1 := by omega
    clear hr1 hr2 hg1 hg2 hL hm h1 h100
    go_wp2_with fail
    refine (HG.out _).mono ?_; rintro e w5 ⟨rfl, hb⟩
    have HL5 := Lib.hid (below_next HLX.out hb)
    have HB5 := Lib.hid hb
    have k3 : (w5.alloc (.cells #[.int .i64 sa, .int .i64 sb] 27)).cell? ⟨w5.heap.size, 0, none⟩ = some (.int .i64 sa) := World.cell?_alloc_at _ _ _ _ rfl
    have k4 : (w5.alloc (.cells #[.int .i64 sa, .int .i64 sb] 27)).cell? ⟨w5.heap.size, 1, none⟩ = some (.int .i64 sb) := World.cell?_alloc_at _ _ _ _ rfl
    have hlt2 : g2 < w5.heap.size := Nat.lt_of_lt_of_le HG2.out hb.size
    clear hb c1
    go_upto_region 10 with fail
    show Code.wp _ _ _ _ (w5.alloc (.cells #[.int .i64 sa, .int .i64 sb] 27))
    have HL6 := Lib.hid (below_next HL5.out (mv_lies w5 (.cells #[.int .i64 sa, .int .i64 sb] 27)))
    have HB6 := Lib.hid (below_next HB5.out (mv_lies w5 (.cells #[.int .i64 sa, .int .i64 sb] 27)))
    have HM6 := Lib.hid (show RowAt (w5.alloc (.cells #[.int .i64 sa, .int .i64 sb] 27)) w5.heap.size 2 27 (mfn (sa, sb)) from RowAt.newAt rfl rfl)
    generalize w5.alloc (.cells #[.int .i64 sa, .int .i64 sb] 27) = w6 at *
    generalize w5.heap.size = g6 at *
    by_cases hm0 : m = 0
    · subst hm0
      obtain ⟨k1, k2⟩ := mv_cells (cells_below HR2.out HG2.out HB6.out) (HL0.out rfl)
      simp only at k1 k2
      rw [Nat.zero_mul, Nat.add_zero] at k1 k2
      go_wp2_with fail
      go_quiet (first | rw [EQ])
      go_wp2
      go_ret
      exact ⟨rfl, below_drewN HL6.out _⟩
    · have hm1 : 1 ≤ m := by omega
      have T4 := PathMoves_any _ (n : Int) (xs.take m) w6 (HT.out.below HB6.out)
      rw [HPT.out hm1] at T4
      have HTL := Lib.hid (show (L.take m).length = m by rw [List.length_take]; have := HLEN.out; have := HM.out; omega)
      have q6 : ((m : Int) + 1 == 1) = false := by simp; omega
      have q8 : IntKind.i64.wrap (m : Int) = (m : Int) := by rw [IntKind.wrap_i64]; omega
      have q7 : (((m + 1 : Nat) : Int) == 1) = false := by simp; omega
      clear hm0 hlt2 k3 k4
      go_wp2_with fail
      refine (T4).mono ?_; rintro e w7 ⟨hb, v7, rfl, ho7⟩
      have HL7 := Lib.hid (below_next HL6.out hb)
      have HB7 := Lib.hid (below_next HB6.out hb)
      have HM7 := Lib.hid (HM6.out.below hb)
      have H7 := Lib.hid (ownL_reads (show OwnL encM 2 w7 _ _ v7 (L.take m) from ho7))
      have k5 : w7.cell? ⟨g6, 0, none⟩ = some (.int .i64 sa) := HM7.out.cell (k := 0) (by decide)
      have k6 : w7.cell? ⟨g6, 1, none⟩ = some (.int .i64 sb) := HM7.out.cell (k := 1) (by decide)
      have REN := Lib.hid (fun (w' : World) (h : Below w7.heap.size w7 w') => HRE.out _ w' (H3.out.below (below_next HB7.out h)))
      have SMN := Lib.hid (fun (w' : World) (h : Below w7.heap.size w7 w') => sameMoves_yes v7 _ (L.take m) w' (H7.out.below h) (HT2.out.below (below_next HB7.out h)))
      rw [HLEN.out] at REN
      rw [HM.out] at REN
      clear hb ho7 T4
      go_upto_region 13 with fail
      refine wp_region_held_drew (S := fun w' => Below w7.heap.size w7 w') (by kernel_rfl) (Below.refl _ _).drew (fun hHeld => ?_)
      generalize w7.drew = wd at *
      refine wpAnyH_take (i := 0) (oi := _) (v := .bool true) rfl (by kernel_rfl) (by kernel_rfl) (by kernel_rfl) (fun _ _ _ h => h) (Or.inl ⟨by rfl, fun w h => by go_simp⟩) hHeld ?_
      try simp only [Act.put, List.setIfInBounds_toArray, List.set_cons_zero, List.set_cons_succ, List.getElem_toArray, List.getElem_cons_succ, List.getElem_cons_zero]
      refine wpAnyH_take (i := 1) (oi := _) (v := .bool true) rfl (by kernel_rfl) (by kernel_rfl) (by kernel_rfl) (fun _ _ _ h => h) (Or.inl ⟨by rfl, fun w h => by go_simp⟩) hHeld ?_
      try simp only [Act.put, List.setIfInBounds_toArray, List.set_cons_zero, List.set_cons_succ, List.getElem_toArray, List.getElem_cons_succ, List.getElem_cons_zero]
      refine wpAnyH_take (i := 2) (oi := _) (v := .bool true) rfl (by kernel_rfl) (by kernel_rfl) (by kernel_rfl) (fun _ _ _ h => h) (Or.inl ⟨by rfl, fun w h => by go_simp⟩) hHeld ?_
      try simp only [Act.put, List.setIfInBounds_toArray, List.set_cons_zero, List.set_cons_succ, List.getElem_toArray, List.getElem_cons_succ, List.getElem_cons_zero]
      refine wpAnyH_take (i := 3) (oi := _) (v := .bool true) rfl (by kernel_rfl) (by kernel_rfl) (by kernel_rfl) (fun _ _ _ h => h) (Or.inl ⟨by rfl, fun w h => by go_simp⟩) hHeld ?_
      try simp only [Act.put, List.setIfInBounds_toArray, List.set_cons_zero, List.set_cons_succ, List.getElem_toArray, List.getElem_cons_succ, List.getElem_cons_zero]
      refine wpAnyH_take (i := 4) (oi := _) (v := .bool true) rfl (by kernel_rfl) (by kernel_rfl) (by kernel_rfl) (fun _ _ _ h => h) (Or.inl ⟨by rfl, fun w h => by go_simp⟩) hHeld ?_
      try simp only [Act.put, List.setIfInBounds_toArray, List.set_cons_zero, List.set_cons_succ, List.getElem_toArray, List.getElem_cons_succ, List.getElem_cons_zero]
      refine wpAnyH_take (i := 5) (oi := _) (v := .slice (some ⟨g2, o2, none⟩) (m + 1) cap2) rfl (by kernel_rfl) (by kernel_rfl) (by kernel_rfl) (fun _ _ _ h => h) (Or.inl ⟨by rfl, fun w h => by go_simp⟩) hHeld ?_
      try simp only [Act.put, List.setIfInBounds_toArray, List.set_cons_zero, List.set_cons_succ, List.getElem_toArray, List.getElem_cons_succ, List.getElem_cons_zero]
      refine wpAnyH_take (i := 6) (oi := _) (v := .int .i64 ((m : Int) + 1)) rfl (by kernel_rfl) (by kernel_rfl) (by kernel_rfl) (fun _ _ _ h => h) (Or.inl ⟨by rfl, fun w h => by go_simp⟩) hHeld ?_
      try simp only [Act.put, List.setIfInBounds_toArray, List.set_cons_zero, List.set_cons_succ, List.getElem_toArray, List.getElem_cons_succ, List.getElem_cons_zero]
      refine wpAnyH_take (i := 7) (oi := _) (v := .int .i64 ((m : Int) + 1)) rfl (by kernel_rfl) (by kernel_rfl) (by kernel_rfl) (fun _ _ _ h => h) (Or.inl ⟨by rfl, fun w h => by go_simp⟩) hHeld ?_
      try simp only [Act.put, List.setIfInBounds_toArray, List.set_cons_zero, List.set_cons_succ, List.getElem_toArray, List.getElem_cons_succ, List.getElem_cons_zero]
      refine wpAnyH_take (i := 8) (oi := _) (v := .bool true) rfl (by kernel_rfl) (by kernel_rfl) (by kernel_rfl) (fun _ _ _ h => h) (Or.inl ⟨by rfl, fun w h => by go_simp⟩) hHeld ?_
      try simp only [Act.put, List.setIfInBounds_toArray, List.set_cons_zero, List.set_cons_succ, List.getElem_toArray, List.getElem_cons_succ, List.getElem_cons_zero]
      refine wpAnyH_take (i := 9) (oi := _) (v := .bool true) rfl (by kernel_rfl) (by kernel_rfl) (by kernel_rfl) (fun _ _ _ h => h) (Or.inl ⟨by rfl, fun w h => by go_simp⟩) hHeld ?_
      try simp only [Act.put, List.setIfInBounds_toArray, List.set_cons_zero, List.set_cons_succ, List.getElem_toArray, List.getElem_cons_succ, List.getElem_cons_zero]
      refine wpAnyH_take (i := 10) (oi := _) (v := .bool true) rfl (by kernel_rfl) (by kernel_rfl) (by kernel_rfl) (fun _ _ _ h => h) (Or.inl ⟨by rfl, fun w h => by go_simp⟩) hHeld ?_
      try simp only [Act.put, List.setIfInBounds_toArray, List.set_cons_zero, List.set_cons_succ, List.getElem_toArray, List.getElem_cons_succ, List.getElem_cons_zero]
      refine wpAnyH_take (i := 11) (oi := _) (v := .slice (some ⟨g2, o2, none⟩) (m + 1) cap2) rfl (by kernel_rfl) (by kernel_rfl) (by kernel_rfl) (fun _ _ _ h => h) (Or.inl ⟨by rfl, fun w h => by go_simp⟩) hHeld ?_
      try simp only [Act.put, List.setIfInBounds_toArray, List.set_cons_zero, List.set_cons_succ, List.getElem_toArray, List.getElem_cons_succ, List.getElem_cons_zero]
      refine wpAnyH_take (i := 13) (oi := _) (v := .agg #[.int .i64 sa, .int .i64 sb]) rfl (by kernel_rfl) (by kernel_rfl) (by kernel_rfl) (fun _ _ _ h => h) (yieldsIf_load_mid (by rfl) _ _ rfl _ _ rfl [.int .i64 sa, .int .i64 sb] _ (fun w h => (HM7.out.below h).range) Try.underlying27 rfl info_mv) hHeld ?_
      try simp only [Act.put, List.setIfInBounds_toArray, List.set_cons_zero, List.set_cons_succ, List.getElem_toArray, List.getElem_cons_succ, List.getElem_cons_zero]
      refine wpAnyH_ready (rs := [12]) (by kernel_rfl) (by simp) ?_
      refine AllReadyH.cons (o := _) rfl (fun K hK => ?_) AllReadyH.nil
      go_simp
      refine (REN.out _ hHeld).mono ?_; rintro e w8 ⟨rfl, hb⟩
      go_wp2_with fail
      refine hK.out _ _ (below_next hHeld hb) (fun hHeld => ?_)
      clear hK K hb
      try simp only [Act.put, List.setIfInBounds_toArray, List.set_cons_zero, List.set_cons_succ, List.getElem_toArray, List.getElem_cons_succ, List.getElem_cons_zero]
      refine wpAnyH_take (i := 14) (oi := _) (v := .bool true) rfl (by kernel_rfl) (by kernel_rfl) (by kernel_rfl) (fun _ _ _ h => h) (Or.inl ⟨by rfl, fun w h => by go_simp; first | rw [EQ] | skip⟩) hHeld ?_
      try simp only [Act.put, List.setIfInBounds_toArray, List.set_cons_zero, List.set_cons_succ, List.getElem_toArray, List.getElem_cons_succ, List.getElem_cons_zero]
      refine wpAnyH_take (i := 15) (oi := _) (v := .bool true) rfl (by kernel_rfl) (by kernel_rfl) (by kernel_rfl) (fun _ _ _ h => h) (Or.inl ⟨by rfl, fun w h => by go_simp⟩) hHeld ?_
      try simp only [Act.put, List.setIfInBounds_toArray, List.set_cons_zero, List.set_cons_succ, List.getElem_toArray, List.getElem_cons_succ, List.getElem_cons_zero]
      refine wpAnyH_take (i := 16) (oi := _) (v := .bool true) rfl (by kernel_rfl) (by kernel_rfl) (by kernel_rfl) (fun _ _ _ h => h) (Or.inl ⟨by rfl, fun w h => by go_simp⟩) hHeld ?_
      try simp only [Act.put, List.setIfInBounds_toArray, List.set_cons_zero, List.set_cons_succ, List.getElem_toArray, List.getElem_cons_succ, List.getElem_cons_zero]
      refine wpAnyH_take (i := 17) (oi := _) (v := v7) rfl (by kernel_rfl) (by kernel_rfl) (by kernel_rfl) (fun _ _ _ h => h) (Or.inl ⟨by rfl, fun w h => by go_simp⟩) hHeld ?_
      try simp only [Act.put, List.setIfInBounds_toArray, List.set_cons_zero, List.set_cons_succ, List.getElem_toArray, List.getElem_cons_succ, List.getElem_cons_zero]
      refine wpAnyH_take (i := 18) (oi := _) (v := .slice (some ⟨g2, o2, none⟩) (m + 1) cap2) rfl (by kernel_rfl) (by kernel_rfl) (by kernel_rfl) (fun _ _ _ h => h) (Or.inl ⟨by rfl, fun w h => by go_simp⟩) hHeld ?_
      try simp only [Act.put, List.setIfInBounds_toArray, List.set_cons_zero, List.set_cons_succ, List.getElem_toArray, List.getElem_cons_succ, List.getElem_cons_zero]
      refine wpAnyH_take (i := 19) (oi := _) (v := .int .i64 ((m : Int) + 1)) rfl (by kernel_rfl) (by kernel_rfl) (by kernel_rfl) (fun _ _ _ h => h) (Or.inl ⟨by rfl, fun w h => by go_simp⟩) hHeld ?_
      try simp only [Act.put, List.setIfInBounds_toArray, List.set_cons_zero, List.set_cons_succ, List.getElem_toArray, List.getElem_cons_succ, List.getElem_cons_zero]
      refine wpAnyH_take (i := 20) (oi := _) (v := .int .i64 (m : Int)) rfl (by kernel_rfl) (by kernel_rfl) (by kernel_rfl) (fun _ _ _ h => h) (Or.inl ⟨by rfl, fun w h => by go_simp⟩) hHeld ?_
      try simp only [Act.put, List.setIfInBounds_toArray, List.set_cons_zero, List.set_cons_succ, List.getElem_toArray, List.getElem_cons_succ, List.getElem_cons_zero]
      refine wpAnyH_take (i := 21) (oi := _) (v := .slice (some ⟨g2, o2, none⟩) m cap2) rfl (by kernel_rfl) (by kernel_rfl) (by kernel_rfl) (fun _ _ _ h => h) (Or.inl ⟨by rfl, fun w h => by go_simp⟩) hHeld ?_
      try simp only [Act.put, List.setIfInBounds_toArray, List.set_cons_zero, List.set_cons_succ, List.getElem_toArray, List.getElem_cons_succ, List.getElem_cons_zero]
      refine wpAnyH_ready (rs := [22]) (by kernel_rfl) (by simp) ?_
      refine AllReadyH.cons (o := _) rfl (fun K hK => ?_) AllReadyH.nil
      go_simp
      refine (SMN.out _ hHeld).mono ?_; rintro e w9 ⟨rfl, hb⟩
      go_wp2_with fail
      refine hK.out _ _ (below_next hHeld hb) (fun hHeld => ?_)
      clear hK K hb
      try simp only [Act.put, List.setIfInBounds_toArray, List.set_cons_zero, List.set_cons_succ, List.getElem_toArray, List.getElem_cons_succ, List.getElem_cons_zero]
      refine wpAnyH_take (i := 23) (oi := _) (v := .bool true) rfl (by kernel_rfl) (by kernel_rfl) (by kernel_rfl) (fun _ _ _ h => h) (Or.inl ⟨by rfl, fun w h => by go_simp⟩) hHeld ?_
      try simp only [Act.put, List.setIfInBounds_toArray, List.set_cons_zero, List.set_cons_succ, List.getElem_toArray, List.getElem_cons_succ, List.getElem_cons_zero]
      refine wpAnyH_take (i := 24) (oi := _) (v := .bool true) rfl (by kernel_rfl) (by kernel_rfl) (by kernel_rfl) (fun _ _ _ h => h) (Or.inl ⟨by rfl, fun w h => by go_simp⟩) hHeld ?_
      try simp only [Act.put, List.setIfInBounds_toArray, List.set_cons_zero, List.set_cons_succ, List.getElem_toArray, List.getElem_cons_succ, List.getElem_cons_zero]
      refine wpAnyH_done (by kernel_rfl) ?_ _
      have HF := Lib.hid (below_next HL7.out hHeld)
      clear hHeld REN SMN
      go_wp2
      go_ret
      exact ⟨rfl, HF.out⟩
end Go.Proofs.Ytibhlaojinedoaa
