/-
  impl: directions of moves.
  impl: tidy moves.
  Both sides: tidy moves, told.
  spec: how far two paths are from each other.
-/
import Derived.Test.YtnidiikcnplebaaM27
import Derived.Test.YtnidiikcnplebaaM26
import Derived.Test.YtnidiikcnplebaaM01
import Derived.OrdersHeld
import Derived.Test.YtnidiikcnplebaaM25
/- impl: directions of moves. -/
namespace Go.Proofs.Ytnidiikcnplebaa
set_option maxRecDepth 20000
open Go.ChangeShapes Go.WideShapes Go.ChangeAt Go.RowKit
set_option linter.unusedVariables false
set_option linter.unusedSimpArgs false

theorem eq_two (a b x y : Int) (w : World) :
    (Op.equalIn 10000 45 (.agg #[.int .i64 a, .int .i64 b]) (.agg #[.int .i64 x, .int .i64 y])).run Try.prog w = .ok (a == x && b == y) w := by
  by_cases ha : a = x
  · by_cases hb : b = y
    · subst ha; subst hb
      go_simp
    · have hb' : (b == y) = false := by simpa using hb
      subst ha
      go_simp
  · have ha' : (a == x) = false := by simpa using ha
    go_simp
theorem mv_eq (m k : Mv) : (m.1 == k.1 && m.2 == k.2) = decide (m = k) := by
  obtain ⟨a, b⟩ := m
  obtain ⟨x, y⟩ := k
  rw [Bool.eq_iff_iff, Bool.and_eq_true, beq_iff_eq, beq_iff_eq, decide_eq_true_iff, Prod.mk.injEq]
theorem nothingM_any (m : Mv) (w : World) : Calls Try.prog 119 #[mvV m] w fun e w' => e = .returned (.bool (decide (m = (0, 0)))) ∧ Below w.heap.size w w' := by
  have E := fun w => eq_two m.1 m.2 0 0 w
  have hm := mv_eq m (0, 0)
  simp only at hm
  rw [hm] at E
  clear hm
  obtain ⟨x, y⟩ := m
  unfold mvV
  simp only at E ⊢
  generalize decide ((x, y) = ((0, 0) : Mv)) = b at *
  go_enter Try.func119, Try.ntmps119
  go_wp2_with (first | rw [E])
  go_ret
  exact ⟨rfl, mv_lies _ _⟩
/-- Euclid, for great numbers. -/
theorem gcd_pen (a b : Nat) (ha : a ≤ 1000000000000) (hb : b ≤ 1000000000000) (w : World) :
    Calls Try.prog 137 #[.int .i64 a, .int .i64 b] w fun e w' => e = .returned (.int .i64 (Nat.gcd a b)) ∧ ∃ m, w' = w.drewN m := by
  go_enter Try.func137, Try.ntmps137
  go_wp2
  go_loopw [0, 1] (fun x y wr => ∃ p q m : Nat, x = .int .i64 p ∧ y = .int .i64 q ∧ p ≤ 1000000000000 ∧ q ≤ 1000000000000 ∧ Nat.gcd p q = Nat.gcd a b ∧ wr = w.drewN m) (fun _ y _ => (intOf y).toNat)
  case atStart => exact ⟨a, b, 0, rfl, rfl, ha, hb, rfl, rfl⟩
  case round =>
    obtain ⟨p, q, m, rfl, rfl, hp, hq, hg, rfl⟩ := hrel
    have G := Lib.hid hg; clear hg
    by_cases h : q = 0
    · subst h
      go_wp2
      go_ret
      exact ⟨ret_int (by have := G.out; simp at this; omega), m, rfl⟩
    · have hq0 : ((q : Int) != 0) = true := by simpa using h
      have hq1 : (0 : Int) < q := by omega
      have hq2 : ((q : Int) == 0) = false := by simpa using h
      go_wp2
      go_quiet (fail)
      go_wp2
      go_roundw
      case rel => exact ⟨q, p % q, _, rfl, by go_num, hq, by have := Nat.mod_lt p (Nat.pos_of_ne_zero h); omega, by rw [← G.out, Nat.gcd_comm p q, Nat.gcd_rec q p, Nat.gcd_comm], World.drewN_drewN _ _ _⟩
      case measure => have := Nat.mod_lt p (Nat.pos_of_ne_zero h); simp [intOf]; omega
theorem gcd_pstep (p q : Int) : Int.gcd q (p.tmod q) = Int.gcd p q := by
  unfold Int.gcd
  rw [Int.natAbs_tmod, Nat.gcd_comm p.natAbs q.natAbs, Nat.gcd_rec q.natAbs p.natAbs, Nat.gcd_comm]
theorem sgcd_pen (a b : Int) (ha : -1000000000000 ≤ a ∧ a ≤ 1000000000000) (hb : -1000000000000 ≤ b ∧ b ≤ 1000000000000) (w : World) :
    Calls Try.prog 90 #[.int .i64 a, .int .i64 b] w fun e w' => e = .returned (.int .i64 ((Int.gcd a b : Nat) : Int)) ∧ w = w' := by
  go_enter Try.func90, Try.ntmps90
  go_wp2
  go_loop [0, 1, 5] (fun x y _ => ∃ p q : Int, x = .int .i64 p ∧ y = .int .i64 q ∧ (-1000000000000 ≤ p ∧ p ≤ 1000000000000) ∧ (-1000000000000 ≤ q ∧ q ≤ 1000000000000) ∧ Int.gcd p q = Int.gcd a b) (fun _ y _ => (intOf y).natAbs)
  case atStart => exact ⟨a, b, rfl, rfl, ha, hb, rfl⟩
  case round =>
    obtain ⟨p, q, rfl, rfl, hp, hq, hg⟩ := hrel
    have G := Lib.hid hg; clear hg
    by_cases h : q = 0
    · subst h
      by_cases hn : p < 0
      · go_wp2
        go_ret
        exact ⟨ret_int (by have := G.out; rw [Int.gcd_zero_right] at this; omega), rfl⟩
      · go_wp2
        go_ret
        exact ⟨ret_int (by have := G.out; rw [Int.gcd_zero_right] at this; omega), rfl⟩
    · have hq0 : (q != 0) = true := by simpa using h
      have hq2 : (q == 0) = false := by simpa using h
      have ht : (p.tmod q).natAbs = p.natAbs % q.natAbs := Int.natAbs_tmod p q
      have hlt : p.natAbs % q.natAbs < q.natAbs := Nat.mod_lt _ (by omega)
      have w1 : IntKind.i64.wrap (p.tmod q) = p.tmod q := by rw [IntKind.wrap_i64]; omega
      have HR : Aside (-1000000000000 ≤ p.tmod q ∧ p.tmod q ≤ 1000000000000) := (show _ ∧ _ from by omega)
      have HM : Aside ((p.tmod q).natAbs < q.natAbs) := (show _ < _ from by omega)
      clear ht hlt
      go_wp2
      go_round
      case rel => exact ⟨q, p.tmod q, rfl, rfl, hq, HR.out, by rw [gcd_pstep, G.out]⟩
      case measure => have := HM.out; simp only [intOf]; omega
theorem quo_in (a : Int) (g : Nat) {M : Int} (h : -M ≤ a ∧ a ≤ M) : -M ≤ a.tdiv g ∧ a.tdiv g ≤ M := by
  have h1 : (a.tdiv (g : Int)).natAbs ≤ a.natAbs := by
    rw [Int.natAbs_tdiv]; exact Nat.div_le_self _ _
  omega
theorem direction_any (m : Mv) (h0 : m ≠ (0, 0)) (h1 : -10000000000 ≤ m.1 ∧ m.1 ≤ 10000000000) (h2 : -10000000000 ≤ m.2 ∧ m.2 ≤ 10000000000) (w : World) :
    Calls Try.prog 120 #[mvV m] w fun e w' => e = .returned (mvV (dirM m)) ∧ Below w.heap.size w w' := by
  have S := fun w => sizes_any m h1 h2 w
  have G := fun w => gcd_pen m.1.natAbs m.2.natAbs (by omega) (by omega) w
  have hg : Nat.gcd m.1.natAbs m.2.natAbs = gcdM m := rfl
  rw [hg] at G
  have hg0 : gcdM m ≠ 0 := fun e => h0 (gcdM_zero.1 e)
  have q1 := quo_in m.1 (gcdM m) h1
  have q2 := quo_in m.2 (gcdM m) h2
  have w1 : IntKind.i64.wrap (m.1.tdiv (gcdM m)) = m.1.tdiv (gcdM m) := by rw [IntKind.wrap_i64]; omega
  have w2 : IntKind.i64.wrap (m.2.tdiv (gcdM m)) = m.2.tdiv (gcdM m) := by rw [IntKind.wrap_i64]; omega
  unfold dirM
  generalize gcdM m = g at *
  have g1 : ((g : Int) == 0) = false := by simpa using hg0
  have g2 : ¬ (g : Int) = 0 := by omega
  obtain ⟨x, y⟩ := m
  unfold mvV at *
  simp only at S G w1 w2 ⊢
  obtain ⟨p, hp⟩ : ∃ p, x.tdiv (g : Int) = p := ⟨_, rfl⟩
  obtain ⟨q, hq⟩ : ∃ q, y.tdiv (g : Int) = q := ⟨_, rfl⟩
  rw [hp] at w1 ⊢
  rw [hq] at w2 ⊢
  clear h0 h1 h2 q1 q2 hg
  generalize x.natAbs = nx at *
  generalize y.natAbs = ny at *
  go_enter Try.func120, Try.ntmps120
  go_wp2_with fail
  refine (S _).mono ?_; rintro e w2 ⟨rfl, hb2⟩
  have rb : RowAt w2 w.heap.size 2 45 (mfn (x, y)) := ((RowAt.newAt rfl rfl : RowAt (w.alloc (.cells #[.int .i64 x, .int .i64 y] 45)) w.heap.size 2 45 (mfn (x, y))).alloc _).below hb2
  have rz : RowAt w2 (w.heap.size + 1) 2 45 nul := (RowAt.newAt rfl (by simp) : RowAt ((w.alloc (.cells #[.int .i64 x, .int .i64 y] 45)).alloc (.cells #[.int .i64 0, .int .i64 0] 45)) (w.heap.size + 1) 2 45 nul).below hb2
  have HB := Lib.hid (below_next (below_next (mv_lies w _) (mv_lies _ _)) hb2)
  clear hb2 S
  generalize hgb : w.heap.size = gb at *
  generalize hgr : gb + 1 = gr at *
  have hne : gr ≠ gb := by omega
  have hge : gb ≤ gr := by omega
  clear hgr
  go_wp2_with fail
  refine (G _).mono ?_; rintro e w3 ⟨rfl, m, rfl⟩
  have k0 : (w2.drewN m).cell? ⟨gb, 0, none⟩ = some (.int .i64 x) := (rb.drew m).cell (k := 0) (by decide)
  have k1 : (w2.drewN m).cell? ⟨gb, 1, none⟩ = some (.int .i64 y) := (rb.drew m).cell (k := 1) (by decide)
  have RZ := Lib.hid (rz.drew m)
  have HB3 := Lib.hid (below_drewN HB.out m)
  clear rb rz HB G
  generalize w2.drewN m = w3 at *
  go_upto_region 2 with fail
  go_still_tail 9, (by kernel_rfl)
  go_wp2_with (first | (refine store_row (g := gr) (f' := mfn (p, q)) rfl rfl rfl rfl RZ.out.drew1 info_mv ?_))
  refine bodyPost_ret (results_row rfl rfl (RowAt.setRow (f' := mfn (p, q)) RZ.out.drew1) Try.underlying45 rfl info_mv) rfl ?_
  refine ⟨rfl, ?_⟩
  rw [hgb]
  exact below_setRow HB3.out.drew hge _
end Go.Proofs.Ytnidiikcnplebaa
/- impl: tidy moves. -/
namespace Go.Proofs.Ytnidiikcnplebaa
set_option maxRecDepth 20000
open Go.ChangeShapes Go.WideShapes Go.ChangeAt Go.RowKit
set_option linter.unusedVariables false
set_option linter.unusedSimpArgs false

theorem joinM_zero (R : List Mv) : joinM R (0, 0) = R := by unfold joinM; rw [if_pos rfl]
theorem joinM_nil {a : Mv} (h : a ≠ (0, 0)) : joinM [] a = [a] := by unfold joinM; rw [if_neg h]; rfl
theorem last_at {R : List Mv} {j : Nat} {l : Mv} (hl : R[j]? = some l) (hj : j + 1 = R.length) : R.getLast? = some l := by
  rw [List.getLast?_eq_getElem?, show R.length - 1 = j by omega]; exact hl
theorem joinM_other {R : List Mv} {a l : Mv} {j : Nat} (h : a ≠ (0, 0)) (hl : R[j]? = some l) (hj : j + 1 = R.length) (hd : dirM l ≠ dirM a) : joinM R a = R ++ [a] := by
  unfold joinM; rw [if_neg h, last_at hl hj]; simp only; rw [if_neg hd]
theorem joinM_same {R : List Mv} {a l : Mv} {j : Nat} (h : a ≠ (0, 0)) (hl : R[j]? = some l) (hj : j + 1 = R.length) (hd : dirM l = dirM a) : joinM R a = R.dropLast ++ [addM l a] := by
  unfold joinM; rw [if_neg h, last_at hl hj]; simp only; rw [if_pos hd]
theorem drop_set {R : List Mv} {j : Nat} (x : Mv) (hj : j + 1 = R.length) : R.dropLast ++ [x] = R.set j x := by
  have h : R.dropLast = R.take j := by rw [List.dropLast_eq_take, show R.length - 1 = j by omega]
  rw [h]
  apply List.ext_getElem?
  intro i
  rw [List.getElem?_set]
  by_cases hi : i < j
  · rw [List.getElem?_append_left (by rw [List.length_take]; omega), List.getElem?_take, if_pos hi, if_neg (by omega)]
  · by_cases he : j = i
    · subst he
      rw [if_pos rfl, List.getElem?_append_right (by rw [List.length_take]; omega), List.length_take, Nat.min_eq_left (by omega), Nat.sub_self, if_pos (by omega)]; rfl
    · rw [if_neg he, List.getElem?_append_right (by rw [List.length_take]; omega), List.length_take, Nat.min_eq_left (by omega), List.getElem?_eq_none (by simp; omega), List.getElem?_eq_none (by omega)]
theorem mv_lst (m : Mv) : encM m = lst 2 (mfn m) := rfl
theorem size_mv (f : Nat → Int) : (Try.prog.info? 45).map (·.size) = some (lst 2 f).length := by rw [lst_length]; exact info_mv
theorem big_in {m : Mv} (h : big m ≤ 1000000000) : (-10000000000 ≤ m.1 ∧ m.1 ≤ 10000000000) ∧ (-10000000000 ≤ m.2 ∧ m.2 ≤ 10000000000) := by unfold big at h; omega
set_option maxHeartbeats 4000000 in
theorem tidyM_walk (v : Value) (xs : List Mv) (w : World) (hv : ReadsL encM w v xs) (hq : mvB xs = true) :
    Calls Try.prog 88 #[v] w fun e w' => ∃ v', e = .returned v' ∧ OwnL encM 2 w' w.heap.size 45 v' (tidyM xs) ∧ Below w.heap.size w w' := by
  obtain ⟨p, cap, rfl, hc1, hc2, hp0, hp⟩ := hv
  simp only [maxLen] at hc2
  have hok := mvB_parts hq
  have HK : Aside (∀ y ∈ xs, big y ≤ 10000000) := (show ∀ y ∈ xs, big y ≤ 10000000 from fun y hy => ok_big (hok.2 y hy))
  have hlen := hok.1
  have HP := Lib.hid hp
  clear hp hok hq
  go_enter Try.func88, Try.ntmps88
  go_wp2_with (refine makeL (en := encM) tyM rfl rfl xs.length rfl rfl (by omega) (Below.refl _ w) (Nat.le_refl _) ?_; intro w2 ho1 hb1 hB1)
  go_loopw [3, 12] (fun v' i wr => ∃ k : Nat, k ≤ xs.length ∧ i = .int .i64 k ∧ v' = .slice (some ⟨w.heap.size, 0, none⟩) (tidyM (xs.take k)).length xs.length ∧ OwnL encM 2 wr w.heap.size 45 (.slice (some ⟨w.heap.size, 0, none⟩) (tidyM (xs.take k)).length xs.length) (tidyM (xs.take k)) ∧ Below w.heap.size w wr) (fun _ i _ => xs.length - (intOf i).toNat)
  case atStart => exact ⟨0, Nat.zero_le _, rfl, rfl, ho1, hb1⟩
  case round =>
    clear ho1 hb1 hB1
    obtain ⟨k, hk, rfl, rfl, hO, hbel⟩ := hrel
    by_cases hlt : k < xs.length
    · have hkz : (k : Int) < (xs.length : Int) := by omega
      have hk0 : (0 : Int) ≤ (k : Int) := by omega
      obtain ⟨a, ha⟩ : ∃ a, xs[k]? = some a := ⟨_, List.getElem?_eq_getElem hlt⟩
      obtain ⟨gg, o, rfl, hgg, hr⟩ := HP.out (by rintro rfl; have := hp0 rfl; omega)
      obtain ⟨c0, c1⟩ := mv_cells (cells_below hr hgg hbel) ha
      have hba := HK.out a (List.mem_of_getElem? ha)
      have hbR := tidyM_big HK.out k hk
      have hbn := tidyM_len (xs.take k)
      rw [List.length_take, Nat.min_eq_left hk] at hbn
      have HN := Lib.hid (tidyM_next ha)
      have HNZ := Lib.hid (tidyM_nz (xs.take k))
      have hia := big_in (m := a) (by omega)
      have IS := fun w => nothingM_any a w
      have hRl : ∀ y ∈ tidyM (xs.take k), big y ≤ 1000000000 := fun y hy => by have := hbR y hy; omega
      have HRL := Lib.hid hRl
      have HO := Lib.hid hO
      have HL := Lib.hid hbel
      clear hr ha hba hbR hRl hO hbel
      generalize tidyM (xs.take k) = R at *
      unfold mvV at IS
      by_cases h0 : a = (0, 0)
      · rw [decide_eq_true h0] at IS
        have HE : Aside (tidyM (xs.take (k + 1)) = R) := (show _ = _ from by rw [HN.out, h0, joinM_zero])
        clear h0
        go_wp2_with fail
        refine (IS _).mono ?_; rintro e w6 ⟨rfl, hb6⟩
        have hb7 : Below wr.heap.size wr w6 := below_next (mv_lies wr _) hb6
        have HO6 := Lib.hid (rows_below HO.out hb7)
        have HL6 := Lib.hid (below_next HL.out hb7)
        clear hb6 hb7 IS c0 c1
        go_wp2_with fail
        go_roundw
        case rel => exact ⟨k + 1, by omega, by go_num, by rw [HE.out], by rw [HE.out]; exact HO6.out, HL6.out⟩
        case measure => simp [intOf]; omega
      · rw [decide_eq_false h0] at IS
        have DA := fun w => direction_any a h0 hia.1 hia.2 w
        have H0 : Aside (a ≠ (0, 0)) := (show a ≠ (0, 0) from h0)
        clear h0
        go_upto_region 5 with fail
        show Code.wp _ _ _ _ (wr.alloc (.cells #[.int .i64 a.1, .int .i64 a.2] 45))
        have HRa : Aside (RowAt (wr.alloc (.cells #[.int .i64 a.1, .int .i64 a.2] 45)) wr.heap.size 2 45 (mfn a)) := (show RowAt _ _ _ _ _ from RowAt.newAt rfl rfl)
        have HO5 := Lib.hid (World.ownsRow.alloc HO.out (.cells #[.int .i64 a.1, .int .i64 a.2] 45))
        have HL5 := Lib.hid (below_next HL.out (mv_lies wr (.cells #[.int .i64 a.1, .int .i64 a.2] 45)))
        have HG : Aside (w.heap.size < wr.heap.size) := (show _ < _ from (HO.out.lt w.heap.size rfl).2)
        clear HO HL c0 c1
        generalize wr.alloc (.cells #[.int .i64 a.1, .int .i64 a.2] 45) = w5 at *
        generalize wr.heap.size = ga at *
        have IS' : ∀ w, Calls Try.prog 119 #[.agg (vec 2 (mfn a))] w fun e w' => e = .returned (.bool false) ∧ Below w.heap.size w w' := IS
        have DA' : ∀ w, Calls Try.prog 120 #[.agg (vec 2 (mfn a))] w fun e w' => e = .returned (mvV (dirM a)) ∧ Below w.heap.size w w' := DA
        clear IS DA
        go_wp2_with (first | (refine load_row (g := ga) rfl rfl rfl HRa.out Try.underlying45 rfl info_mv ?_))
        refine (IS' _).mono ?_; rintro e w6 ⟨rfl, hb6⟩
        have HRa6 := Lib.hid (HRa.out.below hb6)
        have HO6 := Lib.hid (rows_below HO5.out hb6)
        have HL6 := Lib.hid (below_next HL5.out hb6)
        clear hb6 IS' HRa HO5 HL5
        by_cases hR0 : R.length = 0
        · obtain rfl : R = [] := List.length_eq_zero_iff.1 hR0
          have HE : Aside (tidyM (xs.take (k + 1)) = [] ++ [a]) := (show _ = _ from by rw [HN.out, joinM_nil H0.out]; rfl)
          clear hR0
          go_upto_region 7 with fail
          go_quiet (fail)
          have HRa7 := Lib.hid (HRa6.out.drew nq)
          have HO7 : Aside (OwnL encM 2 (w6.drewN nq) w.heap.size 45 (.slice (some ⟨w.heap.size, 0, none⟩) ([] : List Mv).length xs.length) []) := (show OwnL _ _ _ _ _ _ _ from HO6.out)
          have HL7 := Lib.hid (below_drewN HL6.out nq)
          have HPL : Aside (([] : List Mv).length + 1 ≤ xs.length) := (show _ ≤ _ from by simp; omega)
          clear HRa6 HO6 HL6
          generalize w6.drewN nq = w7 at *
          have e0 : w7.cell? ⟨ga, 0, none⟩ = some (.int .i64 a.1) := HRa7.out.cell (k := 0) (by decide)
          have e1 : w7.cell? ⟨ga, 1, none⟩ = some (.int .i64 a.2) := HRa7.out.cell (k := 1) (by decide)
          go_wp2_with (first | (at_builtin; refine append_fitL tyM encM_ok rfl rfl rfl rfl (xs := []) (ys := [a]) (World.ownsRow.alloc HO7.out _) (litL_range (en := encM) _ a _) HPL.out ?_; intro w8 ho8 hgr8))
          have HL8 := Lib.hid ((below_next HL7.out (mv_lies w7 (.cells #[.int .i64 a.1, .int .i64 a.2] 45))).grown hgr8 (by have := HL7.out.size; simp; omega) (fun k hk => by cases hk; exact Nat.le_refl _))
          clear hgr8 HL7 HO7 HRa7 e0 e1
          go_roundw
          case rel => exact ⟨k + 1, by omega, by go_num, by simp [HE.out], by rw [HE.out]; exact ho8, HL8.out⟩
          case measure => simp [intOf]; omega
        · obtain ⟨j, hj⟩ : ∃ j, j + 1 = R.length := ⟨R.length - 1, by omega⟩
          obtain ⟨l, hl⟩ : ∃ l, R[j]? = some l := ⟨_, List.getElem?_eq_getElem (by omega)⟩
          have hlm := List.mem_of_getElem? hl
          have hil := big_in (HRL.out l hlm)
          have DL := fun w => direction_any l (HNZ.out l hlm) hil.1 hil.2 w
          have PL := fun w => plus_mv l a hil.1 hil.2 hia.1 hia.2 w
          have wj : IntKind.i64.wrap ((R.length : Int) - 1) = (j : Int) := by rw [IntKind.wrap_i64]; omega
          have jz : (j : Int) < (R.length : Int) := by omega
          have jn : ¬ (j : Int) < 0 := by omega
          have j0 : (0 : Int) ≤ (j : Int) := by omega
          have jl : j < R.length := by omega
          have HJ := Lib.hid hj
          have HLJ := Lib.hid hl
          have hrl : R.length ≤ xs.length := by omega
          have HRX := Lib.hid hrl
          obtain ⟨b, hb⟩ : ∃ b, decide (dirM l = dirM a) = b := ⟨_, rfl⟩
          have EQ := fun w => eq_two (dirM l).1 (dirM l).2 (dirM a).1 (dirM a).2 w
          rw [mv_eq, hb] at EQ
          have HBD := Lib.hid hb
          have DL' : ∀ w, Calls Try.prog 120 #[.agg (vec 2 (mfn l))] w fun e w' => e = .returned (mvV (dirM l)) ∧ Below w.heap.size w w' := DL
          have PL' : ∀ w, Calls Try.prog 117 #[.agg (vec 2 (mfn l)), .agg (vec 2 (mfn a))] w fun e w' => e = .returned (.agg (vec 2 (mfn (addM l a)))) ∧ Below w.heap.size w w' := PL
          clear DL PL hlm hil hb hj hl hR0 hrl
          obtain ⟨dl, hdl⟩ : ∃ dl, dirM l = dl := ⟨_, rfl⟩
          obtain ⟨da, hda⟩ : ∃ da, dirM a = da := ⟨_, rfl⟩
          rw [hdl] at DL' EQ HBD
          rw [hda] at DA' EQ HBD
          have HDL := Lib.hid hdl
          have HDA := Lib.hid hda
          clear hdl hda
          unfold mvV at DL' DA'
          go_upto_region 7 with fail
          refine wp_region_held_drew (S := fun w' => OwnL encM 2 w' w.heap.size 45 (.slice (some ⟨w.heap.size, 0, none⟩) R.length xs.length) R ∧ RowAt w' ga 2 45 (mfn a) ∧ Below w.heap.size w w') (by kernel_rfl) ⟨HO6.out, HRa6.out.drew1, HL6.out.drew⟩ (fun hHeld => ?_)
          clear HO6 HRa6 HL6
          refine wpAnyH_take (i := 0) (oi := _) (v := .int .i64 j) rfl (by kernel_rfl) (by kernel_rfl) (by kernel_rfl) (fun _ _ _ h => h) (Or.inl ⟨by rfl, fun w h => by go_simp⟩) hHeld ?_
          try simp only [Act.put, List.setIfInBounds_toArray, List.set_cons_zero, List.set_cons_succ, List.getElem_toArray, List.getElem_cons_succ, List.getElem_cons_zero]
          refine wpAnyH_take (i := 1) (oi := _) (v := .bool false) rfl (by kernel_rfl) (by kernel_rfl) (by kernel_rfl) (fun _ _ _ h => h) (Or.inl ⟨by rfl, fun w h => by go_simp⟩) hHeld ?_
          try simp only [Act.put, List.setIfInBounds_toArray, List.set_cons_zero, List.set_cons_succ, List.getElem_toArray, List.getElem_cons_succ, List.getElem_cons_zero]
          refine wpAnyH_take (i := 2) (oi := _) (v := .bool false) rfl (by kernel_rfl) (by kernel_rfl) (by kernel_rfl) (fun _ _ _ h => h) (Or.inl ⟨by rfl, fun w h => by go_simp⟩) hHeld ?_
          try simp only [Act.put, List.setIfInBounds_toArray, List.set_cons_zero, List.set_cons_succ, List.getElem_toArray, List.getElem_cons_succ, List.getElem_cons_zero]
          refine wpAnyH_take (i := 3) (oi := _) (v := .slice (some ⟨w.heap.size, 0, none⟩) R.length xs.length) rfl (by kernel_rfl) (by kernel_rfl) (by kernel_rfl) (fun _ _ _ h => h) (Or.inl ⟨by rfl, fun w h => by go_simp⟩) hHeld ?_
          try simp only [Act.put, List.setIfInBounds_toArray, List.set_cons_zero, List.set_cons_succ, List.getElem_toArray, List.getElem_cons_succ, List.getElem_cons_zero]
          refine wpAnyH_take (i := 4) (oi := _) (v := .int .i64 j) rfl (by kernel_rfl) (by kernel_rfl) (by kernel_rfl) (fun _ _ _ h => h) (Or.inl ⟨by rfl, fun w h => by go_simp⟩) hHeld ?_
          try simp only [Act.put, List.setIfInBounds_toArray, List.set_cons_zero, List.set_cons_succ, List.getElem_toArray, List.getElem_cons_succ, List.getElem_cons_zero]
          refine wpAnyH_take (i := 5) (oi := _) (v := .pointer (some ⟨w.heap.size, j * 2, none⟩)) rfl (by kernel_rfl) (by kernel_rfl) (by kernel_rfl) (fun _ _ _ h => h) (Or.inl ⟨by rfl, fun w h => by go_simp⟩) hHeld ?_
          try simp only [Act.put, List.setIfInBounds_toArray, List.set_cons_zero, List.set_cons_succ, List.getElem_toArray, List.getElem_cons_succ, List.getElem_cons_zero]
          refine wpAnyH_take (i := 6) (oi := _) (v := .agg (vec 2 (mfn l))) rfl (by kernel_rfl) (by kernel_rfl) (by kernel_rfl) (fun _ _ _ h => h) (yieldsIf_load_mid (by rfl) _ _ rfl _ _ rfl _ _ ((fun w h => by have := cells_part encM_ok (ownL_parts h.1 rfl).2.1 HLJ.out; rwa [Nat.zero_add] at this)) Try.underlying45 rfl (size_mv (mfn l))) hHeld ?_
          try simp only [Act.put, List.setIfInBounds_toArray, List.set_cons_zero, List.set_cons_succ, List.getElem_toArray, List.getElem_cons_succ, List.getElem_cons_zero]
          refine wpAnyH_take (i := 8) (oi := _) (v := .agg (vec 2 (mfn a))) rfl (by kernel_rfl) (by kernel_rfl) (by kernel_rfl) (fun _ _ _ h => h) (yieldsIf_load_mid (by rfl) _ _ rfl _ _ rfl _ _ ((fun w h => h.2.1.range)) Try.underlying45 rfl (size_mv (mfn a))) hHeld ?_
          try simp only [Act.put, List.setIfInBounds_toArray, List.set_cons_zero, List.set_cons_succ, List.getElem_toArray, List.getElem_cons_succ, List.getElem_cons_zero]
          refine wpAnyH_ready (rs := [7]) (by kernel_rfl) (by simp) ?_
          refine AllReadyH.cons (o := _) rfl (fun K hK => ?_) AllReadyH.nil
          rw [if_pos (by rfl)]
          go_simp
          refine (DL' _).mono ?_; rintro e' w9 ⟨rfl, hb9⟩
          go_wp2_with fail
          obtain ⟨h0, h1, h2⟩ := hHeld
          refine hK.out _ _ ⟨rows_below h0 hb9, h1.below hb9, below_next h2 hb9⟩ (fun hHeld => ?_)
          clear hK K
          try simp only [Act.put, List.setIfInBounds_toArray, List.set_cons_zero, List.set_cons_succ, List.getElem_toArray, List.getElem_cons_succ, List.getElem_cons_zero]
          clear hb9 h0 h1 h2 DL'
          refine wpAnyH_ready (rs := [9]) (by kernel_rfl) (by simp) ?_
          refine AllReadyH.cons (o := _) rfl (fun K hK => ?_) AllReadyH.nil
          rw [if_pos (by rfl)]
          go_simp
          refine (DA' _).mono ?_; rintro e' w10 ⟨rfl, hb10⟩
          go_wp2_with fail
          obtain ⟨h0, h1, h2⟩ := hHeld
          refine hK.out _ _ ⟨rows_below h0 hb10, h1.below hb10, below_next h2 hb10⟩ (fun hHeld => ?_)
          clear hK K
          try simp only [Act.put, List.setIfInBounds_toArray, List.set_cons_zero, List.set_cons_succ, List.getElem_toArray, List.getElem_cons_succ, List.getElem_cons_zero]
          clear hb10 h0 h1 h2 DA'
          refine wpAnyH_take (i := 10) (oi := _) (v := .bool (!b)) rfl (by kernel_rfl) (by kernel_rfl) (by kernel_rfl) (fun _ _ _ h => h) (Or.inl ⟨by rfl, fun w h => by go_simp⟩) hHeld ?_
          try simp only [Act.put, List.setIfInBounds_toArray, List.set_cons_zero, List.set_cons_succ, List.getElem_toArray, List.getElem_cons_succ, List.getElem_cons_zero]
          refine wpAnyH_take (i := 11) (oi := _) (v := .bool (!b)) rfl (by kernel_rfl) (by kernel_rfl) (by kernel_rfl) (fun _ _ _ h => h) (Or.inl ⟨by rfl, fun w h => by go_simp⟩) hHeld ?_
          try simp only [Act.put, List.setIfInBounds_toArray, List.set_cons_zero, List.set_cons_succ, List.getElem_toArray, List.getElem_cons_succ, List.getElem_cons_zero]
          clear EQ
          refine wpAnyH_done (by kernel_rfl) ?_ _
          obtain ⟨hO7, hR7, hL7⟩ := hHeld
          have e0 : w10.cell? ⟨ga, 0, none⟩ = some (.int .i64 a.1) := hR7.cell (k := 0) (by decide)
          have e1 : w10.cell? ⟨ga, 1, none⟩ = some (.int .i64 a.2) := hR7.cell (k := 1) (by decide)
          cases b with
          | false =>
            have hdn := of_decide_eq_false HBD.out
            have HE : Aside (tidyM (xs.take (k + 1)) = R ++ [a]) := (show _ = _ from by rw [HN.out]; exact joinM_other H0.out HLJ.out HJ.out (by rw [HDL.out, HDA.out]; exact hdn))
            have HPL : Aside (R.length + 1 ≤ xs.length) := (show _ ≤ _ from by omega)
            have HO7 := Lib.hid hO7
            have HL7 := Lib.hid hL7
            clear hO7 hR7 hL7 hdn
            go_wp2_with (first | (at_builtin; refine append_fitL tyM encM_ok rfl rfl rfl rfl (xs := R) (ys := [a]) (World.ownsRow.alloc HO7.out _) (litL_range (en := encM) _ a _) HPL.out ?_; intro w12 ho8 hgr8))
            have HL8 := Lib.hid ((below_next HL7.out (mv_lies w10 (.cells #[.int .i64 a.1, .int .i64 a.2] 45))).grown hgr8 (by have := HL7.out.size; simp; omega) (fun k hk => by cases hk; exact Nat.le_refl _))
            clear hgr8 HL7 HO7 e0 e1
            go_roundw
            case rel => exact ⟨k + 1, by omega, by go_num, by simp [HE.out], by rw [HE.out]; exact ho8, HL8.out⟩
            case measure => simp [intOf]; omega
          | true =>
            have hdy := of_decide_eq_true HBD.out
            have HE : Aside (tidyM (xs.take (k + 1)) = R.set j (addM l a)) := (show _ = _ from by rw [HN.out, joinM_same H0.out HLJ.out HJ.out (by rw [HDL.out, HDA.out]; exact hdy)]; exact drop_set _ HJ.out)
            have hlr := cells_part encM_ok (ownL_parts hO7 rfl).2.1 HLJ.out
            rw [Nat.zero_add] at hlr
            have HLR := Lib.hid hlr
            have HO7 := Lib.hid hO7
            clear hdy e0 e1 hlr
            go_wp2_with fail
            refine wp_region_held_drew (S := fun w' => RowAt w' ga 2 45 (mfn a) ∧ Below w.heap.size w w') (by kernel_rfl) ⟨hR7.drew1, hL7.drew⟩ (fun hHeld => ?_)
            clear hO7 hR7 hL7
            refine wpAnyH_take (i := 0) (oi := _) (v := .slice (some ⟨w.heap.size, 0, none⟩) R.length xs.length) rfl (by kernel_rfl) (by kernel_rfl) (by kernel_rfl) (fun _ _ _ h => h) (Or.inl ⟨by rfl, fun w h => by go_simp⟩) hHeld ?_
            try simp only [Act.put, List.setIfInBounds_toArray, List.set_cons_zero, List.set_cons_succ, List.getElem_toArray, List.getElem_cons_succ, List.getElem_cons_zero]
            refine wpAnyH_take (i := 1) (oi := _) (v := .int .i64 j) rfl (by kernel_rfl) (by kernel_rfl) (by kernel_rfl) (fun _ _ _ h => h) (Or.inl ⟨by rfl, fun w h => by go_simp⟩) hHeld ?_
            try simp only [Act.put, List.setIfInBounds_toArray, List.set_cons_zero, List.set_cons_succ, List.getElem_toArray, List.getElem_cons_succ, List.getElem_cons_zero]
            refine wpAnyH_take (i := 2) (oi := _) (v := .slice (some ⟨w.heap.size, 0, none⟩) R.length xs.length) rfl (by kernel_rfl) (by kernel_rfl) (by kernel_rfl) (fun _ _ _ h => h) (Or.inl ⟨by rfl, fun w h => by go_simp⟩) hHeld ?_
            try simp only [Act.put, List.setIfInBounds_toArray, List.set_cons_zero, List.set_cons_succ, List.getElem_toArray, List.getElem_cons_succ, List.getElem_cons_zero]
            refine wpAnyH_take (i := 3) (oi := _) (v := .int .i64 j) rfl (by kernel_rfl) (by kernel_rfl) (by kernel_rfl) (fun _ _ _ h => h) (Or.inl ⟨by rfl, fun w h => by go_simp⟩) hHeld ?_
            try simp only [Act.put, List.setIfInBounds_toArray, List.set_cons_zero, List.set_cons_succ, List.getElem_toArray, List.getElem_cons_succ, List.getElem_cons_zero]
            refine wpAnyH_take (i := 4) (oi := _) (v := .pointer (some ⟨w.heap.size, j * 2, none⟩)) rfl (by kernel_rfl) (by kernel_rfl) (by kernel_rfl) (fun _ _ _ h => h) (Or.inl ⟨by rfl, fun w h => by go_simp⟩) hHeld ?_
            try simp only [Act.put, List.setIfInBounds_toArray, List.set_cons_zero, List.set_cons_succ, List.getElem_toArray, List.getElem_cons_succ, List.getElem_cons_zero]
            refine wpAnyH_take (i := 6) (oi := _) (v := .agg (vec 2 (mfn a))) rfl (by kernel_rfl) (by kernel_rfl) (by kernel_rfl) (fun _ _ _ h => h) (yieldsIf_load_mid (by rfl) _ _ rfl _ _ rfl _ _ ((fun w h => h.1.range)) Try.underlying45 rfl (size_mv (mfn a))) hHeld ?_
            try simp only [Act.put, List.setIfInBounds_toArray, List.set_cons_zero, List.set_cons_succ, List.getElem_toArray, List.getElem_cons_succ, List.getElem_cons_zero]
            refine wpAnyH_ready (rs := [5]) (by kernel_rfl) (by simp) ?_
            refine AllReadyH.cons (o := _) rfl (fun K hK => ?_) AllReadyH.nil
            rw [if_pos (by rfl)]
            refine wp_load_mid 45 _ rfl w.heap.size (j * 2) rfl (encM l) _ HLR.out Try.underlying45 rfl info_mv ?_
            refine hK.out _ _ hHeld (fun hHeld => ?_)
            clear hK K
            try simp only [Act.put, List.setIfInBounds_toArray, List.set_cons_zero, List.set_cons_succ, List.getElem_toArray, List.getElem_cons_succ, List.getElem_cons_zero]
            refine wpAnyH_ready (rs := [7]) (by kernel_rfl) (by simp) ?_
            refine AllReadyH.cons (o := _) rfl (fun K hK => ?_) AllReadyH.nil
            rw [if_pos (by rfl)]
            go_simp
            refine (PL' _).mono ?_; rintro e' w11 ⟨rfl, hb11⟩
            have hO11 := rows_below (show OwnL encM 2 w10.drew w.heap.size 45 _ R from HO7.out) hb11
            have HO11 := Lib.hid hO11
            have HTH : Aside (w11.there w.heap.size (j * 2) 2) := (show World.there _ _ _ _ from rows_there (K := 2) (o := 0) HO11.out jl (by omega))
            go_wp2_with fail
            obtain ⟨h1, h2⟩ := hHeld
            refine hK.out _ _ ⟨h1.below hb11, below_next h2 hb11⟩ (fun hHeld => ?_)
            clear hK K
            try simp only [Act.put, List.setIfInBounds_toArray, List.set_cons_zero, List.set_cons_succ, List.getElem_toArray, List.getElem_cons_succ, List.getElem_cons_zero]
            clear hb11 h1 h2 hO11 PL' HO7 HLR
            refine wpAnyH_take (i := 8) (oi := _) (v := .pointer (some ⟨w.heap.size, j * 2, none⟩)) rfl (by kernel_rfl) (by kernel_rfl) (by kernel_rfl) (fun _ _ _ h => h) (Or.inl ⟨by rfl, fun w h => by go_simp⟩) hHeld ?_
            try simp only [Act.put, List.setIfInBounds_toArray, List.set_cons_zero, List.set_cons_succ, List.getElem_toArray, List.getElem_cons_succ, List.getElem_cons_zero]
            refine wpAnyH_ready (rs := [9]) (by kernel_rfl) (by simp) ?_
            refine AllReadyH.cons (o := _) rfl (fun K hK => ?_) AllReadyH.nil
            rw [if_pos (by rfl)]
            refine wp_store_mid 45 _ _ rfl w.heap.size (j * 2) (vec 2 (mfn (addM l a))) rfl rfl (by rw [vec_size]; exact HTH.out) (by rw [vec_size]; exact info_mv) (vec_one 2 _) ?_
            have HOS : Aside (OwnL encM 2 (w11.setCells w.heap.size (j * 2) (vec 2 (mfn (addM l a))).toList) w.heap.size 45 (.slice (some ⟨w.heap.size, 0, none⟩) (R.set j (addM l a)).length xs.length) (R.set j (addM l a))) := (show World.ownsRow _ _ _ _ _ _ _ from by
              have h := ownL_set encM_ok (addM l a) HO11.out HLJ.out
              rw [List.length_set]
              exact h)
            obtain ⟨h1, h2⟩ := hHeld
            refine hK.out _ _ ⟨h1.cellsOther _ _ _ (by have := HG.out; omega), below_setCells (Nat.le_refl _) _ _ _ h2⟩ (fun hHeld => ?_)
            clear hK K
            try simp only [Act.put, List.setIfInBounds_toArray, List.set_cons_zero, List.set_cons_succ, List.getElem_toArray, List.getElem_cons_succ, List.getElem_cons_zero]
            clear h1 h2 HO11 HTH
            refine wpAnyH_done (by kernel_rfl) ?_ _
            have HL9 := Lib.hid hHeld.2
            clear hHeld
            generalize w11.setCells w.heap.size (j * 2) (vec 2 (mfn (addM l a))).toList = w12 at *
            go_wp2_with fail
            go_roundw
            case rel => exact ⟨k + 1, by omega, by go_num, by simp [HE.out], by rw [HE.out]; exact HOS.out, HL9.out⟩
            case measure => simp [intOf]; omega
    · obtain rfl : k = xs.length := by omega
      have HO := Lib.hid hO
      have HL := Lib.hid hbel
      clear hO hbel
      go_wp2
      go_ret
      have ho := HO.out
      rw [List.take_length] at ho
      exact ⟨_, by rw [List.take_length]; rfl, ho, HL.out⟩
end Go.Proofs.Ytnidiikcnplebaa
/- Both sides: tidy moves, told. -/
namespace Go.Proofs.Ytnidiikcnplebaa
set_option maxRecDepth 20000
open Go.ChangeShapes Go.WideShapes Go.ChangeAt Go.RowKit
set_option linter.unusedVariables false
set_option linter.unusedSimpArgs false

/-- The tidy moves that are told. -/
def tdO (xs : List Mv) : Option (List Mv) := if mvB xs && mvB (tidyM xs) then some (tidyM xs) else none
theorem tdO_1 {xs : List Mv} (h : mvB xs = false) : tdO xs = none := by unfold tdO; rw [h]; rfl
theorem tdO_2 {xs : List Mv} (h : mvB (tidyM xs) = false) : tdO xs = none := by unfold tdO; rw [h, Bool.and_false]; rfl
theorem tdO_yes {xs : List Mv} (h : mvB xs = true) (h2 : mvB (tidyM xs) = true) : tdO xs = some (tidyM xs) := by unfold tdO; rw [h, h2]; rfl
theorem MovesTidy_any (v : Value) (xs : List Mv) (w : World) (hv : ReadsL encM w v xs) : Calls Try.prog 39 #[v] w (ToldM w (tdO xs)) := by
  have C := movesValid_any v xs w hv
  cases h1 : mvB xs with
  | false =>
    rw [h1] at C
    rw [tdO_1 h1]
    obtain ⟨p, cap, rfl, -⟩ := hv
    go_enter Try.func39, Try.ntmps39
    go_wp2_with fail
    refine C.mono ?_; rintro e w2 ⟨rfl, hb2⟩
    have HB2 := Lib.hid hb2
    clear C hb2
    go_wp2_with fail
    go_ret2
    exact ⟨HB2.out, _, rfl, ownM_none _ _ _⟩
  | true =>
    rw [h1] at C
    have M := fun w2 hb => tidyM_walk v xs w2 (hv.below hb) h1
    cases h3 : mvB (tidyM xs) with
    | false =>
      rw [tdO_2 h3]
      clear h1
      obtain ⟨p, cap, rfl, -⟩ := hv
      go_enter Try.func39, Try.ntmps39
      go_wp2_with fail
      refine C.mono ?_; rintro e w2 ⟨rfl, hb2⟩
      have HB2 := Lib.hid hb2
      have M2 := M w2 hb2
      clear C hb2 M
      go_wp2_with fail
      refine M2.mono ?_; rintro e w4 ⟨v4, rfl, ho4, hb4⟩
      have HB4 := Lib.hid (below_next HB2.out hb4)
      have T := movesTold_any v4 (tidyM xs) w4 (ownL_reads ho4)
      rw [h3, if_neg (by decide)] at T
      clear M2 hb4 ho4 h3
      go_wp2_with fail
      refine T.mono ?_; rintro e w5 ⟨rfl, hb5⟩
      have HB5 := Lib.hid (below_next HB4.out hb5)
      clear T hb5
      go_wp2_with fail
      go_ret2
      exact ⟨HB5.out, _, rfl, ownM_none _ _ _⟩
    | true =>
      rw [tdO_yes h1 h3]
      clear h1
      obtain ⟨p, cap, rfl, -⟩ := hv
      generalize tidyM xs = ps at *
      go_enter Try.func39, Try.ntmps39
      go_wp2_with fail
      refine C.mono ?_; rintro e w2 ⟨rfl, hb2⟩
      have HB2 := Lib.hid hb2
      have M2 := M w2 hb2
      clear C hb2 M
      go_wp2_with fail
      refine M2.mono ?_; rintro e w4 ⟨v4, rfl, ho4, hb4⟩
      have HB4 := Lib.hid (below_next HB2.out hb4)
      have HO4 := Lib.hid (rows_mono ho4 HB2.out.size)
      have T := movesTold_any v4 ps w4 (ownL_reads ho4)
      rw [h3, if_pos rfl] at T
      clear M2 hb4 ho4 h3
      go_wp2_with fail
      refine T.mono ?_; rintro e w5 ⟨rfl, hb5⟩
      have HB5 := Lib.hid (below_next HB4.out hb5)
      have HO5 := Lib.hid (rows_below HO4.out hb5)
      clear T hb5
      go_wp2_with fail
      go_ret2
      exact ⟨HB5.out, _, rfl, HO5.out⟩
/-! ### spec's -/
theorem own_take {w : World} {B T g cap : Nat} {R : List Mv} (j : Nat) (h : OwnL encM 2 w B T (.slice (some ⟨g, 0, none⟩) R.length cap) R) (hj : j ≤ R.length) : OwnL encM 2 w B T (.slice (some ⟨g, 0, none⟩) (R.take j).length cap) (R.take j) := by
  have hl : (R.take j).length = j := by rw [List.length_take]; omega
  refine ⟨flt_length encM_ok _, ?_⟩
  rcases h.2 with ⟨h0, _⟩ | ⟨g', cap', cur, e', hB, hg, hnc, hcm, hcs, htk⟩
  · cases h0
  · simp only [Value.slice.injEq, Option.some.injEq, Addr.mk.injEq, and_true, true_and] at e'
    obtain ⟨rfl, rfl⟩ := e'
    refine .inr ⟨g, cap, cur, rfl, hB, hg, by omega, hcm, hcs, ?_⟩
    rw [flt_take encM_ok, ← htk, List.take_take, hl]
    congr 1
    have := Nat.mul_le_mul_right 2 hj
    omega
theorem ownM_form {w : World} {B T : Nat} {v : Value} {R : List Mv} (h : OwnL encM 2 w B T v R) (h0 : R ≠ []) : ∃ g c, v = .slice (some ⟨g, 0, none⟩) R.length c := by
  rcases h.2 with ⟨-, h1⟩ | ⟨g, cap, cur, rfl, -⟩
  · exact absurd (List.length_eq_zero_iff.1 h1) h0
  · exact ⟨g, cap, rfl⟩
set_option maxHeartbeats 4000000 in
theorem specMovesTidy_any (v : Value) (xs : List Mv) (w : World) (hv : ReadsL encM w v xs) : Calls Try.prog 40 #[v] w (ToldM w (tdO xs)) := by
  have C := specMoves_any v xs (w.alloc (.cells #[] 45)) (hv.below (mv_lies _ _))
  cases h1 : mvB xs with
  | false =>
    rw [h1] at C
    rw [tdO_1 h1]
    obtain ⟨p, cap, rfl, -⟩ := hv
    go_enter Try.func40, Try.ntmps40
    go_wp2_with fail
    refine C.mono ?_; rintro e w2 ⟨rfl, rfl⟩
    clear C
    go_wp2_with fail
    go_ret2
    exact ⟨mv_lies _ _, _, rfl, ownM_nil _ _ _ (Nat.le_refl _)⟩
  | true =>
    rw [h1] at C
    generalize hres : tdO xs = res
    have HRES : Aside (∀ b, mvB (tidyM xs) = b → res = if b = true then some (tidyM xs) else none) := (show ∀ b, mvB (tidyM xs) = b → res = if b = true then some (tidyM xs) else none from fun b hb => by
      rw [← hres]
      cases b with
      | true => rw [tdO_yes h1 hb, if_pos rfl]
      | false => rw [tdO_2 hb, if_neg (by decide)])
    have hok := mvB_parts h1
    have HK : Aside (∀ y ∈ xs, big y ≤ 10000000) := (show ∀ y ∈ xs, big y ≤ 10000000 from fun y hy => ok_big (hok.2 y hy))
    have hlen := hok.1
    clear hres hok h1
    obtain ⟨p, cap, rfl, hc1, hc2, hp0, hp⟩ := hv
    simp only [maxLen] at hc2
    have HP := Lib.hid hp
    clear hp
    go_enter Try.func40, Try.ntmps40
    go_wp2_with fail
    refine C.mono ?_; rintro e w2 ⟨rfl, rfl⟩
    clear C
    go_wp2_with fail
    have O0 := ownM_nil w w.heap.size 45 (Nat.le_refl _)
    have B0 := mv_lies w (.cells #[] 45)
    generalize w.alloc (.cells #[] 45) = W0 at *
    go_loopw [4, 5] (fun v' i wr => ∃ (k g c : Nat), k ≤ xs.length ∧ i = .int .i64 k ∧ v' = .slice (some ⟨g, 0, none⟩) (tidyM (xs.take k)).length c ∧ OwnL encM 2 wr w.heap.size 45 (.slice (some ⟨g, 0, none⟩) (tidyM (xs.take k)).length c) (tidyM (xs.take k)) ∧ Below w.heap.size w wr ∧ w.heap.size ≤ wr.heap.size) (fun _ i _ => xs.length - (intOf i).toNat)
    case atStart => exact ⟨0, w.heap.size, 0, Nat.zero_le _, rfl, rfl, O0, B0, B0.size⟩
    case round =>
      clear O0 B0
      obtain ⟨k, g, c, hk, rfl, rfl, hO, hbel, hB⟩ := hrel
      by_cases hlt : k < xs.length
      · have hkz : (k : Int) < (xs.length : Int) := by omega
        have hk0 : (0 : Int) ≤ (k : Int) := by omega
        obtain ⟨a, ha⟩ : ∃ a, xs[k]? = some a := ⟨_, List.getElem?_eq_getElem hlt⟩
        obtain ⟨gg, o, rfl, hgg, hr⟩ := HP.out (by rintro rfl; have := hp0 rfl; omega)
        obtain ⟨c0, c1⟩ := mv_cells (cells_below hr hgg hbel) ha
        have hba := HK.out a (List.mem_of_getElem? ha)
        have hbR := tidyM_big HK.out k hk
        have hbn := tidyM_len (xs.take k)
        rw [List.length_take, Nat.min_eq_left hk] at hbn
        have HN := Lib.hid (tidyM_next ha)
        have HNZ := Lib.hid (tidyM_nz (xs.take k))
        have hia := big_in (m := a) (by omega)
        have GA : ∀ w, Calls Try.prog 90 #[.int .i64 a.1, .int .i64 a.2] w fun e w' => e = .returned (.int .i64 ((gcdM a : Nat) : Int)) ∧ w = w' := fun w => sgcd_pen a.1 a.2 (by omega) (by omega) w
        have hRl : ∀ y ∈ tidyM (xs.take k), big y ≤ 1000000000 := fun y hy => by have := hbR y hy; omega
        have HRL := Lib.hid hRl
        have HO := Lib.hid hO
        have HL := Lib.hid hbel
        have HB := Lib.hid hB
        have HBN := Lib.hid hbn
        clear hr ha hba hbR hRl hO hbel hB hbn
        generalize tidyM (xs.take k) = R at *
        go_upto_region 8 with fail
        show Code.wp _ _ _ _ (wr.alloc (.cells #[.int .i64 a.1, .int .i64 a.2] 45))
        have HRa : Aside (RowAt (wr.alloc (.cells #[.int .i64 a.1, .int .i64 a.2] 45)) wr.heap.size 2 45 (mfn a)) := (show RowAt _ _ _ _ _ from RowAt.newAt rfl rfl)
        have HO5 := Lib.hid (World.ownsRow.alloc HO.out (.cells #[.int .i64 a.1, .int .i64 a.2] 45))
        have HL5 := Lib.hid (below_next HL.out (mv_lies wr (.cells #[.int .i64 a.1, .int .i64 a.2] 45)))
        have HG : Aside (g < wr.heap.size) := (show _ < _ from (HO.out.lt g rfl).2)
        have HGB := Lib.hid HB.out
        clear HO HL c0 c1 HB
        generalize wr.alloc (.cells #[.int .i64 a.1, .int .i64 a.2] 45) = w5 at *
        generalize wr.heap.size = ga at *
        have e0 : w5.cell? ⟨ga, 0, none⟩ = some (.int .i64 a.1) := HRa.out.cell (k := 0) (by decide)
        have e1 : w5.cell? ⟨ga, 1, none⟩ = some (.int .i64 a.2) := HRa.out.cell (k := 1) (by decide)
        by_cases h0 : a = (0, 0)
        · have HE : Aside (tidyM (xs.take (k + 1)) = R) := (show _ = _ from by rw [HN.out, h0, joinM_zero])
          rw [gcdM_zero.2 h0] at GA
          clear h0
          go_wp2_with fail
          refine (GA _).mono ?_; rintro e w6 ⟨rfl, rfl⟩
          clear GA e0 e1
          go_wp2_with fail
          go_roundw
          case rel => exact ⟨k + 1, g, c, by omega, by go_num, by rw [HE.out], by rw [HE.out]; exact HO5.out, HL5.out, HL5.out.size⟩
          case measure => simp [intOf]; omega
        · have hg0 : gcdM a ≠ 0 := fun e => h0 (gcdM_zero.1 e)
          have H0 : Aside (a ≠ (0, 0)) := (show a ≠ (0, 0) from h0)
          clear h0
          obtain ⟨ug, hug⟩ : ∃ ug, gcdM a = ug := ⟨_, rfl⟩
          have HUG := Lib.hid hug
          rw [hug] at GA hg0
          clear hug
          have ugb : ((ug : Int) == 0) = false := by simpa using hg0
          have ugz : ¬ (ug : Int) = 0 := by omega
          by_cases hR0 : R.length = 0
          · obtain rfl : R = [] := List.length_eq_zero_iff.1 hR0
            have HE : Aside (tidyM (xs.take (k + 1)) = [] ++ [a]) := (show _ = _ from by rw [HN.out, joinM_nil H0.out]; rfl)
            clear hR0
            go_wp2_with fail
            refine (GA _).mono ?_; rintro e w6 ⟨rfl, rfl⟩
            clear GA
            go_wp2_with (first | (at_builtin; refine append_atL tyN encM_ok rfl rfl rfl rfl (xs := []) (ys := [a]) (World.ownsRow.alloc HO5.out _) (litL_range (en := encM) _ a _) (by simp) (HL5.out.alloc HL5.out.size _) (by simp; have := HL5.out.size; omega) ?_; intro v8 w8 ho8 hb8 hB8 hgr8 hat8))
            obtain ⟨g8, c8, rfl⟩ := ownM_form ho8 (by simp)
            clear hgr8 hat8
            go_roundw
            case rel => exact ⟨k + 1, g8, c8, by omega, by go_num, by rw [HE.out], by rw [HE.out]; exact ho8, hb8, hB8⟩
            case measure => simp [intOf]; omega
          · obtain ⟨j, hj⟩ : ∃ j, j + 1 = R.length := ⟨R.length - 1, by omega⟩
            obtain ⟨l, hl⟩ : ∃ l, R[j]? = some l := ⟨_, List.getElem?_eq_getElem (by omega)⟩
            have hlm := List.mem_of_getElem? hl
            have hil := big_in (HRL.out l hlm)
            have hlz : gcdM l ≠ 0 := fun e => HNZ.out l hlm (gcdM_zero.1 e)
            have GL : ∀ w, Calls Try.prog 90 #[.int .i64 l.1, .int .i64 l.2] w fun e w' => e = .returned (.int .i64 ((gcdM l : Nat) : Int)) ∧ w = w' := fun w => sgcd_pen l.1 l.2 (by omega) (by omega) w
            have wj : IntKind.i64.wrap ((R.length : Int) - 1) = (j : Int) := by have := HBN.out; rw [IntKind.wrap_i64]; omega
            have jz : (j : Int) < (R.length : Int) := by omega
            have rz : (0 : Int) < (R.length : Int) := by omega
            have rn : 0 < R.length := by omega
            have rne : ¬ R = [] := by rintro rfl; simp at rn
            have j0 : (0 : Int) ≤ (j : Int) := by omega
            have jl : j < R.length := by omega
            have jc : (j : Int) ≤ (c : Int) := by have := (ownL_parts HO5.out rfl).2.2.1; omega
            have jcn : j ≤ c := by omega
            have hcc := mv_cells (ownL_parts HO5.out rfl).2.1 hl
            rw [Nat.zero_add] at hcc
            obtain ⟨k0, k1⟩ := hcc
            have s1 : IntKind.i64.wrap (a.1 + l.1) = a.1 + l.1 := by rw [IntKind.wrap_i64]; omega
            have s2 : IntKind.i64.wrap (a.2 + l.2) = a.2 + l.2 := by rw [IntKind.wrap_i64]; omega
            have HJ := Lib.hid hj
            have HLJ := Lib.hid hl
            have t1 := quo_in l.1 (gcdM l) hil.1
            have t2 := quo_in l.2 (gcdM l) hil.2
            have t3 := quo_in a.1 (gcdM a) hia.1
            have t4 := quo_in a.2 (gcdM a) hia.2
            rw [HUG.out] at t3 t4
            obtain ⟨lg, hlg⟩ : ∃ lg, gcdM l = lg := ⟨_, rfl⟩
            have HLG := Lib.hid hlg
            rw [hlg] at GL hlz t1 t2
            clear hlg
            have lgb : ((lg : Int) == 0) = false := by simpa using hlz
            have lgz : ¬ (lg : Int) = 0 := by omega
            have q1 : IntKind.i64.wrap (l.1.tdiv lg) = l.1.tdiv lg := by rw [IntKind.wrap_i64]; omega
            have q2 : IntKind.i64.wrap (l.2.tdiv lg) = l.2.tdiv lg := by rw [IntKind.wrap_i64]; omega
            have q3 : IntKind.i64.wrap (a.1.tdiv ug) = a.1.tdiv ug := by rw [IntKind.wrap_i64]; omega
            have q4 : IntKind.i64.wrap (a.2.tdiv ug) = a.2.tdiv ug := by rw [IntKind.wrap_i64]; omega
            have HD : Aside (∀ b, (l.1.tdiv lg == a.1.tdiv ug && l.2.tdiv lg == a.2.tdiv ug) = b → decide (dirM l = dirM a) = b) := (show ∀ b, (l.1.tdiv lg == a.1.tdiv ug && l.2.tdiv lg == a.2.tdiv ug) = b → decide (dirM l = dirM a) = b from fun b hb => by
              rw [← mv_eq]; unfold dirM; rw [HUG.out, HLG.out]; exact hb)
            clear t1 t2 t3 t4 hlm hil hj hl hR0
            go_wp2_with fail
            refine (GA _).mono ?_; rintro e w6 ⟨rfl, rfl⟩
            clear GA
            go_wp2_with fail
            go_quiet (first | (go_at_call 90; exact calm ⟨_, rfl⟩ (GL _)))
            clear GL
            have HRN : Aside (R.length + 1 ≤ 1000000000) := (show _ ≤ _ from by have := HBN.out; omega)
            have HO6 : Aside (OwnL encM 2 (w5.drewN nq) w.heap.size 45 (.slice (some ⟨g, 0, none⟩) R.length c) R) := (show OwnL _ _ _ _ _ _ _ from HO5.out)
            have HR6 := Lib.hid (HRa.out.drew nq)
            have HL6 := Lib.hid (below_drewN HL5.out nq)
            replace e0 : (w5.drewN nq).cell? ⟨ga, 0, none⟩ = some (.int .i64 a.1) := e0
            replace e1 : (w5.drewN nq).cell? ⟨ga, 1, none⟩ = some (.int .i64 a.2) := e1
            replace k0 : (w5.drewN nq).cell? ⟨g, j * 2, none⟩ = some (.int .i64 l.1) := k0
            replace k1 : (w5.drewN nq).cell? ⟨g, j * 2 + 1, none⟩ = some (.int .i64 l.2) := k1
            clear HO5 HRa HL5
            generalize w5.drewN nq = w6 at *
            by_cases p1 : l.1.tdiv lg = a.1.tdiv ug
            · by_cases p2 : l.2.tdiv lg = a.2.tdiv ug
              · have hdy := of_decide_eq_true (HD.out true (by rw [p1, p2]; simp))
                have HE : Aside (tidyM (xs.take (k + 1)) = R.take j ++ [(a.1 + l.1, a.2 + l.2)]) := (show _ = _ from by
                  rw [HN.out, joinM_same H0.out HLJ.out HJ.out hdy, List.dropLast_eq_take, show R.length - 1 = j by have := HJ.out; omega]
                  congr 2
                  exact Prod.ext (Int.add_comm _ _) (Int.add_comm _ _))
                clear hdy HD
                go_wp2_with fail
                go_quiet (fail)
                have HO7 : Aside (OwnL encM 2 (w6.drewN nq) w.heap.size 45 (.slice (some ⟨g, 0, none⟩) R.length c) R) := (show OwnL _ _ _ _ _ _ _ from HO6.out)
                have HR7 := Lib.hid (HR6.out.drew nq)
                have HL7 := Lib.hid (below_drewN HL6.out nq)
                replace e0 : (w6.drewN nq).cell? ⟨ga, 0, none⟩ = some (.int .i64 a.1) := e0
                replace e1 : (w6.drewN nq).cell? ⟨ga, 1, none⟩ = some (.int .i64 a.2) := e1
                replace k0 : (w6.drewN nq).cell? ⟨g, j * 2, none⟩ = some (.int .i64 l.1) := k0
                replace k1 : (w6.drewN nq).cell? ⟨g, j * 2 + 1, none⟩ = some (.int .i64 l.2) := k1
                clear HO6 HR6 HL6
                generalize w6.drewN nq = w7 at *
                clear p1 p2 q1 q2 q3 q4 lgb lgz ugb ugz hg0 hlz
                have s12 : ((a.1 + l.1, a.2 + l.2) : Mv) = (a.1 + l.1, a.2 + l.2) := rfl
                go_upto_region 14 with fail
                go_still_tail 19, (by kernel_rfl)
                go_upto_region 15 with (first | (refine store_row (g := ga) (f' := mfn (a.1 + l.1, a.2 + l.2)) rfl rfl rfl rfl HR7.out.drew1 info_mv ?_))
                show Code.wp _ _ _ _ (w7.drew.setRow ga (vec 2 (mfn (a.1 + l.1, a.2 + l.2))))
                have hlj : (R.take j).length = j := by rw [List.length_take]; omega
                have HO8 := Lib.hid (own_take j (own_setRow_ne (show OwnL encM 2 w7.drew w.heap.size 45 (.slice (some ⟨g, 0, none⟩) R.length c) R from HO7.out) (gx := ga) (by simp [Value.ownBlock]; have := HG.out; omega) (vec 2 (mfn (a.1 + l.1, a.2 + l.2)))) (by omega))
                have HR8 := Lib.hid (RowAt.setRow (f' := mfn (a.1 + l.1, a.2 + l.2)) HR7.out.drew1)
                have HL8 := Lib.hid (below_setRow HL7.out.drew (by have := HGB.out; omega) (g := ga) (vec 2 (mfn (a.1 + l.1, a.2 + l.2))))
                have HRS : Aside (j + 1 ≤ 1000000000) := (show _ ≤ _ from by have := HBN.out; omega)
                clear e0 e1 k0 k1 HO7 HR7 HL7
                generalize w7.drew.setRow ga (vec 2 (mfn (a.1 + l.1, a.2 + l.2))) = w8 at *
                have e0 : w8.cell? ⟨ga, 0, none⟩ = some (.int .i64 (a.1 + l.1)) := HR8.out.cell (k := 0) (by decide)
                have e1 : w8.cell? ⟨ga, 1, none⟩ = some (.int .i64 (a.2 + l.2)) := HR8.out.cell (k := 1) (by decide)
                go_upto_region 16 with fail
                generalize R.take j = R' at *
                subst hlj
                go_wp2_with (first | (at_builtin; refine append_atL tyN encM_ok rfl rfl rfl rfl (xs := R') (ys := [(a.1 + l.1, a.2 + l.2)]) (World.ownsRow.alloc HO8.out _) (litL_range (en := encM) _ (a.1 + l.1, a.2 + l.2) _) HRS.out (HL8.out.alloc HL8.out.size _) (by simp; have := HL8.out.size; omega) ?_; intro v9 w9 ho9 hb9 hB9 hgr9 hat9))
                obtain ⟨g9, c9, rfl⟩ := ownM_form ho9 (by simp)
                clear hgr9 hat9
                go_roundw
                case rel => exact ⟨k + 1, g9, c9, by omega, by go_num, by rw [HE.out], by rw [HE.out]; exact ho9, hb9, hB9⟩
                case measure => simp [intOf]; omega
              · have pb : (l.2.tdiv lg == a.2.tdiv ug) = false := beq_eq_false_iff_ne.2 p2
                have hdn := of_decide_eq_false (HD.out false (by rw [pb, Bool.and_false]))
                have HE : Aside (tidyM (xs.take (k + 1)) = R ++ [a]) := (show _ = _ from by rw [HN.out]; exact joinM_other H0.out HLJ.out HJ.out hdn)
                clear hdn HD
                go_wp2_with fail
                go_quiet (fail)
                have HO7 : Aside (OwnL encM 2 (w6.drewN nq) w.heap.size 45 (.slice (some ⟨g, 0, none⟩) R.length c) R) := (show OwnL _ _ _ _ _ _ _ from HO6.out)
                have HR7 := Lib.hid (HR6.out.drew nq)
                have HL7 := Lib.hid (below_drewN HL6.out nq)
                replace e0 : (w6.drewN nq).cell? ⟨ga, 0, none⟩ = some (.int .i64 a.1) := e0
                replace e1 : (w6.drewN nq).cell? ⟨ga, 1, none⟩ = some (.int .i64 a.2) := e1
                replace k0 : (w6.drewN nq).cell? ⟨g, j * 2, none⟩ = some (.int .i64 l.1) := k0
                replace k1 : (w6.drewN nq).cell? ⟨g, j * 2 + 1, none⟩ = some (.int .i64 l.2) := k1
                clear HO6 HR6 HL6
                generalize w6.drewN nq = w7 at *
                go_wp2_with (first | (at_builtin; refine append_atL tyN encM_ok rfl rfl rfl rfl (xs := R) (ys := [a]) (World.ownsRow.alloc HO7.out _) (litL_range (en := encM) _ a _) HRN.out (HL7.out.alloc HL7.out.size _) (by simp; have := HL7.out.size; omega) ?_; intro v8 w8 ho8 hb8 hB8 hgr8 hat8))
                obtain ⟨g8, c8, rfl⟩ := ownM_form ho8 (by simp)
                clear hgr8 hat8
                go_roundw
                case rel => exact ⟨k + 1, g8, c8, by omega, by go_num, by rw [HE.out], by rw [HE.out]; exact ho8, hb8, hB8⟩
                case measure => simp [intOf]; omega
            · have pb : (l.1.tdiv lg == a.1.tdiv ug) = false := beq_eq_false_iff_ne.2 p1
              have hdn := of_decide_eq_false (HD.out false (by rw [pb]; rfl))
              have HE : Aside (tidyM (xs.take (k + 1)) = R ++ [a]) := (show _ = _ from by rw [HN.out]; exact joinM_other H0.out HLJ.out HJ.out hdn)
              clear hdn HD
              go_wp2_with fail
              go_quiet (fail)
              have HO7 : Aside (OwnL encM 2 (w6.drewN nq) w.heap.size 45 (.slice (some ⟨g, 0, none⟩) R.length c) R) := (show OwnL _ _ _ _ _ _ _ from HO6.out)
              have HR7 := Lib.hid (HR6.out.drew nq)
              have HL7 := Lib.hid (below_drewN HL6.out nq)
              replace e0 : (w6.drewN nq).cell? ⟨ga, 0, none⟩ = some (.int .i64 a.1) := e0
              replace e1 : (w6.drewN nq).cell? ⟨ga, 1, none⟩ = some (.int .i64 a.2) := e1
              replace k0 : (w6.drewN nq).cell? ⟨g, j * 2, none⟩ = some (.int .i64 l.1) := k0
              replace k1 : (w6.drewN nq).cell? ⟨g, j * 2 + 1, none⟩ = some (.int .i64 l.2) := k1
              clear HO6 HR6 HL6
              generalize w6.drewN nq = w7 at *
              go_wp2_with (first | (at_builtin; refine append_atL tyN encM_ok rfl rfl rfl rfl (xs := R) (ys := [a]) (World.ownsRow.alloc HO7.out _) (litL_range (en := encM) _ a _) HRN.out (HL7.out.alloc HL7.out.size _) (by simp; have := HL7.out.size; omega) ?_; intro v8 w8 ho8 hb8 hB8 hgr8 hat8))
              obtain ⟨g8, c8, rfl⟩ := ownM_form ho8 (by simp)
              clear hgr8 hat8
              go_roundw
              case rel => exact ⟨k + 1, g8, c8, by omega, by go_num, by rw [HE.out], by rw [HE.out]; exact ho8, hb8, hB8⟩
              case measure => simp [intOf]; omega
      · obtain rfl : k = xs.length := by omega
        rw [List.take_length] at hO
        have T := specMoves_any _ _ _ (ownL_reads hO)
        have HO := Lib.hid hO
        have HL := Lib.hid hbel
        have HB := Lib.hid hB
        clear hO hbel hB
        have hres := HRES.out _ rfl
        rw [List.take_length]
        generalize tidyM xs = ps at *
        cases hq : mvB ps with
        | true =>
          rw [hq] at T hres
          rw [if_pos rfl] at hres
          subst hres
          go_wp2_with fail
          refine T.mono ?_; rintro e w4 ⟨rfl, rfl⟩
          clear T
          go_wp2_with fail
          go_ret2
          exact ⟨HL.out, _, rfl, HO.out⟩
        | false =>
          rw [hq] at T hres
          rw [if_neg (by decide)] at hres
          subst hres
          go_wp2_with fail
          refine T.mono ?_; rintro e w4 ⟨rfl, rfl⟩
          clear T
          go_wp2_with fail
          go_ret2
          exact ⟨HL.out.alloc HB.out _, _, rfl, ownM_nil _ _ _ HB.out⟩
end Go.Proofs.Ytnidiikcnplebaa
/- spec: how far two paths are from each other. -/
namespace Go.Proofs.Ytnidiikcnplebaa
set_option maxRecDepth 20000
open Go.ChangeShapes Go.WideShapes Go.ChangeAt Go.RowKit
set_option linter.unusedVariables false
set_option linter.unusedSimpArgs false

theorem mor_iv (x y : Nat) : ivS (morW x y) = max (ivS x) (ivS y) := by unfold morW; split <;> omega
theorem sg_pos {x : Nat} (h : 0 < ivS x) : sgS x = false := by
  unfold ivS at h
  cases hs : sgS x with
  | false => rfl
  | true => rw [hs] at h; simp only [sgnd, if_true] at h; omega
theorem mor_sg {x y V : Nat} (hx : FS x false V) (hy : finS y = true) : sgS (morW x y) = false := by
  have h1 := fs_iv hx
  have h2 := (fs_fin hx).2.1
  simp only [sgnd, Bool.false_eq_true, if_false] at h1
  unfold morW
  split
  · exact sg_pos (by omega)
  · exact h2
/-- What the model's five comparisons come to. -/
theorem far_step {f x y n1 n2 V : Nat} (hf : FS f false V) (hx : finS x = true) (hy : finS y = true) (h1 : finS n1 = true) (h2 : finS n2 = true) (e1 : ivS n1 = - ivS x) (e2 : ivS n2 = - ivS y) :
    FS (morW (morW f x) (morW y (morW n1 n2))) false (max V (max (ivS x).natAbs (ivS y).natAbs)) := by
  have a1 := mor_fin (fs_fin hf).1 hx
  have a2 := mor_fin hy (mor_fin h1 h2)
  have a3 := mor_fin a1 a2
  have s1 := mor_sg hf hx
  have b1 := fin_fs a1
  rw [s1] at b1
  have s3 := mor_sg b1 a2
  have hv := fs_iv hf
  simp only [sgnd, Bool.false_eq_true, if_false] at hv
  have hs := sz_iv (morW (morW f x) (morW y (morW n1 n2)))
  rw [mor_iv, mor_iv, mor_iv, mor_iv, hv, e1, e2] at hs
  have h := fin_fs a3
  rw [s3] at h
  rw [show max V (max (ivS x).natAbs (ivS y).natAbs) = szS (morW (morW f x) (morW y (morW n1 n2))) by rw [← hs]; omega]
  exact h
set_option maxHeartbeats 2000000 in
theorem specPathFar_any (v v2 : Value) (xs ys : List Pn) (w : World) (hv : ReadsL encC w v xs) (hv2 : ReadsL encC w v2 ys) : Calls Try.prog 48 #[v, v2] w (ToldF xs ys w) := by
  have C1 := specPathValid_any v xs w hv
  have C2 := specPathValid_any v2 ys w hv2
  obtain ⟨p, cap, rfl, hc1, hc2, hp0, hp⟩ := hv
  obtain ⟨p2, cap2, rfl, hd1, hd2, hq0, hq⟩ := hv2
  simp only [maxLen] at hc2 hd2
  cases h1 : pvB xs with
  | false =>
    rw [h1] at C1
    unfold ToldF
    have HF := Lib.hid (farB_1 (ys := ys) h1)
    rw [HF.out]
    clear C2 h1 hp hq
    go_enter Try.func48, Try.ntmps48
    go_wp2_with fail
    refine C1.mono ?_; rintro e w2 ⟨rfl, rfl⟩
    clear C1
    go_wp2_with fail
    go_ret2
    exact ⟨0, rfl, farR_no HF.out, Below.refl _ _⟩
  | true =>
    rw [h1] at C1
    cases h2 : pvB ys with
    | false =>
      rw [h2] at C2
      unfold ToldF
      have HF := Lib.hid (farB_2 (xs := xs) h2)
      rw [HF.out]
      clear h1 h2 hp hq
      go_enter Try.func48, Try.ntmps48
      go_wp2_with fail
      refine C1.mono ?_; rintro e w2 ⟨rfl, rfl⟩
      clear C1
      go_wp2_with fail
      refine C2.mono ?_; rintro e w3 ⟨rfl, rfl⟩
      clear C2
      go_wp2_with fail
      go_ret2
      exact ⟨0, rfl, farR_no HF.out, Below.refl _ _⟩
    | true =>
      rw [h2] at C2
      have k1 := (pvB_parts h1).2.1
      have k2 := (pvB_parts h2).2.1
      by_cases h3 : xs.length = ys.length
      · have HF := Lib.hid (farB_yes h1 h2 h3)
        unfold ToldF
        rw [HF.out]
        have h3z : (xs.length : Int) = (ys.length : Int) := by omega
        have HX : Aside (∀ a ∈ xs, ptR a = true) := (show ∀ a ∈ xs, ptR a = true from (pvB_parts h1).2.2)
        have HY : Aside (∀ a ∈ ys, ptR a = true) := (show ∀ a ∈ ys, ptR a = true from (pvB_parts h2).2.2)
        have HP := Lib.hid hp
        have HQ := Lib.hid hq
        have HL := Lib.hid h3
        clear h1 h2 hp hq
        obtain ⟨n, hn⟩ : ∃ n, ys.length = n := ⟨_, rfl⟩
        have HN := Lib.hid hn
        rw [hn] at h3 h3z hd1 k2 C2 ⊢
        clear hn
        subst h3
        clear h3z
        go_enter Try.func48, Try.ntmps48
        go_wp2_with fail
        refine C1.mono ?_; rintro e w2 ⟨rfl, rfl⟩
        clear C1
        go_wp2_with fail
        refine C2.mono ?_; rintro e w3 ⟨rfl, rfl⟩
        clear C2
        go_wp2_with fail
        go_loopw [6, 7] (fun f i wr => ∃ (k r m : Nat), k ≤ xs.length ∧ i = .int .i64 k ∧ f = .float .f32 r ∧ FS r false (((xs.zip ys).take k).foldl farM 0) ∧ wr = w.drewN m) (fun _ i _ => xs.length - (intOf i).toNat)
        case atStart => exact ⟨0, 0, 0, Nat.zero_le _, rfl, rfl, fs_zero, rfl⟩
        case round =>
          obtain ⟨k, r, m, hk, rfl, rfl, hr, rfl⟩ := hrel
          by_cases hlt : k < xs.length
          · have hkz : (k : Int) < (xs.length : Int) := by omega
            have hk0 : (0 : Int) ≤ (k : Int) := by omega
            obtain ⟨a, ha⟩ : ∃ a, xs[k]? = some a := ⟨_, List.getElem?_eq_getElem hlt⟩
            obtain ⟨b, hb⟩ : ∃ b, ys[k]? = some b := ⟨_, List.getElem?_eq_getElem (by rw [HN.out]; exact hlt)⟩
            obtain ⟨g, o, rfl, hg, hrg⟩ := HP.out (by rintro rfl; have := hp0 rfl; omega)
            obtain ⟨g2, o2, rfl, hg2, hrg2⟩ := HQ.out (by rintro rfl; have := hq0 rfl; omega)
            have c1 := pt_cell hrg ha
            have c2 := pt_cell hrg2 hb
            have ia := ptR_parts (HX.out a (List.mem_of_getElem? ha))
            have ib := ptR_parts (HY.out b (List.mem_of_getElem? hb))
            obtain ⟨d1, e1, f1, v1⟩ := sub_in ia.1 ib.1
            obtain ⟨d2, e2, f2, v2⟩ := sub_in ia.2 ib.2
            obtain ⟨n1, g1, m1, u1⟩ := neg_in f1
            obtain ⟨n2, g2', m2, u2⟩ := neg_in f2
            have R := fun t w => run_csub (P := Try.prog) e1 e2 t w
            have R1 : ∀ t w, (binOp .sub t (.float .f32 0) (.float .f32 d1)).run Try.prog w = .ok (.float .f32 n1) w := fun t w => run_float_arith w .sub t .f32 _ _ _ g1
            have R2 : ∀ t w, (binOp .sub t (.float .f32 0) (.float .f32 d2)).run Try.prog w = .ok (.float .f32 n2) w := fun t w => run_float_arith w .sub t .f32 _ _ _ g2'
            have fr := (fs_fin hr).1
            have M1 := fun w => specMore_any r d1 fr f1 w
            have M2 := fun w => specMore_any n1 n2 m1 m2 w
            have M3 := fun w => specMore_any d2 (morW n1 n2) f2 (mor_fin m1 m2) w
            have M4 := fun w => specMore_any (morW r d1) (morW d2 (morW n1 n2)) (mor_fin fr f1) (mor_fin f2 (mor_fin m1 m2)) w
            have hz := zip_at ha hb
            have hN := foldl_next farM 0 hz
            have hst := far_step hr f1 f2 m1 m2 u1 u2
            rw [v1, v2] at hst
            have HS : Aside (FS (morW (morW r d1) (morW d2 (morW n1 n2))) false (((xs.zip ys).take (k + 1)).foldl farM 0)) := (show FS _ _ _ from by rw [hN]; exact hst)
            clear ia ib e1 e2 f1 f2 v1 v2 ha hb hrg hrg2 hr hz hN hst g1 g2' u1 u2 m1 m2 fr
            unfold cs at c1 c2
            generalize morW r d1 = x1 at *
            generalize morW n1 n2 = x2 at *
            generalize morW d2 x2 = x3 at *
            generalize morW x1 x3 = x4 at *
            go_wp2_with fail
            go_quiet (first | rw [R])
            clear R c1 c2
            go_wp2_with fail
            refine (M1 _).mono ?_; rintro e w2 ⟨rfl, rfl⟩
            go_wp2_with (first | rw [R1] | rw [R2])
            refine (M2 _).mono ?_; rintro e w2 ⟨rfl, rfl⟩
            go_wp2_with fail
            refine (M3 _).mono ?_; rintro e w2 ⟨rfl, rfl⟩
            go_wp2_with fail
            refine (M4 _).mono ?_; rintro e w2 ⟨rfl, rfl⟩
            go_wp2_with fail
            go_roundw
            case rel => exact ⟨k + 1, x4, _, by omega, by go_num, rfl, HS.out, rfl⟩
            case measure => simp [intOf]; omega
          · obtain rfl : k = xs.length := by omega
            have HR := Lib.hid hr
            clear hr
            go_wp2
            go_ret2
            have h := HR.out
            rw [List.take_of_length_le (by rw [zip_len HL.out]; exact Nat.le_refl _)] at h
            exact ⟨r, rfl, by rw [farR_yes HF.out]; exact h, below_drewN (Below.refl _ _) m⟩
      · have HF := Lib.hid (farB_3 h3)
        unfold ToldF
        rw [HF.out]
        have h3z : ¬ (xs.length : Int) = (ys.length : Int) := by omega
        have h3b : ((xs.length : Int) == (ys.length : Int)) = false := beq_eq_false_iff_ne.2 h3z
        clear h1 h2 hp hq
        go_enter Try.func48, Try.ntmps48
        go_wp2_with fail
        refine C1.mono ?_; rintro e w2 ⟨rfl, rfl⟩
        clear C1
        go_wp2_with fail
        refine C2.mono ?_; rintro e w3 ⟨rfl, rfl⟩
        clear C2
        go_wp2_with fail
        go_ret2
        exact ⟨0, rfl, farR_no HF.out, Below.refl _ _⟩
end Go.Proofs.Ytnidiikcnplebaa
