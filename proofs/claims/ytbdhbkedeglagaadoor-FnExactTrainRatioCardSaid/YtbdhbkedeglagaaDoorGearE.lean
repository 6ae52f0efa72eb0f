/-
  impl: the first pair with a ratio; TrainFind.
-/
import Derived.Test.YtbdhbkedeglagaaDoorGearD
namespace Go.Proofs.YtbdhbkedeglagaaDoor
set_option maxRecDepth 20000
open Go.ChangeShapes Go.WideShapes Go.ChangeAt Go.RowKit
set_option linter.unusedVariables false
set_option linter.unusedSimpArgs false

/-- errors.As at a variable that was made ahead of it. -/
theorem as_made (t m : Int) (w : World) (hg : TypeAt w) :
    Calls Tryd.prog 35 #[misV t m, .iface 63 (.pointer (some ⟨w.heap.size, 0, none⟩))] (w.alloc (.cells #[.int .i64 0, .int .i64 0] 61)) fun e w' =>
      e = .returned (.bool true) ∧ Below w.heap.size w w' ∧ LieAt w' w.heap.size [.int .i64 t, .int .i64 m] := by
  have hl := LieAt.new w [.int .i64 0, .int .i64 0] 61
  have hb := one_lies w (.cells #[.int .i64 0, .int .i64 0] 61)
  refine (as_hit w.heap.size t m (w.alloc (.cells #[.int .i64 0, .int .i64 0] 61)) (hg.below hb).2 (by simp) hl.2).mono ?_
  rintro e w' ⟨rfl, rfl⟩
  unfold asWorld
  have up : ∀ (W : World) (o : Obj), Below w.heap.size w W → LieAt W w.heap.size [.int .i64 0, .int .i64 0] → Below w.heap.size w (W.alloc o) ∧ LieAt (W.alloc o) w.heap.size [.int .i64 0, .int .i64 0] := fun W o h1 h2 =>
    ⟨h1.alloc h1.size o, h2.below (World.block_lt_of_cell? W _ (h2.cell 0 rfl)) (one_lies W o)⟩
  obtain ⟨a1, a2⟩ := up _ (.cells #[.pointer (some ⟨w.heap.size, 0, none⟩)] 63) hb hl
  obtain ⟨b1, b2⟩ := up _ (.cells #[hdl 63, .pointer (some ⟨(w.alloc (.cells #[.int .i64 0, .int .i64 0] 61)).heap.size, 0, none⟩), .int .u64 150] 69) a1 a2
  obtain ⟨c1, c2⟩ := up _ (.cells #[hdl 63, .pointer (some ⟨(w.alloc (.cells #[.int .i64 0, .int .i64 0] 61)).heap.size, 0, none⟩), .int .u64 150] 69) b1 b2
  obtain ⟨d1, d2⟩ := up _ (.cells #[.int .i64 t, .int .i64 m] 61) c1 c2
  exact ⟨rfl, below_cells d1 (Nat.le_refl _) _, d2.put _ rfl⟩

theorem fit_list (t b : Nat) (n : Nat) : ∀ x ∈ [((n * t : Nat) : Int), ((n * b : Nat) : Int)], x = ((n * t : Nat) : Int) ∨ x = ((n * b : Nat) : Int) := fun x hx => by
  simpa using hx
theorem mis_fit {t b n : Nat} (h : fitP t b n = true) : misO [((n * t : Nat) : Int), ((n * b : Nat) : Int)] = .nilIface := misO_none fun x hx => by
  unfold fitP at h
  rw [Bool.and_eq_true] at h
  rcases fit_list t b n x hx with rfl | rfl
  · exact h.1
  · exact h.2
theorem mis_first {t b n : Nat} (h : gearB ((n * t : Nat) : Int) = false) : misO [((n * t : Nat) : Int), ((n * b : Nat) : Int)] = misV ((n * t : Nat) : Int) 240 :=
  misO_some (k := 0) (fun j y hj => absurd hj (Nat.not_lt_zero j)) rfl h
theorem mis_second {t b n : Nat} (h1 : gearB ((n * t : Nat) : Int) = true) (h : gearB ((n * b : Nat) : Int) = false) : misO [((n * t : Nat) : Int), ((n * b : Nat) : Int)] = misV ((n * b : Nat) : Int) 240 :=
  misO_some (k := 1) (fun j y hj hy => by
    obtain rfl : j = 0 := by omega
    simp only [List.getElem?_cons_zero, Option.some.injEq] at hy
    rw [← hy]; exact h1) rfl h

theorem lit_two (w : World) (B : Nat) (x y : Int) (hB : B ≤ w.heap.size) : OwnL encI 1 (w.alloc (.cells #[.int .i64 x, .int .i64 y] 3)) B 3 (.slice (some ⟨w.heap.size, 0, none⟩) 2 2) [x, y] := by
  show World.ownsRow _ _ _ _ _ _ _
  refine ⟨by rw [flt_ints]; simp, .inr ⟨w.heap.size, 2, _, rfl, hB, heap_alloc_new _ _, by simp, by simp [maxLen], by simp, ?_⟩⟩
  rw [flt_ints]; simp

set_option maxHeartbeats 4000000 in
theorem firstPair_any (t b : Nat) (ht : 1 ≤ t ∧ t ≤ 1000) (hb : 1 ≤ b ∧ b ≤ 1000) (w : World) (hG : TypeAt w) :
    Calls Tryd.prog 31 #[ratV (t : Nat) (b : Nat)] w (ToldI w ((frst (fitP t b) 241).map fun n => [((n * t : Nat) : Int), ((n * b : Nat) : Int)])) := by
  obtain ⟨r, hr⟩ : ∃ r, frst (fitP t b) 241 = r := ⟨_, rfl⟩
  have HR := Lib.hid hr
  rw [hr]
  clear hr
  have hQ := LieAt.new w [.int .i64 (t : Nat), .int .i64 (b : Nat)] 43
  have hL := one_lies w (.cells #[.int .i64 (t : Nat), .int .i64 (b : Nat)] 43)
  have hsz : w.heap.size < (w.alloc (.cells #[.int .i64 (t : Nat), .int .i64 (b : Nat)] 43)).heap.size := by simp
  unfold ratV
  go_enter Tryd.func31, Tryd.ntmps31
  go_wp2
  show Code.wp _ _ _ _ (w.alloc (.cells #[.int .i64 (t : Nat), .int .i64 (b : Nat)] 43))
  generalize (w.alloc (.cells #[.int .i64 (t : Nat), .int .i64 (b : Nat)] 43)) = W at *
  go_loopw [4, 5, 6, 7] (fun n _ _ _ wr => ∃ k : Nat, 1 ≤ k ∧ k ≤ 6 ∧ n = .int .i64 k ∧ Aside (∀ m, m < k → fitP t b m = false) ∧ LieAt wr w.heap.size [.int .i64 (t : Nat), .int .i64 (b : Nat)] ∧ Below w.heap.size w wr ∧ w.heap.size < wr.heap.size) (fun n _ _ _ _ => 7 - (intOf n).toNat)
  case atStart => exact ⟨1, by omega, by omega, rfl, Lib.hid (fun m hm => by obtain rfl : m = 0 := by omega
                                                                             exact fit_zero t b), hQ, hL, hsz⟩
  case round =>
    clear hQ hL hsz
    obtain ⟨k, hk1, hk6, rfl, HNO, hQ, hL, hsz⟩ := hrel
    have hG2 : TypeAt wr := ⟨by have := hG.1; omega, (hL.cell (p := ⟨2, 0, none⟩) hG.1).trans hG.2⟩
    have t0 := hQ.cell 0 rfl
    have t1 := hQ.cell 1 rfl
    have xb := Nat.mul_le_mul hk6 ht.2
    have yb := Nat.mul_le_mul hk6 hb.2
    have xk := Nat.mul_le_mul (Nat.le_refl k) ht.1
    have yk := Nat.mul_le_mul (Nat.le_refl k) hb.1
    obtain ⟨x, hx⟩ : ∃ x, k * t = x := ⟨_, rfl⟩
    obtain ⟨y, hy⟩ : ∃ y, k * b = y := ⟨_, rfl⟩
    have q1 : (k : Int) * (t : Int) = (x : Int) := by rw [← hx, Int.natCast_mul]
    have q2 : (k : Int) * (b : Int) = (y : Int) := by rw [← hy, Int.natCast_mul]
    rw [hx] at xb xk
    rw [hy] at yb yk
    rw [Nat.mul_one] at xk yk
    have q3 : IntKind.i64.wrap (x : Int) = (x : Int) := by rw [IntKind.wrap_i64]; omega
    have q4 : IntKind.i64.wrap (y : Int) = (y : Int) := by rw [IntKind.wrap_i64]; omega
    have F := fun v w (h : ReadsL encI w v [(x : Int), (y : Int)]) => fits_list v [(x : Int), (y : Int)] w h (by simp) (by simp) (by simp)
    have hP := ownL_reads (lit_two wr wr.heap.size (x : Int) (y : Int) (Nat.le_refl _))
    have HFIT : Aside (fitP t b k = (gearB (x : Int) && gearB (y : Int))) := (show _ = _ from by unfold fitP; rw [hx, hy])
    have HMF := Lib.hid (mis_first (t := t) (b := b) (n := k))
    have HMS := Lib.hid (mis_second (t := t) (b := b) (n := k))
    have HMY := Lib.hid (mis_fit (t := t) (b := b) (n := k))
    rw [hx, hy] at HMF HMS HMY
    have HX := Lib.hid hx
    have HY := Lib.hid hy
    clear hx hy
    cases hgx : gearB (x : Int) with
    | true =>
      cases hgy : gearB (y : Int) with
      | true =>
        have HF1 : Aside (fitP t b k = true) := (show _ = _ from by rw [HFIT.out, hgx, hgy]; rfl)
        have HM := Lib.hid (HMY.out HF1.out)
        have HSOME : Aside (r = some k) := (show _ = _ from by rw [← HR.out]; exact frst_yes HNO.out HF1.out (fit_small ht.1 HF1.out))
        clear HMF HMS HMY hgx hgy
        have HO := Lib.hid (lit_two wr w.heap.size (x : Int) (y : Int) (by omega))
        go_wp2_with fail
        refine (F _ _ hP).mono ?_; rintro e w1 ⟨rfl, rfl⟩
        rw [HM.out]
        go_wp2
        go_ret2
        rw [HSOME.out]
        simp only [Option.map_some]
        rw [HX.out, HY.out]
        exact ⟨hL.alloc (by omega) _, _, rfl, HO.out⟩
      | false =>
        have HF0 : Aside (fitP t b k = false) := (show _ = _ from by rw [HFIT.out, hgx, hgy]; rfl)
        have HM := Lib.hid (HMS.out hgx hgy)
        have hn := gearB_false.1 hgy
        clear HMF HMS HMY hgx hgy
        by_cases h6 : y < 6
        · have HK1 : Aside (k ≤ 5) := (show _ ≤ _ from by omega)
          clear xb yb xk yk
          go_wp2_with fail
          refine (F _ _ hP).mono ?_; rintro e w1 ⟨rfl, rfl⟩
          rw [HM.out]
          unfold misV
          go_upto_region 8 with fail
          show Code.wp _ _ _ _ ((wr.alloc (.cells #[.int .i64 (x : Nat), .int .i64 (y : Nat)] 3)).alloc (.cells #[.int .i64 0, .int .i64 0] 61))
          have A := as_made (y : Nat) 240 (wr.alloc (.cells #[.int .i64 (x : Nat), .int .i64 (y : Nat)] 3)) (hG2.below (one_lies _ _))
          have e1 : (wr.alloc (.cells #[.int .i64 (x : Nat), .int .i64 (y : Nat)] 3)).heap.size = wr.heap.size + 1 := by simp
          rw [e1] at A
          obtain ⟨gm, hgm⟩ : ∃ gm, wr.heap.size + 1 = gm := ⟨_, rfl⟩
          rw [hgm] at A ⊢
          unfold misV at A
          replace A := Lib.hid A
          clear e1
          generalize ((wr.alloc (.cells #[.int .i64 (x : Nat), .int .i64 (y : Nat)] 3)).alloc (.cells #[.int .i64 0, .int .i64 0] 61)) = W2 at *
          go_wp2_with fail
          refine A.out.mono ?_; rintro e w2 ⟨rfl, hb2, hM2⟩
          have c0 := hM2.cell 0 rfl
          have c1 := hM2.cell 1 rfl
          have FW := Lib.hid (few_any (y : Nat) 240 w2)
          have HBW := Lib.hid ((one_lies wr (.cells #[.int .i64 (x : Nat), .int .i64 (y : Nat)] 3)).trans (hb2.mono (by omega)))
          clear A hb2 hM2
          go_wp2_with fail
          refine FW.out.mono ?_; rintro e w3 ⟨rfl, hb3⟩
          have HB3 := Lib.hid (HBW.out.trans (hb3.mono HBW.out.size))
          clear FW hb3 c0 c1
          have hf : decide (((y : Nat) : Int) < 6) = true := decide_eq_true (by omega)
          rw [hf]
          go_wp2
          go_roundw
          case rel => exact ⟨k + 1, by omega, by have := HK1.out; omega, by go_num, Lib.hid (fun m hm => by
              by_cases e : m = k
              · subst e; exact HF0.out
              · exact HNO.out m (by omega)), hQ.below (by omega) HB3.out, hL.trans (HB3.out.mono (by omega)), by have := HB3.out.size; omega⟩
          case measure => simp [intOf]; omega
        · have HNONE : Aside (r = none) := (show _ = _ from by
            rw [← HR.out]
            refine frst_no fun m _ => ?_
            by_cases e : m < k
            · exact HNO.out m e
            · exact fit_beyond (n := k) (.inr (by rw [HY.out]; omega)) (by omega))
          go_wp2_with fail
          refine (F _ _ hP).mono ?_; rintro e w1 ⟨rfl, rfl⟩
          rw [HM.out]
          unfold misV
          go_upto_region 8 with fail
          show Code.wp _ _ _ _ ((wr.alloc (.cells #[.int .i64 (x : Nat), .int .i64 (y : Nat)] 3)).alloc (.cells #[.int .i64 0, .int .i64 0] 61))
          have A := as_made (y : Nat) 240 (wr.alloc (.cells #[.int .i64 (x : Nat), .int .i64 (y : Nat)] 3)) (hG2.below (one_lies _ _))
          have e1 : (wr.alloc (.cells #[.int .i64 (x : Nat), .int .i64 (y : Nat)] 3)).heap.size = wr.heap.size + 1 := by simp
          rw [e1] at A
          obtain ⟨gm, hgm⟩ : ∃ gm, wr.heap.size + 1 = gm := ⟨_, rfl⟩
          rw [hgm] at A ⊢
          unfold misV at A
          replace A := Lib.hid A
          clear e1
          generalize ((wr.alloc (.cells #[.int .i64 (x : Nat), .int .i64 (y : Nat)] 3)).alloc (.cells #[.int .i64 0, .int .i64 0] 61)) = W2 at *
          go_wp2_with fail
          refine A.out.mono ?_; rintro e w2 ⟨rfl, hb2, hM2⟩
          have c0 := hM2.cell 0 rfl
          have c1 := hM2.cell 1 rfl
          have FW := Lib.hid (few_any (y : Nat) 240 w2)
          have HBW := Lib.hid ((one_lies wr (.cells #[.int .i64 (x : Nat), .int .i64 (y : Nat)] 3)).trans (hb2.mono (by omega)))
          clear A hb2 hM2
          go_wp2_with fail
          refine FW.out.mono ?_; rintro e w3 ⟨rfl, hb3⟩
          have HB3 := Lib.hid (HBW.out.trans (hb3.mono HBW.out.size))
          clear FW hb3 c0 c1
          have hf : decide (((y : Nat) : Int) < 6) = false := decide_eq_false (by omega)
          rw [hf]
          go_wp2
          go_ret2
          rw [HNONE.out]
          exact ⟨hL.trans (HB3.out.mono (by omega)), _, rfl, World.ownsRow_nil _ _ _ _⟩
    | false =>
      have HF0 : Aside (fitP t b k = false) := (show _ = _ from by rw [HFIT.out, hgx]; rfl)
      have HM := Lib.hid (HMF.out hgx)
      have hn := gearB_false.1 hgx
      clear HMF HMS HMY hgx
      by_cases h6 : x < 6
      · have HK1 : Aside (k ≤ 5) := (show _ ≤ _ from by omega)
        clear xb yb xk yk
        go_wp2_with fail
        refine (F _ _ hP).mono ?_; rintro e w1 ⟨rfl, rfl⟩
        rw [HM.out]
        unfold misV
        go_upto_region 8 with fail
        show Code.wp _ _ _ _ ((wr.alloc (.cells #[.int .i64 (x : Nat), .int .i64 (y : Nat)] 3)).alloc (.cells #[.int .i64 0, .int .i64 0] 61))
        have A := as_made (x : Nat) 240 (wr.alloc (.cells #[.int .i64 (x : Nat), .int .i64 (y : Nat)] 3)) (hG2.below (one_lies _ _))
        have e1 : (wr.alloc (.cells #[.int .i64 (x : Nat), .int .i64 (y : Nat)] 3)).heap.size = wr.heap.size + 1 := by simp
        rw [e1] at A
        obtain ⟨gm, hgm⟩ : ∃ gm, wr.heap.size + 1 = gm := ⟨_, rfl⟩
        rw [hgm] at A ⊢
        unfold misV at A
        replace A := Lib.hid A
        clear e1
        generalize ((wr.alloc (.cells #[.int .i64 (x : Nat), .int .i64 (y : Nat)] 3)).alloc (.cells #[.int .i64 0, .int .i64 0] 61)) = W2 at *
        go_wp2_with fail
        refine A.out.mono ?_; rintro e w2 ⟨rfl, hb2, hM2⟩
        have c0 := hM2.cell 0 rfl
        have c1 := hM2.cell 1 rfl
        have FW := Lib.hid (few_any (x : Nat) 240 w2)
        have HBW := Lib.hid ((one_lies wr (.cells #[.int .i64 (x : Nat), .int .i64 (y : Nat)] 3)).trans (hb2.mono (by omega)))
        clear A hb2 hM2
        go_wp2_with fail
        refine FW.out.mono ?_; rintro e w3 ⟨rfl, hb3⟩
        have HB3 := Lib.hid (HBW.out.trans (hb3.mono HBW.out.size))
        clear FW hb3 c0 c1
        have hf : decide (((x : Nat) : Int) < 6) = true := decide_eq_true (by omega)
        rw [hf]
        go_wp2
        go_roundw
        case rel => exact ⟨k + 1, by omega, by have := HK1.out; omega, by go_num, Lib.hid (fun m hm => by
            by_cases e : m = k
            · subst e; exact HF0.out
            · exact HNO.out m (by omega)), hQ.below (by omega) HB3.out, hL.trans (HB3.out.mono (by omega)), by have := HB3.out.size; omega⟩
        case measure => simp [intOf]; omega
      · have HNONE : Aside (r = none) := (show _ = _ from by
          rw [← HR.out]
          refine frst_no fun m _ => ?_
          by_cases e : m < k
          · exact HNO.out m e
          · exact fit_beyond (n := k) (.inl (by rw [HX.out]; omega)) (by omega))
        go_wp2_with fail
        refine (F _ _ hP).mono ?_; rintro e w1 ⟨rfl, rfl⟩
        rw [HM.out]
        unfold misV
        go_upto_region 8 with fail
        show Code.wp _ _ _ _ ((wr.alloc (.cells #[.int .i64 (x : Nat), .int .i64 (y : Nat)] 3)).alloc (.cells #[.int .i64 0, .int .i64 0] 61))
        have A := as_made (x : Nat) 240 (wr.alloc (.cells #[.int .i64 (x : Nat), .int .i64 (y : Nat)] 3)) (hG2.below (one_lies _ _))
        have e1 : (wr.alloc (.cells #[.int .i64 (x : Nat), .int .i64 (y : Nat)] 3)).heap.size = wr.heap.size + 1 := by simp
        rw [e1] at A
        obtain ⟨gm, hgm⟩ : ∃ gm, wr.heap.size + 1 = gm := ⟨_, rfl⟩
        rw [hgm] at A ⊢
        unfold misV at A
        replace A := Lib.hid A
        clear e1
        generalize ((wr.alloc (.cells #[.int .i64 (x : Nat), .int .i64 (y : Nat)] 3)).alloc (.cells #[.int .i64 0, .int .i64 0] 61)) = W2 at *
        go_wp2_with fail
        refine A.out.mono ?_; rintro e w2 ⟨rfl, hb2, hM2⟩
        have c0 := hM2.cell 0 rfl
        have c1 := hM2.cell 1 rfl
        have FW := Lib.hid (few_any (x : Nat) 240 w2)
        have HBW := Lib.hid ((one_lies wr (.cells #[.int .i64 (x : Nat), .int .i64 (y : Nat)] 3)).trans (hb2.mono (by omega)))
        clear A hb2 hM2
        go_wp2_with fail
        refine FW.out.mono ?_; rintro e w3 ⟨rfl, hb3⟩
        have HB3 := Lib.hid (HBW.out.trans (hb3.mono HBW.out.size))
        clear FW hb3 c0 c1
        have hf : decide (((x : Nat) : Int) < 6) = false := decide_eq_false (by omega)
        rw [hf]
        go_wp2
        go_ret2
        rw [HNONE.out]
        exact ⟨hL.trans (HB3.out.mono (by omega)), _, rfl, World.ownsRow_nil _ _ _ _⟩

set_option maxHeartbeats 1000000 in
theorem TrainFind_any (a b : Int) (w : World) (hG : TypeAt w) : Calls Tryd.prog 16 #[.int .i64 a, .int .i64 b] w (ToldI w (findO a b)) := by
  cases ha : findB a with
  | false =>
    have e : findO a b = none := by unfold findO; rw [ha]; rfl
    have hn : a < 1 ∨ 1000 < a := by
      have : ¬ (1 ≤ a ∧ a ≤ 1000) := fun h => by rw [findB_true.2 h] at ha; cases ha
      omega
    rw [e]
    clear ha e
    by_cases h1 : a < 1
    · clear hn
      go_enter Tryd.func16, Tryd.ntmps16
      go_wp2
      go_ret2
      exact ⟨Below.refl _ _, _, rfl, World.ownsRow_nil _ _ _ _⟩
    · have h2 : 1000 < a := by omega
      clear hn
      go_enter Tryd.func16, Tryd.ntmps16
      go_wp2
      go_ret2
      exact ⟨Below.refl _ _, _, rfl, World.ownsRow_nil _ _ _ _⟩
  | true =>
    obtain ⟨a1, a2⟩ := findB_true.1 ha
    cases hb : findB b with
    | false =>
      have e : findO a b = none := by unfold findO; rw [hb, Bool.and_false]; rfl
      have hn : b < 1 ∨ 1000 < b := by
        have : ¬ (1 ≤ b ∧ b ≤ 1000) := fun h => by rw [findB_true.2 h] at hb; cases hb
        omega
      rw [e]
      clear ha hb e
      by_cases h1 : b < 1
      · clear hn
        go_enter Tryd.func16, Tryd.ntmps16
        go_wp2
        go_ret2
        exact ⟨Below.refl _ _, _, rfl, World.ownsRow_nil _ _ _ _⟩
      · have h2 : 1000 < b := by omega
        clear hn
        go_enter Tryd.func16, Tryd.ntmps16
        go_wp2
        go_ret2
        exact ⟨Below.refl _ _, _, rfl, World.ownsRow_nil _ _ _ _⟩
    | true =>
      obtain ⟨b1, b2⟩ := findB_true.1 hb
      have e : findO a b = pairO a.toNat b.toNat := by unfold findO; rw [ha, hb]; rfl
      rw [e]
      obtain ⟨x, rfl⟩ : ∃ x : Nat, a = x := ⟨a.toNat, by omega⟩
      obtain ⟨y, rfl⟩ : ∃ y : Nat, b = y := ⟨b.toNat, by omega⟩
      rw [Int.toNat_natCast, Int.toNat_natCast]
      unfold pairO
      have hl := lowT_pos (a := x) (b := y) (by omega) (by omega)
      have L := lowest_any x y ⟨by omega, by omega⟩ ⟨by omega, by omega⟩ w
      generalize (lowT x y).1 = t at *
      generalize (lowT x y).2 = c at *
      have P := fun w (h : TypeAt w) => firstPair_any t c ⟨hl.1, by omega⟩ ⟨hl.2.1, by omega⟩ w h
      generalize (frst (fitP t c) 241).map (fun n => [((n * t : Nat) : Int), ((n * c : Nat) : Int)]) = o at *
      clear ha hb e hl
      go_enter Tryd.func16, Tryd.ntmps16
      go_wp2_with fail
      refine L.mono ?_; rintro e w1 ⟨rfl, hb1⟩
      have P1 := Lib.hid (P w1 (hG.below hb1))
      clear P L
      unfold ratV at *
      go_wp2_with fail
      refine P1.out.mono ?_; rintro e w2 ⟨hb2, v2, rfl, ho⟩
      have HB := Lib.hid (below_next hb1 hb2)
      have HO := Lib.hid (rows_mono ho hb1.size)
      clear P1 hb2 ho
      go_wp2
      go_ret2
      exact ⟨HB.out, _, rfl, HO.out⟩
end Go.Proofs.YtbdhbkedeglagaaDoor
