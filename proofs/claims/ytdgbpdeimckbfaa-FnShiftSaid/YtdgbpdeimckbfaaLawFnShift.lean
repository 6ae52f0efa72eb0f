/-
  The walk of the law FnShift.
-/
import Derived.Test.YtdgbpdeimckbfaaLawRowLoop
import Derived.Test.YtdgbpdeimckbfaaM32
import Derived.Test.YtdgbpdeimckbfaaM34
import Derived.Test.YtdgbpdeimckbfaaM31
namespace Go.Proofs.Ytdgbpdeimckbfaa
set_option maxRecDepth 20000
open Go.ChangeShapes Go.WideShapes Go.ChangeAt Go.RowKit
set_option linter.unusedVariables false
set_option linter.unusedSimpArgs false

set_option maxHeartbeats 8000000 in
theorem lawFnShift_walk (v : Value) (w : World) (h : CodeAt w v) : Calls Try.prog 8 #[v] w (Fine w) := by
  have D := Lib.hid (drawRowShift v w h)
  obtain ⟨pa, pn, pc, rfl, hpn⟩ := code_length h
  clear h
  by_cases hbig : 1048576 < pn
  · have hb : (1048576 : Int) < (pn : Int) := by omega
    go_enter Try.func8, Try.ntmps8
    go_wp2_with fail
    go_ret
    exact fine_same ⟨rfl, rfl⟩
  have hb : ¬ (1048576 : Int) < (pn : Int) := by omega
  go_enter Try.func8, Try.ntmps8
  go_wp2_with fail
  refine D.out.mono ?_; rintro e w1 ⟨v2, xs, n, rfl, hn0, hn1, hR, hL⟩
  clear D hb
  obtain ⟨pl, cl, rfl⟩ := readsL_form hR
  have T1 := RowShift_any _ n xs w1 hR
  have T2 := fun w (h : ReadsL encV w (.slice pl xs.length cl) xs) => specRowShift_any _ n xs w h
  cases hx : shO n xs with
  | none =>
    rw [hx] at T1 T2
    go_wp2_with fail
    refine (T1).mono ?_; rintro e w2 ⟨hb, vO, rfl, ho⟩
    replace hR := hR.below hb
    replace hL := below_next hL hb
    have hO : ReadsL encV w2 vO ([]) := ownL_reads ho
    clear hb ho
    go_wp2_with fail
    refine (T2 _ hR).mono ?_; rintro e w3 ⟨hb, vW, rfl, ho⟩
    replace hR := hR.below hb
    replace hO := hO.below hb
    replace hL := below_next hL hb
    have hW : ReadsL encV w3 vW ([]) := ownL_reads ho
    clear hb ho
    clear T1 T2
    go_wp2_with fail
    refine (sameC_self vO vW _ _ hO hW).mono ?_; rintro e w4 ⟨rfl, hb⟩
    replace hR := hR.below hb
    replace hO := hO.below hb
    replace hW := hW.below hb
    replace hL := below_next hL hb
    clear hb
    go_wp2_with fail
    refine (sameC_self vO vW _ _ hO hW).mono ?_; rintro e w5 ⟨rfl, hb⟩
    replace hR := hR.below hb
    replace hO := hO.below hb
    replace hW := hW.below hb
    replace hL := below_next hL hb
    clear hb
    go_wp2
    go_ret
    exact ⟨rfl, hL⟩
  | some R =>
    rw [hx] at T1 T2
    go_wp2_with fail
    refine (T1).mono ?_; rintro e w2 ⟨hb, vO, rfl, ho⟩
    replace hR := hR.below hb
    replace hL := below_next hL hb
    have hO : ReadsL encV w2 vO (R) := ownL_reads ho
    clear hb ho
    go_wp2_with fail
    refine (T2 _ hR).mono ?_; rintro e w3 ⟨hb, vW, rfl, ho⟩
    replace hR := hR.below hb
    replace hO := hO.below hb
    replace hL := below_next hL hb
    have hW : ReadsL encV w3 vW (R) := ownL_reads ho
    clear hb ho
    clear T1 T2
    go_wp2_with fail
    refine (sameC_self vO vW _ _ hO hW).mono ?_; rintro e w4 ⟨rfl, hb⟩
    replace hR := hR.below hb
    replace hO := hO.below hb
    replace hW := hW.below hb
    replace hL := below_next hL hb
    clear hb
    clear hW
    obtain ⟨hk, m, hm23, rfl, rfl⟩ := shO_some hx
    clear hx hn0 hn1
    obtain ⟨po, co, rfl⟩ := readsL_form hO
    obtain ⟨h1, -, h24⟩ := rowLen_in (rowOk_len hk)
    have hpos : (0 : Int) < (xs.length : Int) := by omega
    have hle : (((shL m xs).length : Int) == (xs.length : Int)) = true := by rw [shL_len]; simp
    have T3 := TransformOf_any _ xs w4 hR
    cases hA : trF xs with
    | none =>
      rw [hA] at T3
      go_wp2_with fail
      refine (T3).mono ?_; rintro e w5 ⟨hb, vA, rfl, ho⟩
      replace hR := hR.below hb
      replace hO := hO.below hb
      replace hL := below_next hL hb
      have hA0 : ReadsL encV w5 vA ([]) := ownL_reads ho
      clear hb ho
      clear T3
      have T4 := TransformOf_any _ (shL m xs) w5 hO
      generalize trF (shL m xs) = o2 at T4
      go_wp2_with fail
      refine (T4).mono ?_; rintro e w6 ⟨hb, vB, rfl, ho⟩
      replace hR := hR.below hb
      replace hO := hO.below hb
      replace hA0 := hA0.below hb
      replace hL := below_next hL hb
      have hB0 : ReadsL encV w6 vB (gotL o2) := ownL_reads ho
      clear hb ho
      clear T4
      go_wp2_with fail
      refine wp_loop_rounds 1 ?_
      rw [rounds_succ]
      go_wp2_with fail
      go_ret
      exact ⟨rfl, hL⟩
    | some A =>
      rw [hA] at T3
      go_wp2_with fail
      refine (T3).mono ?_; rintro e w5 ⟨hb, vA, rfl, ho⟩
      replace hR := hR.below hb
      replace hO := hO.below hb
      replace hL := below_next hL hb
      have hA0 : ReadsL encV w5 vA (A) := ownL_reads ho
      clear hb ho
      clear T3
      have T4 := TransformOf_any _ (shL m xs) w5 hO
      cases hB : trF (shL m xs) with
      | none =>
        rw [hB] at T4
        go_wp2_with fail
        refine (T4).mono ?_; rintro e w6 ⟨hb, vB, rfl, ho⟩
        replace hR := hR.below hb
        replace hO := hO.below hb
        replace hA0 := hA0.below hb
        replace hL := below_next hL hb
        have hB0 : ReadsL encV w6 vB ([]) := ownL_reads ho
        clear hb ho
        clear T4
        go_wp2_with fail
        refine wp_loop_rounds 1 ?_
        rw [rounds_succ]
        go_wp2_with fail
        go_ret
        exact ⟨rfl, hL⟩
      | some B =>
        rw [hB] at T4
        go_wp2_with fail
        refine (T4).mono ?_; rintro e w6 ⟨hb, vB, rfl, ho⟩
        replace hR := hR.below hb
        replace hO := hO.below hb
        replace hA0 := hA0.below hb
        replace hL := below_next hL hb
        have hB0 : ReadsL encV w6 vB (B) := ownL_reads ho
        clear hb ho
        clear T4
        have HLA := Lib.hid (trO_some hA).2.1
        have HLB := Lib.hid ((trO_some hB).2.1.trans (shL_len m xs))
        have HOA := Lib.hid (trO_some hA).2.2.1
        have HOB := Lib.hid (trO_some hB).2.2.1
        have HSAY : Aside (∀ j, j < xs.length → tV (j * m % xs.length * (24 / xs.length)) (at' A j) = at' B j) := (show ∀ j, _ → _ from fun j hj => say_shift hA hB hj)
        obtain ⟨pA, cA, rfl, hA1, hA2, hA3, hA4⟩ := hA0
        obtain ⟨gA, oA, rfl, hgA, hrA⟩ := hA4 (by rintro rfl; have := hA3 rfl; have := HLA.out; omega)
        obtain ⟨pB, cB, rfl, hB1, hB2, hB3, hB4⟩ := hB0
        obtain ⟨gB, oB, rfl, hgB, hrB⟩ := hB4 (by rintro rfl; have := hB3 rfl; have := HLB.out; omega)
        have HRA := Lib.hid hrA
        have HRB := Lib.hid hrB
        have HLL := Lib.hid hL
        simp only [maxLen] at hA2 hB2
        clear hA hB hk hR hO hA3 hA4 hB3 hB4 hrA hrB hL
        go_wp2_with fail
        go_loopw [14] (fun i wr => ∃ j : Nat, j ≤ xs.length ∧ i = .int .i64 j ∧ Below w6.heap.size w6 wr) (fun i _ => xs.length - (intOf i).toNat)
        case atStart => exact ⟨0, Nat.zero_le _, rfl, Below.refl _ _⟩
        case round =>
          clear hpos
          obtain ⟨j, hj, rfl, hbel⟩ := hrel
          have HB := Lib.hid hbel
          clear hbel
          by_cases hlt : j < xs.length
          · have hkz : (j : Int) < (xs.length : Int) := by omega
            have hk0 : (0 : Int) ≤ (j : Int) := by omega
            have hjA : (j : Int) < (A.length : Int) := by have := HLA.out; omega
            have hjB : (j : Int) < (B.length : Int) := by have := HLB.out; omega
            have HEA := Lib.hid (cells_part encV_ok (cells_below HRA.out hgA HB.out) (at_get (by omega : j < A.length)))
            have HEB := Lib.hid (cells_part encV_ok (cells_below HRB.out hgB HB.out) (at_get (by omega : j < B.length)))
            have hzA : gA < wr.heap.size := by have := HB.out.size; omega
            have hzB : gB < wr.heap.size := by have := HB.out.size; omega
            obtain ⟨jm, hjm⟩ : ∃ z : Nat, z = j * m := ⟨_, rfl⟩
            obtain ⟨r, hr⟩ : ∃ z : Nat, z = jm % xs.length := ⟨_, rfl⟩
            obtain ⟨d, hd⟩ : ∃ z : Nat, z = 24 / xs.length := ⟨_, rfl⟩
            obtain ⟨t, ht⟩ : ∃ z : Nat, z = r * d := ⟨_, rfl⟩
            have hjb : jm ≤ 24 * 23 := by rw [hjm]; exact Nat.mul_le_mul (by omega) hm23
            have hdb : d ≤ 24 := by rw [hd]; exact Nat.div_le_self _ _
            have ht23 : t ≤ 23 := by rw [ht, hr, hd]; exact turn_small (by omega) h24 (Nat.mod_lt _ (by omega))
            have p1 : (j : Int) * (m : Int) = (jm : Int) := by rw [hjm]; simp
            have p1w : IntKind.i64.wrap (jm : Int) = (jm : Int) := by rw [IntKind.wrap_i64]; omega
            have p2 : (jm : Int).tmod (xs.length : Int) = (r : Int) := by rw [Int.tmod_eq_emod_of_nonneg (by omega), hr]; simp
            have p3 : ¬ (xs.length : Int) = 0 := by omega
            have p3b : ¬ xs = [] := by rintro rfl; simp at h1
            have p4 : (24 : Int).tdiv (xs.length : Int) = (d : Int) := by rw [Int.tdiv_eq_ediv_of_nonneg (by decide), hd]; simp
            have p4w : IntKind.i64.wrap (d : Int) = (d : Int) := by rw [IntKind.wrap_i64]; omega
            have p5 : (r : Int) * (d : Int) = (t : Int) := by rw [ht]; simp
            have p5w : IntKind.i64.wrap (t : Int) = (t : Int) := by rw [IntKind.wrap_i64]; omega
            have e : tV t (at' A j) = at' B j := by rw [ht, hr, hjm, hd]; exact HSAY.out j hlt
            have TN := fun w => CycTurnedV (at' A j) ht23 (rowOk_at HOA.out (by omega)) (by rw [e]; exact rowOk_at HOB.out (by omega)) w
            rw [e] at TN
            clear e hjm hr hd ht hjb hdb ht23
            generalize at' A j = a at *
            generalize at' B j = b at *
            have EQ := equal_cyc b.up b.up
            rw [eqv_true (n := 8) (f := b.up) (g := b.up) fun _ _ => rfl] at EQ
            go_upto_region 14 with fail
            refine wp_region_held_drew (S := fun w' => Below wr.heap.size wr w') (by kernel_rfl) (Below.refl _ _).drew (fun hHeld => ?_)
            refine wpAnyH_take (i := 0) (oi := _) (v := .slice (some ⟨gA, oA, none⟩) A.length cA) rfl (by kernel_rfl) (by kernel_rfl) (by kernel_rfl) (fun _ _ _ h => h) (Or.inl ⟨by rfl, fun w h => by go_simp⟩) hHeld ?_
            try simp only [Act.put, List.setIfInBounds_toArray, List.set_cons_zero, List.set_cons_succ, List.getElem_toArray, List.getElem_cons_succ, List.getElem_cons_zero]
            refine wpAnyH_take (i := 1) (oi := _) (v := .int .i64 j) rfl (by kernel_rfl) (by kernel_rfl) (by kernel_rfl) (fun _ _ _ h => h) (Or.inl ⟨by rfl, fun w h => by go_simp⟩) hHeld ?_
            try simp only [Act.put, List.setIfInBounds_toArray, List.set_cons_zero, List.set_cons_succ, List.getElem_toArray, List.getElem_cons_succ, List.getElem_cons_zero]
            refine wpAnyH_take (i := 2) (oi := _) (v := .pointer (some ⟨gA, oA + j * 8, none⟩)) rfl (by kernel_rfl) (by kernel_rfl) (by kernel_rfl) (fun _ _ _ h => h) (Or.inl ⟨by rfl, fun w h => by go_simp⟩) hHeld ?_
            try simp only [Act.put, List.setIfInBounds_toArray, List.set_cons_zero, List.set_cons_succ, List.getElem_toArray, List.getElem_cons_succ, List.getElem_cons_zero]
            refine wpAnyH_take (i := 3) (oi := _) (v := .agg (vec 8 a.up)) rfl (by kernel_rfl) (by kernel_rfl) (by kernel_rfl) (fun _ _ _ h => h) (yieldsIf_load_mid (by rfl) _ _ rfl _ _ rfl _ _ ((fun w h => range_kept HEA.out hzA h)) Try.underlying36 rfl (size_cycL a)) hHeld ?_
            try simp only [Act.put, List.setIfInBounds_toArray, List.set_cons_zero, List.set_cons_succ, List.getElem_toArray, List.getElem_cons_succ, List.getElem_cons_zero]
            refine wpAnyH_take (i := 4) (oi := _) (v := .int .i64 j) rfl (by kernel_rfl) (by kernel_rfl) (by kernel_rfl) (fun _ _ _ h => h) (Or.inl ⟨by rfl, fun w h => by go_simp⟩) hHeld ?_
            try simp only [Act.put, List.setIfInBounds_toArray, List.set_cons_zero, List.set_cons_succ, List.getElem_toArray, List.getElem_cons_succ, List.getElem_cons_zero]
            refine wpAnyH_take (i := 5) (oi := _) (v := .int .i64 m) rfl (by kernel_rfl) (by kernel_rfl) (by kernel_rfl) (fun _ _ _ h => h) (Or.inl ⟨by rfl, fun w h => by go_simp⟩) hHeld ?_
            try simp only [Act.put, List.setIfInBounds_toArray, List.set_cons_zero, List.set_cons_succ, List.getElem_toArray, List.getElem_cons_succ, List.getElem_cons_zero]
            refine wpAnyH_take (i := 6) (oi := _) (v := .int .i64 jm) rfl (by kernel_rfl) (by kernel_rfl) (by kernel_rfl) (fun _ _ _ h => h) (Or.inl ⟨by rfl, fun w h => by go_simp⟩) hHeld ?_
            try simp only [Act.put, List.setIfInBounds_toArray, List.set_cons_zero, List.set_cons_succ, List.getElem_toArray, List.getElem_cons_succ, List.getElem_cons_zero]
            refine wpAnyH_take (i := 7) (oi := _) (v := .int .i64 xs.length) rfl (by kernel_rfl) (by kernel_rfl) (by kernel_rfl) (fun _ _ _ h => h) (Or.inl ⟨by rfl, fun w h => by go_simp⟩) hHeld ?_
            try simp only [Act.put, List.setIfInBounds_toArray, List.set_cons_zero, List.set_cons_succ, List.getElem_toArray, List.getElem_cons_succ, List.getElem_cons_zero]
            refine wpAnyH_take (i := 8) (oi := _) (v := .int .i64 r) rfl (by kernel_rfl) (by kernel_rfl) (by kernel_rfl) (fun _ _ _ h => h) (Or.inl ⟨by rfl, fun w h => by go_simp⟩) hHeld ?_
            try simp only [Act.put, List.setIfInBounds_toArray, List.set_cons_zero, List.set_cons_succ, List.getElem_toArray, List.getElem_cons_succ, List.getElem_cons_zero]
            refine wpAnyH_take (i := 9) (oi := _) (v := .int .i64 xs.length) rfl (by kernel_rfl) (by kernel_rfl) (by kernel_rfl) (fun _ _ _ h => h) (Or.inl ⟨by rfl, fun w h => by go_simp⟩) hHeld ?_
            try simp only [Act.put, List.setIfInBounds_toArray, List.set_cons_zero, List.set_cons_succ, List.getElem_toArray, List.getElem_cons_succ, List.getElem_cons_zero]
            refine wpAnyH_take (i := 10) (oi := _) (v := .int .i64 d) rfl (by kernel_rfl) (by kernel_rfl) (by kernel_rfl) (fun _ _ _ h => h) (Or.inl ⟨by rfl, fun w h => by go_simp⟩) hHeld ?_
            try simp only [Act.put, List.setIfInBounds_toArray, List.set_cons_zero, List.set_cons_succ, List.getElem_toArray, List.getElem_cons_succ, List.getElem_cons_zero]
            refine wpAnyH_take (i := 11) (oi := _) (v := .int .i64 t) rfl (by kernel_rfl) (by kernel_rfl) (by kernel_rfl) (fun _ _ _ h => h) (Or.inl ⟨by rfl, fun w h => by go_simp⟩) hHeld ?_
            try simp only [Act.put, List.setIfInBounds_toArray, List.set_cons_zero, List.set_cons_succ, List.getElem_toArray, List.getElem_cons_succ, List.getElem_cons_zero]
            clear p1 p1w p2 p3 p3b p4 p4w p5 p5w
            refine wpAnyH_ready (rs := [12, 16]) (by kernel_rfl) (by simp) ?_
            refine AllReadyH.cons (o := _) rfl (fun K hK => ?_) (AllReadyH.cons (o := _) rfl (fun K hK => ?_) AllReadyH.nil)
            · go_simp
              refine (TN _).mono ?_; rintro e w5 ⟨rfl, hb5⟩
              go_wp2_with fail
              refine hK.out _ _ (below_next hHeld hb5) (fun hHeld => ?_)
              clear hK K
              try simp only [Act.put, List.setIfInBounds_toArray, List.set_cons_zero, List.set_cons_succ, List.getElem_toArray, List.getElem_cons_succ, List.getElem_cons_zero]
              clear hb5 TN
              refine wpAnyH_take (i := 13) (oi := _) (v := .tuple #[.agg (vec 8 b.up), .bool true]) rfl (by kernel_rfl) (by kernel_rfl) (by kernel_rfl) (fun _ _ _ h => h) (Or.inl ⟨by rfl, fun w h => by go_simp⟩) hHeld ?_
              try simp only [Act.put, List.setIfInBounds_toArray, List.set_cons_zero, List.set_cons_succ, List.getElem_toArray, List.getElem_cons_succ, List.getElem_cons_zero]
              refine wpAnyH_take (i := 14) (oi := _) (v := .agg (vec 8 b.up)) rfl (by kernel_rfl) (by kernel_rfl) (by kernel_rfl) (fun _ _ _ h => h) (Or.inl ⟨by rfl, fun w h => by go_simp⟩) hHeld ?_
              try simp only [Act.put, List.setIfInBounds_toArray, List.set_cons_zero, List.set_cons_succ, List.getElem_toArray, List.getElem_cons_succ, List.getElem_cons_zero]
              refine wpAnyH_take (i := 15) (oi := _) (v := .bool true) rfl (by kernel_rfl) (by kernel_rfl) (by kernel_rfl) (fun _ _ _ h => h) (Or.inl ⟨by rfl, fun w h => by go_simp⟩) hHeld ?_
              try simp only [Act.put, List.setIfInBounds_toArray, List.set_cons_zero, List.set_cons_succ, List.getElem_toArray, List.getElem_cons_succ, List.getElem_cons_zero]
              refine wpAnyH_ready (rs := [16]) (by kernel_rfl) (by simp) ?_
              refine AllReadyH.cons (o := _) rfl (fun K hK => ?_) AllReadyH.nil
              rw [if_pos (by rfl)]
              go_simp
              have hG : RowAt (w5.alloc (.cells #[.int .i64 0, .int .i64 0, .int .i64 0, .int .i64 0, .int .i64 0, .int .i64 0, .int .i64 0, .int .i64 0] 36)) w5.heap.size 8 36 nul := RowAt.newAt zero8 rfl
              have hgz : wr.heap.size ≤ w5.heap.size := hHeld.size
              refine hK.out _ _ (hHeld.alloc hgz _) (fun hHeld => ?_)
              clear hK K
              try simp only [Act.put, List.setIfInBounds_toArray, List.set_cons_zero, List.set_cons_succ, List.getElem_toArray, List.getElem_cons_succ, List.getElem_cons_zero]
              refine wpAnyH_ready (rs := [17]) (by kernel_rfl) (by simp) ?_
              refine AllReadyH.cons (o := _) rfl (fun K hK => ?_) AllReadyH.nil
              rw [if_pos (by rfl)]
              refine store_step (f' := b.up) rfl rfl rfl hG info_cyc ?_
              have hG2 := hG.setRow (f' := b.up)
              refine hK.out _ _ (below_setRow hHeld hgz _) (fun hHeld => ?_)
              clear hK K
              try simp only [Act.put, List.setIfInBounds_toArray, List.set_cons_zero, List.set_cons_succ, List.getElem_toArray, List.getElem_cons_succ, List.getElem_cons_zero]
              clear hG
              refine wpAnyH_take (i := 18) (oi := _) (v := .bool true) rfl (by kernel_rfl) (by kernel_rfl) (by kernel_rfl) (fun _ _ _ h => h) (Or.inl ⟨by rfl, fun w h => by go_simp⟩) hHeld ?_
              try simp only [Act.put, List.setIfInBounds_toArray, List.set_cons_zero, List.set_cons_succ, List.getElem_toArray, List.getElem_cons_succ, List.getElem_cons_zero]
              refine wpAnyH_done (by kernel_rfl) ?_ _
              have HS5 := Lib.hid hHeld
              have HG5 := Lib.hid hG2
              clear hG2 hHeld
              generalize (w5.alloc (.cells #[.int .i64 0, .int .i64 0, .int .i64 0, .int .i64 0, .int .i64 0, .int .i64 0, .int .i64 0, .int .i64 0] 36)).setRow w5.heap.size (vec 8 b.up) = W6 at *
              generalize w5.heap.size = g9 at *
              have HB6 := Lib.hid (HB.out.trans (HS5.out.mono (by have := HB.out.size; omega)))
              have HE6 := Lib.hid (range_kept HEB.out hzB HS5.out)
              clear HS5
              go_upto_region 15 with fail
              refine wp_region_held_drew (S := fun w' => w' = W6.drew) (by kernel_rfl) rfl (fun hHeld => ?_)
              refine wpAnyH_take (i := 0) (oi := _) (v := .bool true) rfl (by kernel_rfl) (by kernel_rfl) (by kernel_rfl) (fun _ _ _ h => h) (Or.inl ⟨by rfl, fun w h => by go_simp⟩) hHeld ?_
              try simp only [Act.put, List.setIfInBounds_toArray, List.set_cons_zero, List.set_cons_succ, List.getElem_toArray, List.getElem_cons_succ, List.getElem_cons_zero]
              refine wpAnyH_take (i := 1) (oi := _) (v := .bool true) rfl (by kernel_rfl) (by kernel_rfl) (by kernel_rfl) (fun _ _ _ h => h) (Or.inl ⟨by rfl, fun w h => by go_simp⟩) hHeld ?_
              try simp only [Act.put, List.setIfInBounds_toArray, List.set_cons_zero, List.set_cons_succ, List.getElem_toArray, List.getElem_cons_succ, List.getElem_cons_zero]
              refine wpAnyH_take (i := 2) (oi := _) (v := .agg (vec 8 b.up)) rfl (by kernel_rfl) (by kernel_rfl) (by kernel_rfl) (fun _ _ _ h => h) (yieldsIf_load_mid (by rfl) _ _ rfl _ _ rfl _ _ ((fun w h => by rw [h]; exact HG5.out.drew1.range)) Try.underlying36 rfl (size_cycL b)) hHeld ?_
              try simp only [Act.put, List.setIfInBounds_toArray, List.set_cons_zero, List.set_cons_succ, List.getElem_toArray, List.getElem_cons_succ, List.getElem_cons_zero]
              refine wpAnyH_take (i := 3) (oi := _) (v := .slice (some ⟨gB, oB, none⟩) B.length cB) rfl (by kernel_rfl) (by kernel_rfl) (by kernel_rfl) (fun _ _ _ h => h) (Or.inl ⟨by rfl, fun w h => by go_simp⟩) hHeld ?_
              try simp only [Act.put, List.setIfInBounds_toArray, List.set_cons_zero, List.set_cons_succ, List.getElem_toArray, List.getElem_cons_succ, List.getElem_cons_zero]
              refine wpAnyH_take (i := 4) (oi := _) (v := .int .i64 j) rfl (by kernel_rfl) (by kernel_rfl) (by kernel_rfl) (fun _ _ _ h => h) (Or.inl ⟨by rfl, fun w h => by go_simp⟩) hHeld ?_
              try simp only [Act.put, List.setIfInBounds_toArray, List.set_cons_zero, List.set_cons_succ, List.getElem_toArray, List.getElem_cons_succ, List.getElem_cons_zero]
              refine wpAnyH_take (i := 5) (oi := _) (v := .pointer (some ⟨gB, oB + j * 8, none⟩)) rfl (by kernel_rfl) (by kernel_rfl) (by kernel_rfl) (fun _ _ _ h => h) (Or.inl ⟨by rfl, fun w h => by go_simp⟩) hHeld ?_
              try simp only [Act.put, List.setIfInBounds_toArray, List.set_cons_zero, List.set_cons_succ, List.getElem_toArray, List.getElem_cons_succ, List.getElem_cons_zero]
              refine wpAnyH_take (i := 6) (oi := _) (v := .agg (vec 8 b.up)) rfl (by kernel_rfl) (by kernel_rfl) (by kernel_rfl) (fun _ _ _ h => h) (yieldsIf_load_mid (by rfl) _ _ rfl _ _ rfl _ _ ((fun w h => by rw [h]; exact HE6.out)) Try.underlying36 rfl (size_cycL b)) hHeld ?_
              try simp only [Act.put, List.setIfInBounds_toArray, List.set_cons_zero, List.set_cons_succ, List.getElem_toArray, List.getElem_cons_succ, List.getElem_cons_zero]
              refine wpAnyH_take (i := 7) (oi := _) (v := .bool (!true)) rfl (by kernel_rfl) (by kernel_rfl) (by kernel_rfl) (fun _ _ _ h => h) (Or.inl ⟨by rfl, fun w h => by go_simp⟩) hHeld ?_
              try simp only [Act.put, List.setIfInBounds_toArray, List.set_cons_zero, List.set_cons_succ, List.getElem_toArray, List.getElem_cons_succ, List.getElem_cons_zero]
              refine wpAnyH_take (i := 8) (oi := _) (v := .bool false) rfl (by kernel_rfl) (by kernel_rfl) (by kernel_rfl) (fun _ _ _ h => h) (Or.inl ⟨by rfl, fun w h => by go_simp⟩) hHeld ?_
              try simp only [Act.put, List.setIfInBounds_toArray, List.set_cons_zero, List.set_cons_succ, List.getElem_toArray, List.getElem_cons_succ, List.getElem_cons_zero]
              clear hHeld
              refine wpAnyH_done (by kernel_rfl) ?_ _
              go_wp2
              go_roundw
              case rel => exact ⟨j + 1, by omega, by go_num, HB6.out.drew⟩
              case measure => simp [intOf]; omega
            · rw [if_pos (by rfl)]
              go_simp
              have hgz : wr.heap.size ≤ wr.heap.size := Nat.le_refl _
              have hG : RowAt (wr.drew.alloc (.cells #[.int .i64 0, .int .i64 0, .int .i64 0, .int .i64 0, .int .i64 0, .int .i64 0, .int .i64 0, .int .i64 0] 36)) wr.heap.size 8 36 nul := RowAt.newAt zero8 rfl
              refine hK.out _ _ (hHeld.alloc hgz _) (fun hHeld => ?_)
              clear hK K
              try simp only [Act.put, List.setIfInBounds_toArray, List.set_cons_zero, List.set_cons_succ, List.getElem_toArray, List.getElem_cons_succ, List.getElem_cons_zero]
              refine wpAnyH_ready (rs := [12]) (by kernel_rfl) (by simp) ?_
              refine AllReadyH.cons (o := _) rfl (fun K hK => ?_) AllReadyH.nil
              go_simp
              refine (TN _).mono ?_; rintro e w5 ⟨rfl, hb5⟩
              go_wp2_with fail
              replace hG := hG.below hb5
              refine hK.out _ _ (below_next hHeld hb5) (fun hHeld => ?_)
              clear hK K
              try simp only [Act.put, List.setIfInBounds_toArray, List.set_cons_zero, List.set_cons_succ, List.getElem_toArray, List.getElem_cons_succ, List.getElem_cons_zero]
              clear hb5 TN
              refine wpAnyH_take (i := 13) (oi := _) (v := .tuple #[.agg (vec 8 b.up), .bool true]) rfl (by kernel_rfl) (by kernel_rfl) (by kernel_rfl) (fun _ _ _ h => h) (Or.inl ⟨by rfl, fun w h => by go_simp⟩) hHeld ?_
              try simp only [Act.put, List.setIfInBounds_toArray, List.set_cons_zero, List.set_cons_succ, List.getElem_toArray, List.getElem_cons_succ, List.getElem_cons_zero]
              refine wpAnyH_take (i := 14) (oi := _) (v := .agg (vec 8 b.up)) rfl (by kernel_rfl) (by kernel_rfl) (by kernel_rfl) (fun _ _ _ h => h) (Or.inl ⟨by rfl, fun w h => by go_simp⟩) hHeld ?_
              try simp only [Act.put, List.setIfInBounds_toArray, List.set_cons_zero, List.set_cons_succ, List.getElem_toArray, List.getElem_cons_succ, List.getElem_cons_zero]
              refine wpAnyH_take (i := 15) (oi := _) (v := .bool true) rfl (by kernel_rfl) (by kernel_rfl) (by kernel_rfl) (fun _ _ _ h => h) (Or.inl ⟨by rfl, fun w h => by go_simp⟩) hHeld ?_
              try simp only [Act.put, List.setIfInBounds_toArray, List.set_cons_zero, List.set_cons_succ, List.getElem_toArray, List.getElem_cons_succ, List.getElem_cons_zero]
              refine wpAnyH_ready (rs := [17]) (by kernel_rfl) (by simp) ?_
              refine AllReadyH.cons (o := _) rfl (fun K hK => ?_) AllReadyH.nil
              rw [if_pos (by rfl)]
              refine store_step (f' := b.up) rfl rfl rfl hG info_cyc ?_
              have hG2 := hG.setRow (f' := b.up)
              refine hK.out _ _ (below_setRow hHeld hgz _) (fun hHeld => ?_)
              clear hK K
              try simp only [Act.put, List.setIfInBounds_toArray, List.set_cons_zero, List.set_cons_succ, List.getElem_toArray, List.getElem_cons_succ, List.getElem_cons_zero]
              clear hG
              refine wpAnyH_take (i := 18) (oi := _) (v := .bool true) rfl (by kernel_rfl) (by kernel_rfl) (by kernel_rfl) (fun _ _ _ h => h) (Or.inl ⟨by rfl, fun w h => by go_simp⟩) hHeld ?_
              try simp only [Act.put, List.setIfInBounds_toArray, List.set_cons_zero, List.set_cons_succ, List.getElem_toArray, List.getElem_cons_succ, List.getElem_cons_zero]
              refine wpAnyH_done (by kernel_rfl) ?_ _
              have HS5 := Lib.hid hHeld
              have HG5 := Lib.hid hG2
              clear hG2 hHeld
              generalize w5.setRow wr.heap.size (vec 8 b.up) = W6 at *
              generalize hgen9 : wr.heap.size = g9 at *
              have HB6 := Lib.hid (HB.out.trans (HS5.out.mono (by have := HB.out.size; omega)))
              have HE6 := Lib.hid (range_kept HEB.out hzB HS5.out)
              clear HS5
              go_upto_region 15 with fail
              refine wp_region_held_drew (S := fun w' => w' = W6.drew) (by kernel_rfl) rfl (fun hHeld => ?_)
              refine wpAnyH_take (i := 0) (oi := _) (v := .bool true) rfl (by kernel_rfl) (by kernel_rfl) (by kernel_rfl) (fun _ _ _ h => h) (Or.inl ⟨by rfl, fun w h => by go_simp⟩) hHeld ?_
              try simp only [Act.put, List.setIfInBounds_toArray, List.set_cons_zero, List.set_cons_succ, List.getElem_toArray, List.getElem_cons_succ, List.getElem_cons_zero]
              refine wpAnyH_take (i := 1) (oi := _) (v := .bool true) rfl (by kernel_rfl) (by kernel_rfl) (by kernel_rfl) (fun _ _ _ h => h) (Or.inl ⟨by rfl, fun w h => by go_simp⟩) hHeld ?_
              try simp only [Act.put, List.setIfInBounds_toArray, List.set_cons_zero, List.set_cons_succ, List.getElem_toArray, List.getElem_cons_succ, List.getElem_cons_zero]
              refine wpAnyH_take (i := 2) (oi := _) (v := .agg (vec 8 b.up)) rfl (by kernel_rfl) (by kernel_rfl) (by kernel_rfl) (fun _ _ _ h => h) (yieldsIf_load_mid (by rfl) _ _ rfl _ _ rfl _ _ ((fun w h => by rw [h]; exact HG5.out.drew1.range)) Try.underlying36 rfl (size_cycL b)) hHeld ?_
              try simp only [Act.put, List.setIfInBounds_toArray, List.set_cons_zero, List.set_cons_succ, List.getElem_toArray, List.getElem_cons_succ, List.getElem_cons_zero]
              refine wpAnyH_take (i := 3) (oi := _) (v := .slice (some ⟨gB, oB, none⟩) B.length cB) rfl (by kernel_rfl) (by kernel_rfl) (by kernel_rfl) (fun _ _ _ h => h) (Or.inl ⟨by rfl, fun w h => by go_simp⟩) hHeld ?_
              try simp only [Act.put, List.setIfInBounds_toArray, List.set_cons_zero, List.set_cons_succ, List.getElem_toArray, List.getElem_cons_succ, List.getElem_cons_zero]
              refine wpAnyH_take (i := 4) (oi := _) (v := .int .i64 j) rfl (by kernel_rfl) (by kernel_rfl) (by kernel_rfl) (fun _ _ _ h => h) (Or.inl ⟨by rfl, fun w h => by go_simp⟩) hHeld ?_
              try simp only [Act.put, List.setIfInBounds_toArray, List.set_cons_zero, List.set_cons_succ, List.getElem_toArray, List.getElem_cons_succ, List.getElem_cons_zero]
              refine wpAnyH_take (i := 5) (oi := _) (v := .pointer (some ⟨gB, oB + j * 8, none⟩)) rfl (by kernel_rfl) (by kernel_rfl) (by kernel_rfl) (fun _ _ _ h => h) (Or.inl ⟨by rfl, fun w h => by go_simp⟩) hHeld ?_
              try simp only [Act.put, List.setIfInBounds_toArray, List.set_cons_zero, List.set_cons_succ, List.getElem_toArray, List.getElem_cons_succ, List.getElem_cons_zero]
              refine wpAnyH_take (i := 6) (oi := _) (v := .agg (vec 8 b.up)) rfl (by kernel_rfl) (by kernel_rfl) (by kernel_rfl) (fun _ _ _ h => h) (yieldsIf_load_mid (by rfl) _ _ rfl _ _ rfl _ _ ((fun w h => by rw [h]; exact HE6.out)) Try.underlying36 rfl (size_cycL b)) hHeld ?_
              try simp only [Act.put, List.setIfInBounds_toArray, List.set_cons_zero, List.set_cons_succ, List.getElem_toArray, List.getElem_cons_succ, List.getElem_cons_zero]
              refine wpAnyH_take (i := 7) (oi := _) (v := .bool (!true)) rfl (by kernel_rfl) (by kernel_rfl) (by kernel_rfl) (fun _ _ _ h => h) (Or.inl ⟨by rfl, fun w h => by go_simp⟩) hHeld ?_
              try simp only [Act.put, List.setIfInBounds_toArray, List.set_cons_zero, List.set_cons_succ, List.getElem_toArray, List.getElem_cons_succ, List.getElem_cons_zero]
              refine wpAnyH_take (i := 8) (oi := _) (v := .bool false) rfl (by kernel_rfl) (by kernel_rfl) (by kernel_rfl) (fun _ _ _ h => h) (Or.inl ⟨by rfl, fun w h => by go_simp⟩) hHeld ?_
              try simp only [Act.put, List.setIfInBounds_toArray, List.set_cons_zero, List.set_cons_succ, List.getElem_toArray, List.getElem_cons_succ, List.getElem_cons_zero]
              clear hHeld
              refine wpAnyH_done (by kernel_rfl) ?_ _
              go_wp2
              go_roundw
              case rel => exact ⟨j + 1, by omega, by go_num, HB6.out.drew⟩
              case measure => simp [intOf]; omega
          · obtain rfl : j = xs.length := by omega
            have HX := Lib.hid (HLL.out.trans (HB.out.mono HLL.out.size))
            go_wp2
            go_ret
            exact ⟨rfl, HX.out⟩

end Go.Proofs.Ytdgbpdeimckbfaa
