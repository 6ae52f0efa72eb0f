/-
  impl: rows of designs, designs of rows; later designs.
  The model's rows of designs, designs of rows.
-/
import Derived.Test.YtdgbpdeimckbfaaM30
import Derived.Test.YtdgbpdeimckbfaaM20
import Derived.Test.YtdgbpdeimckbfaaM09
import Derived.Test.YtdgbpdeimckbfaaM21
import Derived.Test.YtdgbpdeimckbfaaM11
import Derived.Test.YtdgbpdeimckbfaaM13
/- impl: rows of designs, designs of rows; later designs. -/
namespace Go.Proofs.Ytdgbpdeimckbfaa
set_option maxRecDepth 20000
open Go.ChangeShapes Go.WideShapes Go.ChangeAt Go.RowKit
set_option linter.unusedVariables false
set_option linter.unusedSimpArgs false

theorem pointOf_some (a : V) : pointOf (some a) = .tuple #[.agg (vec 8 a.up), .bool true] := rfl
theorem rdO_no {ws : List Wh} {n : Int} (h : rowZ n = false) : rdO ws n = none := by
  unfold rdO; unfold rowZ at h; rw [h]; rfl
theorem rdO_nat {ws : List Wh} {n : Nat} (h : rowLen n = true) : rdO ws n = coll (fun k => atD ws (((k * (24 / n) : Nat)) : Int)) n := by
  have h' := rowZ_nat n
  rw [h] at h'
  unfold rowZ at h'
  unfold rdO
  rw [if_pos h']; rfl
set_option maxHeartbeats 2000000 in
theorem RowOf_any (v : Value) (n : Int) (ws : List Wh) (w : World) (hv : Reads w v ws) : Calls Try.prog 28 #[v, .int .i64 n] w (ToldL 36 w (rdO ws n)) := by
  have LN := fun w => isRowLength_any n w
  have HV := Lib.hid hv
  clear hv
  cases hl : rowZ n
  · rw [hl] at LN
    rw [rdO_no hl]
    clear hl
    go_enter Try.func28, Try.ntmps28
    go_wp2_with fail
    refine (LN _).mono ?_; rintro e w1 ⟨rfl, rfl⟩
    clear LN
    go_wp2
    go_ret2
    exact ⟨Below.refl _ _, _, rfl, ownL_none _ _ _⟩
  · rw [hl] at LN
    have h1 : 1 ≤ n := by unfold rowZ at hl; simp at hl; exact hl.1
    obtain ⟨m, rfl⟩ : ∃ m : Nat, n = m := ⟨n.toNat, by omega⟩
    rw [rowZ_nat] at hl
    rw [rdO_nat hl]
    have h24 := (rowLen_in hl).2.2
    clear hl
    generalize hres : coll (fun k => atD ws (((k * (24 / m) : Nat)) : Int)) m = res
    have HRES := Lib.hid hres
    obtain ⟨q, hq⟩ : ∃ q, 24 / m = q := ⟨_, rfl⟩
    have hq24 : q ≤ 24 := by rw [← hq]; exact Nat.div_le_self 24 m
    rw [hq] at HRES
    have q4 : (24 : Int).tdiv (m : Int) = (q : Int) := by
      rw [Int.tdiv_eq_ediv_of_nonneg (by decide), ← hq]; simp
    have q5 : IntKind.i64.wrap (q : Int) = (q : Int) := by rw [IntKind.wrap_i64]; omega
    have q6 : ¬ (m : Int) = 0 := by omega
    clear hres hq
    go_enter Try.func28, Try.ntmps28
    go_wp2_with fail
    refine (LN _).mono ?_; rintro e w1 ⟨rfl, rfl⟩
    clear LN
    go_wp2_with (refine makeL (en := encV) tyY rfl rfl m rfl rfl (by omega) (Below.refl _ w) (Nat.le_refl _) ?_; intro w2 ho1 hb1 hB1)
    go_loopw [6, 7, 8, 9, 16] (fun s6 _ _ _ i wr => ∃ (k : Nat) (l : List V), k ≤ m ∧ i = .int .i64 k ∧ coll (fun k => atD ws (((k * q : Nat)) : Int)) k = some l ∧ OwnL encV 8 wr w.heap.size 36 s6 l ∧ Below w.heap.size w wr ∧ w.heap.size ≤ wr.heap.size) (fun _ _ _ _ i _ => m - (intOf i).toNat)
    case atStart => exact ⟨0, [], Nat.zero_le _, rfl, rfl, ho1, hb1, hB1⟩
    case round =>
      clear ho1 hb1 hB1
      obtain ⟨k, l, hk, rfl, hl, hO, hbel, hB⟩ := hrel
      have HL := Lib.hid hl
      have HO := Lib.hid hO
      have HB := Lib.hid hbel
      have HZ := Lib.hid hB
      have hlk := coll_len hl
      clear hl hO hbel hB
      by_cases hlt : k < m
      · have hkz : (k : Int) < (m : Int) := by omega
        have hk0 : (0 : Int) ≤ (k : Int) := by omega
        have hkq : k * q ≤ 24 * 24 := Nat.mul_le_mul (by omega) hq24
        have q7 : (k : Int) * (q : Int) = ((k * q : Nat) : Int) := by simp
        have q8 : IntKind.i64.wrap ((k : Int) * (q : Int)) = ((k * q : Nat) : Int) := by rw [q7, IntKind.wrap_i64]; omega
        have D := DesignAt_any v ws ((k * q : Nat) : Int) wr (HV.out.below (HB.out.mono (Nat.le_refl _)))
        have HSTEP := Lib.hid (coll_step HL.out)
        have HNO : Aside (atD ws ((k * q : Nat) : Int) = none → res = none) := (show _ → _ from fun h => by rw [← HRES.out]; exact coll_none (f := fun k => atD ws (((k * q : Nat)) : Int)) h hlt)
        clear q7 hkq
        generalize ((k * q : Nat) : Int) = kq at *
        cases hs : atD ws kq
        · rw [hs, pointOf_none] at D
          have HF : Aside (res = none) := (show res = none from HNO.out hs)
          have D := Lib.hid D
          clear hs HSTEP HNO
          go_wp2_with fail
          refine D.out.mono ?_; rintro e w3 ⟨rfl, hb3⟩
          have hb4 := HB.out.trans (hb3.mono HZ.out)
          have HB4 := Lib.hid (hb4.alloc (by have := hb4.size; omega) (.cells (vec 8 nul) 36))
          clear D hb3 hb4
          go_wp2_with (refine store_new (ty := 36) rfl rfl rfl rfl zero8 info_cyc ?_)
          go_ret2
          rw [HF.out]
          exact ⟨HB4.out, _, rfl, ownL_none _ _ _⟩
        · rename_i a
          rw [hs, pointOf_some] at D
          rw [hs] at HSTEP
          have D := Lib.hid D
          have HC2 : Aside (coll (fun k => atD ws (((k * q : Nat)) : Int)) (k + 1) = some (l ++ [a])) := (show _ = _ from by rw [HSTEP.out]; rfl)
          clear hs HSTEP HNO
          go_wp2_with fail
          refine D.out.mono ?_; rintro e w3 ⟨rfl, hb3⟩
          have HO3 := Lib.hid (World.ownsRow.alloc (rows_below HO.out hb3) (.cells (vec 8 a.up) 36))
          have hb4 := HB.out.trans (hb3.mono HZ.out)
          have hz4 : w.heap.size ≤ w3.heap.size := hb4.size
          have HB4 := Lib.hid (hb4.alloc hz4 (.cells (vec 8 a.up) 36))
          have HX4 := Lib.hid (RowAt.new w3 8 36 a.up)
          have hz5 : w.heap.size ≤ (w3.alloc (.cells (vec 8 a.up) 36)).heap.size := by simp; omega
          clear D hb3 hb4 HO HB HZ
          go_upto_region 8 with (refine store_new (ty := 36) (f' := a.up) rfl rfl rfl rfl zero8 info_cyc ?_)
          show Code.wp _ _ _ _ (w3.alloc (.cells (vec 8 a.up) 36))
          generalize w3.alloc (.cells (vec 8 a.up) 36) = W3 at *
          generalize w3.heap.size = g3 at *
          go_wp2_with (first | (refine load_row (ty := 36) (g := g3) rfl rfl rfl HX4.out Try.underlying36 rfl info_cyc ?_; clear HX4) | (refine one8 tyY rfl rfl rfl ?_) |
            (refine appendL tyY encV_ok rfl rfl rfl rfl (xs := l) (World.ownsRow.alloc HO3.out _) (lit8 _ _ _) (by simp; omega) (HB4.out.alloc hz5 _) (by simp; omega) ?_; intro v2 w4 ho4 hb4 hB4 hgr4))
          go_roundw
          case rel => exact ⟨k + 1, l ++ [a], by omega, by go_num, HC2.out, ho4, hb4, hB4⟩
          case measure => simp [intOf]; omega
      · obtain rfl : k = m := by omega
        have HF : Aside (res = some l) := (show res = some l from by rw [← HRES.out]; exact HL.out)
        go_wp2
        go_ret2
        rw [HF.out]
        exact ⟨HB.out, _, rfl, HO.out⟩

/-! The wheels of a row. -/
def whs (n : Nat) (xs : List V) (k : Nat) : List Wh := (List.range k).map fun j => ⟨spd n j, at' xs j⟩
theorem whs_next (n : Nat) (xs : List V) (k : Nat) : whs n xs (k + 1) = whs n xs k ++ [⟨spd n k, at' xs k⟩] := by unfold whs; rw [List.range_succ, List.map_append]; rfl
set_option maxHeartbeats 2000000 in
theorem circles_any (v : Value) (xs : List V) (w : World) (hv : ReadsL encV w v xs) (hn : xs.length ≤ 1000) : Calls Try.prog 110 #[v] w fun e w' => Below w.heap.size w w' ∧ ∃ v', e = .returned v' ∧ Own w' w.heap.size 94 v' (wheelsOf xs) := by
  obtain ⟨p, cap, rfl, hc1, hc2, hp0, hp⟩ := hv
  simp only [maxLen] at hc2
  have HP := Lib.hid hp
  clear hp
  go_enter Try.func110, Try.ntmps110
  go_wp2_with (refine make9 tyC rfl rfl xs.length rfl rfl (by omega) (Below.refl _ w) (Nat.le_refl _) ?_; intro w1 ho1 hb1 hB1)
  go_loopw [3, 4, 5, 6, 12] (fun s3 _ _ _ i wr => ∃ k : Nat, k ≤ xs.length ∧ i = .int .i64 k ∧ Own wr w.heap.size 94 s3 (whs xs.length xs k) ∧ Below w.heap.size w wr ∧ w.heap.size ≤ wr.heap.size) (fun _ _ _ _ i _ => xs.length - (intOf i).toNat)
  case atStart => exact ⟨0, Nat.zero_le _, rfl, ho1, hb1, hB1⟩
  case round =>
    clear ho1 hb1 hB1
    obtain ⟨k, hk, rfl, hO, hbel, hB⟩ := hrel
    by_cases hlt : k < xs.length
    · have hkz : (k : Int) < (xs.length : Int) := by omega
      have hk0 : (0 : Int) ≤ (k : Int) := by omega
      obtain ⟨g, o, rfl, hg, hr⟩ := HP.out (by rintro rfl; have := hp0 rfl; omega)
      have HE := Lib.hid (cells_part encV_ok (cells_below hr hg hbel) (at_get hlt))
      have HNX := Lib.hid (whs_next xs.length xs k)
      have hwl : (whs xs.length xs k).length = k := by simp [whs]
      generalize at' xs k = c at *
      have HO := Lib.hid (show Own (wr.alloc (.cells (vec 8 c.up) 92)) w.heap.size 94 _ (whs xs.length xs k) from World.ownsRow.alloc hO _)
      have HL := Lib.hid (hbel.alloc hB (.cells (vec 8 c.up) 92))
      have HB : Aside (w.heap.size ≤ (wr.alloc (.cells (vec 8 c.up) 92)).heap.size) := (show _ ≤ _ by simp; omega)
      have HW := Lib.hid (RowAt.new wr 8 92 c.up)
      have q1 : IntKind.i64.wrap (2 * (k : Int)) = 2 * (k : Int) := by rw [IntKind.wrap_i64]; omega
      have q2 : IntKind.i64.wrap ((k : Int) - (xs.length : Int)) = (k : Int) - (xs.length : Int) := by rw [IntKind.wrap_i64]; omega
      clear hr hO hbel hB
      go_upto_region 5 with (first | (refine load_part (T := 92) (f := c.up) rfl rfl rfl HE.out Try.underlying92 rfl info_exact ?_; clear HE) | (refine store_new (ty := 92) rfl rfl rfl rfl zero8 info_exact ?_))
      show Code.wp _ _ _ _ (wr.alloc (.cells (vec 8 c.up) 92))
      generalize wr.alloc (.cells (vec 8 c.up) 92) = W at *
      generalize wr.heap.size = gx at *
      by_cases h2 : (xs.length : Int) < 2 * (k : Int)
      · have HSP : Aside (spd xs.length k = (k : Int) - (xs.length : Int)) := (show _ = _ from by unfold spd; rw [if_pos (by omega)])
        go_wp2_with (first | (refine load_row (ty := 92) (g := gx) rfl rfl rfl HW.out Try.underlying92 rfl info_exact ?_; clear HW) | (refine build_wheel rfl rfl rfl rfl built_circle ?_) | (refine one9 tyC rfl rfl rfl ?_) |
          (refine append9 tyC rfl rfl rfl rfl (xs := whs xs.length xs k) (World.ownsRow.alloc HO.out _) (reads_lit _ _ _) (by rw [hwl]; simp; omega) (HL.out.alloc HB.out _) (by simp; have := HB.out; omega) ?_; intro v2 w4 ho4 hb4 hB4))
        go_roundw
        case rel =>
          refine ⟨k + 1, by omega, by go_num, ?_, hb4, hB4⟩
          rw [HNX.out, HSP.out]
          rw [dn_up] at ho4
          exact ho4
        case measure => simp [intOf]; omega
      · have HSP : Aside (spd xs.length k = (k : Int)) := (show _ = _ from by unfold spd; rw [if_neg (by omega)])
        go_wp2_with (first | (refine load_row (ty := 92) (g := gx) rfl rfl rfl HW.out Try.underlying92 rfl info_exact ?_; clear HW) | (refine build_wheel rfl rfl rfl rfl built_circle ?_) | (refine one9 tyC rfl rfl rfl ?_) |
          (refine append9 tyC rfl rfl rfl rfl (xs := whs xs.length xs k) (World.ownsRow.alloc HO.out _) (reads_lit _ _ _) (by rw [hwl]; simp; omega) (HL.out.alloc HB.out _) (by simp; have := HB.out; omega) ?_; intro v2 w4 ho4 hb4 hB4))
        go_roundw
        case rel =>
          refine ⟨k + 1, by omega, by go_num, ?_, hb4, hB4⟩
          rw [HNX.out, HSP.out]
          rw [dn_up] at ho4
          exact ho4
        case measure => simp [intOf]; omega
    · obtain rfl : k = xs.length := by omega
      have HO := Lib.hid hO
      have HL := Lib.hid hbel
      clear hO hbel hB
      go_wp2
      go_ret
      exact ⟨HL.out, _, rfl, HO.out⟩
theorem rwO_no {xs : List V} (h : rowOk xs = false) : rwO xs = none := by
  unfold rwO
  split
  · unfold trF; rw [trO_bad h]; rfl
  · rfl
theorem rwO_long {xs : List V} (h : 12 < xs.length) : rwO xs = none := by unfold rwO; rw [decide_eq_false (by omega)]; rfl
theorem rwO_bind {xs : List V} (h : xs.length ≤ 12) : rwO xs = (trF xs).bind fun T => tidy false (wheelsOf T) := by unfold rwO; rw [decide_eq_true h]; rfl
theorem wheels_ok {T : List V} (h : rowOk T = true) : ∀ c ∈ wheelsOf T, okv c.r = true := fun c hc => by
  unfold wheelsOf at hc
  obtain ⟨j, hj, rfl⟩ := List.mem_map.1 hc
  exact rowOk_at h (by simpa using hj)
theorem wheels_len (T : List V) : (wheelsOf T).length = T.length := by simp [wheelsOf]
set_option maxHeartbeats 2000000 in
theorem RowDesign_any (v : Value) (xs : List V) (w : World) (hv : ReadsL encV w v xs) : Calls Try.prog 53 #[v] w (Told w (rwO xs)) := by
  have C := exactRow_any v xs w hv
  clear hv
  cases hr : rowOk xs
  · rw [rowO_no hr] at C
    rw [rwO_no hr]
    have C := Lib.hid C
    clear hr
    go_enter Try.func53, Try.ntmps53
    go_wp2_with fail
    refine C.out.mono ?_; rintro e w1 ⟨hb1, v1, rfl, -⟩
    have HB := Lib.hid hb1
    clear C hb1
    go_wp2
    go_ret2
    exact ⟨HB.out, _, rfl, own_nil _ _ _⟩
  · rw [rowO_yes hr] at C
    have hne := rowOk_ne hr
    by_cases hl : xs.length ≤ 12
    · rw [rwO_bind hl]
      have hlz : ¬ (12 : Int) < (xs.length : Int) := by omega
      have HR := Lib.hid hr
      have C := Lib.hid C
      generalize hres : ((trF xs).bind fun T => tidy false (wheelsOf T)) = res
      have HRES := Lib.hid hres
      clear hr hres
      go_enter Try.func53, Try.ntmps53
      go_wp2_with fail
      refine C.out.mono ?_; rintro e w1 ⟨hb1, v1, rfl, ho1⟩
      have D := transform_any v1 xs w1 _ (show OwnL encV 8 w1 w.heap.size 92 v1 xs from ho1) HR.out
      obtain ⟨g1, c1, rfl, -⟩ := ownL_form (show OwnL encV 8 w1 w.heap.size 92 v1 xs from ho1) hne
      have HB := Lib.hid hb1
      clear C hb1 ho1 hne
      cases ht : trF xs with
      | none =>
        rw [ht] at D
        have HF : Aside (res = none) := (show res = none from by rw [← HRES.out, ht]; rfl)
        have D := Lib.hid D
        clear ht
        go_wp2_with fail
        refine D.out.mono ?_; rintro e w2 ⟨hb2, v2, rfl, -⟩
        have HB2 := Lib.hid (below_next HB.out hb2)
        clear D hb2 HB
        go_wp2
        go_ret2
        rw [HF.out]
        exact ⟨HB2.out, _, rfl, own_nil _ _ _⟩
      | some T =>
        rw [ht] at D
        obtain ⟨-, hTl, hTr, -⟩ := trO_some ht
        have HF : Aside (tidy false (wheelsOf T) = res) := (show _ = res from by rw [← HRES.out, ht]; rfl)
        have HTR := Lib.hid hTr
        have hT12 : T.length ≤ 12 := by omega
        have D := Lib.hid D
        clear ht hTr
        go_wp2_with fail
        refine D.out.mono ?_; rintro e w2 ⟨hb2, v2, rfl, ho2⟩
        have X := Lib.hid (circles_any v2 T w2 (ownL_reads (show OwnL encV 8 w2 w1.heap.size 92 v2 T from ho2)) (by omega))
        have HB2 := Lib.hid (below_next HB.out hb2)
        clear D hb2 HB ho2
        go_wp2_with fail
        refine X.out.mono ?_; rintro e w3 ⟨hb3, v3, rfl, ho3⟩
        have TI := tidy_any v3 _ (wheelsOf T) w3 ho3 (by rw [wheels_len]; unfold sortMost; omega) sort_most (fun c hc => (big_ok (wheels_ok HTR.out c hc)).mono (by omega))
        rw [HF.out] at TI
        have TI := Lib.hid TI
        have HB3 := Lib.hid (below_next HB2.out hb3)
        clear X hb3 ho3 HB2
        go_wp2_with fail
        refine TI.out.mono ?_; rintro e w4 ⟨hb4, v4, rfl, ho4⟩
        have H := Lib.hid (show Told w res (.returned (.tuple #[v4, .bool res.isSome])) w4 from ⟨below_next HB3.out hb4, v4, rfl, own_mono ho4 HB3.out.size⟩)
        clear TI hb4 ho4 HB3
        go_wp2
        go_ret2
        exact H.out
    · rw [rwO_long (by omega)]
      have hlz : (12 : Int) < (xs.length : Int) := by omega
      have C := Lib.hid C
      clear hr
      go_enter Try.func53, Try.ntmps53
      go_wp2_with fail
      refine C.out.mono ?_; rintro e w1 ⟨hb1, v1, rfl, ho1⟩
      obtain ⟨g1, c1, rfl, -⟩ := ownL_form (show OwnL encV 8 w1 w.heap.size 92 v1 xs from ho1) hne
      have HB := Lib.hid hb1
      clear C hb1 ho1 hne
      go_wp2
      go_ret2
      exact ⟨HB.out, _, rfl, own_nil _ _ _⟩
end Go.Proofs.Ytdgbpdeimckbfaa
/- The model's rows of designs, designs of rows. -/
namespace Go.Proofs.Ytdgbpdeimckbfaa
set_option maxRecDepth 20000
open Go.ChangeShapes Go.WideShapes Go.ChangeAt Go.RowKit
set_option linter.unusedVariables false
set_option linter.unusedSimpArgs false

theorem ownL_nilD (w : World) (B : Nat) (T : Nat) (g : Nat) (hg : w.heap.size = g) (hB : B ≤ w.heap.size) : (w.alloc (.cells #[] T)).ownsRow B T 8 (.slice (some ⟨g, 0, none⟩) 0 0) 0 [] := by subst hg; exact ownL_nilB w B T hB
theorem rdO_bad {ws : List Wh} {n : Nat} (h : rowLen n = true) (hv : valid ws = false) : rdO ws n = none := by
  rw [rdO_nat h]
  refine coll_none (k := 0) ?_ (rowLen_in h).1
  unfold atD
  rw [hv]; rfl
set_option maxHeartbeats 3000000 in
theorem specRowOf_any (v : Value) (n : Int) (ws : List Wh) (w : World) (hv : Reads w v ws) : Calls Try.prog 29 #[v, .int .i64 n] w (ToldL 36 w (rdO ws n)) := by
  have hz : Below w.heap.size w (w.alloc (.cells #[] 36)) := (Below.refl _ _).alloc (Nat.le_refl _) _
  have LN := fun w => specLength_any n w
  have DV := specDesignValid_any v ws (w.alloc (.cells #[] 36)) (hv.below hz)
  have HV := Lib.hid hv
  have HO0 := Lib.hid (ownL_nilB w w.heap.size 36 (Nat.le_refl _))
  have HL0 := Lib.hid hz
  clear hz hv
  cases hl : rowZ n
  · rw [hl] at LN
    rw [rdO_no hl]
    clear hl
    go_enter Try.func29, Try.ntmps29
    go_wp2_with fail
    refine (LN _).mono ?_; rintro e w1 ⟨rfl, rfl⟩
    clear LN
    go_wp2
    go_ret2
    exact ⟨HL0.out, _, rfl, HO0.out⟩
  · rw [hl] at LN
    have h1 : 1 ≤ n := by unfold rowZ at hl; simp at hl; exact hl.1
    obtain ⟨m, rfl⟩ : ∃ m : Nat, n = m := ⟨n.toNat, by omega⟩
    rw [rowZ_nat] at hl
    cases hvd : valid ws
    · rw [rdO_bad hl hvd]
      rw [hvd] at DV
      have DV := Lib.hid DV
      clear hl hvd
      go_enter Try.func29, Try.ntmps29
      go_wp2_with fail
      refine (LN _).mono ?_; rintro e w1 ⟨rfl, rfl⟩
      clear LN
      go_wp2_with fail
      refine DV.out.mono ?_; rintro e w2 ⟨rfl, hb2⟩
      have HL1 := Lib.hid (below_next HL0.out hb2)
      have HO1 := Lib.hid (rows_below HO0.out hb2)
      clear DV hb2 HL0 HO0
      go_wp2
      go_ret2
      exact ⟨HL1.out, _, rfl, HO1.out⟩
    · rw [hvd] at DV
      have DV := Lib.hid DV
      rw [rdO_nat hl]
      have h24 := (rowLen_in hl).2.2
      clear hl hvd
      generalize hres : coll (fun k => atD ws (((k * (24 / m) : Nat)) : Int)) m = res
      have HRES := Lib.hid hres
      obtain ⟨q, hq⟩ : ∃ q, 24 / m = q := ⟨_, rfl⟩
      have hq24 : q ≤ 24 := by rw [← hq]; exact Nat.div_le_self 24 m
      rw [hq] at HRES
      have q4 : (24 : Int).tdiv (m : Int) = (q : Int) := by
        rw [Int.tdiv_eq_ediv_of_nonneg (by decide), ← hq]; simp
      have q5 : IntKind.i64.wrap (q : Int) = (q : Int) := by rw [IntKind.wrap_i64]; omega
      have q6 : ¬ (m : Int) = 0 := by omega
      clear hres hq
      go_enter Try.func29, Try.ntmps29
      go_wp2_with fail
      refine (LN _).mono ?_; rintro e w1 ⟨rfl, rfl⟩
      clear LN
      go_wp2_with fail
      refine DV.out.mono ?_; rintro e w2 ⟨rfl, hb2⟩
      have HL1 := Lib.hid (below_next HL0.out hb2)
      have HO1 := Lib.hid (rows_below HO0.out hb2)
      clear DV hb2 HL0 HO0
      go_wp2
      generalize hb : w.heap.size = b at *
      go_loopw [6, 7, 8, 9] (fun s6 i _ _ wr => ∃ (k : Nat) (l : List V), k ≤ m ∧ i = .int .i64 k ∧ coll (fun k => atD ws (((k * q : Nat)) : Int)) k = some l ∧ OwnL encV 8 wr b 36 s6 l ∧ Below b w wr) (fun _ i _ _ _ => m - (intOf i).toNat)
      case atStart => exact ⟨0, [], Nat.zero_le _, rfl, rfl, HO1.out, HL1.out⟩
      case round =>
        clear HO1 HL1
        obtain ⟨k, l, hk, rfl, hl, hO, hbel⟩ := hrel
        have HL := Lib.hid hl
        have HO := Lib.hid hO
        have HB := Lib.hid hbel
        have hZ : b ≤ wr.heap.size := by have := hbel.size; omega
        have hlk := coll_len hl
        clear hl hO hbel
        by_cases hlt : k < m
        · have hkz : (k : Int) < (m : Int) := by omega
          have hk0 : (0 : Int) ≤ (k : Int) := by omega
          have hkq : k * q ≤ 24 * 24 := Nat.mul_le_mul (by omega) hq24
          have q7 : (k : Int) * (q : Int) = ((k * q : Nat) : Int) := by simp
          have q8 : IntKind.i64.wrap ((k : Int) * (q : Int)) = ((k * q : Nat) : Int) := by rw [q7, IntKind.wrap_i64]; omega
          have D := specDesignAt_any v ws ((k * q : Nat) : Int) wr (HV.out.below (HB.out.mono (by omega)))
          have HSTEP := Lib.hid (coll_step HL.out)
          have HNO : Aside (atD ws ((k * q : Nat) : Int) = none → res = none) := (show _ → _ from fun h => by rw [← HRES.out]; exact coll_none (f := fun k => atD ws (((k * q : Nat)) : Int)) h hlt)
          clear q7 hkq
          generalize ((k * q : Nat) : Int) = kq at *
          cases hs : atD ws kq
          · rw [hs, pointOf_none] at D
            have HF : Aside (res = none) := (show res = none from HNO.out hs)
            have D := Lib.hid D
            clear hs HSTEP HNO
            go_wp2_with fail
            refine D.out.mono ?_; rintro e w3 ⟨rfl, hb3⟩
            have hb4 := HB.out.trans (hb3.mono hZ)
            have HB4 := Lib.hid (hb4.alloc (by have := hb4.size; omega) (.cells (vec 8 nul) 36))
            clear D hb3 hb4
            go_wp2_with (refine store_new (ty := 36) rfl rfl rfl rfl zero8 info_cyc ?_)
            go_ret2
            rw [HF.out]
            exact ⟨by rw [hb]; exact HB4.out.alloc (by have := HB4.out.size; omega) _, _, rfl, by rw [hb]; exact ownL_nilD _ _ _ _ (by simp) (by have := HB4.out.size; omega)⟩
          · rename_i a
            rw [hs, pointOf_some] at D
            rw [hs] at HSTEP
            have D := Lib.hid D
            have HC2 : Aside (coll (fun k => atD ws (((k * q : Nat)) : Int)) (k + 1) = some (l ++ [a])) := (show _ = _ from by rw [HSTEP.out]; rfl)
            clear hs HSTEP HNO
            go_wp2_with fail
            refine D.out.mono ?_; rintro e w3 ⟨rfl, hb3⟩
            have HO3 := Lib.hid (World.ownsRow.alloc (rows_below HO.out hb3) (.cells (vec 8 a.up) 36))
            have hb4 := HB.out.trans (hb3.mono hZ)
            have hz4 : b ≤ w3.heap.size := by have := hb4.size; omega
            have HB4 := Lib.hid (hb4.alloc hz4 (.cells (vec 8 a.up) 36))
            have HX4 := Lib.hid (RowAt.new w3 8 36 a.up)
            have hz5 : b ≤ (w3.alloc (.cells (vec 8 a.up) 36)).heap.size := by simp; omega
            clear D hb3 hb4 HO HB
            go_upto_region 8 with (refine store_new (ty := 36) (f' := a.up) rfl rfl rfl rfl zero8 info_cyc ?_)
            show Code.wp _ _ _ _ (w3.alloc (.cells (vec 8 a.up) 36))
            generalize w3.alloc (.cells (vec 8 a.up) 36) = W3 at *
            generalize w3.heap.size = g3 at *
            go_wp2_with (first | (refine load_row (ty := 36) (g := g3) rfl rfl rfl HX4.out Try.underlying36 rfl info_cyc ?_; clear HX4) | (refine one8 tyY rfl rfl rfl ?_) |
              (refine appendL tyY encV_ok rfl rfl rfl rfl (xs := l) (World.ownsRow.alloc HO3.out _) (lit8 _ _ _) (by simp; omega) (HB4.out.alloc hz5 _) (by simp; omega) ?_; intro v2 w4 ho4 hb4 hB4 hgr4))
            go_roundw
            case rel => exact ⟨k + 1, l ++ [a], by omega, by go_num, HC2.out, ho4, hb4⟩
            case measure => simp [intOf]; omega
        · obtain rfl : k = m := by omega
          have HF : Aside (res = some l) := (show res = some l from by rw [← HRES.out]; exact HL.out)
          go_wp2
          go_ret2
          rw [HF.out]
          exact ⟨by rw [hb]; exact HB.out, _, rfl, by rw [hb]; exact HO.out⟩

theorem own9_nilB (w : World) (B : Nat) (T : Nat) (hB : B ≤ w.heap.size) : Own (w.alloc (.cells #[] T)) B T (.slice (some ⟨w.heap.size, 0, none⟩) 0 0) [] := World.ownsRow_made w #[] 0 hB (by simp [maxLen]) (by simp)
theorem append9h {P : Program} {t e : TypeId} {ops : Array Oper} {rest : List Oper} {o : Oper} {a : Act} {Q : Exit → Act → World → Prop} {w0 w : World} {B : Nat} (ty : Ty9 P t e) (hgd : o.guard = none) {s x : Operand} (hop : o.op = .call { callee := .builtin .append, args := #[s, x], argTypes := #[t, t] })
    {v x' : Value} {xs ys : List Wh} (hs : a.eval s = v) (hx : a.eval x = x') (hown : Own w B e v xs) (hr : Reads w x' ys) (hlen : xs.length + ys.length ≤ 1000000000000) (hb : Below B w0 w) (hB : B ≤ w.heap.size)
    (h : ∀ v' w', Own w' B e v' (xs ++ ys) → Below B w0 w' → B ≤ w'.heap.size → w.grownBy w' v.ownBlock → wpList P ops Q rest (a.put o.dst v') w') : wpList P ops Q (o :: rest) a w :=
  wpList_plain hgd fun _ hK => wp_append_list2 ty hop hs hx hown hr hlen hb hB fun v' w' h1 h2 h3 h4 => hK _ _ (h v' w' h1 h2 h3 h4)
/-- Lists of different elements lie apart. -/
theorem own_apart {w : World} {B B' T T' K K' n n' g cap : Nat} {v : Value} {cs cs' : List Value} (h : w.ownsRow B T K (.slice (some ⟨g, 0, none⟩) n cap) n cs) (h' : w.ownsRow B' T' K' v n' cs') (hne : T ≠ T') : some g ≠ v.ownBlock := fun e => by
  rcases h.2 with ⟨h0, _⟩ | ⟨g1, cap1, cur1, e1, _, hg1, _⟩
  · cases h0
  · simp only [Value.slice.injEq, Option.some.injEq, Addr.mk.injEq, and_true, true_and] at e1
    obtain ⟨rfl, rfl⟩ := e1
    rcases h'.2 with ⟨rfl, _⟩ | ⟨g2, cap2, cur2, rfl, _, hg2, _⟩
    · simp [Value.ownBlock] at e
    · simp [Value.ownBlock] at e
      subst e
      rw [hg1] at hg2
      simp only [Option.some.injEq, Obj.cells.injEq] at hg2
      exact hne hg2.2.1
theorem rwO_none1 {xs : List V} (h : trF xs = none) : rwO xs = none := by unfold rwO; rw [h]; split <;> rfl
set_option maxHeartbeats 3000000 in
theorem specRowDesign_any (v : Value) (xs : List V) (w : World) (hv : ReadsL encV w v xs) : Calls Try.prog 54 #[v] w (Told w (rwO xs)) := by
  have hz : Below w.heap.size w (w.alloc (.cells #[] 125)) := (Below.refl _ _).alloc (Nat.le_refl _) _
  have TF := specTransformOf_any v xs (w.alloc (.cells #[] 125)) (hv.below hz)
  have HO0 := Lib.hid (own9_nilB w w.heap.size 125 (Nat.le_refl _))
  have HL0 := Lib.hid hz
  obtain ⟨p0, c0, rfl, -⟩ := hv
  clear hz
  generalize hres : rwO xs = res
  have HRES := Lib.hid hres
  clear hres
  cases ht : trF xs with
  | none =>
    have HF : Aside (res = none) := (show res = none from by rw [← HRES.out]; exact rwO_none1 ht)
    rw [ht] at TF
    have TF := Lib.hid TF
    clear ht
    go_enter Try.func54, Try.ntmps54
    go_wp2_with fail
    refine TF.out.mono ?_; rintro e w1 ⟨hb1, v1, rfl, -⟩
    have HL1 := Lib.hid (below_next HL0.out hb1)
    have HO1 := Lib.hid (own_below HO0.out hb1)
    clear TF hb1 HL0 HO0
    go_wp2
    go_ret2
    rw [HF.out]
    exact ⟨HL1.out, _, rfl, HO1.out⟩
  | some T =>
    rw [ht] at TF
    obtain ⟨-, hTl, hTr, -⟩ := trO_some ht
    by_cases hl : xs.length ≤ 12
    · have HF : Aside (tidy false (wheelsOf T) = res) := (show _ = res from by rw [← HRES.out, rwO_bind hl, ht]; rfl)
      have HTR := Lib.hid hTr
      have HTL := Lib.hid hTl
      have hlz : ¬ (12 : Int) < (xs.length : Int) := by omega
      have hne := rowOk_ne' hTr
      have TF := Lib.hid TF
      clear ht hTr hTl HRES
      go_enter Try.func54, Try.ntmps54
      go_wp2_with fail
      refine TF.out.mono ?_; rintro e w1 ⟨hb1, v1, rfl, ho1⟩
      have HO1 := Lib.hid (own_below HO0.out hb1)
      have HL1 := Lib.hid (below_next HL0.out hb1)
      obtain ⟨g1, c1, rfl, -, -, -, hc1, hm1⟩ := ownL_form (show OwnL encV 8 w1 _ 36 v1 T from ho1) hne
      simp only [maxLen] at hm1
      have HT1 := Lib.hid (show w1.ownsRow _ 36 8 (.slice (some ⟨g1, 0, none⟩) T.length c1) T.length (flt encV T) from ho1)
      clear TF hb1 HL0 HO0 ho1
      generalize (w.alloc (.cells #[] 125)).heap.size = bb at *
      go_wp2
      generalize hb : w.heap.size = b at *
      go_loopw [4, 8, 9] (fun s4 i _ wr => ∃ k : Nat, k ≤ xs.length ∧ i = .int .i64 k ∧ Own wr b 125 s4 (whs xs.length T k) ∧ Below b w wr ∧ wr.ownsRow bb 36 8 (.slice (some ⟨g1, 0, none⟩) T.length c1) T.length (flt encV T)) (fun _ i _ _ => xs.length - (intOf i).toNat)
      case atStart => exact ⟨0, Nat.zero_le _, rfl, HO1.out, HL1.out, HT1.out⟩
      case round =>
        clear HO1 HL1 HT1
        obtain ⟨k, hk, rfl, hO, hbel, hT⟩ := hrel
        have HO := Lib.hid hO
        have HB := Lib.hid hbel
        have HT := Lib.hid hT
        have hZ : b ≤ wr.heap.size := by have := hbel.size; omega
        have hap := own_apart hT hO (by decide)
        clear hO hbel hT
        by_cases hlt : k < xs.length
        · have hkz : (k : Int) < (xs.length : Int) := by omega
          have hkz2 : (k : Int) < (T.length : Int) := by have := HTL.out; omega
          have hk0 : (0 : Int) ≤ (k : Int) := by omega
          have hlz : ¬ (12 : Int) < (xs.length : Int) := by omega
          have hE := cells_part encV_ok (ownL_parts (en := encV) (xs := T) HT.out rfl).2.1 (at_get (by have := HTL.out; omega : k < T.length))
          rw [Nat.zero_add] at hE
          have HE := Lib.hid hE
          clear hE
          have HNX := Lib.hid (whs_next xs.length T k)
          have hwl : (whs xs.length T k).length = k := by simp [whs]
          generalize at' T k = c at *
          have q1 : IntKind.i64.wrap (2 * (k : Int)) = 2 * (k : Int) := by rw [IntKind.wrap_i64]; omega
          have q2 : IntKind.i64.wrap ((k : Int) - (xs.length : Int)) = (k : Int) - (xs.length : Int) := by rw [IntKind.wrap_i64]; omega
          by_cases h2 : (xs.length : Int) < 2 * (k : Int)
          · have HSP : Aside (spd xs.length k = (k : Int) - (xs.length : Int)) := (show _ = _ from by unfold spd; rw [if_pos (by omega)])
            go_wp2_with (first | (refine load_part (T := 36) (f := c.up) rfl rfl rfl HE.out Try.underlying36 rfl info_cyc ?_; clear HE) | (refine build_wheel rfl rfl rfl rfl built_wheel ?_) | (refine one9 tyW rfl rfl rfl ?_) |
              (refine append9h tyW rfl rfl rfl rfl (xs := whs xs.length T k) (World.ownsRow.alloc HO.out _) (reads_lit _ _ _) (by rw [hwl]; simp; omega) (HB.out.alloc hZ _) (by simp; omega) ?_; intro v2 w4 ho4 hb4 hB4 hgr4; have hT4 := World.ownsRow.kept (World.ownsRow.alloc HT.out _) hgr4 (.inr hap); clear hgr4))
            rw [dn_up] at ho4
            have hO4 : Own w4 b 125 v2 (whs xs.length T (k + 1)) := by
              rw [HNX.out, HSP.out]; exact ho4
            have HO4 := Lib.hid hO4
            have HB4 := Lib.hid hb4
            have HT4 := Lib.hid hT4
            clear ho4 hO4 hb4 hT4
            go_roundw
            case rel => exact ⟨k + 1, by omega, by go_num, HO4.out⟩
            case measure => simp [intOf]; omega
          · have HSP : Aside (spd xs.length k = (k : Int)) := (show _ = _ from by unfold spd; rw [if_neg (by omega)])
            go_wp2_with (first | (refine load_part (T := 36) (f := c.up) rfl rfl rfl HE.out Try.underlying36 rfl info_cyc ?_; clear HE) | (refine build_wheel rfl rfl rfl rfl built_wheel ?_) | (refine one9 tyW rfl rfl rfl ?_) |
              (refine append9h tyW rfl rfl rfl rfl (xs := whs xs.length T k) (World.ownsRow.alloc HO.out _) (reads_lit _ _ _) (by rw [hwl]; simp; omega) (HB.out.alloc hZ _) (by simp; omega) ?_; intro v2 w4 ho4 hb4 hB4 hgr4; have hT4 := World.ownsRow.kept (World.ownsRow.alloc HT.out _) hgr4 (.inr hap); clear hgr4))
            rw [dn_up] at ho4
            have hO4 : Own w4 b 125 v2 (whs xs.length T (k + 1)) := by
              rw [HNX.out, HSP.out]; exact ho4
            have HO4 := Lib.hid hO4
            have HB4 := Lib.hid hb4
            have HT4 := Lib.hid hT4
            clear ho4 hO4 hb4 hT4
            go_roundw
            case rel => exact ⟨k + 1, by omega, by go_num, HO4.out⟩
            case measure => simp [intOf]; omega
        · obtain rfl : k = xs.length := by omega
          have TI := l5Tidy_any _ (whs xs.length T xs.length) wr (own_reads HO.out) (by simp [whs]; omega) (fun c hc => (big_ok (wheels_ok HTR.out c (by unfold wheelsOf; rw [HTL.out]; exact hc))).mono (by omega))
          have eW : whs xs.length T xs.length = wheelsOf T := by unfold wheelsOf whs; rw [HTL.out]
          rw [eW, tidy_first (wheels_ok HTR.out), HF.out] at TI
          have TI := Lib.hid TI
          clear eW
          go_wp2_with fail
          refine TI.out.mono ?_; rintro e w4 ⟨hb4, v4, rfl, ho4⟩
          have H := Lib.hid (show Told w res (.returned (.tuple #[v4, .bool res.isSome])) w4 from ⟨by rw [hb]; exact HB.out.trans (hb4.mono hZ), v4, rfl, by rw [hb]; exact own_mono ho4 hZ⟩)
          clear TI hb4 ho4
          go_wp2
          go_ret2
          exact H.out
    · have HF : Aside (res = none) := (show res = none from by rw [← HRES.out]; exact rwO_long (by omega))
      have hlz : (12 : Int) < (xs.length : Int) := by omega
      have TF := Lib.hid TF
      clear ht hTr hTl
      go_enter Try.func54, Try.ntmps54
      go_wp2_with fail
      refine TF.out.mono ?_; rintro e w1 ⟨hb1, v1, rfl, -⟩
      have HL1 := Lib.hid (below_next HL0.out hb1)
      have HO1 := Lib.hid (own_below HO0.out hb1)
      clear TF hb1 HL0 HO0
      go_wp2
      go_ret2
      rw [HF.out]
      exact ⟨HL1.out, _, rfl, HO1.out⟩
end Go.Proofs.Ytdgbpdeimckbfaa
