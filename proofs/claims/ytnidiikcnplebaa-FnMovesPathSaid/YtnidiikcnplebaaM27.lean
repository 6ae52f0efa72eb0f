/-
  Both sides: the paths of moves.
  Both sides: the paths of moves, told.
  The laws' helpers on lists of points in words: compared, marked, held.
  Both sides: lengths of moves.
-/
import Derived.Test.YtnidiikcnplebaaM26
import Derived.Test.YtnidiikcnplebaaM22
import Derived.Test.YtnidiikcnplebaaM21
import Derived.Test.YtnidiikcnplebaaM07
/- Both sides: the paths of moves. -/
namespace Go.Proofs.Ytnidiikcnplebaa
set_option maxRecDepth 20000
open Go.ChangeShapes Go.WideShapes Go.ChangeAt Go.RowKit
set_option linter.unusedVariables false
set_option linter.unusedSimpArgs false

/-- So many units, as a part of a point. -/
def quoW (n : Int) (g : Nat) : Nat := (floatBits .quo .f32 (floatOfInt .f32 n) (sclW g)).getD 0
theorem fs_int {n : Int} (h : -10000000000 ≤ n ∧ n ≤ 10000000000) : FS (floatOfInt .f32 n) (decide (n < 0)) (rndN 23 n.natAbs * 2 ^ loS) := by
  refine int_fv fmtS n (fits_small (by decide) ?_)
  have e : n.natAbs * 2 ^ loS < 2 ^ (34 + loS) := by
    rw [Nat.pow_add]; exact Nat.mul_lt_mul_of_pos_right (by omega) (Nat.two_pow_pos _)
  have := log_of_lt e (by omega)
  rw [loS_eq] at this; rw [loS_eq]; omega
theorem quo_some {n : Int} {g : Nat} (h : -10000000000 ≤ n ∧ n ≤ 10000000000) (hg : g ≤ 8) : floatBits .quo .f32 (floatOfInt .f32 n) (sclW g) = some (quoW n g) := by
  obtain ⟨m, b, r, -⟩ := fs_int h
  have hs := scl_read hg
  unfold quoW
  have : ∃ z, floatBits .quo .f32 (floatOfInt .f32 n) (sclW g) = some z := by
    show ∃ z, ((Ieee.single.read (floatOfInt .f32 n)).quotient (Ieee.single.fractionBits + 2) (Ieee.single.read (sclW g))).map Ieee.single.write = some z
    rw [r, hs]
    simp only [Ieee.Datum.quotient]
    rw [if_neg (Nat.ne_of_gt (Nat.two_pow_pos 23))]
    exact ⟨_, rfl⟩
  obtain ⟨z, hz⟩ := this
  rw [hz]; rfl
def ptW (g : Nat) (m : Mv) : Pn := (quoW m.1 g, quoW m.2 g)
/-- The points that moves lead to. -/
def pathL (g : Nat) (xs : List Mv) : List Pn := (List.range xs.length).map fun k => ptW g (sumM (xs.take (k + 1)))
theorem pathL_len (g : Nat) (xs : List Mv) : (pathL g xs).length = xs.length := by simp [pathL]
theorem pathL_at {g k : Nat} {xs : List Mv} (h : k < xs.length) : (pathL g xs)[k]? = some (ptW g (sumM (xs.take (k + 1)))) := by simp [pathL, h]
theorem pathL_next {g k : Nat} {xs : List Mv} (h : k < xs.length) : (pathL g xs).take (k + 1) = (pathL g xs).take k ++ [ptW g (sumM (xs.take (k + 1)))] := take_nextL (pathL_at h)
def mpO (xs : List Mv) (g : Int) : Option (List Pn) := if mvB xs && grB g && pvB (pathL g.toNat xs) then some (pathL g.toNat xs) else none
theorem mpO_1 {xs : List Mv} {g : Int} (h : mvB xs = false) : mpO xs g = none := by unfold mpO; rw [h]; rfl
theorem mpO_2 {xs : List Mv} {g : Int} (h : grB g = false) : mpO xs g = none := by unfold mpO; rw [h, Bool.and_false]; rfl
theorem mpO_3 {xs : List Mv} {n : Nat} (h : pvB (pathL n xs) = false) : mpO xs n = none := by
  unfold mpO
  rw [Int.toNat_natCast, h, Bool.and_false]; rfl
theorem mpO_yes {xs : List Mv} {n : Nat} (h : mvB xs = true) (h2 : grB n = true) (h3 : pvB (pathL n xs) = true) : mpO xs n = some (pathL n xs) := by
  unfold mpO
  rw [Int.toNat_natCast, h, h2, h3]; rfl
theorem gridPoint_any (g : Nat) (m : Mv) (hg : g ≤ 8) (h1 : -10000000000 ≤ m.1 ∧ m.1 ≤ 10000000000) (h2 : -10000000000 ≤ m.2 ∧ m.2 ≤ 10000000000) (w : World) :
    Calls Try.prog 118 #[.int .i64 g, mvV m] w fun e w' => e = .returned (csP (ptW g m)) ∧ Below w.heap.size w w' := by
  have S := fun w => scale_any g hg w
  have R1 : ∀ t w, (binOp .quo t (.float .f32 (floatOfInt .f32 m.1)) (.float .f32 (sclW g))).run Try.prog w = .ok (.float .f32 (quoW m.1 g)) w := fun t w => run_float_arith w .quo t .f32 _ _ _ (quo_some h1 hg)
  have R2 : ∀ t w, (binOp .quo t (.float .f32 (floatOfInt .f32 m.2)) (.float .f32 (sclW g))).run Try.prog w = .ok (.float .f32 (quoW m.2 g)) w := fun t w => run_float_arith w .quo t .f32 _ _ _ (quo_some h2 hg)
  obtain ⟨x, y⟩ := m
  unfold csP cs ptW mvV
  simp only at R1 R2 ⊢
  clear h1 h2 hg
  generalize quoW x g = p at *
  generalize quoW y g = q at *
  generalize sclW g = sc at *
  go_enter Try.func118, Try.ntmps118
  go_wp2_with fail
  go_quiet (first | rw [R1] | rw [R2] | (go_at_call 133; exact calm ⟨_, rfl⟩ (S _)) | (go_at_call 133; exact calm2 (S _)))
  go_wp2
  go_ret
  exact ⟨rfl, below_drewN (mv_lies _ _) _⟩
theorem sumM_in {xs : List Mv} (h : ∀ y ∈ xs, big y ≤ 10000000) (hl : xs.length ≤ 100) {k : Nat} (hk : k ≤ xs.length) : (-1000000000 ≤ (sumM (xs.take k)).1 ∧ (sumM (xs.take k)).1 ≤ 1000000000) ∧ (-1000000000 ≤ (sumM (xs.take k)).2 ∧ (sumM (xs.take k)).2 ≤ 1000000000) := by
  have := sumM_big h k hk
  unfold big at this
  omega
set_option maxHeartbeats 2000000 in
theorem movesPath_any (v : Value) (g : Nat) (xs : List Mv) (w : World) (hv : ReadsL encM w v xs) (hg : g ≤ 8) (hq : mvB xs = true) :
    Calls Try.prog 86 #[v, .int .i64 g] w fun e w' => ∃ v', e = .returned v' ∧ OwnL encC 1 w' w.heap.size 35 v' (pathL g xs) ∧ Below w.heap.size w w' := by
  obtain ⟨p, cap, rfl, hc1, hc2, hp0, hp⟩ := hv
  simp only [maxLen] at hc2
  have hok := mvB_parts hq
  have HK : Aside (∀ y ∈ xs, big y ≤ 10000000) := (show ∀ y ∈ xs, big y ≤ 10000000 from fun y hy => ok_big (hok.2 y hy))
  have hlen := hok.1
  have HP := Lib.hid hp
  clear hp hok hq
  go_enter Try.func86, Try.ntmps86
  go_wp2_with (refine makeL (en := encC) tyPa rfl rfl xs.length rfl rfl (by omega) (Below.refl _ w) (Nat.le_refl _) ?_; intro w2 ho1 hb1 hB1)
  have O0 : OwnL encC 1 (w2.alloc (.cells #[.int .i64 0, .int .i64 0] 45)) w.heap.size 35 (.slice (some ⟨w.heap.size, 0, none⟩) ((pathL g xs).take 0).length xs.length) ((pathL g xs).take 0) := World.ownsRow.alloc ho1 _
  have R0 : RowAt (w2.alloc (.cells #[.int .i64 0, .int .i64 0] 45)) w2.heap.size 2 45 (mfn (sumM (xs.take 0))) := RowAt.newAt rfl rfl
  have B0 : Below w.heap.size w (w2.alloc (.cells #[.int .i64 0, .int .i64 0] 45)) := below_next hb1 (mv_lies _ _)
  have Z0 : w.heap.size < w2.heap.size := (ho1.lt w.heap.size rfl).2
  have HZ := Lib.hid Z0
  clear ho1 hb1 hB1 Z0
  show Code.wp _ _ _ _ (w2.alloc (.cells #[.int .i64 0, .int .i64 0] 45))
  generalize w2.alloc (.cells #[.int .i64 0, .int .i64 0] 45) = W0 at *
  generalize w2.heap.size = g6 at *
  go_loopw [5, 14] (fun v' i wr => ∃ k : Nat, k ≤ xs.length ∧ i = .int .i64 k ∧ v' = .slice (some ⟨w.heap.size, 0, none⟩) ((pathL g xs).take k).length xs.length ∧ OwnL encC 1 wr w.heap.size 35 (.slice (some ⟨w.heap.size, 0, none⟩) ((pathL g xs).take k).length xs.length) ((pathL g xs).take k) ∧ RowAt wr g6 2 45 (mfn (sumM (xs.take k))) ∧ Below w.heap.size w wr) (fun _ i _ => xs.length - (intOf i).toNat)
  case atStart => exact ⟨0, Nat.zero_le _, rfl, rfl, O0, R0, B0⟩
  case round =>
    clear O0 R0 B0
    obtain ⟨k, hk, rfl, rfl, hO, hR, hbel⟩ := hrel
    by_cases hlt : k < xs.length
    · have hkz : (k : Int) < (xs.length : Int) := by omega
      have hk0 : (0 : Int) ≤ (k : Int) := by omega
      obtain ⟨a, ha⟩ : ∃ a, xs[k]? = some a := ⟨_, List.getElem?_eq_getElem hlt⟩
      obtain ⟨gg, o, rfl, hgg, hr⟩ := HP.out (by rintro rfl; have := hp0 rfl; omega)
      obtain ⟨c0, c1⟩ := mv_cells (cells_below hr hgg hbel) ha
      have hb1 := sumM_in HK.out hlen hk
      have hb2 := sumM_in HK.out hlen (k := k + 1) (by omega)
      have hba := HK.out a (List.mem_of_getElem? ha)
      unfold big at hba
      have P := fun w => plus_mv (sumM (xs.take k)) a (by omega) (by omega) (by omega) (by omega) w
      rw [← sumM_next ha] at P
      have Q := fun w => gridPoint_any g (sumM (xs.take (k + 1))) hg (by omega) (by omega) w
      have HN := Lib.hid (pathL_next (g := g) hlt)
      have hpl : ((pathL g xs).take k).length + 1 ≤ xs.length := by rw [List.length_take]; omega
      have HPL := Lib.hid hpl
      have HO := Lib.hid hO
      have HL := Lib.hid hbel
      have HR := Lib.hid hR
      clear hr ha hb1 hb2 hba hO hbel hpl
      obtain ⟨s1, hs1⟩ : ∃ s, sumM (xs.take (k + 1)) = s := ⟨_, rfl⟩
      have HS1 := Lib.hid hs1
      rw [hs1] at P Q HN
      clear hs1
      generalize sumM (xs.take k) = s0 at *
      obtain ⟨z, hz⟩ : ∃ z, ptW g s1 = z := ⟨_, rfl⟩
      rw [hz] at Q HN
      clear hz
      generalize (pathL g xs).take k = LL at *
      have r0 : wr.cell? ⟨g6, 0, none⟩ = some (.int .i64 s0.1) := hR.cell (k := 0) (by decide)
      have r1 : wr.cell? ⟨g6, 1, none⟩ = some (.int .i64 s0.2) := hR.cell (k := 1) (by decide)
      have rl := hR.lt
      clear hR
      unfold csP cs at Q
      have P' : ∀ w, Calls Try.prog 117 #[.agg (vec 2 (mfn s0)), .agg (vec 2 (mfn a))] w fun e w' => e = .returned (.agg (vec 2 (mfn s1))) ∧ Below w.heap.size w w' := P
      have Q' : ∀ w, Calls Try.prog 118 #[.int .i64 g, .agg (vec 2 (mfn s1))] w fun e w' => e = .returned (.complex .f32 z.1 z.2) ∧ Below w.heap.size w w' := Q
      clear P Q
      go_upto_region 6 with fail
      show Code.wp _ _ _ _ (wr.alloc (.cells #[.int .i64 a.1, .int .i64 a.2] 45))
      have HRa : Aside (RowAt (wr.alloc (.cells #[.int .i64 a.1, .int .i64 a.2] 45)) wr.heap.size 2 45 (mfn a)) := (show RowAt _ _ _ _ _ from RowAt.newAt rfl rfl)
      have HR6 := Lib.hid (HR.out.alloc (.cells #[.int .i64 a.1, .int .i64 a.2] 45))
      have HO6 := Lib.hid (World.ownsRow.alloc HO.out (.cells #[.int .i64 a.1, .int .i64 a.2] 45))
      have HL6 := Lib.hid (below_next HL.out (mv_lies wr (.cells #[.int .i64 a.1, .int .i64 a.2] 45)))
      clear HR HO HL r0 r1 rl c0 c1
      generalize wr.alloc (.cells #[.int .i64 a.1, .int .i64 a.2] 45) = w5 at *
      generalize wr.heap.size = ga at *
      go_wp2_with (first | (refine load_row (g := g6) rfl rfl rfl HR6.out Try.underlying45 rfl info_mv ?_) | (refine load_row (g := ga) rfl rfl rfl HRa.out Try.underlying45 rfl info_mv ?_))
      refine (P' _).mono ?_; rintro e w7 ⟨rfl, hb7⟩
      have HR7 := Lib.hid (HR6.out.below hb7)
      have HO7 := Lib.hid (rows_below HO6.out hb7)
      have HL7 := Lib.hid (below_next HL6.out hb7)
      clear hb7 HR6 HO6 HL6 HRa P'
      go_upto_region 7 with (first | (refine store_row (g := g6) (f' := mfn s1) rfl rfl rfl rfl HR7.out info_mv ?_))
      show Code.wp _ _ _ _ (w7.setRow g6 (vec 2 (mfn s1)))
      have HR8 := Lib.hid (HR7.out.setRow (f' := mfn s1))
      have HO8 := Lib.hid (own_setRow_ne HO7.out (gx := g6) (by simp [Value.ownBlock]; have := HZ.out; omega) (vec 2 (mfn s1)))
      have HL8 := Lib.hid (below_setRow HL7.out (Nat.le_of_lt HZ.out) (vec 2 (mfn s1)))
      clear HR7 HO7 HL7
      generalize w7.setRow g6 (vec 2 (mfn s1)) = w8 at *
      go_wp2_with (first | (refine load_row (g := g6) rfl rfl rfl HR8.out Try.underlying45 rfl info_mv ?_))
      refine (Q' _).mono ?_; rintro e w9 ⟨rfl, hb9⟩
      have HR9 := Lib.hid (HR8.out.below hb9)
      have HO9 := Lib.hid (rows_below HO8.out hb9)
      have HL9 := Lib.hid (below_next HL8.out hb9)
      clear hb9 HR8 HO8 HL8 Q'
      go_wp2_with (at_builtin; refine append_fitL tyPa encC_ok rfl rfl rfl rfl (xs := LL) (ys := [z]) (World.ownsRow.alloc HO9.out _) (litL_range (en := encC) _ z _) HPL.out ?_; intro w10 ho10 hgr10)
      have HR10 : Aside (RowAt w10 g6 2 45 (mfn s1)) := (show RowAt _ _ _ _ _ from (hgr10.block g6 (by have := HR9.out.lt; simp; omega) (fun e => by cases e; exact absurd HZ.out (Nat.lt_irrefl _))).trans (HR9.out.alloc _))
      have HL10 := Lib.hid ((below_next HL9.out (mv_lies w9 (.cells #[.complex .f32 z.1 z.2] 35))).grown hgr10 (by have := HL9.out.size; simp; omega) (fun k hk => by cases hk; exact Nat.le_refl _))
      clear hgr10 HR9 HO9 HL9
      go_roundw
      case rel => exact ⟨k + 1, by omega, by go_num, by simp [HN.out], by rw [HN.out]; exact ho10, by rw [HS1.out]; exact HR10.out, HL10.out⟩
      case measure => simp [intOf]; omega
    · obtain rfl : k = xs.length := by omega
      have HO := Lib.hid hO
      have HL := Lib.hid hbel
      clear hO hbel hR
      go_wp2
      go_ret
      have ho := HO.out
      rw [List.take_of_length_le (by rw [pathL_len]; exact Nat.le_refl _)] at ho
      exact ⟨_, by rw [List.take_of_length_le (by rw [pathL_len]; exact Nat.le_refl _)]; rfl, ho, HL.out⟩
end Go.Proofs.Ytnidiikcnplebaa
/- Both sides: the paths of moves, told. -/
namespace Go.Proofs.Ytnidiikcnplebaa
set_option maxRecDepth 20000
open Go.ChangeShapes Go.WideShapes Go.ChangeAt Go.RowKit
set_option linter.unusedVariables false
set_option linter.unusedSimpArgs false

theorem MovesPath_any (v : Value) (g : Int) (xs : List Mv) (w : World) (hv : ReadsL encM w v xs) : Calls Try.prog 36 #[v, .int .i64 g] w (ToldC w (mpO xs g)) := by
  have C := movesValid_any v xs w hv
  have G := fun w => gridValid_any g w
  cases h1 : mvB xs with
  | false =>
    rw [h1] at C
    rw [mpO_1 h1]
    obtain ⟨p, cap, rfl, -⟩ := hv
    go_enter Try.func36, Try.ntmps36
    go_wp2_with fail
    refine C.mono ?_; rintro e w2 ⟨rfl, hb2⟩
    have HB2 := Lib.hid hb2
    clear C hb2
    go_wp2_with fail
    go_ret2
    exact ⟨HB2.out, _, rfl, ownC_none _ _ _⟩
  | true =>
    rw [h1] at C
    cases h2 : grB g with
    | false =>
      rw [h2] at G
      rw [mpO_2 h2]
      obtain ⟨p, cap, rfl, -⟩ := hv
      go_enter Try.func36, Try.ntmps36
      go_wp2_with fail
      refine C.mono ?_; rintro e w2 ⟨rfl, hb2⟩
      have HB2 := Lib.hid hb2
      clear C hb2
      go_wp2_with fail
      refine (G _).mono ?_; rintro e w3 ⟨rfl, rfl⟩
      go_wp2_with fail
      go_ret2
      exact ⟨HB2.out, _, rfl, ownC_none _ _ _⟩
    | true =>
      rw [h2] at G
      obtain ⟨n, rfl, hn⟩ := grB_yes h2
      have M := fun w2 hb => movesPath_any v n xs w2 (hv.below hb) hn h1
      cases h3 : pvB (pathL n xs) with
      | false =>
        rw [mpO_3 h3]
        clear h1 h2
        obtain ⟨p, cap, rfl, -⟩ := hv
        go_enter Try.func36, Try.ntmps36
        go_wp2_with fail
        refine C.mono ?_; rintro e w2 ⟨rfl, hb2⟩
        have HB2 := Lib.hid hb2
        have M2 := M w2 hb2
        clear C hb2 M
        go_wp2_with fail
        refine (G _).mono ?_; rintro e w3 ⟨rfl, rfl⟩
        go_wp2_with fail
        refine M2.mono ?_; rintro e w4 ⟨v4, rfl, ho4, hb4⟩
        have HB4 := Lib.hid (below_next HB2.out hb4)
        have T := pathTold_any v4 (pathL n xs) w4 (ownL_reads ho4)
        rw [h3, if_neg (by decide)] at T
        clear M2 hb4 ho4 h3
        go_wp2_with fail
        refine T.mono ?_; rintro e w5 ⟨rfl, hb5⟩
        have HB5 := Lib.hid (below_next HB4.out hb5)
        clear T hb5
        go_wp2_with fail
        go_ret2
        exact ⟨HB5.out, _, rfl, ownC_none _ _ _⟩
      | true =>
        rw [mpO_yes h1 h2 h3]
        clear h1 h2
        obtain ⟨p, cap, rfl, -⟩ := hv
        generalize pathL n xs = ps at *
        go_enter Try.func36, Try.ntmps36
        go_wp2_with fail
        refine C.mono ?_; rintro e w2 ⟨rfl, hb2⟩
        have HB2 := Lib.hid hb2
        have M2 := M w2 hb2
        clear C hb2 M
        go_wp2_with fail
        refine (G _).mono ?_; rintro e w3 ⟨rfl, rfl⟩
        go_wp2_with fail
        refine M2.mono ?_; rintro e w4 ⟨v4, rfl, ho4, hb4⟩
        have HB4 := Lib.hid (below_next HB2.out hb4)
        have HO4 := Lib.hid (rows_mono ho4 HB2.out.size)
        have T := pathTold_any v4 ps w4 (ownL_reads ho4)
        rw [h3, if_pos rfl] at T
        clear M2 hb4 ho4 h3
        go_wp2_with fail
        refine T.mono ?_; rintro e w5 ⟨rfl, hb5⟩
        have HB5 := Lib.hid (below_next HB4.out hb5)
        have HO5 := Lib.hid (rows_below HO4.out hb5)
        clear T hb5
        go_wp2_with fail
        go_ret2
        exact ⟨HB5.out, _, rfl, HO5.out⟩
set_option maxHeartbeats 2000000 in
theorem specMovesPath_any (v : Value) (g : Int) (xs : List Mv) (w : World) (hv : ReadsL encM w v xs) : Calls Try.prog 37 #[v, .int .i64 g] w (ToldC w (mpO xs g)) := by
  have C := specMoves_any v xs (w.alloc (.cells #[] 35)) (hv.below (mv_lies _ _))
  have G := fun w => specIn_grid g w
  cases h1 : mvB xs with
  | false =>
    rw [h1] at C
    rw [mpO_1 h1]
    obtain ⟨p, cap, rfl, -⟩ := hv
    go_enter Try.func37, Try.ntmps37
    go_wp2_with fail
    refine C.mono ?_; rintro e w2 ⟨rfl, rfl⟩
    clear C
    go_wp2_with fail
    go_ret2
    exact ⟨mv_lies _ _, _, rfl, ownC_nil _ _ _ (Nat.le_refl _)⟩
  | true =>
    rw [h1] at C
    by_cases h0 : xs.length = 0
    · have hm : mpO xs g = none := by
        unfold mpO
        rw [pvB_len (by rw [pathL_len]; omega), Bool.and_false]; rfl
      rw [hm]
      obtain ⟨p, cap, rfl, -⟩ := hv
      rw [h0] at C ⊢
      go_enter Try.func37, Try.ntmps37
      go_wp2_with fail
      refine C.mono ?_; rintro e w2 ⟨rfl, rfl⟩
      clear C
      go_wp2_with fail
      go_ret2
      exact ⟨mv_lies _ _, _, rfl, ownC_nil _ _ _ (Nat.le_refl _)⟩
    · have h0z : ¬ (xs.length : Int) = 0 := by omega
      have h0b : ((xs.length : Int) == 0) = false := beq_eq_false_iff_ne.2 h0z
      cases h2 : grB g with
      | false =>
        rw [h2] at G
        rw [mpO_2 h2]
        obtain ⟨p, cap, rfl, -⟩ := hv
        go_enter Try.func37, Try.ntmps37
        go_wp2_with fail
        refine C.mono ?_; rintro e w2 ⟨rfl, rfl⟩
        clear C
        go_wp2_with fail
        refine (G _).mono ?_; rintro e w3 ⟨rfl, rfl⟩
        go_wp2_with fail
        go_ret2
        exact ⟨mv_lies _ _, _, rfl, ownC_nil _ _ _ (Nat.le_refl _)⟩
      | true =>
        rw [h2] at G
        obtain ⟨n, rfl, hn⟩ := grB_yes h2
        generalize hres : mpO xs n = res
        have HRES : Aside (∀ b, pvB (pathL n xs) = b → res = if b = true then some (pathL n xs) else none) := (show ∀ b, pvB (pathL n xs) = b → res = if b = true then some (pathL n xs) else none from fun b hb => by
          rw [← hres]
          cases b with
          | true => rw [mpO_yes h1 h2 hb, if_pos rfl]
          | false => rw [mpO_3 hb, if_neg (by decide)])
        have hok := mvB_parts h1
        have HK : Aside (∀ y ∈ xs, big y ≤ 10000000) := (show ∀ y ∈ xs, big y ≤ 10000000 from fun y hy => ok_big (hok.2 y hy))
        have hlen := hok.1
        have hsh := shl_g hn
        clear hres hok h1 h2
        obtain ⟨p, cap, rfl, hc1, hc2, hp0, hp⟩ := hv
        simp only [maxLen] at hc2
        have HP := Lib.hid hp
        clear hp
        have QQ : ∀ m : Int, (-10000000000 ≤ m ∧ m ≤ 10000000000) → ∀ t w, (binOp .quo t (.float .f32 (floatOfInt .f32 m)) (.float .f32 (sclW n))).run Try.prog w = .ok (.float .f32 (quoW m n)) w := fun m h1 t w => run_float_arith w .quo t .f32 _ _ _ (quo_some h1 hn)
        unfold sclW at QQ
        rw [← hsh] at QQ
        clear hsh hn
        go_enter Try.func37, Try.ntmps37
        go_wp2_with fail
        refine C.mono ?_; rintro e w2 ⟨rfl, rfl⟩
        clear C
        go_wp2_with fail
        refine (G _).mono ?_; rintro e w3 ⟨rfl, rfl⟩
        clear G
        go_wp2_with fail
        have O0 := ownC_nil w w.heap.size 35 (Nat.le_refl _)
        have B0 := mv_lies w (.cells #[] 35)
        generalize w.alloc (.cells #[] 35) = W0 at *
        go_loopw [6, 7, 8, 10] (fun v' x y i wr => ∃ k : Nat, k ≤ xs.length ∧ i = .int .i64 k ∧ x = .int .i64 (sumM (xs.take k)).1 ∧ y = .int .i64 (sumM (xs.take k)).2 ∧ OwnL encC 1 wr w.heap.size 35 v' ((pathL n xs).take k) ∧ Below w.heap.size w wr ∧ w.heap.size ≤ wr.heap.size) (fun _ _ _ i _ => xs.length - (intOf i).toNat)
        case atStart => exact ⟨0, Nat.zero_le _, rfl, rfl, rfl, O0, B0, B0.size⟩
        case round =>
          clear O0 B0
          obtain ⟨k, hk, rfl, rfl, rfl, hO, hbel, hB⟩ := hrel
          by_cases hlt : k < xs.length
          · have hkz : (k : Int) < (xs.length : Int) := by omega
            have hk0 : (0 : Int) ≤ (k : Int) := by omega
            obtain ⟨a, ha⟩ : ∃ a, xs[k]? = some a := ⟨_, List.getElem?_eq_getElem hlt⟩
            obtain ⟨gg, o, rfl, hgg, hr⟩ := HP.out (by rintro rfl; have := hp0 rfl; omega)
            obtain ⟨c0, c1⟩ := mv_cells (cells_below hr hgg hbel) ha
            have hb1 := sumM_in HK.out hlen hk
            have hb2 := sumM_in HK.out hlen (k := k + 1) (by omega)
            have hsn := sumM_next ha
            have e1 : (sumM (xs.take k)).1 + a.1 = (sumM (xs.take (k + 1))).1 := by rw [hsn]; rfl
            have e2 : (sumM (xs.take k)).2 + a.2 = (sumM (xs.take (k + 1))).2 := by rw [hsn]; rfl
            have w1 : IntKind.i64.wrap ((sumM (xs.take k)).1 + a.1) = (sumM (xs.take (k + 1))).1 := by rw [IntKind.wrap_i64]; omega
            have w2 : IntKind.i64.wrap ((sumM (xs.take k)).2 + a.2) = (sumM (xs.take (k + 1))).2 := by rw [IntKind.wrap_i64]; omega
            have Q1 := QQ (sumM (xs.take (k + 1))).1 (by omega)
            have Q2 := QQ (sumM (xs.take (k + 1))).2 (by omega)
            have HN := Lib.hid (pathL_next (g := n) hlt)
            have hzz : ptW n (sumM (xs.take (k + 1))) = (quoW (sumM (xs.take (k + 1))).1 n, quoW (sumM (xs.take (k + 1))).2 n) := rfl
            rw [hzz] at HN
            have HO := Lib.hid hO
            have HL := Lib.hid hbel
            have HB := Lib.hid hB
            clear hr ha hb1 hb2 hsn e1 e2 hzz hO hbel hB
            generalize quoW (sumM (xs.take (k + 1))).1 n = q1 at *
            generalize quoW (sumM (xs.take (k + 1))).2 n = q2 at *
            obtain ⟨s1, hs1⟩ : ∃ s, (sumM (xs.take (k + 1))).1 = s := ⟨_, rfl⟩
            obtain ⟨s2, hs2⟩ : ∃ s, (sumM (xs.take (k + 1))).2 = s := ⟨_, rfl⟩
            rw [hs1] at w1 Q1
            rw [hs2] at w2 Q2
            have HS1 := Lib.hid hs1
            have HS2 := Lib.hid hs2
            clear hs1 hs2
            generalize (sumM (xs.take k)).1 = t1 at *
            generalize (sumM (xs.take k)).2 = t2 at *
            go_wp2_with (first | rw [Q1] | rw [Q2] | (at_builtin; refine appendL tyZ encC_ok rfl rfl rfl rfl (xs := (pathL n xs).take k) (World.ownsRow.alloc HO.out _) (litC _ (q1, q2) _) (by simp; omega) (HL.out.alloc HB.out _) (by simp; have := HB.out; omega) ?_; intro v2 w5 ho5 hb5 hB5 hgr5))
            go_roundw
            case rel => exact ⟨k + 1, by omega, by go_num, by rw [HS1.out], by rw [HS2.out], by rw [HN.out]; exact ho5, hb5, hB5⟩
            case measure => simp [intOf]; omega
          · obtain rfl : k = xs.length := by omega
            rw [List.take_of_length_le (by rw [pathL_len]; exact Nat.le_refl _)] at hO
            have T := specPathValid_any _ _ _ (ownL_reads hO)
            have HO := Lib.hid hO
            have HL := Lib.hid hbel
            have HB := Lib.hid hB
            clear hO hbel hB QQ
            have hres := HRES.out _ rfl
            generalize pathL n xs = ps at *
            cases hq : pvB ps with
            | true =>
              rw [hq] at T hres
              rw [if_pos rfl] at hres
              subst hres
              go_wp2_with fail
              refine T.mono ?_; rintro e w4 ⟨rfl, rfl⟩
              clear T
              go_wp2_with fail
              go_ret2
              exact ⟨HL.out, _, rfl, HO.out⟩
            | false =>
              rw [hq] at T hres
              rw [if_neg (by decide)] at hres
              subst hres
              go_wp2_with fail
              refine T.mono ?_; rintro e w4 ⟨rfl, rfl⟩
              clear T
              go_wp2_with fail
              go_ret2
              exact ⟨HL.out.alloc HB.out _, _, rfl, ownC_nil _ _ _ HB.out⟩
end Go.Proofs.Ytnidiikcnplebaa
/- The laws' helpers on lists of points in words: compared, marked, held. -/
namespace Go.Proofs.Ytnidiikcnplebaa
set_option maxRecDepth 20000
open Go.ChangeShapes Go.WideShapes Go.ChangeAt Go.RowKit
set_option linter.unusedVariables false
set_option linter.unusedSimpArgs false

/-! ### Words widened -/
def wdW (x : Nat) : Nat := (floatToFloatBits .f32 x .f64).getD 0
theorem wd_fin {x : Nat} (h : finS x = true) : floatToFloatBits .f32 x .f64 = some (wdW x) ∧ NN (wdW x) := by
  obtain ⟨z, hz, hd⟩ := fs_wider (fin_fs h)
  unfold wdW
  rw [hz]
  refine ⟨rfl, ?_⟩
  obtain ⟨m, b, r, -⟩ := hd
  show NN z
  unfold NN
  rw [r]; rfl
theorem swap_eq {F : FuncId} {args : Array Value} {w : World} {v : Value} (h : Calls Try.prog F args w fun e w' => e = .returned v ∧ w' = w) : Calls Try.prog F args w fun e w' => e = .returned v ∧ w = w' := h.mono fun _ _ ⟨a, b⟩ => ⟨a, b.symm⟩
set_option maxHeartbeats 2000000 in
theorem eqZ_yes (va vb : Value) (L : List Pn) (w : World) (ha : ReadsL encC w va L) (hb : ReadsL encC w vb L) (hf : ∀ a ∈ L, ptF a = true) (hl : L.length ≤ 1000000) : Calls Try.prog 52 #[va, vb] w fun e w' => e = .returned (.bool true) ∧ Below w.heap.size w w' := by
  obtain ⟨p, cap, rfl, hc1, hc2, hp0, hp⟩ := ha
  obtain ⟨q, cap2, rfl, hd1, hd2, hq0, hq⟩ := hb
  simp only [maxLen] at hc2
  have hlb : ((L.length : Int) != (L.length : Int)) = false := by simp
  have HP := Lib.hid hp
  have HQ := Lib.hid hq
  have HF := Lib.hid hf
  clear hp hq hf
  go_enter Try.func52, Try.ntmps52
  go_wp2
  go_loopw [5] (fun i wr => ∃ k m : Nat, k ≤ L.length ∧ i = .int .i64 k ∧ wr = w.drewN m) (fun i _ => L.length - (intOf i).toNat)
  case atStart => exact ⟨0, 0, Nat.zero_le _, rfl, rfl⟩
  case round =>
    obtain ⟨k, m, hk, rfl, rfl⟩ := hrel
    by_cases hlt : k < L.length
    · have hkz : (k : Int) < (L.length : Int) := by omega
      have hk0 : (0 : Int) ≤ (k : Int) := by omega
      obtain ⟨c, hc⟩ : ∃ c, L[k]? = some c := ⟨_, List.getElem?_eq_getElem hlt⟩
      obtain ⟨g, o, rfl, hg, hr⟩ := HP.out (by rintro rfl; have := hp0 rfl; omega)
      obtain ⟨g2, o2, rfl, hg2, hr2⟩ := HQ.out (by rintro rfl; have := hq0 rfl; omega)
      have c1 := pt_cell hr hc
      have c2 := pt_cell hr2 hc
      have fc := ptF_parts (HF.out c (List.mem_of_getElem? hc))
      obtain ⟨h1, n1⟩ := wd_fin fc.1
      obtain ⟨h2, n2⟩ := wd_fin fc.2
      have R := fun w => run_wider h1 h2 w
      have C := fun w => swap_eq (sameComplex_same (wdW c.1) (wdW c.2) n1 n2 w)
      clear hr hr2 hc hg hg2 fc h1 h2 n1 n2
      unfold cs cw at *
      generalize wdW c.1 = x at *
      generalize wdW c.2 = y at *
      go_wp2_with fail
      go_quiet (first | rw [R] | (go_at_call 96; exact calm2 (C _)))
      clear R C c1 c2
      go_wp2_with fail
      go_roundw
      case rel => exact ⟨k + 1, _, by omega, by go_num, rfl⟩
      case measure => simp [intOf]; omega
    · obtain rfl : k = L.length := by omega
      go_wp2
      go_ret
      exact ⟨rfl, below_drewN (Below.refl _ _) m⟩
set_option maxHeartbeats 2000000 in
theorem samePoints_yes (va vb : Value) (L : List Pn) (w : World) (ha : ReadsL encC w va L) (hb : ReadsL encC w vb L) (hf : ∀ a ∈ L, ptF a = true) (hl : L.length ≤ 1000000) : Calls Try.prog 23 #[va, vb] w fun e w' => e = .returned (.bool true) ∧ Below w.heap.size w w' := by
  obtain ⟨p, cap, rfl, hc1, hc2, hp0, hp⟩ := ha
  obtain ⟨q, cap2, rfl, hd1, hd2, hq0, hq⟩ := hb
  simp only [maxLen] at hc2
  have hlb : ((L.length : Int) != (L.length : Int)) = false := by simp
  have HP := Lib.hid hp
  have HQ := Lib.hid hq
  have HF := Lib.hid hf
  clear hp hq hf
  go_enter Try.func23, Try.ntmps23
  go_wp2
  go_loopw [5] (fun i wr => ∃ k m : Nat, k ≤ L.length ∧ i = .int .i64 k ∧ wr = w.drewN m) (fun i _ => L.length - (intOf i).toNat)
  case atStart => exact ⟨0, 0, Nat.zero_le _, rfl, rfl⟩
  case round =>
    obtain ⟨k, m, hk, rfl, rfl⟩ := hrel
    by_cases hlt : k < L.length
    · have hkz : (k : Int) < (L.length : Int) := by omega
      have hk0 : (0 : Int) ≤ (k : Int) := by omega
      obtain ⟨c, hc⟩ : ∃ c, L[k]? = some c := ⟨_, List.getElem?_eq_getElem hlt⟩
      obtain ⟨g, o, rfl, hg, hr⟩ := HP.out (by rintro rfl; have := hp0 rfl; omega)
      obtain ⟨g2, o2, rfl, hg2, hr2⟩ := HQ.out (by rintro rfl; have := hq0 rfl; omega)
      have c1 := pt_cell hr hc
      have c2 := pt_cell hr2 hc
      have fc := ptF_parts (HF.out c (List.mem_of_getElem? hc))
      obtain ⟨h1, n1⟩ := wd_fin fc.1
      obtain ⟨h2, n2⟩ := wd_fin fc.2
      have C := fun w => swap_eq (singleAlike_same h1 h2 n1 n2 w)
      clear hr hr2 hc hg hg2 fc h1 h2 n1 n2
      unfold cs at *
      go_wp2_with fail
      go_quiet (first | (go_at_call 25; exact calm2 (C _)))
      clear C c1 c2
      go_wp2_with fail
      go_roundw
      case rel => exact ⟨k + 1, _, by omega, by go_num, rfl⟩
      case measure => simp [intOf]; omega
    · obtain rfl : k = L.length := by omega
      go_wp2
      go_ret
      exact ⟨rfl, below_drewN (Below.refl _ _) m⟩
/-! ### Marks -/
def mkW (k : Nat) : Nat := floatOfInt .f32 ((k : Nat) : Int)
abbrev oneS : Nat := 1065353216
theorem mk_narrow (k : Nat) (h : k < 128) : floatToFloatBits .f64 (floatOfInt .f64 ((k : Nat) : Int)) .f32 = some (mkW k) := by
  have key : ∀ k : Fin 128, floatToFloatBits .f64 (floatOfInt .f64 ((k.val : Nat) : Int)) .f32 = some (mkW k.val) := by decide +kernel
  exact key ⟨k, h⟩
theorem mk_self (k : Nat) (h : k < 128) : FloatKind.f32.format.order (mkW k) (mkW k) = some .eq := by
  have key : ∀ k : Fin 128, FloatKind.f32.format.order (mkW k.val) (mkW k.val) = some .eq := by decide +kernel
  exact key ⟨k, h⟩
theorem run_mark (k : Nat) (h : k < 128) (w : World) : (convert 102 35 (.complex .f64 (floatOfInt .f64 ((k : Nat) : Int)) 4607182418800017408)).run Try.prog w = .ok (.complex .f32 (mkW k) oneS) w :=
  run_convert_complex w _ _ .f64 .f32 _ _ _ _ (by kernel_rfl) (by kernel_rfl) (by unfold cConvBits; rw [mk_narrow k h, show floatToFloatBits .f64 4607182418800017408 .f32 = some oneS by decide +kernel]; rfl)
theorem run_cne {p q : Nat} (h1 : FloatKind.f32.format.order p p = some .eq) (h2 : FloatKind.f32.format.order q q = some .eq) (t : TypeId) (w : World) :
    (binOp .neq t (.complex .f32 p q) (.complex .f32 p q)).run Try.prog w = .ok (.bool false) w := by
  simp [binOp, Op.complexOp, Op.Complex.cmp, Op.floatCmp, h1, h2, go_sem, asBool]
theorem run_store_cpx (P : Program) (w : World) (a : Addr) (p q : Nat) (m : Mode) : (store a (.complex .f32 p q) m).run P w = stored P w a (.complex .f32 p q) m := run_store P w a _ m rfl
theorem store_cpx {P : Program} {w : World} {a : Addr} {p q : Nat} {old : Value} (h1 : w.cell? a = some old) (h2 : w.frozen? a = false) (m : Mode) : (store a (.complex .f32 p q) m).run P w = .ok () (w.setCell a (.complex .f32 p q)) := by
  rw [run_store_cpx]
  unfold stored
  rw [h1, h2]
  rfl
def mkZL (m : Nat) : List Value := (List.range m).map fun (p : Nat) => Value.complex .f32 (mkW (1 + p)) oneS
theorem mkZL_len (m : Nat) : (mkZL m).length = m := by simp [mkZL]
theorem mkZL_at {m p : Nat} (h : p < m) : (mkZL m)[p]? = some (.complex .f32 (mkW (1 + p)) oneS) := by simp [mkZL, h]
theorem mkZL_next (m : Nat) : mkZL (m + 1) = mkZL m ++ [.complex .f32 (mkW (1 + m)) oneS] := by simp [mkZL, List.range_succ]
def mkdZ (cs : List Value) (p : Nat) : List Value := mkZL p ++ cs.drop p
theorem mkdZ_none (cs : List Value) : mkdZ cs 0 = cs := rfl
theorem mkdZ_all {n : Nat} {cs : List Value} (h : cs.length = n) : mkdZ cs n = mkZL n := by
  unfold mkdZ
  rw [List.drop_of_length_le (by omega), List.append_nil]
theorem mkdZ_old {p : Nat} {cs : List Value} (h : p < cs.length) : (mkdZ cs p)[p]? = some cs[p] := by
  unfold mkdZ
  rw [List.getElem?_append_right (by rw [mkZL_len]; omega), mkZL_len, Nat.sub_self, List.getElem?_drop, Nat.add_zero, List.getElem?_eq_getElem h]
theorem mkdZ_step {p : Nat} {cs : List Value} (h : p < cs.length) : (mkdZ cs p).set p (.complex .f32 (mkW (1 + p)) oneS) = mkdZ cs (p + 1) := by
  have e : cs.drop p = cs[p] :: cs.drop (p + 1) := List.drop_eq_getElem_cons h
  unfold mkdZ
  rw [e, mkZL_next, List.set_append_right _ _ (by rw [mkZL_len]; omega), mkZL_len, Nat.sub_self, List.set_cons_zero, List.append_assoc]
  rfl
set_option maxHeartbeats 2000000 in
theorem markZ_own (B g n cap : Nat) (ws : List Pn) (w : World) (hlen : ws.length = n) (ho : w.ownsRow B 35 1 (.slice (some ⟨g, 0, none⟩) n cap) n (flt encC ws)) (hm : n ≤ 100) :
    Calls Try.prog 55 #[.slice (some ⟨g, 0, none⟩) n cap, .int .i64 1] w fun e w' => e = .returned (.int .i64 (1 + (n : Int))) ∧ w'.ownsRow B 35 1 (.slice (some ⟨g, 0, none⟩) n cap) n (mkZL n) ∧ w.grownBy w' (some g) := by
  obtain ⟨cs, hcs⟩ : ∃ cs, cs = flt encC ws := ⟨_, rfl⟩
  have HF : Aside (cs.length = n) := (show _ = _ from by rw [hcs, flt_length encC_ok, hlen, Nat.mul_one])
  rw [← hcs] at ho
  rw [← mkdZ_none cs] at ho
  have HO0 := Lib.hid ho
  clear hcs ho hlen
  go_enter Try.func55, Try.ntmps55
  go_wp2_with fail
  go_loopw [1, 5] (fun ks i wr => ∃ k : Nat, k ≤ n ∧ i = .int .i64 k ∧ ks = .int .i64 ((1 + k : Nat) : Int) ∧ wr.ownsRow B 35 1 (.slice (some ⟨g, 0, none⟩) n cap) n (mkdZ cs k) ∧ w.grownBy wr (some g)) (fun _ i _ => n - (intOf i).toNat)
  case atStart => exact ⟨0, Nat.zero_le _, rfl, rfl, HO0.out, World.grownBy.refl _ _⟩
  case round =>
    clear HO0
    obtain ⟨k, hk, rfl, rfl, hO, hg⟩ := hrel
    by_cases hlt : k < n
    · have hkz : (k : Int) < (n : Int) := by omega
      have hk0z : (0 : Int) ≤ (k : Int) := by omega
      have hpl : k < cs.length := by rw [HF.out]; omega
      have hcell : wr.cell? ⟨g, k, none⟩ = some cs[k] := by rw [hO.cellAt k (by omega), mkdZ_old hpl]
      have hfr := hO.frozenAt k
      generalize cs[k] = old at *
      have q1 : IntKind.i64.wrap (((1 + k : Nat) : Int) + 1) = ((1 + (k + 1) : Nat) : Int) := by rw [IntKind.wrap_i64]; omega
      obtain ⟨h1, h2⟩ := hO.stored k (.complex .f32 (mkW (1 + k)) oneS)
      rw [mkdZ_step hpl] at h1
      have R := fun w => run_mark (1 + k) (by omega) w
      have ST := fun m => store_cpx (P := Try.prog) (p := mkW (1 + k)) (q := oneS) hcell hfr m
      have H1 := Lib.hid h1
      have H2 := Lib.hid (grown_trans hg h2)
      clear h1 h2 hO hg hpl
      generalize mkW (1 + k) = mw at *
      obtain ⟨m0, hm0⟩ : ∃ m : Int, ((1 + k : Nat) : Int) = m := ⟨_, rfl⟩
      obtain ⟨m1, hm1⟩ : ∃ m : Int, ((1 + (k + 1) : Nat) : Int) = m := ⟨_, rfl⟩
      rw [hm0] at q1 R ⊢
      rw [hm1] at q1
      have HM1 := Lib.hid hm1
      clear hm0 hm1
      go_wp2_with (first | rw [R] | rw [ST])
      go_roundw
      case rel => exact ⟨k + 1, by omega, by go_num, by rw [HM1.out], H1.out, H2.out⟩
      case measure => simp [intOf]; omega
    · obtain rfl : k = n := by omega
      rw [mkdZ_all HF.out] at hO
      have H1 := Lib.hid hO
      have H2 := Lib.hid hg
      clear hO hg
      go_wp2_with fail
      go_ret
      exact ⟨ret_int (by omega), H1.out, H2.out⟩
theorem markZ_nil (w : World) : Calls Try.prog 55 #[.slice none 0 0, .int .i64 1] w fun e w' => e = .returned (.int .i64 1) ∧ w = w' := by
  go_enter Try.func55, Try.ntmps55
  go_wp2_with fail
  refine wp_loop_rounds 1 ?_
  rw [rounds_succ]
  go_wp2_with fail
  go_ret
  exact ⟨rfl, rfl⟩
theorem markZ_any {w : World} {B : Nat} {v : Value} {xs : List Pn} (h : OwnL encC 1 w B 35 v xs) (hl : xs.length ≤ 100) :
    Calls Try.prog 55 #[v, .int .i64 1] w fun e w' => e = .returned (.int .i64 (1 + (xs.length : Int))) ∧ w'.ownsRow B 35 1 v xs.length (mkZL xs.length) ∧ w.grownBy w' v.ownBlock := by
  have h2 := h.2
  rcases h2 with ⟨rfl, h0⟩ | ⟨g, cap, cur, rfl, _⟩
  · refine (markZ_nil w).mono ?_
    rintro e w' ⟨rfl, rfl⟩
    refine ⟨by rw [h0]; rfl, ?_, World.grownBy.refl _ _⟩
    rw [h0]; exact World.ownsRow_nil _ _ _ _
  · exact markZ_own B g xs.length cap xs w rfl h hl
set_option maxHeartbeats 2000000 in
theorem heldZ_own (B g n cap : Nat) (w : World) (ho : w.ownsRow B 35 1 (.slice (some ⟨g, 0, none⟩) n cap) n (mkZL n)) (hm : n ≤ 100) :
    Calls Try.prog 56 #[.slice (some ⟨g, 0, none⟩) n cap, .int .i64 1] w fun e w' => e = .returned (.int .i64 (1 + (n : Int))) ∧ w = w' := by
  have HO := Lib.hid ho
  clear ho
  go_enter Try.func56, Try.ntmps56
  go_wp2_with fail
  go_loop [1, 5] (fun ks i => ∃ k : Nat, k ≤ n ∧ i = .int .i64 k ∧ ks = .int .i64 ((1 + k : Nat) : Int)) (fun _ i => n - (intOf i).toNat)
  case atStart => exact ⟨0, Nat.zero_le _, rfl, rfl⟩
  case round =>
    obtain ⟨k, hk, rfl, rfl⟩ := hrel
    by_cases hlt : k < n
    · have hkz : (k : Int) < (n : Int) := by omega
      have hk0z : (0 : Int) ≤ (k : Int) := by omega
      have c0 : w.cell? ⟨g, k, none⟩ = some (.complex .f32 (mkW (1 + k)) oneS) := by rw [HO.out.cellAt k (by omega), mkZL_at (by omega)]
      have q1 : IntKind.i64.wrap (((1 + k : Nat) : Int) + 1) = ((1 + (k + 1) : Nat) : Int) := by rw [IntKind.wrap_i64]; omega
      have R := fun w => run_mark (1 + k) (by omega) w
      have E := fun t w => run_cne (mk_self (1 + k) (by omega)) (show FloatKind.f32.format.order oneS oneS = some .eq by decide +kernel) t w
      generalize mkW (1 + k) = mw at *
      obtain ⟨m0, hm0⟩ : ∃ m : Int, ((1 + k : Nat) : Int) = m := ⟨_, rfl⟩
      obtain ⟨m1, hm1⟩ : ∃ m : Int, ((1 + (k + 1) : Nat) : Int) = m := ⟨_, rfl⟩
      rw [hm0] at q1 R ⊢
      rw [hm1] at q1
      have HM1 := Lib.hid hm1
      clear hm0 hm1
      go_wp2_with (first | rw [R] | rw [E])
      go_round
      case rel => exact ⟨k + 1, by omega, by go_num, by rw [HM1.out]⟩
      case measure => simp [intOf]; omega
    · obtain rfl : k = n := by omega
      go_wp2_with fail
      go_ret
      exact ⟨ret_int (by omega), rfl⟩
theorem heldZ_nil (w : World) : Calls Try.prog 56 #[.slice none 0 0, .int .i64 1] w fun e w' => e = .returned (.int .i64 1) ∧ w = w' := by
  go_enter Try.func56, Try.ntmps56
  go_wp2_with fail
  refine wp_loop_rounds 1 ?_
  rw [rounds_succ]
  go_wp2_with fail
  go_ret
  exact ⟨rfl, rfl⟩
theorem heldZ_any {w : World} {B n : Nat} {v : Value} (h : w.ownsRow B 35 1 v n (mkZL n)) (hm : n ≤ 100) :
    Calls Try.prog 56 #[v, .int .i64 1] w fun e w' => e = .returned (.int .i64 (1 + (n : Int))) ∧ w = w' := by
  have h2 := h.2
  rcases h2 with ⟨rfl, rfl⟩ | ⟨g, cap, cur, rfl, _⟩
  · exact heldZ_nil w
  · exact heldZ_own B g n cap w h hm
theorem markZ_number (n : Nat) : ∃ M : Int, Aside ((1 + (n : Int)) = M) ∧ ¬ M < 0 ∧ (M != M) = false := ⟨_, (show _ = _ from rfl), by omega, by simp⟩
end Go.Proofs.Ytnidiikcnplebaa
/- Both sides: lengths of moves. -/
namespace Go.Proofs.Ytnidiikcnplebaa
set_option maxRecDepth 20000
open Go.ChangeShapes Go.WideShapes Go.ChangeAt Go.RowKit
set_option linter.unusedVariables false
set_option linter.unusedSimpArgs false

theorem max_size (a : Int) : max a (-a) = ((a.natAbs : Nat) : Int) := by omega
theorem sizes_any (m : Mv) (h1 : -10000000000 ≤ m.1 ∧ m.1 ≤ 10000000000) (h2 : -10000000000 ≤ m.2 ∧ m.2 ≤ 10000000000) (w : World) :
    Calls Try.prog 91 #[mvV m] w fun e w' => e = .returned (.tuple #[.int .i64 ((m.1.natAbs : Nat) : Int), .int .i64 ((m.2.natAbs : Nat) : Int)]) ∧ Below w.heap.size w w' := by
  obtain ⟨x, y⟩ := m
  simp only at h1 h2 ⊢
  unfold mvV
  have w1 : IntKind.i64.wrap (-x) = -x := by rw [IntKind.wrap_i64]; omega
  have w2 : IntKind.i64.wrap (-y) = -y := by rw [IntKind.wrap_i64]; omega
  have m1 := max_size x
  have m2 := max_size y
  generalize ((x.natAbs : Nat) : Int) = p at *
  generalize ((y.natAbs : Nat) : Int) = q at *
  go_enter Try.func91, Try.ntmps91
  go_wp2_with fail
  go_quiet (fail)
  go_wp2
  go_ret2
  exact ⟨rfl, below_drewN (mv_lies _ _) _⟩
def lenO (xs : List Mv) : Int := if mvB xs = true then lensM xs else -1
theorem lensM_big {xs : List Mv} (h : ∀ y ∈ xs, big y ≤ 10000000) : ∀ k, k ≤ xs.length → 0 ≤ lensM (xs.take k) ∧ lensM (xs.take k) ≤ 20000000 * (k : Int)
  | 0, _ => by simp [lensM]
  | k + 1, hk => by
    obtain ⟨a, ha⟩ : ∃ a, xs[k]? = some a := ⟨_, List.getElem?_eq_getElem (by omega)⟩
    rw [lensM_next ha]
    have h1 := lensM_big h k (by omega)
    have h2 := h a (List.mem_of_getElem? ha)
    unfold big at h2
    unfold lenM
    omega
set_option maxHeartbeats 1000000 in
theorem MovesLength_any (v : Value) (xs : List Mv) (w : World) (hv : ReadsL encM w v xs) : Calls Try.prog 41 #[v] w fun e w' => e = .returned (.int .i64 (lenO xs)) ∧ Below w.heap.size w w' := by
  have C := movesValid_any v xs w hv
  obtain ⟨p, cap, rfl, hc1, hc2, hp0, hp⟩ := hv
  simp only [maxLen] at hc2
  have HP := Lib.hid hp
  clear hp
  cases hq : mvB xs with
  | false =>
    rw [hq] at C
    have hl : lenO xs = -1 := by unfold lenO; rw [if_neg (by rw [hq]; decide)]
    rw [hl]
    go_enter Try.func41, Try.ntmps41
    go_wp2_with fail
    refine C.mono ?_; rintro e w2 ⟨rfl, hb2⟩
    have HB2 := Lib.hid hb2
    clear C hb2
    go_wp2_with fail
    go_ret
    exact ⟨rfl, HB2.out⟩
  | true =>
    rw [hq] at C
    have hl : lenO xs = lensM xs := by unfold lenO; rw [if_pos hq]
    rw [hl]
    have hok := mvB_parts hq
    have HK : Aside (∀ y ∈ xs, big y ≤ 10000000) := (show ∀ y ∈ xs, big y ≤ 10000000 from fun y hy => ok_big (hok.2 y hy))
    have hlen := hok.1
    clear hl hok hq
    go_enter Try.func41, Try.ntmps41
    go_wp2_with fail
    refine C.mono ?_; rintro e w2 ⟨rfl, hb2⟩
    have HB2 := Lib.hid hb2
    clear C hb2
    go_wp2_with fail
    go_loopw [3, 6, 7, 13, 17] (fun f _ _ i _ wr => ∃ k : Nat, k ≤ xs.length ∧ i = .int .i64 k ∧ f = .int .i64 (lensM (xs.take k)) ∧ Below w.heap.size w wr) (fun _ _ _ i _ _ => xs.length - (intOf i).toNat)
    case atStart => exact ⟨0, Nat.zero_le _, rfl, rfl, HB2.out⟩
    case round =>
      obtain ⟨k, hk, rfl, rfl, hb⟩ := hrel
      by_cases hlt : k < xs.length
      · have hkz : (k : Int) < (xs.length : Int) := by omega
        have hk0 : (0 : Int) ≤ (k : Int) := by omega
        obtain ⟨a, ha⟩ : ∃ a, xs[k]? = some a := ⟨_, List.getElem?_eq_getElem hlt⟩
        obtain ⟨g, o, rfl, hg, hr⟩ := HP.out (by rintro rfl; have := hp0 rfl; omega)
        obtain ⟨c0, c1⟩ := mv_cells (cells_below hr hg hb) ha
        have hb1 := HK.out a (List.mem_of_getElem? ha)
        have hb2 := lensM_big HK.out k hk
        have HN := Lib.hid (lensM_next ha)
        unfold big at hb1
        have S := fun w => sizes_any a (by omega) (by omega) w
        have w1 : IntKind.i64.wrap (((a.1.natAbs : Nat) : Int) + ((a.2.natAbs : Nat) : Int)) = lenM a := by rw [IntKind.wrap_i64]; unfold lenM; omega
        have w2 : IntKind.i64.wrap (lensM (xs.take k) + lenM a) = lensM (xs.take k) + lenM a := by rw [IntKind.wrap_i64]; unfold lenM; omega
        have HB := Lib.hid hb
        clear hr ha hb hb1 hb2
        unfold mvV at S
        generalize lensM (xs.take k) = n at *
        generalize lenM a = l at *
        generalize ((a.1.natAbs : Nat) : Int) = s1 at *
        generalize ((a.2.natAbs : Nat) : Int) = s2 at *
        go_wp2_with fail
        refine (S _).mono ?_; rintro e w3 ⟨rfl, hb3⟩
        have HB3 := Lib.hid (below_next HB.out (below_next (mv_lies wr _) hb3))
        clear S hb3 c0 c1
        go_wp2_with fail
        go_roundw
        case rel => exact ⟨k + 1, by omega, by go_num, by rw [HN.out], HB3.out⟩
        case measure => simp [intOf]; omega
      · obtain rfl : k = xs.length := by omega
        have HB := Lib.hid hb
        clear hb
        go_wp2
        go_ret
        exact ⟨ret_int (by rw [List.take_length]), HB.out⟩
set_option maxHeartbeats 1000000 in
theorem specMovesLength_any (v : Value) (xs : List Mv) (w : World) (hv : ReadsL encM w v xs) : Calls Try.prog 43 #[v] w fun e w' => e = .returned (.int .i64 (lenO xs)) ∧ Below w.heap.size w w' := by
  have C := specMoves_any v xs w hv
  obtain ⟨p, cap, rfl, hc1, hc2, hp0, hp⟩ := hv
  simp only [maxLen] at hc2
  have HP := Lib.hid hp
  clear hp
  cases hq : mvB xs with
  | false =>
    rw [hq] at C
    have hl : lenO xs = -1 := by unfold lenO; rw [if_neg (by rw [hq]; decide)]
    rw [hl]
    go_enter Try.func43, Try.ntmps43
    go_wp2_with fail
    refine C.mono ?_; rintro e w2 ⟨rfl, rfl⟩
    clear C
    go_wp2_with fail
    go_ret
    exact ⟨rfl, Below.refl _ _⟩
  | true =>
    rw [hq] at C
    have hl : lenO xs = lensM xs := by unfold lenO; rw [if_pos hq]
    rw [hl]
    have hok := mvB_parts hq
    have HK : Aside (∀ y ∈ xs, big y ≤ 10000000) := (show ∀ y ∈ xs, big y ≤ 10000000 from fun y hy => ok_big (hok.2 y hy))
    have hlen := hok.1
    clear hl hok hq
    go_enter Try.func43, Try.ntmps43
    go_wp2_with fail
    refine C.mono ?_; rintro e w2 ⟨rfl, rfl⟩
    clear C
    go_wp2_with fail
    go_loopw [3, 4] (fun f i wr => ∃ (k m : Nat), k ≤ xs.length ∧ i = .int .i64 k ∧ f = .int .i64 (lensM (xs.take k)) ∧ wr = w.drewN m) (fun _ i _ => xs.length - (intOf i).toNat)
    case atStart => exact ⟨0, 0, Nat.zero_le _, rfl, rfl, rfl⟩
    case round =>
      obtain ⟨k, m, hk, rfl, rfl, rfl⟩ := hrel
      by_cases hlt : k < xs.length
      · have hkz : (k : Int) < (xs.length : Int) := by omega
        have hk0 : (0 : Int) ≤ (k : Int) := by omega
        obtain ⟨a, ha⟩ : ∃ a, xs[k]? = some a := ⟨_, List.getElem?_eq_getElem hlt⟩
        obtain ⟨g, o, rfl, hg, hr⟩ := HP.out (by rintro rfl; have := hp0 rfl; omega)
        obtain ⟨c0, c1⟩ := mv_cells hr ha
        have hb1 := HK.out a (List.mem_of_getElem? ha)
        have hb2 := lensM_big HK.out k hk
        have HN := Lib.hid (lensM_next ha)
        unfold big at hb1
        have v1 : IntKind.i64.wrap (0 - a.1) = -a.1 := by rw [IntKind.wrap_i64]; omega
        have v2 : IntKind.i64.wrap (0 - a.2) = -a.2 := by rw [IntKind.wrap_i64]; omega
        have v3 : IntKind.i64.wrap (-a.1) = -a.1 := by rw [IntKind.wrap_i64]; omega
        have v4 : IntKind.i64.wrap (-a.2) = -a.2 := by rw [IntKind.wrap_i64]; omega
        have m1 := max_size a.1
        have m2 := max_size a.2
        have w1 : IntKind.i64.wrap (lensM (xs.take k) + ((a.1.natAbs : Nat) : Int)) = lensM (xs.take k) + ((a.1.natAbs : Nat) : Int) := by rw [IntKind.wrap_i64]; omega
        have w2 : IntKind.i64.wrap (lensM (xs.take k) + ((a.1.natAbs : Nat) : Int) + ((a.2.natAbs : Nat) : Int)) = lensM (xs.take k) + ((a.1.natAbs : Nat) : Int) + ((a.2.natAbs : Nat) : Int) := by rw [IntKind.wrap_i64]; omega
        have HE : Aside (lensM (xs.take k) + ((a.1.natAbs : Nat) : Int) + ((a.2.natAbs : Nat) : Int) = lensM (xs.take k) + lenM a) := (show _ = _ from by unfold lenM; omega)
        clear hr ha hb1 hb2
        generalize lensM (xs.take k) = n at *
        generalize ((a.1.natAbs : Nat) : Int) = s1 at *
        generalize ((a.2.natAbs : Nat) : Int) = s2 at *
        go_wp2_with fail
        go_quiet (fail)
        clear c0 c1
        go_wp2_with fail
        go_roundw
        case rel => exact ⟨k + 1, _, by omega, by go_num, by rw [HN.out, ← HE.out], rfl⟩
        case measure => simp [intOf]; omega
      · obtain rfl : k = xs.length := by omega
        go_wp2
        go_ret
        exact ⟨ret_int (by rw [List.take_length]), below_drewN (Below.refl _ _) m⟩
end Go.Proofs.Ytnidiikcnplebaa
