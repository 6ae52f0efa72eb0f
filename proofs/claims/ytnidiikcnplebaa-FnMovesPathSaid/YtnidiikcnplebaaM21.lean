/-
  Both sides: which lists are paths, told; the paths of rows.
  Both sides: the paths of rows.
  The exact laws' helpers on lists of exact points, for a program that knows no wheels: copied, counted, compared, marked, held.
-/
import Derived.Test.YtnidiikcnplebaaM12
import Derived.Test.YtnidiikcnplebaaM16
import Derived.Test.YtnidiikcnplebaaM08
import Derived.Test.YtnidiikcnplebaaM19
import Derived.Test.YtnidiikcnplebaaM04
import Derived.Laws.CopyRow
/- Both sides: which lists are paths, told; the paths of rows. -/
namespace Go.Proofs.Ytnidiikcnplebaa
set_option maxRecDepth 20000
open Go.ChangeShapes Go.WideShapes Go.ChangeAt Go.RowKit
set_option linter.unusedVariables false
set_option linter.unusedSimpArgs false

theorem tyZ : TyL Try.prog 23 35 1 := tyL_of (z := .complex .f32 0 0) (b := 8) Try.underlying23 (by kernel_rfl) (by omega) rfl
theorem tyPa : TyL Try.prog 84 35 1 := tyL_of (z := .complex .f32 0 0) (b := 8) Try.underlying84 (by kernel_rfl) (by omega) rfl
theorem litC (w : World) (x : Pn) (T : Nat) : ReadsL encC (w.alloc (.cells #[cs x.1 x.2] T)) (.slice (some ⟨w.heap.size, 0, none⟩) 1 1) [x] := litL_reads (en := encC) w x T
theorem ownC_none (w : World) (B T : Nat) : OwnL encC 1 w B T (.slice none 0 0) ([] : List Pn) := World.ownsRow_nil w B T 1
theorem take_nextL {α : Type} {xs : List α} {k : Nat} {c : α} (hc : xs[k]? = some c) : xs.take (k + 1) = xs.take k ++ [c] := by rw [List.take_add_one, hc]; rfl
/-- What is told of a list of points. -/
def ToldC (w : World) (o : Option (List Pn)) (e : Ending) (w' : World) : Prop :=
  Below w.heap.size w w' ∧ ∃ v', e = .returned (.tuple #[v', .bool o.isSome]) ∧ OwnL encC 1 w' w.heap.size 35 v' (o.getD [])
theorem pathTold_any (v : Value) (xs : List Pn) (w : World) (hv : ReadsL encC w v xs) : Calls Try.prog 71 #[v] w fun e w' => e = .returned (.tuple #[if pvB xs then v else .slice none 0 0, .bool (pvB xs)]) ∧ Below w.heap.size w w' := by
  have C := pathValid_any v xs w hv
  have hvs : ∃ p l c, v = .slice p l c := by obtain ⟨p, c, e, -⟩ := hv; exact ⟨_, _, _, e⟩
  obtain ⟨p, l, c, rfl⟩ := hvs
  clear hv
  cases hq : pvB xs with
  | true =>
    rw [hq] at C
    go_enter Try.func71, Try.ntmps71
    go_wp2_with fail
    refine C.mono ?_; rintro e w2 ⟨rfl, hb2⟩
    have HB2 := Lib.hid hb2
    clear C hb2
    go_wp2_with fail
    go_ret2
    exact ⟨rfl, HB2.out⟩
  | false =>
    rw [hq] at C
    go_enter Try.func71, Try.ntmps71
    go_wp2_with fail
    refine C.mono ?_; rintro e w2 ⟨rfl, hb2⟩
    have HB2 := Lib.hid hb2
    clear C hb2
    go_wp2_with fail
    go_ret2
    exact ⟨rfl, HB2.out⟩
theorem PathValid_any (v : Value) (xs : List Pn) (w : World) (hv : ReadsL encC w v xs) : Calls Try.prog 17 #[v] w fun e w' => e = .returned (.bool (pvB xs)) ∧ Below w.heap.size w w' := by
  have C := pathValid_any v xs w hv
  clear hv
  go_enter Try.func17, Try.ntmps17
  go_wp2_with fail
  refine C.mono ?_; rintro e w2 ⟨rfl, hb2⟩
  have HB2 := Lib.hid hb2
  clear C hb2
  go_wp2_with fail
  go_ret
  exact ⟨rfl, HB2.out⟩
/-! ### spec's -/
theorem specPart_any (x : Nat) (w : World) : Calls Try.prog 65 #[.float .f32 x] w fun e w' => e = .returned (.bool (inR x)) ∧ w = w' := by
  rcases cls_cases x with ⟨hx, fx⟩ | ⟨hx, fx⟩ | ⟨hx, fx⟩
  · rw [inR_not fx]
    have hn : nanS x = true := by
      unfold clsS at hx
      unfold nanS
      generalize Ieee.single.read x = d at *
      cases d with
      | number s m e => cases hx
      | infinity s => cases hx
      | nan s t => rfl
    have O1 := (nan_ord32 hn n4096).1
    have O2 := (nan_ord32 hn w4096).1
    clear hx fx hn
    go_enter Try.func65, Try.ntmps65
    go_wp2
    go_ret
    exact ⟨rfl, rfl⟩
  · rw [inR_not fx]
    have hi : ∃ s, Ieee.single.read x = .infinity s := by
      unfold clsS at hx
      generalize Ieee.single.read x = d at *
      cases d with
      | number s m e => cases hx
      | infinity s => exact ⟨s, rfl⟩
      | nan s t => cases hx
    obtain ⟨s, hi⟩ := hi
    obtain ⟨m, b, h2, -⟩ := fs_4096
    obtain ⟨m3, b3, h3, -⟩ := fs_n4096
    have O1 : FloatKind.f32.format.order x n4096 = some (if s then .lt else .gt) := by
      show (Ieee.single.read x).order (Ieee.single.read n4096) = _
      rw [hi, h3]; rfl
    have O2 : FloatKind.f32.format.order x w4096 = some (if s then .lt else .gt) := by
      show (Ieee.single.read x).order (Ieee.single.read w4096) = _
      rw [hi, h2]; rfl
    clear hx fx hi h2 h3
    cases s
    · simp only [Bool.false_eq_true, if_false] at O1 O2
      go_enter Try.func65, Try.ntmps65
      go_wp2
      go_ret
      exact ⟨rfl, rfl⟩
    · simp only [if_true] at O1 O2
      go_enter Try.func65, Try.ntmps65
      go_wp2
      go_ret
      exact ⟨rfl, rfl⟩
  · have hf := fin_fs fx
    have O1 := fs_order hf fs_n4096
    have O2 := fs_order hf fs_4096
    have e : inR x = (decide (sgnd true (4096 * 2 ^ loS) ≤ sgnd (sgS x) (szS x)) && decide (sgnd (sgS x) (szS x) ≤ sgnd false (4096 * 2 ^ loS))) := by
      unfold inR
      rw [fx, Bool.true_and]
      generalize 4096 * 2 ^ loS = L
      generalize szS x = V
      cases sgS x <;> simp only [sgnd, Bool.false_eq_true, if_false, if_true] <;> rw [Bool.eq_iff_iff] <;> simp <;> omega
    rw [e]
    clear e hf hx fx
    generalize sgnd (sgS x) (szS x) = v at *
    generalize sgnd true (4096 * 2 ^ loS) = a at *
    generalize sgnd false (4096 * 2 ^ loS) = b at *
    by_cases h1 : a ≤ v
    · have g1 : compare v a = .gt ∨ compare v a = .eq := by
        rcases Int.lt_or_eq_of_le h1 with h | h
        · exact .inl (Int.compare_eq_gt.2 h)
        · exact .inr (Int.compare_eq_eq.2 h.symm)
      rw [decide_eq_true h1, Bool.true_and]
      clear h1
      by_cases h2 : v ≤ b
      · rw [decide_eq_true h2]
        have g2 : compare v b = .lt ∨ compare v b = .eq := by
          rcases Int.lt_or_eq_of_le h2 with h | h
          · exact .inl (Int.compare_eq_lt.2 h)
          · exact .inr (Int.compare_eq_eq.2 h)
        clear h2
        generalize compare v a = c at *
        generalize compare v b = d at *
        rcases g1 with rfl | rfl <;> rcases g2 with rfl | rfl <;>
        · go_enter Try.func65, Try.ntmps65
          go_wp2
          go_ret
          exact ⟨rfl, rfl⟩
      · rw [decide_eq_false h2]
        have g2 : compare v b = .gt := Int.compare_eq_gt.2 (by omega)
        clear h2
        generalize compare v a = c at *
        generalize compare v b = d at *
        subst g2
        rcases g1 with rfl | rfl <;>
        · go_enter Try.func65, Try.ntmps65
          go_wp2
          go_ret
          exact ⟨rfl, rfl⟩
    · rw [decide_eq_false h1, Bool.false_and]
      have g1 : compare v a = .lt := Int.compare_eq_lt.2 (by omega)
      clear h1 O2
      generalize compare v a = c at *
      subst g1
      go_enter Try.func65, Try.ntmps65
      go_wp2
      go_ret
      exact ⟨rfl, rfl⟩
theorem specPathValid_any (v : Value) (xs : List Pn) (w : World) (hv : ReadsL encC w v xs) : Calls Try.prog 18 #[v] w fun e w' => e = .returned (.bool (pvB xs)) ∧ w = w' := by
  obtain ⟨p, cap, rfl, hc1, hc2, hp0, hp⟩ := hv
  simp only [maxLen] at hc2
  have HP := Lib.hid hp
  clear hp
  go_enter Try.func18, Try.ntmps18
  go_wp2_with fail
  go_loop [3] (fun i => ∃ k : Nat, k ≤ xs.length ∧ i = .int .i64 k ∧ (xs.take k).all ptR = true) (fun i => xs.length - (intOf i).toNat)
  case atStart => exact ⟨0, Nat.zero_le _, rfl, rfl⟩
  case round =>
    obtain ⟨k, hk, rfl, hall⟩ := hrel
    by_cases hlt : k < xs.length
    · have hkz : (k : Int) < (xs.length : Int) := by omega
      have hk0 : (0 : Int) ≤ (k : Int) := by omega
      obtain ⟨a, ha⟩ : ∃ a, xs[k]? = some a := ⟨_, List.getElem?_eq_getElem hlt⟩
      obtain ⟨g, o, rfl, hg, hr⟩ := HP.out (by rintro rfl; have := hp0 rfl; omega)
      have c0 := pt_cell hr ha
      have C1 := fun w => specPart_any a.1 w
      have C2 := fun w => specPart_any a.2 w
      have HA := Lib.hid ha
      have HL := Lib.hid hall
      have hpt : ptR a = (inR a.1 && inR a.2) := rfl
      clear hr ha hall
      unfold cs at c0
      cases h1 : inR a.1 with
      | true =>
        rw [h1] at C1 hpt
        cases h2 : inR a.2 with
        | true =>
          rw [h2] at C2 hpt
          go_wp2_with fail
          refine (C1 _).mono ?_; rintro e w2 ⟨rfl, rfl⟩
          go_wp2_with fail
          refine (C2 _).mono ?_; rintro e w2 ⟨rfl, rfl⟩
          go_wp2_with fail
          go_round
          case rel => exact ⟨k + 1, by omega, by go_num, pt_take HL.out HA.out hpt⟩
          case measure => simp [intOf]; omega
        | false =>
          rw [h2] at C2 hpt
          go_wp2_with fail
          refine (C1 _).mono ?_; rintro e w2 ⟨rfl, rfl⟩
          go_wp2_with fail
          refine (C2 _).mono ?_; rintro e w2 ⟨rfl, rfl⟩
          go_wp2_with fail
          go_ret
          exact ⟨ret_bool (pvB_bad HA.out hpt).symm, rfl⟩
      | false =>
        rw [h1] at C1 hpt
        go_wp2_with fail
        refine (C1 _).mono ?_; rintro e w2 ⟨rfl, rfl⟩
        go_wp2_with fail
        go_ret
        exact ⟨ret_bool (pvB_bad HA.out hpt).symm, rfl⟩
    · obtain rfl : k = xs.length := by omega
      rw [List.take_length] at hall
      have hin : (1 ≤ (xs.length : Int) ∧ (xs.length : Int) ≤ 100) ∨ ((xs.length : Int) < 1 ∨ 100 < (xs.length : Int)) := by omega
      rcases hin with h | h
      · have HV := Lib.hid (pvB_yes (by omega) (by omega) (List.all_eq_true.1 hall))
        have I := fun w => in_yes (xs.length : Int) 1 100 h.1 h.2 w
        clear hall h
        go_wp2_with fail
        refine (I _).mono ?_; rintro e w1 ⟨rfl, rfl⟩
        go_wp2
        go_ret
        exact ⟨ret_bool HV.out.symm, rfl⟩
      · have HV : Aside (pvB xs = false) := (show _ = _ from pvB_len (by omega))
        have I := fun w => in_no (xs.length : Int) 1 100 h w
        clear hall h
        go_wp2_with fail
        refine (I _).mono ?_; rintro e w1 ⟨rfl, rfl⟩
        go_wp2
        go_ret
        exact ⟨ret_bool HV.out.symm, rfl⟩
end Go.Proofs.Ytnidiikcnplebaa
/- Both sides: the paths of rows. -/
namespace Go.Proofs.Ytnidiikcnplebaa
set_option maxRecDepth 20000
open Go.ChangeShapes Go.WideShapes Go.ChangeAt Go.RowKit
set_option linter.unusedVariables false
set_option linter.unusedSimpArgs false

/-- The single point of an exact point, in words. -/
def spV (a : V) : Pn := (spr a.up 8, spi a.up 8)
theorem valS_fin {x : Nat} {v : Int} (h : ValS x v) : finS x = true := by
  obtain ⟨s, m, b, r, -⟩ := h
  unfold finS
  rw [r]
theorem spV_fin {a : V} (h : okv a = true) : ptF (spV a) = true := by
  have := sing_val (c := a.up) (inR_bound h) 8 (Nat.le_refl _)
  unfold ptF spV
  rw [valS_fin this.1.1, valS_fin this.2.1]; rfl
/-- The path of a row. -/
def pathO (xs : List V) : Option (List Pn) := if rowOk xs && pvB (xs.map spV) then some (xs.map spV) else none
theorem map_next {α β : Type} {f : α → β} {xs : List α} {k : Nat} {c : α} (hc : xs[k]? = some c) : (xs.take (k + 1)).map f = (xs.take k).map f ++ [f c] := by
  rw [List.take_add_one, hc, List.map_append]; rfl
set_option maxHeartbeats 1000000 in
theorem singlePoints_any (v : Value) (xs : List V) (w : World) (hv : ReadsL encV w v xs) (hok : ∀ a ∈ xs, okv a = true) (hl : xs.length ≤ 24) :
    Calls Try.prog 70 #[v] w fun e w' => ∃ v', e = .returned v' ∧ OwnL encC 1 w' w.heap.size 35 v' (xs.map spV) ∧ Below w.heap.size w w' := by
  obtain ⟨p, cap, rfl, hc1, hc2, hp0, hp⟩ := hv
  simp only [maxLen] at hc2
  have HP := Lib.hid hp
  clear hp
  go_enter Try.func70, Try.ntmps70
  go_wp2_with (refine makeL (en := encC) tyPa rfl rfl xs.length rfl rfl (by omega) (Below.refl _ w) (Nat.le_refl _) ?_; intro w2 ho1 hb1 hB1)
  go_loopw [3, 11] (fun v' i wr => ∃ k : Nat, k ≤ xs.length ∧ i = .int .i64 k ∧ OwnL encC 1 wr w.heap.size 35 v' ((xs.take k).map spV) ∧ Below w.heap.size w wr ∧ w.heap.size ≤ wr.heap.size) (fun _ i _ => xs.length - (intOf i).toNat)
  case atStart => exact ⟨0, Nat.zero_le _, rfl, ho1, hb1, hB1⟩
  case round =>
    clear ho1 hb1 hB1
    obtain ⟨k, hk, rfl, hO, hbel, hB⟩ := hrel
    by_cases hlt : k < xs.length
    · have hkz : (k : Int) < (xs.length : Int) := by omega
      have hk0 : (0 : Int) ≤ (k : Int) := by omega
      obtain ⟨c, hc⟩ : ∃ c, xs[k]? = some c := ⟨_, List.getElem?_eq_getElem hlt⟩
      obtain ⟨g, o, rfl, hg, hr⟩ := HP.out (by rintro rfl; have := hp0 rfl; omega)
      have HE := Lib.hid (cells_part encV_ok (cells_below hr hg hbel) hc)
      have HO := Lib.hid hO
      have HL := Lib.hid hbel
      have HB := Lib.hid hB
      have HC := Lib.hid hc
      have C := fun w => singlePoint_any c.up (inR_bound (hok c (List.mem_of_getElem? hc))) w
      have HW := Lib.hid (RowAt.new wr 8 97 c.up)
      have hpt : (spr c.up 8, spi c.up 8) = spV c := rfl
      clear hr hO hbel hB hc
      unfold cs at C
      generalize spr c.up 8 = x at *
      generalize spi c.up 8 = y at *
      go_wp2_with (first | (refine load_part (T := 97) (f := c.up) rfl rfl rfl HE.out Try.underlying97 rfl info_exact ?_) | (refine store_new (ty := 97) rfl rfl rfl rfl zero8 info_exact ?_) | (refine load_row (ty := 97) (g := wr.heap.size) rfl rfl rfl HW.out Try.underlying97 rfl info_exact ?_))
      refine (C _).mono ?_; rintro e w3 ⟨rfl, hb3⟩
      have hb4 : Below wr.heap.size wr w3 := below_next ((Below.refl _ _).alloc (Nat.le_refl _) _) hb3
      have HO3 := Lib.hid (rows_below HO.out hb4)
      have HBW := Lib.hid (below_next HL.out hb4)
      have HBS := Lib.hid (Nat.le_trans HB.out hb4.size)
      clear hb3 hb4 C
      go_wp2_with (at_builtin; refine appendL tyPa encC_ok rfl rfl rfl rfl (xs := (xs.take k).map spV) (World.ownsRow.alloc HO3.out _) (litC _ (x, y) _) (by simp; omega) (HBW.out.alloc HBS.out _) (by simp; have := HBS.out; omega) ?_; intro v2 w5 ho5 hb5 hB5 hgr5)
      go_roundw
      case rel =>
        refine ⟨k + 1, by omega, by go_num, ?_, hb5, hB5⟩
        rw [map_next HC.out, ← hpt]; exact ho5
      case measure => simp [intOf]; omega
    · obtain rfl : k = xs.length := by omega
      have HO := Lib.hid hO
      have HL := Lib.hid hbel
      clear hO hbel hB
      go_wp2
      go_ret
      have ho := HO.out
      rw [List.take_length] at ho
      exact ⟨_, rfl, ho, HL.out⟩
theorem rowO_all {xs : List V} (h : rowOk xs = true) : ∀ a ∈ xs, okv a = true := by
  unfold rowOk at h
  rw [Bool.and_eq_true, List.all_eq_true] at h
  exact h.2
theorem rowOk_24 {xs : List V} (h : rowOk xs = true) : xs.length ≤ 24 := by
  unfold rowOk at h
  rw [Bool.and_eq_true] at h
  exact (rowLen_in h.1).2.2
theorem PathOf_any (v : Value) (xs : List V) (w : World) (hv : ReadsL encV w v xs) : Calls Try.prog 21 #[v] w (ToldC w (pathO xs)) := by
  have R := exactRow_any v xs w hv
  clear hv
  cases hr : rowOk xs with
  | false =>
    rw [rowO_no hr] at R
    rw [show pathO xs = none by unfold pathO; rw [hr, Bool.false_and, if_neg (by decide)]]
    go_enter Try.func21, Try.ntmps21
    go_wp2_with fail
    refine R.mono ?_; rintro e w2 ⟨hb2, v2, rfl, -⟩
    have HB2 := Lib.hid hb2
    clear R hb2
    go_wp2_with fail
    go_ret2
    exact ⟨HB2.out, _, rfl, ownC_none _ _ _⟩
  | true =>
    rw [rowO_yes hr] at R
    generalize hres : pathO xs = res
    unfold pathO at hres
    rw [hr, Bool.true_and] at hres
    have HRES := Lib.hid hres
    clear hres
    have hok := rowO_all hr
    have hl := rowOk_24 hr
    clear hr
    go_enter Try.func21, Try.ntmps21
    go_wp2_with fail
    refine R.mono ?_; rintro e w2 ⟨hb2, v2, rfl, ho2⟩
    have HB2 := Lib.hid hb2
    have S := singlePoints_any v2 xs w2 (ownL_reads ho2) hok hl
    clear R hb2 ho2 hok
    have hres := HRES.out
    generalize xs.map spV = ps at *
    have HRES := Lib.hid hres
    clear hres
    simp only [Option.isSome_some]
    go_wp2_with fail
    refine S.mono ?_; rintro e w3 ⟨v3, rfl, ho3, hb3⟩
    have HB3 := Lib.hid (below_next HB2.out hb3)
    have HO3 := Lib.hid (rows_mono ho3 HB2.out.size)
    have T := pathTold_any v3 ps w3 (ownL_reads ho3)
    clear S HB2 ho3 hb3
    cases hq : pvB ps with
    | true =>
      have hres := HRES.out
      rw [hq] at T hres
      rw [if_pos rfl] at T hres
      subst hres
      go_wp2_with fail
      refine T.mono ?_; rintro e w4 ⟨rfl, hb4⟩
      have HB4 := Lib.hid (below_next HB3.out hb4)
      have HO4 := Lib.hid (rows_below HO3.out hb4)
      clear T hb4
      go_wp2_with fail
      go_ret2
      exact ⟨HB4.out, _, rfl, HO4.out⟩
    | false =>
      have hres := HRES.out
      rw [hq] at T hres
      rw [if_neg (by decide)] at T hres
      subst hres
      go_wp2_with fail
      refine T.mono ?_; rintro e w4 ⟨rfl, hb4⟩
      have HB4 := Lib.hid (below_next HB3.out hb4)
      clear T hb4
      go_wp2_with fail
      go_ret2
      exact ⟨HB4.out, _, rfl, ownC_none _ _ _⟩
set_option maxHeartbeats 2000000 in
theorem specRowOk_any (v : Value) (xs : List V) (w : World) (hv : ReadsL encV w v xs) : Calls Try.prog 72 #[v] w fun e w' => e = .returned (.bool (rowOk xs)) ∧ Below w.heap.size w w' := by
  obtain ⟨p, cap, rfl, hc1, hc2, hp0, hp⟩ := hv
  simp only [maxLen] at hc2
  have HP := Lib.hid hp
  clear hp
  generalize hres : rowOk xs = res
  have HRES := Lib.hid hres
  clear hres
  have LN := fun w => specLength_any (xs.length : Int) w
  rw [rowZ_nat] at LN
  go_enter Try.func72, Try.ntmps72
  go_wp2
  go_loopw [3] (fun i wr => ∃ k : Nat, k ≤ xs.length ∧ i = .int .i64 k ∧ (xs.take k).all okv = true ∧ Below w.heap.size w wr) (fun i _ => xs.length - (intOf i).toNat)
  case atStart => exact ⟨0, Nat.zero_le _, rfl, rfl, Below.refl _ _⟩
  case round =>
    obtain ⟨k, hk, rfl, hall, hbel⟩ := hrel
    have HL := Lib.hid hbel
    have HA := Lib.hid hall
    clear hall
    by_cases hlt : k < xs.length
    · have hkz : (k : Int) < (xs.length : Int) := by omega
      have hk0 : (0 : Int) ≤ (k : Int) := by omega
      obtain ⟨c, hc⟩ : ∃ c, xs[k]? = some c := ⟨_, List.getElem?_eq_getElem hlt⟩
      obtain ⟨g, o, rfl, hg, hr⟩ := HP.out (by rintro rfl; have := hp0 rfl; omega)
      have HE := Lib.hid (cells_part encV_ok (cells_below hr hg hbel) hc)
      have HC := Lib.hid hc
      have C := fun w => specV c w
      clear hr hbel hc LN
      cases h1 : okv c
      · have HF : Aside (res = false) := (show res = false from by rw [← HRES.out]; exact rowOk_bad HC.out h1)
        rw [h1] at C
        go_wp2_with (first | (refine load_part (T := 40) (f := c.up) rfl rfl rfl HE.out Try.underlying40 rfl info_cyc ?_))
        refine (C _).mono ?_; rintro e w2 ⟨rfl, hb2⟩
        have HL2 := Lib.hid (below_next HL.out hb2)
        clear C hb2
        go_wp2
        go_ret
        exact ⟨by rw [HF.out]; rfl, HL2.out⟩
      · rw [h1] at C
        go_wp2_with (first | (refine load_part (T := 40) (f := c.up) rfl rfl rfl HE.out Try.underlying40 rfl info_cyc ?_))
        refine (C _).mono ?_; rintro e w2 ⟨rfl, hb2⟩
        have HL2 := Lib.hid (below_next HL.out hb2)
        clear C hb2
        go_wp2
        go_roundw
        case rel => exact ⟨k + 1, by omega, by go_num, okAll_take HA.out HC.out h1, HL2.out⟩
        case measure => simp [intOf]; omega
    · obtain rfl : k = xs.length := by omega
      have HF : Aside (res = rowLen xs.length) := (show res = _ from by
        have ha := HA.out
        rw [List.take_length] at ha
        rw [← HRES.out]; unfold rowOk; rw [ha, Bool.and_true])
      clear hbel
      go_wp2_with fail
      refine (LN _).mono ?_; rintro e w2 ⟨rfl, rfl⟩
      clear LN
      go_wp2
      go_ret
      exact ⟨by rw [HF.out]; rfl, HL.out⟩


theorem ownC_nil (w : World) (B T : Nat) (hB : B ≤ w.heap.size) : OwnL encC 1 (w.alloc (.cells #[] T)) B T (.slice (some ⟨w.heap.size, 0, none⟩) 0 0) ([] : List Pn) := World.ownsRow_made w #[] 0 hB (by simp [maxLen]) (by simp)
set_option maxHeartbeats 1000000 in
theorem specPathOf_any (v : Value) (xs : List V) (w : World) (hv : ReadsL encV w v xs) : Calls Try.prog 22 #[v] w (ToldC w (pathO xs)) := by
  have hvv := hv
  obtain ⟨p, cap, rfl, hc1, hc2, hp0, hp⟩ := hv
  simp only [maxLen] at hc2
  have HP := Lib.hid hp
  have RV := specRowOk_any _ xs (w.alloc (.cells #[] 35)) (hvv.below ((Below.refl _ _).alloc (Nat.le_refl _) _))
  clear hp hvv
  cases hrow : rowOk xs with
  | false =>
    rw [hrow] at RV
    rw [show pathO xs = none by unfold pathO; rw [hrow, Bool.false_and, if_neg (by decide)]]
    go_enter Try.func22, Try.ntmps22
    go_wp2_with fail
    refine RV.mono ?_; rintro e w2 ⟨rfl, hb2⟩
    have HB2 := Lib.hid hb2
    clear RV hb2
    go_wp2_with fail
    go_ret2
    exact ⟨below_next ((Below.refl _ _).alloc (Nat.le_refl _) _) HB2.out, _, rfl, rows_below (ownC_nil w w.heap.size 35 (Nat.le_refl _)) HB2.out⟩
  | true =>
    rw [hrow] at RV
    generalize hres : pathO xs = res
    unfold pathO at hres
    rw [hrow, Bool.true_and] at hres
    have HRES := Lib.hid hres
    clear hres
    have hok := rowO_all hrow
    have hl := rowOk_24 hrow
    clear hrow
    go_enter Try.func22, Try.ntmps22
    go_wp2_with fail
    refine RV.mono ?_; rintro e w2 ⟨rfl, hb2⟩
    have ho1 := rows_below (ownC_nil w w.heap.size 35 (Nat.le_refl _)) hb2
    have hb1 : Below w.heap.size w w2 := below_next ((Below.refl _ _).alloc (Nat.le_refl _) _) hb2
    clear RV hb2
    go_wp2_with fail
    go_loopw [4, 5, 6, 7, 19] (fun v' i _ _ _ wr => ∃ k : Nat, k ≤ xs.length ∧ i = .int .i64 k ∧ OwnL encC 1 wr w.heap.size 35 v' ((xs.take k).map spV) ∧ Below w.heap.size w wr ∧ w.heap.size ≤ wr.heap.size) (fun _ i _ _ _ _ => xs.length - (intOf i).toNat)
    case atStart => exact ⟨0, Nat.zero_le _, rfl, ho1, hb1, hb1.size⟩
    case round =>
      clear ho1 hb1
      obtain ⟨k, hk, rfl, hO, hbel, hB⟩ := hrel
      by_cases hlt : k < xs.length
      · have hkz : (k : Int) < (xs.length : Int) := by omega
        have hk0 : (0 : Int) ≤ (k : Int) := by omega
        obtain ⟨c, hc⟩ : ∃ c, xs[k]? = some c := ⟨_, List.getElem?_eq_getElem hlt⟩
        obtain ⟨g, o, rfl, hg, hr⟩ := HP.out (by rintro rfl; have := hp0 rfl; omega)
        have HE := Lib.hid (cells_part encV_ok (cells_below hr hg hbel) hc)
        have HO := Lib.hid hO
        have HL := Lib.hid hbel
        have HB := Lib.hid hB
        have HC := Lib.hid hc
        have C : ∀ w, Calls Try.prog 73 #[pt c.up] w fun e w' => e = .returned (.tuple #[cs (spr c.up 8) (spi c.up 8), .bool true]) ∧ Below w.heap.size w w' := fun w => specSinglePoint_yes c.up (hok c (List.mem_of_getElem? hc)) w
        have hpt : (spr c.up 8, spi c.up 8) = spV c := rfl
        clear hr hO hbel hB hc
        unfold cs at C
        generalize spr c.up 8 = x at *
        generalize spi c.up 8 = y at *
        go_wp2_with (first | (refine load_part (T := 40) (f := c.up) rfl rfl rfl HE.out Try.underlying40 rfl info_cyc ?_))
        refine (C _).mono ?_; rintro e w3 ⟨rfl, hb3⟩
        have HO3 := Lib.hid (rows_below HO.out hb3)
        have HBW := Lib.hid (below_next HL.out hb3)
        have HBS := Lib.hid (Nat.le_trans HB.out hb3.size)
        clear hb3 C
        go_wp2_with (at_builtin; refine appendL tyZ encC_ok rfl rfl rfl rfl (xs := (xs.take k).map spV) (World.ownsRow.alloc HO3.out _) (litC _ (x, y) _) (by simp; omega) (HBW.out.alloc HBS.out _) (by simp; have := HBS.out; omega) ?_; intro v2 w5 ho5 hb5 hB5 hgr5)
        go_roundw
        case rel =>
          refine ⟨k + 1, by omega, by go_num, ?_, hb5, hB5⟩
          rw [map_next HC.out, ← hpt]; exact ho5
        case measure => simp [intOf]; omega
      · obtain rfl : k = xs.length := by omega
        rw [List.take_length] at hO
        have T := specPathValid_any _ _ _ (ownL_reads hO)
        have HO := Lib.hid hO
        have HL := Lib.hid hbel
        have HB := Lib.hid hB
        clear hO hbel hB
        have hres := HRES.out
        generalize xs.map spV = ps at *
        cases hq : pvB ps with
        | true =>
          rw [hq] at T hres
          rw [if_pos rfl] at hres
          subst hres
          go_wp2_with fail
          refine T.mono ?_; rintro e w4 ⟨rfl, rfl⟩
          clear T
          go_wp2_with fail
          go_ret2
          exact ⟨HL.out, _, rfl, HO.out⟩
        | false =>
          rw [hq] at T hres
          rw [if_neg (by decide)] at hres
          subst hres
          go_wp2_with fail
          refine T.mono ?_; rintro e w4 ⟨rfl, rfl⟩
          clear T
          go_wp2_with fail
          go_ret2
          exact ⟨HL.out.alloc HB.out _, _, rfl, ownC_nil _ _ _ HB.out⟩
end Go.Proofs.Ytnidiikcnplebaa
/- The exact laws' helpers on lists of exact points, for a program that knows no wheels: copied, counted, compared, marked, held. -/
namespace Go.Proofs.Ytnidiikcnplebaa
set_option maxRecDepth 20000
open Go.ChangeShapes Go.WideShapes Go.ChangeAt Go.RowKit
set_option linter.unusedVariables false
set_option linter.unusedSimpArgs false

theorem range_keptP {B : Nat} {w w' : World} {g o : Nat} {cs : List Value} (h : w.rangeAt g o cs) (hg : g < B) (hb : Below B w w') : w'.rangeAt g o cs := fun j v hv => (World.cell?_of_block (hb.block g hg)).trans (h j v hv)
theorem made_zeros (n : Nat) : (madeCells (Value.agg (vec 8 nul)).cells (n * 8)).toList = flt encV (List.replicate n V.zero) := by
  apply List.ext_getElem?
  intro i
  by_cases hi : i < n * 8
  · have h1 := flt_at encV_ok (xs := List.replicate n V.zero) (i := i / 8) (a := V.zero) (by rw [List.getElem?_replicate, if_pos (by omega)]) (i % 8) (by omega)
    rw [show i / 8 * 8 + i % 8 = i from by omega] at h1
    rw [h1]
    have hz : ∀ k, k < 8 → (vec 8 nul)[k]! = .int .i64 0 := fun k hk => by
      rw [getElem!_pos (vec 8 nul) k (by rw [vec_size]; exact hk)]
      have := vec_at nul hk
      rw [Array.getElem?_eq_getElem (by rw [vec_size]; exact hk)] at this
      simpa [nul] using this
    have hm : i % 8 < 8 := by omega
    have h2 : (encV V.zero)[i % 8]? = some (.int .i64 0) := by
      unfold encV lst
      rw [zero_up]
      simp [hm, nul]
    rw [h2]
    simp [madeCells, Value.cells, hi, vec_size, hz _ hm]
  · rw [List.getElem?_eq_none (by simp [madeCells]; omega), List.getElem?_eq_none (by rw [flt_length encV_ok]; simp; omega)]
section
variable {P : Program} {t e : TypeId} {ops : Array Oper} {rest : List Oper} {o : Oper} {a : Act} {Q : Exit → Act → World → Prop} {w0 w : World} {B : Nat}
/-- 'make' of a list of zero points. -/
theorem make_fullL (ty : TyL P t e 8) (hz : (P.info? e).map (·.zero) = some (some (.agg (vec 8 nul)))) (hgd : o.guard = none) {l c : Operand} (hop : o.op = .makeSlice t l c) (n : Nat) (hl : a.eval l = .int .i64 n) (hc : a.eval c = .int .i64 n) (hn : n ≤ 1000000000)
    (h : ∀ w', w'.ownsRow w.heap.size e 8 (.slice (some ⟨w.heap.size, 0, none⟩) n n) n (flt encV (List.replicate n V.zero)) → Below w.heap.size w w' → wpList P ops Q rest (a.put o.dst (.slice (some ⟨w.heap.size, 0, none⟩) n n)) w') : wpList P ops Q (o :: rest) a w := by
  obtain ⟨i, z, hi, hz0, hs, hby, hzs⟩ := ty.inf
  have hzz : i.zero = some (.agg (vec 8 nul)) := by rw [hi] at hz; simpa using hz
  refine wpList_plain hgd fun K hK' => ?_
  have h1 : i.bytes * n ≤ 281474976710656 := by have := Nat.mul_le_mul hby hn; omega
  obtain ⟨w', hrun, r1, r2⟩ := run_make_full (P := P) w w.heap.size t e i _ 8 ty.sl hi hzz hs .i64 .i64 n h1 (by simp only [maxLen]; omega) (Nat.le_refl _)
  rw [made_zeros] at r1
  unfold Oper.wp
  simp [execOp, hop, hl, hc, hrun, Result.andThen]
  exact hK' _ _ (h w' r1 ((Below.refl _ _).grown r2 (Nat.le_refl _) fun k hk => by cases hk))
end

section
variable {P : Program} {ops : Array Oper} {rest : List Oper} {o : Oper} {a : Act} {Q : Exit → Act → World → Prop} {w : World}
theorem store_part {ty : TypeId} {g p : Nat} {f : Nat → Int} (hgd : o.guard = none) {x y : Operand} (ho : o.op = .store ty x y) (hx : a.eval x = .pointer (some ⟨g, p, none⟩)) (hy : a.eval y = pt f)
    (ht : w.there g p 8) (hi : (P.info? ty).map (·.size) = some 8) (h : wpList P ops Q rest (a.put o.dst undef) (w.setCells g p (lst 8 f))) : wpList P ops Q (o :: rest) a w :=
  wpList_store_mid hgd ty x y ho g p (vec 8 f) hx hy (by rw [vec_size]; exact ht) (by rw [vec_size]; exact hi) (vec_one 8 _) (show wpList P ops Q rest (a.put o.dst undef) (w.setCells g p (vec 8 f).toList) from h)
end

theorem szCycs_yes (v : Value) (ws : List V) (left : Int) (w : World) (hv : LiesL encV w v ws) (hl : left ≤ 1048576) (h : (ws.length : Int) ≤ left) :
    Calls Try.prog 50 #[v, .int .i64 left] w fun e w' => e = .returned (.int .i64 (left - (ws.length : Int))) ∧ w = w' := by
  obtain ⟨p, cap, rfl, hc1, hc2, -⟩ := hv
  have r1 : IntKind.i64.wrap (left - (ws.length : Int)) = left - (ws.length : Int) := by rw [IntKind.wrap_i64]; omega
  have hb : ¬ left - (ws.length : Int) < 0 := by omega
  go_enter Try.func50, Try.ntmps50
  go_wp2
  go_ret
  exact ⟨rfl, rfl⟩
theorem szCycs_no (v : Value) (ws : List V) (left : Int) (w : World) (hv : LiesL encV w v ws) (h0 : 0 ≤ left) (hl : left ≤ 1048576) (h : left < (ws.length : Int)) :
    Calls Try.prog 50 #[v, .int .i64 left] w fun e w' => e = .returned (.int .i64 (-1)) ∧ w = w' := by
  obtain ⟨p, cap, rfl, hc1, hc2, -⟩ := hv
  simp only [maxLen] at hc2
  have r1 : IntKind.i64.wrap (left - (ws.length : Int)) = left - (ws.length : Int) := by rw [IntKind.wrap_i64]; omega
  have hb : left - (ws.length : Int) < 0 := by omega
  go_enter Try.func50, Try.ntmps50
  go_wp2
  go_ret
  exact ⟨rfl, rfl⟩

theorem info_lawCyc8 : (Try.prog.info? 123).map (·.size) = some 8 := by kernel_rfl
theorem zero_cyc : (Try.prog.info? 40).map (·.zero) = some (some (.agg (vec 8 nul))) := by kernel_rfl
theorem size_cycL (c : V) : (Try.prog.info? 40).map (·.size) = some (encV c).length := by rw [encV_ok.len]; exact info_cyc
theorem own_belowL {w w' : World} {B T g n cap : Nat} {xs : List Value} (h : w.ownsRow B T 8 (.slice (some ⟨g, 0, none⟩) n cap) n xs) (hb : Below w.heap.size w w') : w'.ownsRow B T 8 (.slice (some ⟨g, 0, none⟩) n cap) n xs := by
  refine ⟨h.1, ?_⟩
  rcases h.2 with h0 | ⟨g', cap', cur, e, hB, hg, rest⟩
  · exact .inl h0
  · exact .inr ⟨g', cap', cur, e, hB, (hb.block g' (Array.getElem?_eq_some_iff.1 hg).1).trans hg, rest⟩

set_option maxHeartbeats 2000000 in
theorem toCycs_any (v : Value) (ws : List V) (w : World) (hv : LiesL encV w v ws) (hn : ws.length ≤ 1048576) :
    Calls Try.prog 51 #[v] w fun e w' => Below w.heap.size w w' ∧ ∃ v', e = .returned v' ∧ OwnL encV 8 w' w.heap.size 40 v' ws := by
  obtain ⟨p, cap, rfl, hc1, hc2, hp⟩ := hv
  simp only [maxLen] at hc2
  have HP := Lib.hid hp
  clear hp
  go_enter Try.func51, Try.ntmps51
  go_wp2_with (refine make_fullL tyY zero_cyc rfl rfl ws.length rfl rfl (by omega) ?_; intro w1 ho1 hb1)
  rw [← halfL_none] at ho1
  go_loopw [4] (fun i wr => ∃ k : Nat, k ≤ ws.length ∧ i = .int .i64 k ∧ wr.ownsRow w.heap.size 40 8 (.slice (some ⟨w.heap.size, 0, none⟩) ws.length ws.length) ws.length (flt encV (halfL V.zero ws k)) ∧ Below w.heap.size w wr) (fun i _ => ws.length - (intOf i).toNat)
  case atStart => exact ⟨0, Nat.zero_le _, rfl, ho1, hb1⟩
  case round =>
    clear ho1 hb1
    obtain ⟨k, hk, rfl, hO, hbel⟩ := hrel
    by_cases hlt : k < ws.length
    · have hkz : (k : Int) < (ws.length : Int) := by omega
      have hk0 : (0 : Int) ≤ (k : Int) := by omega
      obtain ⟨c, hc⟩ : ∃ c, ws[k]? = some c := ⟨_, List.getElem?_eq_getElem hlt⟩
      obtain ⟨g, o, rfl, hg, hr⟩ := HP.out (by intro e; rw [e] at hlt; simp at hlt)
      have HR : Aside (wr.rangeAt g (o + k * 8) (encV c)) := (show World.rangeAt _ _ _ _ from cells_part encV_ok (cells_below hr hg hbel) hc)
      have HC := Lib.hid hc
      have HO := Lib.hid hO
      have HL := Lib.hid hbel
      have T := fun w => toCyc_any c.up w
      clear hr hc hO hbel
      go_wp2_with (refine load_part (T := 123) (g := g) (f := c.up) rfl rfl rfl HR.out Try.underlying123 rfl info_lawCyc8 ?_)
      refine (T _).mono ?_; rintro e w2 ⟨rfl, hb2⟩
      have hzz : w.heap.size ≤ wr.heap.size := HL.out.size
      have hO2 := own_belowL HO.out hb2
      have HT : Aside (w2.there w.heap.size (k * 8) 8) := (show w2.there _ _ _ from rows_there (o := 0) hO2 hlt (by omega))
      have HO3 : Aside ((w2.setCells w.heap.size (k * 8) (lst 8 c.up)).ownsRow w.heap.size 40 8 (.slice (some ⟨w.heap.size, 0, none⟩) ws.length ws.length) ws.length (flt encV (halfL V.zero ws (k + 1)))) := (show World.ownsRow _ _ _ _ _ _ _ from by
        rw [← halfL_set HC.out]; exact ownL_set encV_ok c hO2 (halfL_at hlt))
      have HL3 : Aside (Below w.heap.size w (w2.setCells w.heap.size (k * 8) (lst 8 c.up))) := below_setCells (Nat.le_refl _) _ _ _ (below_next HL.out hb2)
      clear hO2 hb2 HO HL T HR
      go_wp2_with (first | (refine store_part (ty := 40) (g := w.heap.size) (p := k * 8) (f := c.up) rfl rfl rfl rfl HT.out info_cyc ?_; clear HT))
      go_roundw
      case rel => exact ⟨k + 1, by omega, by go_num, HO3.out, HL3.out⟩
      case measure => simp [intOf]; omega
    · obtain rfl : k = ws.length := by omega
      rw [halfL_all] at hO
      have HO := Lib.hid hO
      have HL := Lib.hid hbel
      clear hO hbel
      go_wp2
      go_ret
      exact ⟨HL.out, _, rfl, HO.out⟩

theorem grown_trans {a b c : World} {row : Option Nat} (h : a.grownBy b row) (k : b.grownBy c row) : a.grownBy c row :=
  ⟨k.os.trans h.os, k.tape.trans h.tape, k.output.trans h.output, Nat.le_trans h.size k.size, fun i hi hne => (k.block i (Nat.lt_of_lt_of_le hi h.size) hne).trans (h.block i hi hne)⟩

set_option maxHeartbeats 2000000 in
theorem eqCycs_yes (va vb : Value) (L : List V) (w : World) (ha : ReadsL encV w va L) (hb : ReadsL encV w vb L) : Calls Try.prog 53 #[va, vb] w fun e w' => e = .returned (.bool true) ∧ Below w.heap.size w w' := by
  obtain ⟨p, cap, rfl, hc1, hc2, hp0, hp⟩ := ha
  obtain ⟨q, cap2, rfl, hd1, hd2, hq0, hq⟩ := hb
  simp only [maxLen] at hc2
  have hlb : ((L.length : Int) != (L.length : Int)) = false := by simp
  have HP := Lib.hid hp
  have HQ := Lib.hid hq
  clear hp hq
  go_enter Try.func53, Try.ntmps53
  go_wp2
  go_loopw [5] (fun i wr => ∃ k : Nat, k ≤ L.length ∧ i = .int .i64 k ∧ Below w.heap.size w wr) (fun i _ => L.length - (intOf i).toNat)
  case atStart => exact ⟨0, Nat.zero_le _, rfl, Below.refl _ _⟩
  case round =>
    obtain ⟨k, hk, rfl, hbel⟩ := hrel
    have HL := Lib.hid hbel
    clear hbel
    by_cases hlt : k < L.length
    · have hkz : (k : Int) < (L.length : Int) := by omega
      have hk0 : (0 : Int) ≤ (k : Int) := by omega
      obtain ⟨c, hc⟩ : ∃ c, L[k]? = some c := ⟨_, List.getElem?_eq_getElem hlt⟩
      obtain ⟨g, o, rfl, hg, hr⟩ := HP.out (by rintro rfl; have := hp0 rfl; omega)
      obtain ⟨g2, o2, rfl, hg2, hr2⟩ := HQ.out (by rintro rfl; have := hq0 rfl; omega)
      have HE : Aside (g < w.heap.size ∧ w.rangeAt g (o + k * 8) (encV c)) := (show _ ∧ _ from ⟨hg, cells_part encV_ok hr hc⟩)
      have HE2 : Aside (g2 < w.heap.size ∧ w.rangeAt g2 (o2 + k * 8) (encV c)) := (show _ ∧ _ from ⟨hg2, cells_part encV_ok hr2 hc⟩)
      have T := fun w => eqCyc_yes c.up w
      clear hr hr2 hc hg hg2
      go_upto_region 6 with fail
      refine wp_region_held_drew (S := fun w' => Below w.heap.size w w') (by kernel_rfl) HL.out.drew (fun hHeld => ?_)
      refine wpAnyH_take (i := 0) (oi := _) (v := .slice (some ⟨g, o, none⟩) L.length cap) rfl (by kernel_rfl) (by kernel_rfl) (by kernel_rfl) (fun _ _ _ h => h) (Or.inl ⟨by rfl, fun w h => by go_simp⟩) hHeld ?_
      try simp only [Act.put, List.setIfInBounds_toArray, List.set_cons_zero, List.set_cons_succ, List.getElem_toArray, List.getElem_cons_succ, List.getElem_cons_zero]
      refine wpAnyH_take (i := 1) (oi := _) (v := .int .i64 k) rfl (by kernel_rfl) (by kernel_rfl) (by kernel_rfl) (fun _ _ _ h => h) (Or.inl ⟨by rfl, fun w h => by go_simp⟩) hHeld ?_
      try simp only [Act.put, List.setIfInBounds_toArray, List.set_cons_zero, List.set_cons_succ, List.getElem_toArray, List.getElem_cons_succ, List.getElem_cons_zero]
      refine wpAnyH_take (i := 2) (oi := _) (v := .pointer (some ⟨g, o + k * 8, none⟩)) rfl (by kernel_rfl) (by kernel_rfl) (by kernel_rfl) (fun _ _ _ h => h) (Or.inl ⟨by rfl, fun w h => by go_simp⟩) hHeld ?_
      try simp only [Act.put, List.setIfInBounds_toArray, List.set_cons_zero, List.set_cons_succ, List.getElem_toArray, List.getElem_cons_succ, List.getElem_cons_zero]
      refine wpAnyH_take (i := 3) (oi := _) (v := .agg (vec 8 c.up)) rfl (by kernel_rfl) (by kernel_rfl) (by kernel_rfl) (fun _ _ _ h => h) (yieldsIf_load_mid (by rfl) _ _ rfl _ _ rfl _ _ ((fun w h => range_keptP HE.out.2 HE.out.1 h)) Try.underlying40 rfl (size_cycL c)) hHeld ?_
      try simp only [Act.put, List.setIfInBounds_toArray, List.set_cons_zero, List.set_cons_succ, List.getElem_toArray, List.getElem_cons_succ, List.getElem_cons_zero]
      refine wpAnyH_take (i := 4) (oi := _) (v := .slice (some ⟨g2, o2, none⟩) L.length cap2) rfl (by kernel_rfl) (by kernel_rfl) (by kernel_rfl) (fun _ _ _ h => h) (Or.inl ⟨by rfl, fun w h => by go_simp⟩) hHeld ?_
      try simp only [Act.put, List.setIfInBounds_toArray, List.set_cons_zero, List.set_cons_succ, List.getElem_toArray, List.getElem_cons_succ, List.getElem_cons_zero]
      refine wpAnyH_take (i := 5) (oi := _) (v := .int .i64 k) rfl (by kernel_rfl) (by kernel_rfl) (by kernel_rfl) (fun _ _ _ h => h) (Or.inl ⟨by rfl, fun w h => by go_simp⟩) hHeld ?_
      try simp only [Act.put, List.setIfInBounds_toArray, List.set_cons_zero, List.set_cons_succ, List.getElem_toArray, List.getElem_cons_succ, List.getElem_cons_zero]
      refine wpAnyH_take (i := 6) (oi := _) (v := .pointer (some ⟨g2, o2 + k * 8, none⟩)) rfl (by kernel_rfl) (by kernel_rfl) (by kernel_rfl) (fun _ _ _ h => h) (Or.inl ⟨by rfl, fun w h => by go_simp⟩) hHeld ?_
      try simp only [Act.put, List.setIfInBounds_toArray, List.set_cons_zero, List.set_cons_succ, List.getElem_toArray, List.getElem_cons_succ, List.getElem_cons_zero]
      refine wpAnyH_take (i := 7) (oi := _) (v := .agg (vec 8 c.up)) rfl (by kernel_rfl) (by kernel_rfl) (by kernel_rfl) (fun _ _ _ h => h) (yieldsIf_load_mid (by rfl) _ _ rfl _ _ rfl _ _ ((fun w h => range_keptP HE2.out.2 HE2.out.1 h)) Try.underlying40 rfl (size_cycL c)) hHeld ?_
      try simp only [Act.put, List.setIfInBounds_toArray, List.set_cons_zero, List.set_cons_succ, List.getElem_toArray, List.getElem_cons_succ, List.getElem_cons_zero]
      refine wpAnyH_ready (rs := [8]) (by kernel_rfl) (by simp) ?_
      refine AllReadyH.cons (o := _) rfl (fun K hK => ?_) AllReadyH.nil
      go_simp
      refine (T _).mono ?_; rintro e w5 ⟨rfl, hb5⟩
      go_wp2_with fail
      refine hK.out _ _ (below_next hHeld hb5) (fun hHeld => ?_)
      clear hK K
      try simp only [Act.put, List.setIfInBounds_toArray, List.set_cons_zero, List.set_cons_succ, List.getElem_toArray, List.getElem_cons_succ, List.getElem_cons_zero]
      clear hb5 T
      refine wpAnyH_take (i := 9) (oi := _) (v := .bool false) rfl (by kernel_rfl) (by kernel_rfl) (by kernel_rfl) (fun _ _ _ h => h) (Or.inl ⟨by rfl, fun w h => by go_simp⟩) hHeld ?_
      try simp only [Act.put, List.setIfInBounds_toArray, List.set_cons_zero, List.set_cons_succ, List.getElem_toArray, List.getElem_cons_succ, List.getElem_cons_zero]
      refine wpAnyH_done (by kernel_rfl) ?_ _
      have HL5 := Lib.hid hHeld
      clear hHeld
      go_wp2
      go_roundw
      case rel => exact ⟨k + 1, by omega, by go_num, HL5.out⟩
      case measure => simp [intOf]; omega
    · obtain rfl : k = L.length := by omega
      go_wp2
      go_ret
      exact ⟨rfl, HL.out⟩

/-! Marked and held. -/
set_option maxHeartbeats 2000000 in
theorem markC_own (k0 B g n cap : Nat) (hk0 : k0 ≤ 100000000) (ws : List V) (w : World) (hn : ws.length = n) (ho : w.ownsRow B 40 8 (.slice (some ⟨g, 0, none⟩) n cap) n (flt encV ws)) (hm : n ≤ 1048576) :
    Calls Try.prog 54 #[.slice (some ⟨g, 0, none⟩) n cap, .int .i64 k0] w fun e w' => e = .returned (.int .i64 ((k0 + n * 8 : Nat) : Int)) ∧ w'.ownsRow B 40 8 (.slice (some ⟨g, 0, none⟩) n cap) n (mkL k0 (n * 8)) ∧ w.grownBy w' (some g) := by
  have HF : Aside ((flt encV ws).length = n * 8) := (show _ = _ from by rw [flt_length encV_ok, hn])
  clear hn
  generalize flt encV ws = cs at *
  go_enter Try.func54, Try.ntmps54
  go_wp2_with fail
  go_loopw [1, 5, 6] (fun ks i _ wr => ∃ k : Nat, k ≤ n ∧ i = .int .i64 k ∧ ks = .int .i64 ((k0 + k * 8 : Nat) : Int) ∧ wr.ownsRow B 40 8 (.slice (some ⟨g, 0, none⟩) n cap) n (mkdL k0 cs (k * 8)) ∧ w.grownBy wr (some g)) (fun _ i _ _ => n - (intOf i).toNat)
  case atStart => exact ⟨0, Nat.zero_le _, rfl, rfl, by rw [Nat.zero_mul, mkdL_none]; exact ho, World.grownBy.refl _ _⟩
  case round =>
    clear ho
    obtain ⟨k, hk, rfl, rfl, hO, hg⟩ := hrel
    by_cases hlt : k < n
    · have hkz : (k : Int) < (n : Int) := by omega
      have hk0 : (0 : Int) ≤ (k : Int) := by omega
      have H1 := Lib.hid hO
      have H2 := Lib.hid hg
      clear hO hg
      go_wp2_with fail
      go_loopw [1, 6] (fun ks j wr => ∃ m : Nat, m ≤ 8 ∧ j = .int .i64 m ∧ ks = .int .i64 ((k0 + (k * 8 + m) : Nat) : Int) ∧ wr.ownsRow B 40 8 (.slice (some ⟨g, 0, none⟩) n cap) n (mkdL k0 cs (k * 8 + m)) ∧ w.grownBy wr (some g)) (fun _ j _ => 8 - (intOf j).toNat)
      case atStart => exact ⟨0, Nat.zero_le _, rfl, by go_num, H1.out, H2.out⟩
      case round =>
        clear H1 H2
        obtain ⟨m, hm8, rfl, rfl, hO, hg⟩ := hrel
        by_cases hlt8 : m < 8
        · have hmz : (m : Int) < 8 := by omega
          have hm0 : (0 : Int) ≤ (m : Int) := by omega
          have hpl : k * 8 + m < cs.length := by rw [HF.out]; omega
          have hold := mkdL_old (k0 := k0) (cs := cs) (p := k * 8 + m) hpl
          have hcell : wr.cell? ⟨g, k * 8 + m, none⟩ = some cs[k * 8 + m] := by rw [hO.cellAt (k * 8 + m) (by omega), hold]
          generalize cs[k * 8 + m] = old at *
          clear hold
          have hfr := hO.frozenAt (k * 8 + m)
          have q1 : IntKind.i64.wrap (((k0 + (k * 8 + m) : Nat) : Int) + 1) = ((k0 + (k * 8 + (m + 1)) : Nat) : Int) := by rw [IntKind.wrap_i64]; omega
          obtain ⟨h1, h2⟩ := hO.stored (k * 8 + m) (.int .i64 ((k0 + (k * 8 + m) : Nat) : Int))
          rw [mkdL_step hpl] at h1
          have H1 := Lib.hid h1
          have H2 := Lib.hid (grown_trans hg h2)
          clear h1 h2 hO hg hpl
          go_wp2_with fail
          go_roundw
          case rel => exact ⟨m + 1, by omega, by go_num, by go_num, H1.out, H2.out⟩
          case measure => simp [intOf]; omega
        · obtain rfl : m = 8 := by omega
          have H1 := Lib.hid hO
          have H2 := Lib.hid hg
          clear hO hg
          go_wp2_with fail
          go_roundw
          case rel => exact ⟨k + 1, by omega, by go_num, by go_num, by rw [show (k + 1) * 8 = k * 8 + 8 from by omega]; exact H1.out, H2.out⟩
          case measure => simp [intOf]; omega
    · obtain rfl : k = n := by omega
      rw [mkdL_all HF.out] at hO
      have H1 := Lib.hid hO
      have H2 := Lib.hid hg
      clear hO hg
      go_wp2_with fail
      go_ret
      exact ⟨rfl, H1.out, H2.out⟩
theorem markC_nil (k0 : Nat) (w : World) : Calls Try.prog 54 #[.slice none 0 0, .int .i64 k0] w fun e w' => e = .returned (.int .i64 k0) ∧ w = w' := by
  go_enter Try.func54, Try.ntmps54
  go_wp2_with fail
  refine wp_loop_rounds 1 ?_
  rw [rounds_succ]
  go_wp2_with fail
  go_ret
  exact ⟨rfl, rfl⟩
theorem markC_any (k0 : Nat) (hk0 : k0 ≤ 100000000) (v : Value) (B : Nat) (ws : List V) (w : World) (ho : OwnL encV 8 w B 40 v ws) (hm : ws.length ≤ 1048576) :
    Calls Try.prog 54 #[v, .int .i64 k0] w fun e w' => e = .returned (.int .i64 ((k0 + ws.length * 8 : Nat) : Int)) ∧ w'.ownsRow B 40 8 v ws.length (mkL k0 (ws.length * 8)) ∧ w.grownBy w' v.ownBlock := by
  have h2 := ho.2
  rcases h2 with ⟨rfl, h0⟩ | ⟨g, cap, cur, rfl, _⟩
  · refine (markC_nil k0 w).mono ?_
    rintro e w' ⟨rfl, rfl⟩
    refine ⟨by rw [h0]; rfl, ?_, World.grownBy.refl _ _⟩
    rw [h0, Nat.zero_mul]; exact World.ownsRow_nil _ _ _ _
  · exact markC_own k0 B g ws.length cap hk0 ws w rfl ho hm

theorem marked_below {B C : Nat} {w0 w w' : World} {u : Value} (h : Below B w0 w) (hB : B ≤ w.heap.size) (hg : w.grownBy w' u.ownBlock) (hu : ∀ k, u.ownBlock = some k → C ≤ k) (hC : B ≤ C) : Below B w0 w' :=
  below_grown h hg hB fun k hk => Nat.le_trans hC (hu k hk)
theorem markC_number (k n : Nat) : ∃ M : Int, Aside (((k + n * 8 : Nat) : Int) = M) ∧ ¬ M < 0 ∧ (M != M) = false := ⟨_, (show _ = _ from rfl), by omega, by simp⟩
end Go.Proofs.Ytnidiikcnplebaa
