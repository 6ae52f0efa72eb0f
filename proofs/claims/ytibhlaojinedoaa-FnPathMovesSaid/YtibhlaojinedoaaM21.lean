/-
  Both sides: which lists are paths, told; the paths of rows.
  Both sides: the paths of rows.
  The exact laws' helpers on lists of exact points, for a program that knows no wheels: copied, counted, compared, marked, held.
-/
import Derived.Test.YtibhlaojinedoaaM12
import Derived.Test.YtibhlaojinedoaaM16
import Derived.Test.YtibhlaojinedoaaM08
import Derived.Test.YtibhlaojinedoaaM19
import Derived.Test.YtibhlaojinedoaaM04
import Derived.Laws.CopyRow
/- Both sides: which lists are paths, told; the paths of rows. -/
namespace Go.Proofs.Ytibhlaojinedoaa
set_option maxRecDepth 20000
open Go.ChangeShapes Go.WideShapes Go.ChangeAt Go.RowKit
set_option linter.unusedVariables false
set_option linter.unusedSimpArgs false

theorem tyZ : TyL Try.prog 34 23 1 := tyL_of (z := .complex .f32 0 0) (b := 8) Try.underlying34 (by kernel_rfl) (by omega) rfl
theorem tyPa : TyL Try.prog 57 23 1 := tyL_of (z := .complex .f32 0 0) (b := 8) Try.underlying57 (by kernel_rfl) (by omega) rfl
theorem litC (w : World) (x : Pn) (T : Nat) : ReadsL encC (w.alloc (.cells #[cs x.1 x.2] T)) (.slice (some ⟨w.heap.size, 0, none⟩) 1 1) [x] := litL_reads (en := encC) w x T
theorem ownC_none (w : World) (B T : Nat) : OwnL encC 1 w B T (.slice none 0 0) ([] : List Pn) := World.ownsRow_nil w B T 1
theorem take_nextL {α : Type} {xs : List α} {k : Nat} {c : α} (hc : xs[k]? = some c) : xs.take (k + 1) = xs.take k ++ [c] := by rw [List.take_add_one, hc]; rfl
/-- What is told of a list of points. -/
def ToldC (w : World) (o : Option (List Pn)) (e : Ending) (w' : World) : Prop :=
  Below w.heap.size w w' ∧ ∃ v', e = .returned (.tuple #[v', .bool o.isSome]) ∧ OwnL encC 1 w' w.heap.size 23 v' (o.getD [])
theorem PathValid_any (v : Value) (xs : List Pn) (w : World) (hv : ReadsL encC w v xs) : Calls Try.prog 24 #[v] w fun e w' => e = .returned (.bool (pvB xs)) ∧ Below w.heap.size w w' := by
  have C := pathValid_any v xs w hv
  clear hv
  go_enter Try.func24, Try.ntmps24
  go_wp2_with fail
  refine C.mono ?_; rintro e w2 ⟨rfl, hb2⟩
  have HB2 := Lib.hid hb2
  clear C hb2
  go_wp2_with fail
  go_ret
  exact ⟨rfl, HB2.out⟩
/-! ### spec's -/
theorem specPart_any (x : Nat) (w : World) : Calls Try.prog 20 #[.float .f32 x] w fun e w' => e = .returned (.bool (inR x)) ∧ w = w' := by
  rcases cls_cases x with ⟨hx, fx⟩ | ⟨hx, fx⟩ | ⟨hx, fx⟩
  · rw [inR_not fx]
    have hn : nanS x = true := by
      unfold clsS at hx
      unfold nanS
      generalize Ieee.single.read x = d at *
      cases d with
      | number s m e => cases hx
      | infinity s => cases hx
      | nan s t => rfl
    have O1 := (nan_ord32 hn n4096).1
    have O2 := (nan_ord32 hn w4096).1
    clear hx fx hn
    go_enter Try.func20, Try.ntmps20
    go_wp2
    go_ret
    exact ⟨rfl, rfl⟩
  · rw [inR_not fx]
    have hi : ∃ s, Ieee.single.read x = .infinity s := by
      unfold clsS at hx
      generalize Ieee.single.read x = d at *
      cases d with
      | number s m e => cases hx
      | infinity s => exact ⟨s, rfl⟩
      | nan s t => cases hx
    obtain ⟨s, hi⟩ := hi
    obtain ⟨m, b, h2, -⟩ := fs_4096
    obtain ⟨m3, b3, h3, -⟩ := fs_n4096
    have O1 : FloatKind.f32.format.order x n4096 = some (if s then .lt else .gt) := by
      show (Ieee.single.read x).order (Ieee.single.read n4096) = _
      rw [hi, h3]; rfl
    have O2 : FloatKind.f32.format.order x w4096 = some (if s then .lt else .gt) := by
      show (Ieee.single.read x).order (Ieee.single.read w4096) = _
      rw [hi, h2]; rfl
    clear hx fx hi h2 h3
    cases s
    · simp only [Bool.false_eq_true, if_false] at O1 O2
      go_enter Try.func20, Try.ntmps20
      go_wp2
      go_ret
      exact ⟨rfl, rfl⟩
    · simp only [if_true] at O1 O2
      go_enter Try.func20, Try.ntmps20
      go_wp2
      go_ret
      exact ⟨rfl, rfl⟩
  · have hf := fin_fs fx
    have O1 := fs_order hf fs_n4096
    have O2 := fs_order hf fs_4096
    have e : inR x = (decide (sgnd true (4096 * 2 ^ loS) ≤ sgnd (sgS x) (szS x)) && decide (sgnd (sgS x) (szS x) ≤ sgnd false (4096 * 2 ^ loS))) := by
      unfold inR
      rw [fx, Bool.true_and]
      generalize 4096 * 2 ^ loS = L
      generalize szS x = V
      cases sgS x <;> simp only [sgnd, Bool.false_eq_true, if_false, if_true] <;> rw [Bool.eq_iff_iff] <;> simp <;> omega
    rw [e]
    clear e hf hx fx
    generalize sgnd (sgS x) (szS x) = v at *
    generalize sgnd true (4096 * 2 ^ loS) = a at *
    generalize sgnd false (4096 * 2 ^ loS) = b at *
    by_cases h1 : a ≤ v
    · have g1 : compare v a = .gt ∨ compare v a = .eq := by
        rcases Int.lt_or_eq_of_le h1 with h | h
        · exact .inl (Int.compare_eq_gt.2 h)
        · exact .inr (Int.compare_eq_eq.2 h.symm)
      rw [decide_eq_true h1, Bool.true_and]
      clear h1
      by_cases h2 : v ≤ b
      · rw [decide_eq_true h2]
        have g2 : compare v b = .lt ∨ compare v b = .eq := by
          rcases Int.lt_or_eq_of_le h2 with h | h
          · exact .inl (Int.compare_eq_lt.2 h)
          · exact .inr (Int.compare_eq_eq.2 h)
        clear h2
        generalize compare v a = c at *
        generalize compare v b = d at *
        rcases g1 with rfl | rfl <;> rcases g2 with rfl | rfl <;>
        · go_enter Try.func20, Try.ntmps20
          go_wp2
          go_ret
          exact ⟨rfl, rfl⟩
      · rw [decide_eq_false h2]
        have g2 : compare v b = .gt := Int.compare_eq_gt.2 (by omega)
        clear h2
        generalize compare v a = c at *
        generalize compare v b = d at *
        subst g2
        rcases g1 with rfl | rfl <;>
        · go_enter Try.func20, Try.ntmps20
          go_wp2
          go_ret
          exact ⟨rfl, rfl⟩
    · rw [decide_eq_false h1, Bool.false_and]
      have g1 : compare v a = .lt := Int.compare_eq_lt.2 (by omega)
      clear h1 O2
      generalize compare v a = c at *
      subst g1
      go_enter Try.func20, Try.ntmps20
      go_wp2
      go_ret
      exact ⟨rfl, rfl⟩
theorem specPathValid_any (v : Value) (xs : List Pn) (w : World) (hv : ReadsL encC w v xs) : Calls Try.prog 26 #[v] w fun e w' => e = .returned (.bool (pvB xs)) ∧ w = w' := by
  obtain ⟨p, cap, rfl, hc1, hc2, hp0, hp⟩ := hv
  simp only [maxLen] at hc2
  have HP := Lib.hid hp
  clear hp
  go_enter Try.func26, Try.ntmps26
  go_wp2_with fail
  go_loop [3] (fun i => ∃ k : Nat, k ≤ xs.length ∧ i = .int .i64 k ∧ (xs.take k).all ptR = true) (fun i => xs.length - (intOf i).toNat)
  case atStart => exact ⟨0, Nat.zero_le _, rfl, rfl⟩
  case round =>
    obtain ⟨k, hk, rfl, hall⟩ := hrel
    by_cases hlt : k < xs.length
    · have hkz : (k : Int) < (xs.length : Int) := by omega
      have hk0 : (0 : Int) ≤ (k : Int) := by omega
      obtain ⟨a, ha⟩ : ∃ a, xs[k]? = some a := ⟨_, List.getElem?_eq_getElem hlt⟩
      obtain ⟨g, o, rfl, hg, hr⟩ := HP.out (by rintro rfl; have := hp0 rfl; omega)
      have c0 := pt_cell hr ha
      have C1 := fun w => specPart_any a.1 w
      have C2 := fun w => specPart_any a.2 w
      have HA := Lib.hid ha
      have HL := Lib.hid hall
      have hpt : ptR a = (inR a.1 && inR a.2) := rfl
      clear hr ha hall
      unfold cs at c0
      cases h1 : inR a.1 with
      | true =>
        rw [h1] at C1 hpt
        cases h2 : inR a.2 with
        | true =>
          rw [h2] at C2 hpt
          go_wp2_with fail
          refine (C1 _).mono ?_; rintro e w2 ⟨rfl, rfl⟩
          go_wp2_with fail
          refine (C2 _).mono ?_; rintro e w2 ⟨rfl, rfl⟩
          go_wp2_with fail
          go_round
          case rel => exact ⟨k + 1, by omega, by go_num, pt_take HL.out HA.out hpt⟩
          case measure => simp [intOf]; omega
        | false =>
          rw [h2] at C2 hpt
          go_wp2_with fail
          refine (C1 _).mono ?_; rintro e w2 ⟨rfl, rfl⟩
          go_wp2_with fail
          refine (C2 _).mono ?_; rintro e w2 ⟨rfl, rfl⟩
          go_wp2_with fail
          go_ret
          exact ⟨ret_bool (pvB_bad HA.out hpt).symm, rfl⟩
      | false =>
        rw [h1] at C1 hpt
        go_wp2_with fail
        refine (C1 _).mono ?_; rintro e w2 ⟨rfl, rfl⟩
        go_wp2_with fail
        go_ret
        exact ⟨ret_bool (pvB_bad HA.out hpt).symm, rfl⟩
    · obtain rfl : k = xs.length := by omega
      rw [List.take_length] at hall
      have hin : (1 ≤ (xs.length : Int) ∧ (xs.length : Int) ≤ 100) ∨ ((xs.length : Int) < 1 ∨ 100 < (xs.length : Int)) := by omega
      rcases hin with h | h
      · have HV := Lib.hid (pvB_yes (by omega) (by omega) (List.all_eq_true.1 hall))
        have I := fun w => in_yes (xs.length : Int) 1 100 h.1 h.2 w
        clear hall h
        go_wp2_with fail
        refine (I _).mono ?_; rintro e w1 ⟨rfl, rfl⟩
        go_wp2
        go_ret
        exact ⟨ret_bool HV.out.symm, rfl⟩
      · have HV : Aside (pvB xs = false) := (show _ = _ from pvB_len (by omega))
        have I := fun w => in_no (xs.length : Int) 1 100 h w
        clear hall h
        go_wp2_with fail
        refine (I _).mono ?_; rintro e w1 ⟨rfl, rfl⟩
        go_wp2
        go_ret
        exact ⟨ret_bool HV.out.symm, rfl⟩
end Go.Proofs.Ytibhlaojinedoaa
/- Both sides: the paths of rows. -/
namespace Go.Proofs.Ytibhlaojinedoaa
set_option maxRecDepth 20000
open Go.ChangeShapes Go.WideShapes Go.ChangeAt Go.RowKit
set_option linter.unusedVariables false
set_option linter.unusedSimpArgs false

/-- The single point of an exact point, in words. -/
def spV (a : V) : Pn := (spr a.up 8, spi a.up 8)
theorem valS_fin {x : Nat} {v : Int} (h : ValS x v) : finS x = true := by
  obtain ⟨s, m, b, r, -⟩ := h
  unfold finS
  rw [r]
theorem spV_fin {a : V} (h : okv a = true) : ptF (spV a) = true := by
  have := sing_val (c := a.up) (inR_bound h) 8 (Nat.le_refl _)
  unfold ptF spV
  rw [valS_fin this.1.1, valS_fin this.2.1]; rfl
/-- The path of a row. -/
def pathO (xs : List V) : Option (List Pn) := if rowOk xs && pvB (xs.map spV) then some (xs.map spV) else none
theorem map_next {α β : Type} {f : α → β} {xs : List α} {k : Nat} {c : α} (hc : xs[k]? = some c) : (xs.take (k + 1)).map f = (xs.take k).map f ++ [f c] := by
  rw [List.take_add_one, hc, List.map_append]; rfl
theorem rowO_all {xs : List V} (h : rowOk xs = true) : ∀ a ∈ xs, okv a = true := by
  unfold rowOk at h
  rw [Bool.and_eq_true, List.all_eq_true] at h
  exact h.2
theorem rowOk_24 {xs : List V} (h : rowOk xs = true) : xs.length ≤ 24 := by
  unfold rowOk at h
  rw [Bool.and_eq_true] at h
  exact (rowLen_in h.1).2.2
set_option maxHeartbeats 2000000 in
theorem specRowOk_any (v : Value) (xs : List V) (w : World) (hv : ReadsL encV w v xs) : Calls Try.prog 45 #[v] w fun e w' => e = .returned (.bool (rowOk xs)) ∧ Below w.heap.size w w' := by
  obtain ⟨p, cap, rfl, hc1, hc2, hp0, hp⟩ := hv
  simp only [maxLen] at hc2
  have HP := Lib.hid hp
  clear hp
  generalize hres : rowOk xs = res
  have HRES := Lib.hid hres
  clear hres
  have LN := fun w => specLength_any (xs.length : Int) w
  rw [rowZ_nat] at LN
  go_enter Try.func45, Try.ntmps45
  go_wp2
  go_loopw [3] (fun i wr => ∃ k : Nat, k ≤ xs.length ∧ i = .int .i64 k ∧ (xs.take k).all okv = true ∧ Below w.heap.size w wr) (fun i _ => xs.length - (intOf i).toNat)
  case atStart => exact ⟨0, Nat.zero_le _, rfl, rfl, Below.refl _ _⟩
  case round =>
    obtain ⟨k, hk, rfl, hall, hbel⟩ := hrel
    have HL := Lib.hid hbel
    have HA := Lib.hid hall
    clear hall
    by_cases hlt : k < xs.length
    · have hkz : (k : Int) < (xs.length : Int) := by omega
      have hk0 : (0 : Int) ≤ (k : Int) := by omega
      obtain ⟨c, hc⟩ : ∃ c, xs[k]? = some c := ⟨_, List.getElem?_eq_getElem hlt⟩
      obtain ⟨g, o, rfl, hg, hr⟩ := HP.out (by rintro rfl; have := hp0 rfl; omega)
      have HE := Lib.hid (cells_part encV_ok (cells_below hr hg hbel) hc)
      have HC := Lib.hid hc
      have C := fun w => specV c w
      clear hr hbel hc LN
      cases h1 : okv c
      · have HF : Aside (res = false) := (show res = false from by rw [← HRES.out]; exact rowOk_bad HC.out h1)
        rw [h1] at C
        go_wp2_with (first | (refine load_part (T := 80) (f := c.up) rfl rfl rfl HE.out Try.underlying80 rfl info_cyc ?_))
        refine (C _).mono ?_; rintro e w2 ⟨rfl, hb2⟩
        have HL2 := Lib.hid (below_next HL.out hb2)
        clear C hb2
        go_wp2
        go_ret
        exact ⟨by rw [HF.out]; rfl, HL2.out⟩
      · rw [h1] at C
        go_wp2_with (first | (refine load_part (T := 80) (f := c.up) rfl rfl rfl HE.out Try.underlying80 rfl info_cyc ?_))
        refine (C _).mono ?_; rintro e w2 ⟨rfl, hb2⟩
        have HL2 := Lib.hid (below_next HL.out hb2)
        clear C hb2
        go_wp2
        go_roundw
        case rel => exact ⟨k + 1, by omega, by go_num, okAll_take HA.out HC.out h1, HL2.out⟩
        case measure => simp [intOf]; omega
    · obtain rfl : k = xs.length := by omega
      have HF : Aside (res = rowLen xs.length) := (show res = _ from by
        have ha := HA.out
        rw [List.take_length] at ha
        rw [← HRES.out]; unfold rowOk; rw [ha, Bool.and_true])
      clear hbel
      go_wp2_with fail
      refine (LN _).mono ?_; rintro e w2 ⟨rfl, rfl⟩
      clear LN
      go_wp2
      go_ret
      exact ⟨by rw [HF.out]; rfl, HL.out⟩


theorem ownC_nil (w : World) (B T : Nat) (hB : B ≤ w.heap.size) : OwnL encC 1 (w.alloc (.cells #[] T)) B T (.slice (some ⟨w.heap.size, 0, none⟩) 0 0) ([] : List Pn) := World.ownsRow_made w #[] 0 hB (by simp [maxLen]) (by simp)
set_option maxHeartbeats 1000000 in
theorem specPathOf_any (v : Value) (xs : List V) (w : World) (hv : ReadsL encV w v xs) : Calls Try.prog 32 #[v] w (ToldC w (pathO xs)) := by
  have hvv := hv
  obtain ⟨p, cap, rfl, hc1, hc2, hp0, hp⟩ := hv
  simp only [maxLen] at hc2
  have HP := Lib.hid hp
  have RV := specRowOk_any _ xs (w.alloc (.cells #[] 23)) (hvv.below ((Below.refl _ _).alloc (Nat.le_refl _) _))
  clear hp hvv
  cases hrow : rowOk xs with
  | false =>
    rw [hrow] at RV
    rw [show pathO xs = none by unfold pathO; rw [hrow, Bool.false_and, if_neg (by decide)]]
    go_enter Try.func32, Try.ntmps32
    go_wp2_with fail
    refine RV.mono ?_; rintro e w2 ⟨rfl, hb2⟩
    have HB2 := Lib.hid hb2
    clear RV hb2
    go_wp2_with fail
    go_ret2
    exact ⟨below_next ((Below.refl _ _).alloc (Nat.le_refl _) _) HB2.out, _, rfl, rows_below (ownC_nil w w.heap.size 23 (Nat.le_refl _)) HB2.out⟩
  | true =>
    rw [hrow] at RV
    generalize hres : pathO xs = res
    unfold pathO at hres
    rw [hrow, Bool.true_and] at hres
    have HRES := Lib.hid hres
    clear hres
    have hok := rowO_all hrow
    have hl := rowOk_24 hrow
    clear hrow
    go_enter Try.func32, Try.ntmps32
    go_wp2_with fail
    refine RV.mono ?_; rintro e w2 ⟨rfl, hb2⟩
    have ho1 := rows_below (ownC_nil w w.heap.size 23 (Nat.le_refl _)) hb2
    have hb1 : Below w.heap.size w w2 := below_next ((Below.refl _ _).alloc (Nat.le_refl _) _) hb2
    clear RV hb2
    go_wp2_with fail
    go_loopw [4, 5, 6, 7, 19] (fun v' i _ _ _ wr => ∃ k : Nat, k ≤ xs.length ∧ i = .int .i64 k ∧ OwnL encC 1 wr w.heap.size 23 v' ((xs.take k).map spV) ∧ Below w.heap.size w wr ∧ w.heap.size ≤ wr.heap.size) (fun _ i _ _ _ _ => xs.length - (intOf i).toNat)
    case atStart => exact ⟨0, Nat.zero_le _, rfl, ho1, hb1, hb1.size⟩
    case round =>
      clear ho1 hb1
      obtain ⟨k, hk, rfl, hO, hbel, hB⟩ := hrel
      by_cases hlt : k < xs.length
      · have hkz : (k : Int) < (xs.length : Int) := by omega
        have hk0 : (0 : Int) ≤ (k : Int) := by omega
        obtain ⟨c, hc⟩ : ∃ c, xs[k]? = some c := ⟨_, List.getElem?_eq_getElem hlt⟩
        obtain ⟨g, o, rfl, hg, hr⟩ := HP.out (by rintro rfl; have := hp0 rfl; omega)
        have HE := Lib.hid (cells_part encV_ok (cells_below hr hg hbel) hc)
        have HO := Lib.hid hO
        have HL := Lib.hid hbel
        have HB := Lib.hid hB
        have HC := Lib.hid hc
        have C : ∀ w, Calls Try.prog 46 #[pt c.up] w fun e w' => e = .returned (.tuple #[cs (spr c.up 8) (spi c.up 8), .bool true]) ∧ Below w.heap.size w w' := fun w => specSinglePoint_yes c.up (hok c (List.mem_of_getElem? hc)) w
        have hpt : (spr c.up 8, spi c.up 8) = spV c := rfl
        clear hr hO hbel hB hc
        unfold cs at C
        generalize spr c.up 8 = x at *
        generalize spi c.up 8 = y at *
        go_wp2_with (first | (refine load_part (T := 80) (f := c.up) rfl rfl rfl HE.out Try.underlying80 rfl info_cyc ?_))
        refine (C _).mono ?_; rintro e w3 ⟨rfl, hb3⟩
        have HO3 := Lib.hid (rows_below HO.out hb3)
        have HBW := Lib.hid (below_next HL.out hb3)
        have HBS := Lib.hid (Nat.le_trans HB.out hb3.size)
        clear hb3 C
        go_wp2_with (at_builtin; refine appendL tyZ encC_ok rfl rfl rfl rfl (xs := (xs.take k).map spV) (World.ownsRow.alloc HO3.out _) (litC _ (x, y) _) (by simp; omega) (HBW.out.alloc HBS.out _) (by simp; have := HBS.out; omega) ?_; intro v2 w5 ho5 hb5 hB5 hgr5)
        go_roundw
        case rel =>
          refine ⟨k + 1, by omega, by go_num, ?_, hb5, hB5⟩
          rw [map_next HC.out, ← hpt]; exact ho5
        case measure => simp [intOf]; omega
      · obtain rfl : k = xs.length := by omega
        rw [List.take_length] at hO
        have T := specPathValid_any _ _ _ (ownL_reads hO)
        have HO := Lib.hid hO
        have HL := Lib.hid hbel
        have HB := Lib.hid hB
        clear hO hbel hB
        have hres := HRES.out
        generalize xs.map spV = ps at *
        cases hq : pvB ps with
        | true =>
          rw [hq] at T hres
          rw [if_pos rfl] at hres
          subst hres
          go_wp2_with fail
          refine T.mono ?_; rintro e w4 ⟨rfl, rfl⟩
          clear T
          go_wp2_with fail
          go_ret2
          exact ⟨HL.out, _, rfl, HO.out⟩
        | false =>
          rw [hq] at T hres
          rw [if_neg (by decide)] at hres
          subst hres
          go_wp2_with fail
          refine T.mono ?_; rintro e w4 ⟨rfl, rfl⟩
          clear T
          go_wp2_with fail
          go_ret2
          exact ⟨HL.out.alloc HB.out _, _, rfl, ownC_nil _ _ _ HB.out⟩
end Go.Proofs.Ytibhlaojinedoaa
/- The exact laws' helpers on lists of exact points, for a program that knows no wheels: copied, counted, compared, marked, held. -/
namespace Go.Proofs.Ytibhlaojinedoaa
set_option maxRecDepth 20000
open Go.ChangeShapes Go.WideShapes Go.ChangeAt Go.RowKit
set_option linter.unusedVariables false
set_option linter.unusedSimpArgs false

theorem range_keptP {B : Nat} {w w' : World} {g o : Nat} {cs : List Value} (h : w.rangeAt g o cs) (hg : g < B) (hb : Below B w w') : w'.rangeAt g o cs := fun j v hv => (World.cell?_of_block (hb.block g hg)).trans (h j v hv)
theorem made_zeros (n : Nat) : (madeCells (Value.agg (vec 8 nul)).cells (n * 8)).toList = flt encV (List.replicate n V.zero) := by
  apply List.ext_getElem?
  intro i
  by_cases hi : i < n * 8
  · have h1 := flt_at encV_ok (xs := List.replicate n V.zero) (i := i / 8) (a := V.zero) (by rw [List.getElem?_replicate, if_pos (by omega)]) (i % 8) (by omega)
    rw [show i / 8 * 8 + i % 8 = i from by omega] at h1
    rw [h1]
    have hz : ∀ k, k < 8 → (vec 8 nul)[k]! = .int .i64 0 := fun k hk => by
      rw [getElem!_pos (vec 8 nul) k (by rw [vec_size]; exact hk)]
      have := vec_at nul hk
      rw [Array.getElem?_eq_getElem (by rw [vec_size]; exact hk)] at this
      simpa [nul] using this
    have hm : i % 8 < 8 := by omega
    have h2 : (encV V.zero)[i % 8]? = some (.int .i64 0) := by
      unfold encV lst
      rw [zero_up]
      simp [hm, nul]
    rw [h2]
    simp [madeCells, Value.cells, hi, vec_size, hz _ hm]
  · rw [List.getElem?_eq_none (by simp [madeCells]; omega), List.getElem?_eq_none (by rw [flt_length encV_ok]; simp; omega)]
section
variable {P : Program} {t e : TypeId} {ops : Array Oper} {rest : List Oper} {o : Oper} {a : Act} {Q : Exit → Act → World → Prop} {w0 w : World} {B : Nat}
/-- 'make' of a list of zero points. -/
theorem make_fullL (ty : TyL P t e 8) (hz : (P.info? e).map (·.zero) = some (some (.agg (vec 8 nul)))) (hgd : o.guard = none) {l c : Operand} (hop : o.op = .makeSlice t l c) (n : Nat) (hl : a.eval l = .int .i64 n) (hc : a.eval c = .int .i64 n) (hn : n ≤ 1000000000)
    (h : ∀ w', w'.ownsRow w.heap.size e 8 (.slice (some ⟨w.heap.size, 0, none⟩) n n) n (flt encV (List.replicate n V.zero)) → Below w.heap.size w w' → wpList P ops Q rest (a.put o.dst (.slice (some ⟨w.heap.size, 0, none⟩) n n)) w') : wpList P ops Q (o :: rest) a w := by
  obtain ⟨i, z, hi, hz0, hs, hby, hzs⟩ := ty.inf
  have hzz : i.zero = some (.agg (vec 8 nul)) := by rw [hi] at hz; simpa using hz
  refine wpList_plain hgd fun K hK' => ?_
  have h1 : i.bytes * n ≤ 281474976710656 := by have := Nat.mul_le_mul hby hn; omega
  obtain ⟨w', hrun, r1, r2⟩ := run_make_full (P := P) w w.heap.size t e i _ 8 ty.sl hi hzz hs .i64 .i64 n h1 (by simp only [maxLen]; omega) (Nat.le_refl _)
  rw [made_zeros] at r1
  unfold Oper.wp
  simp [execOp, hop, hl, hc, hrun, Result.andThen]
  exact hK' _ _ (h w' r1 ((Below.refl _ _).grown r2 (Nat.le_refl _) fun k hk => by cases hk))
end

section
variable {P : Program} {ops : Array Oper} {rest : List Oper} {o : Oper} {a : Act} {Q : Exit → Act → World → Prop} {w : World}
theorem store_part {ty : TypeId} {g p : Nat} {f : Nat → Int} (hgd : o.guard = none) {x y : Operand} (ho : o.op = .store ty x y) (hx : a.eval x = .pointer (some ⟨g, p, none⟩)) (hy : a.eval y = pt f)
    (ht : w.there g p 8) (hi : (P.info? ty).map (·.size) = some 8) (h : wpList P ops Q rest (a.put o.dst undef) (w.setCells g p (lst 8 f))) : wpList P ops Q (o :: rest) a w :=
  wpList_store_mid hgd ty x y ho g p (vec 8 f) hx hy (by rw [vec_size]; exact ht) (by rw [vec_size]; exact hi) (vec_one 8 _) (show wpList P ops Q rest (a.put o.dst undef) (w.setCells g p (vec 8 f).toList) from h)
end

theorem zero_cyc : (Try.prog.info? 80).map (·.zero) = some (some (.agg (vec 8 nul))) := by kernel_rfl
theorem size_cycL (c : V) : (Try.prog.info? 80).map (·.size) = some (encV c).length := by rw [encV_ok.len]; exact info_cyc
theorem own_belowL {w w' : World} {B T g n cap : Nat} {xs : List Value} (h : w.ownsRow B T 8 (.slice (some ⟨g, 0, none⟩) n cap) n xs) (hb : Below w.heap.size w w') : w'.ownsRow B T 8 (.slice (some ⟨g, 0, none⟩) n cap) n xs := by
  refine ⟨h.1, ?_⟩
  rcases h.2 with h0 | ⟨g', cap', cur, e, hB, hg, rest⟩
  · exact .inl h0
  · exact .inr ⟨g', cap', cur, e, hB, (hb.block g' (Array.getElem?_eq_some_iff.1 hg).1).trans hg, rest⟩

theorem grown_trans {a b c : World} {row : Option Nat} (h : a.grownBy b row) (k : b.grownBy c row) : a.grownBy c row :=
  ⟨k.os.trans h.os, k.tape.trans h.tape, k.output.trans h.output, Nat.le_trans h.size k.size, fun i hi hne => (k.block i (Nat.lt_of_lt_of_le hi h.size) hne).trans (h.block i hi hne)⟩

/-! Marked and held. -/
theorem marked_below {B C : Nat} {w0 w w' : World} {u : Value} (h : Below B w0 w) (hB : B ≤ w.heap.size) (hg : w.grownBy w' u.ownBlock) (hu : ∀ k, u.ownBlock = some k → C ≤ k) (hC : B ≤ C) : Below B w0 w' :=
  below_grown h hg hB fun k hk => Nat.le_trans hC (hu k hk)
theorem markC_number (k n : Nat) : ∃ M : Int, Aside (((k + n * 8 : Nat) : Int) = M) ∧ ¬ M < 0 ∧ (M != M) = false := ⟨_, (show _ = _ from rfl), by omega, by simp⟩
end Go.Proofs.Ytibhlaojinedoaa
