/-
  Out of the text PolyC: what the draws of polygons need.
  Out of the text PolyD: what the draws of polygons need.
  Out of the text PolyE: what the draws of polygons need.
  Out of the text PolyF: what the draws of polygons need.
-/
import Derived.Test.YtdpakhggpgdgbaaGreatM17
import Derived.Test.YtdpakhggpgdgbaaGreatM03
import Derived.Sort.CutIn
/- Out of the text PolyC: what the draws of polygons need. -/
namespace Go.Proofs.YtdpakhggpgdgbaaGreat
set_option maxRecDepth 20000
open Go.ChangeShapes Go.WideShapes Go.ChangeAt Go.RowKit
set_option linter.unusedVariables false
set_option linter.unusedSimpArgs false
def mxF (a : Nat → Int) : Nat → Int
  | 0 => a 0
  | k + 1 => if mxF a k < a (k + 1) then a (k + 1) else mxF a k
def mnF (a : Nat → Int) : Nat → Int
  | 0 => a 0
  | k + 1 => if a (k + 1) < mnF a k then a (k + 1) else mnF a k
theorem mxF_le {a : Nat → Int} {m : Int} : ∀ {k : Nat}, mxF a k ≤ m ↔ ∀ j, j < k + 1 → a j ≤ m
  | 0 => ⟨fun h j hj => by rw [show j = 0 by omega]; exact h, fun h => h 0 (by omega)⟩
  | k + 1 => by
    have ih := mxF_le (a := a) (m := m) (k := k)
    unfold mxF
    constructor
    · intro h j hj
      have h1 : a (k + 1) ≤ m ∧ mxF a k ≤ m := by split at h <;> omega
      by_cases e : j = k + 1
      · rw [e]; exact h1.1
      · exact ih.1 h1.2 j (by omega)
    · intro h
      have h1 := h (k + 1) (by omega)
      have h2 := ih.2 fun j hj => h j (by omega)
      split <;> assumption
theorem mnF_le {a : Nat → Int} {m : Int} : ∀ {k : Nat}, m ≤ mnF a k ↔ ∀ j, j < k + 1 → m ≤ a j
  | 0 => ⟨fun h j hj => by rw [show j = 0 by omega]; exact h, fun h => h 0 (by omega)⟩
  | k + 1 => by
    have ih := mnF_le (a := a) (m := m) (k := k)
    unfold mnF
    constructor
    · intro h j hj
      have h1 : m ≤ a (k + 1) ∧ m ≤ mnF a k := by split at h <;> omega
      by_cases e : j = k + 1
      · rw [e]; exact h1.1
      · exact ih.1 h1.2 j (by omega)
    · intro h
      have h1 := h (k + 1) (by omega)
      have h2 := ih.2 fun j hj => h j (by omega)
      split <;> assumption
theorem small_mx (m : Int) (a : Nat → Int) : smallF m a = (decide (mxF a 7 ≤ m) && decide (-m ≤ mnF a 7)) := by
  refine Bool.eq_iff_iff.2 ?_
  rw [smallF_iff, Bool.and_eq_true, decide_eq_true_iff, decide_eq_true_iff, mxF_le, mnF_le]
  exact ⟨fun h => ⟨fun j hj => (h j hj).2, fun j hj => (h j hj).1⟩, fun h j hj => ⟨h.2 j hj, h.1 j hj⟩⟩
theorem max_up {x y : Int} (h : x < y) : max x y = y := by omega
theorem max_stay {x y : Int} (h : ¬ x < y) : max x y = x := by omega
theorem slicesMax_any (a : Nat → Int) (T : TypeId) (g : Nat) (w : World) (h : RowAt w g 8 T a) : Calls Tryz.prog 79 #[.slice (some ⟨g, 0, none⟩) 8 8] w fun e w' => e = .returned (.int .i64 (mxF a 7)) ∧ w = w' := by
  have c0 := h.cell (show 0 < 8 by omega)
  have H := Lib.hid h
  clear h
  go_enter Tryz.func79, Tryz.ntmps79
  go_wp2
  go_loopw [3, 4] (fun m i wr => ∃ k : Nat, k ≤ 7 ∧ m = .int .i64 (mxF a k) ∧ i = .int .i64 ((k : Int) + 1) ∧ w = wr) (fun _ i _ => 8 - (intOf i).toNat)
  case atStart => exact ⟨0, by omega, rfl, rfl, rfl⟩
  case round =>
    clear c0
    obtain ⟨k, hk, rfl, rfl, rfl⟩ := hrel
    by_cases hlt : k < 7
    · have hlz : (k : Int) + 1 < 8 := by omega
      have c1 := H.out.cell (show k + 1 < 8 by omega)
      have hx : mxF a (k + 1) = if mxF a k < a (k + 1) then a (k + 1) else mxF a k := rfl
      have HX := Lib.hid hx
      clear hx
      generalize mxF a k = x at *
      generalize a (k + 1) = y at *
      have k0 : (0 : Int) ≤ (k : Int) + 1 := by omega
      by_cases hc : x < y
      · have hm := max_up hc
        have hm2 : ¬ y ≤ x := by omega
        have hm3 : x ≤ y := by omega
        go_wp2
        go_roundw
        case rel => exact ⟨k + 1, by omega, by rw [HX.out]; simp [hc, hm], by go_num, by trivial⟩
        case measure => simp [intOf]; omega
      · have hm := max_stay hc
        have hm2 : y ≤ x := by omega
        go_wp2
        go_roundw
        case rel => exact ⟨k + 1, by omega, by rw [HX.out]; simp [hc, hm], by go_num, by trivial⟩
        case measure => simp [intOf]; omega
    · obtain rfl : k = 7 := by omega
      go_wp2
      go_ret
      exact ⟨rfl, rfl⟩
theorem min_dn {x y : Int} (h : y < x) : min x y = y := by omega
theorem min_stay {x y : Int} (h : ¬ y < x) : min x y = x := by omega
theorem slicesMin_any (a : Nat → Int) (T : TypeId) (g : Nat) (w : World) (h : RowAt w g 8 T a) : Calls Tryz.prog 80 #[.slice (some ⟨g, 0, none⟩) 8 8] w fun e w' => e = .returned (.int .i64 (mnF a 7)) ∧ w = w' := by
  have c0 := h.cell (show 0 < 8 by omega)
  have H := Lib.hid h
  clear h
  go_enter Tryz.func80, Tryz.ntmps80
  go_wp2
  go_loopw [3, 4] (fun m i wr => ∃ k : Nat, k ≤ 7 ∧ m = .int .i64 (mnF a k) ∧ i = .int .i64 ((k : Int) + 1) ∧ w = wr) (fun _ i _ => 8 - (intOf i).toNat)
  case atStart => exact ⟨0, by omega, rfl, rfl, rfl⟩
  case round =>
    clear c0
    obtain ⟨k, hk, rfl, rfl, rfl⟩ := hrel
    by_cases hlt : k < 7
    · have hlz : (k : Int) + 1 < 8 := by omega
      have c1 := H.out.cell (show k + 1 < 8 by omega)
      have hx : mnF a (k + 1) = if a (k + 1) < mnF a k then a (k + 1) else mnF a k := rfl
      have HX := Lib.hid hx
      clear hx
      generalize mnF a k = x at *
      generalize a (k + 1) = y at *
      have k0 : (0 : Int) ≤ (k : Int) + 1 := by omega
      by_cases hc : y < x
      · have hm := min_dn hc
        have hm2 : ¬ x ≤ y := by omega
        have hm3 : y ≤ x := by omega
        go_wp2
        go_roundw
        case rel => exact ⟨k + 1, by omega, by rw [HX.out]; simp [hc, hm], by go_num, by trivial⟩
        case measure => simp [intOf]; omega
      · have hm := min_stay hc
        have hm2 : x ≤ y := by omega
        go_wp2
        go_roundw
        case rel => exact ⟨k + 1, by omega, by rw [HX.out]; simp [hc, hm], by go_num, by trivial⟩
        case measure => simp [intOf]; omega
    · obtain rfl : k = 7 := by omega
      go_wp2
      go_ret
      exact ⟨rfl, rfl⟩

def boxE (w : World) (a : Nat → Int) : World := (w.alloc (.cells (vec 8 a) 40)).alloc (.cells (vec 8 nul) 82)
theorem boxE_facts (w : World) (a : Nat → Int) : RowAt (boxE w a) w.heap.size 8 40 a ∧ RowAt (boxE w a) (w.heap.size + 1) 8 82 nul ∧ Below w.heap.size w (boxE w a) :=
  ⟨(RowAt.newAt rfl rfl).alloc _, RowAt.newAt rfl (by simp), ((Below.refl _ _).alloc (Nat.le_refl _) _).alloc (by simp) _⟩
theorem small_ok {m : Int} (hm : m ≤ 1000000) {a : Nat → Int} (h : okc a = false) : smallF m a = false := by
  cases e : smallF m a
  · rfl
  · have := smallF_iff.1 e
    have h2 : okc a = true := inR_okc fun j hj => by have := this j hj; omega
    rw [h] at h2; cases h2
set_option maxHeartbeats 2000000 in
theorem exactWithin_any (a : Nat → Int) (m : Int) (hm : 0 ≤ m ∧ m ≤ 1000000) (w : World) :
    Calls Tryz.prog 48 #[pt a, .int .i64 m] w fun e w' => e = .returned (.tuple #[pt (if smallF m a then a else nul), .bool (smallF m a)]) ∧ Below w.heap.size w w' := by
  have sa := vec_size 8 a
  have C := fun w => exactOf_two a w
  obtain ⟨hA, hO, hL⟩ := boxE_facts w a
  unfold pt at *
  have q1 : IntKind.i64.wrap (-m) = -m := by rw [IntKind.wrap_i64]; omega
  cases hok : okc a
  · rw [hok] at C
    rw [small_ok hm.2 hok]
    clear hok
    go_enter Tryz.func48, Tryz.ntmps48
    go_upto_region 1 with fail
    show Code.wp _ _ _ _ (boxE w a)
    generalize boxE w a = W at *
    go_wp2_with (refine load_row rfl rfl rfl hA Tryz.underlying40 rfl info_cyc ?_)
    refine (C _).mono ?_; rintro e w2 ⟨rfl, hb2⟩
    have hO2 := (hO.below hb2).alloc (.cells (vec 8 nul) 82)
    have hL2 := (below_next hL hb2).alloc (below_next hL hb2).size (.cells (vec 8 nul) 82)
    clear hA hO hL hb2 C
    go_wp2_with (first | (refine store_new (ty := 82) rfl rfl rfl rfl zero8 info_exact ?_) | (refine store_row rfl rfl rfl (show _ = Value.agg (vec 8 nul) from rfl) hO2 info_exact ?_))
    refine bodyPost_ret (results_row_tmp rfl rfl hO2.setRow Tryz.underlying82 rfl info_exact) rfl ?_
    exact ⟨rfl, below_setRow hL2 (by omega) _⟩
  · rw [hok] at C
    rw [small_mx]
    have MX := fun (g : Nat) (w : World) (h : RowAt w g 8 82 a) => slicesMax_any a 82 g w h
    have MN := fun (g : Nat) (w : World) (h : RowAt w g 8 82 a) => slicesMin_any a 82 g w h
    clear hok
    generalize mxF a 7 = x at *
    generalize mnF a 7 = y at *
    by_cases hx : x ≤ m
    · have hx2 : ¬ m < x := by omega
      by_cases hy : -m ≤ y
      · have hy2 : ¬ y < -m := by omega
        rw [decide_eq_true hx, decide_eq_true hy]
        go_enter Tryz.func48, Tryz.ntmps48
        go_upto_region 1 with fail
        show Code.wp _ _ _ _ (boxE w a)
        generalize boxE w a = W at *
        go_wp2_with (refine load_row rfl rfl rfl hA Tryz.underlying40 rfl info_cyc ?_)
        refine (C _).mono ?_; rintro e w2 ⟨rfl, hb2⟩
        have hO2 := (hO.below hb2).alloc (.cells (vec 8 a) 82)
        have hL2 := (below_next hL hb2).alloc (below_next hL hb2).size (.cells (vec 8 a) 82)
        have hE2 := RowAt.new w2 8 82 a
        clear hA hO hL hb2 C
        go_upto_region 2 with (first | (refine store_new (ty := 82) (f' := a) rfl rfl rfl rfl zero8 info_exact ?_))
        show Code.wp _ _ _ _ (w2.alloc (.cells (vec 8 a) 82))
        generalize w2.alloc (.cells (vec 8 a) 82) = W2 at *
        go_wp2_with fail
        refine (MX _ _ hE2).mono ?_; rintro e w3 ⟨rfl, rfl⟩
        go_wp2_with fail
        refine (MN _ _ hE2).mono ?_; rintro e w3 ⟨rfl, rfl⟩
        clear MX MN
        go_wp2_with (first | (refine load_row (g := w2.heap.size) rfl rfl rfl hE2 Tryz.underlying82 rfl info_exact ?_) | (refine store_row rfl rfl rfl rfl hO2 info_exact ?_))
        refine bodyPost_ret (results_row_tmp rfl rfl hO2.setRow Tryz.underlying82 rfl info_exact) rfl ?_
        exact ⟨rfl, below_setRow hL2 (by omega) _⟩
      · have hy2 : y < -m := by omega
        rw [decide_eq_true hx, decide_eq_false hy]
        go_enter Tryz.func48, Tryz.ntmps48
        go_upto_region 1 with fail
        show Code.wp _ _ _ _ (boxE w a)
        generalize boxE w a = W at *
        go_wp2_with (refine load_row rfl rfl rfl hA Tryz.underlying40 rfl info_cyc ?_)
        refine (C _).mono ?_; rintro e w2 ⟨rfl, hb2⟩
        have hO2 := (hO.below hb2).alloc (.cells (vec 8 a) 82)
        have hL2 := (below_next hL hb2).alloc (below_next hL hb2).size (.cells (vec 8 a) 82)
        have hE2 := RowAt.new w2 8 82 a
        clear hA hO hL hb2 C
        go_upto_region 2 with (first | (refine store_new (ty := 82) (f' := a) rfl rfl rfl rfl zero8 info_exact ?_))
        show Code.wp _ _ _ _ (w2.alloc (.cells (vec 8 a) 82))
        generalize w2.alloc (.cells (vec 8 a) 82) = W2 at *
        go_wp2_with fail
        refine (MX _ _ hE2).mono ?_; rintro e w3 ⟨rfl, rfl⟩
        go_wp2_with fail
        refine (MN _ _ hE2).mono ?_; rintro e w3 ⟨rfl, rfl⟩
        clear MX MN
        go_wp2_with (first | (refine store_row rfl rfl rfl (show _ = Value.agg (vec 8 nul) from rfl) hO2 info_exact ?_))
        refine bodyPost_ret (results_row_tmp rfl rfl hO2.setRow Tryz.underlying82 rfl info_exact) rfl ?_
        exact ⟨rfl, below_setRow hL2 (by omega) _⟩
    · have hx2 : m < x := by omega
      rw [decide_eq_false hx, Bool.false_and]
      go_enter Tryz.func48, Tryz.ntmps48
      go_upto_region 1 with fail
      show Code.wp _ _ _ _ (boxE w a)
      generalize boxE w a = W at *
      go_wp2_with (refine load_row rfl rfl rfl hA Tryz.underlying40 rfl info_cyc ?_)
      refine (C _).mono ?_; rintro e w2 ⟨rfl, hb2⟩
      have hO2 := (hO.below hb2).alloc (.cells (vec 8 a) 82)
      have hL2 := (below_next hL hb2).alloc (below_next hL hb2).size (.cells (vec 8 a) 82)
      have hE2 := RowAt.new w2 8 82 a
      clear hA hO hL hb2 C
      go_upto_region 2 with (first | (refine store_new (ty := 82) (f' := a) rfl rfl rfl rfl zero8 info_exact ?_))
      show Code.wp _ _ _ _ (w2.alloc (.cells (vec 8 a) 82))
      generalize w2.alloc (.cells (vec 8 a) 82) = W2 at *
      go_wp2_with fail
      refine (MX _ _ hE2).mono ?_; rintro e w3 ⟨rfl, rfl⟩
      clear MX MN
      go_wp2_with (first | (refine store_row rfl rfl rfl (show _ = Value.agg (vec 8 nul) from rfl) hO2 info_exact ?_))
      refine bodyPost_ret (results_row_tmp rfl rfl hO2.setRow Tryz.underlying82 rfl info_exact) rfl ?_
      exact ⟨rfl, below_setRow hL2 (by omega) _⟩

theorem tyP : TyL Tryz.prog 49 82 8 := tyL_of (z := .agg (vec 8 nul)) (b := 64) Tryz.underlying49 (by kernel_rfl) (by omega) rfl
def polyO (xs : List V) : Option (List V) := if polyOk xs then some xs else none
theorem polyO_no {xs : List V} (h : polyOk xs = false) : polyO xs = none := by unfold polyO; rw [h]; rfl
theorem polyO_yes {xs : List V} (h : polyOk xs = true) : polyO xs = some xs := by unfold polyO; rw [h]; rfl
theorem polyOk_long {xs : List V} (h : ¬ (1 ≤ xs.length ∧ xs.length ≤ 48)) : polyOk xs = false := by unfold polyOk; rw [decide_eq_false h, Bool.and_false]
set_option maxHeartbeats 2000000 in
theorem polygonOf_any (v : Value) (xs : List V) (w : World) (hv : ReadsL encV w v xs) : Calls Tryz.prog 18 #[v] w (ToldL 82 w (polyO xs)) := by
  obtain ⟨p, cap, rfl, hc1, hc2, hp0, hp⟩ := hv
  simp only [maxLen] at hc2
  have HP := Lib.hid hp
  clear hp
  by_cases h1 : xs.length < 1
  · rw [polyO_no (polyOk_long (by omega))]
    have h1z : (xs.length : Int) < 1 := by omega
    go_enter Tryz.func18, Tryz.ntmps18
    go_wp2
    go_ret2
    exact ⟨Below.refl _ _, _, rfl, ownL_none _ _ _⟩
  · by_cases h2 : 48 < xs.length
    · rw [polyO_no (polyOk_long (by omega))]
      have h1z : ¬ (xs.length : Int) < 1 := by omega
      have h2z : (48 : Int) < (xs.length : Int) := by omega
      go_enter Tryz.func18, Tryz.ntmps18
      go_wp2
      go_ret2
      exact ⟨Below.refl _ _, _, rfl, ownL_none _ _ _⟩
    · have h1z : ¬ (xs.length : Int) < 1 := by omega
      have h2z : ¬ (48 : Int) < (xs.length : Int) := by omega
      have hn : xs.length ≤ 48 := by omega
      have HLN : Aside (decide (1 ≤ xs.length ∧ xs.length ≤ 48) = true) := (show _ = _ from decide_eq_true (by omega))
      go_enter Tryz.func18, Tryz.ntmps18
      go_wp2_with (refine makeL (en := encV) tyP rfl rfl xs.length rfl rfl (by omega) (Below.refl _ w) (Nat.le_refl _) ?_; intro w2 ho1 hb1 hB1)
      go_loopw [4, 6, 7, 8, 22] (fun v' _ _ _ i wr => ∃ k : Nat, k ≤ xs.length ∧ i = .int .i64 k ∧ OwnL encV 8 wr w.heap.size 82 v' (xs.take k) ∧ (xs.take k).all (fun c => smallF 100 c.up) = true ∧ Below w.heap.size w wr ∧ w.heap.size ≤ wr.heap.size) (fun _ _ _ _ i _ => xs.length - (intOf i).toNat)
      case atStart => exact ⟨0, Nat.zero_le _, rfl, ho1, rfl, hb1, hB1⟩
      case round =>
        clear ho1 hb1 hB1
        obtain ⟨k, hk, rfl, hO, hall, hbel, hB⟩ := hrel
        by_cases hlt : k < xs.length
        · have hkz : (k : Int) < (xs.length : Int) := by omega
          have hk0 : (0 : Int) ≤ (k : Int) := by omega
          obtain ⟨c, hc⟩ : ∃ c, xs[k]? = some c := ⟨_, List.getElem?_eq_getElem hlt⟩
          obtain ⟨g, o, rfl, hg, hr⟩ := HP.out (by rintro rfl; have := hp0 rfl; omega)
          have HE := Lib.hid (cells_part encV_ok (cells_below hr hg hbel) hc)
          have HO := Lib.hid hO
          have HL := Lib.hid hbel
          have HA := Lib.hid hall
          have HB := Lib.hid hB
          have HC := Lib.hid hc
          clear hr hO hbel hall hB hc
          have HW := Lib.hid (RowAt.new wr 8 40 c.up)
          have C := fun w => exactWithin_any c.up 100 (by omega) w
          cases h1 : smallF 100 c.up
          · rw [h1] at C
            simp only [Bool.false_eq_true, if_false] at C
            go_wp2_with (first | (refine load_part (T := 40) (f := c.up) rfl rfl rfl HE.out Tryz.underlying40 rfl info_cyc ?_) | (refine store_new (ty := 40) rfl rfl rfl rfl zero8 info_cyc ?_) | (refine load_row (ty := 40) (g := wr.heap.size) rfl rfl rfl HW.out Tryz.underlying40 rfl info_cyc ?_))
            refine (C _).mono ?_; rintro e w2 ⟨rfl, hb2⟩
            have HBW := Lib.hid (below_next HL.out (below_next ((Below.refl wr.heap.size wr).alloc (Nat.le_refl _) _) (hb2.alloc hb2.size (.cells (vec 8 nul) 82))))
            clear hb2 C
            go_wp2_with (first | (refine store_new (ty := 82) rfl rfl rfl rfl zero8 info_exact ?_))
            go_ret2
            rw [polyO_no (polyOk_bad HC.out h1)]
            exact ⟨HBW.out, _, rfl, ownL_none _ _ _⟩
          · rw [h1] at C
            simp only [if_true] at C
            go_wp2_with (first | (refine load_part (T := 40) (f := c.up) rfl rfl rfl HE.out Tryz.underlying40 rfl info_cyc ?_) | (refine store_new (ty := 40) rfl rfl rfl rfl zero8 info_cyc ?_) | (refine load_row (ty := 40) (g := wr.heap.size) rfl rfl rfl HW.out Tryz.underlying40 rfl info_cyc ?_))
            refine (C _).mono ?_; rintro e w2 ⟨rfl, hb2⟩
            have HB2 := Lib.hid hb2
            clear hb2 C
            go_upto_region 8 with (first | (refine store_new (ty := 82) (f' := c.up) rfl rfl rfl rfl zero8 info_exact ?_))
            show Code.wp _ _ _ _ (w2.alloc (.cells (vec 8 c.up) 82))
            have HR3 := Lib.hid (RowAt.new w2 8 82 c.up)
            have hb3 : Below wr.heap.size wr (w2.alloc (.cells (vec 8 c.up) 82)) := below_next ((Below.refl _ _).alloc (Nat.le_refl _) _) (HB2.out.alloc HB2.out.size _)
            have HO3 := Lib.hid (rows_below HO.out hb3)
            have HBW := Lib.hid (below_next HL.out hb3)
            have HBS := Lib.hid (Nat.le_trans HB.out hb3.size)
            clear hb3 HB2
            generalize w2.alloc (.cells (vec 8 c.up) 82) = w3 at *
            go_wp2_with (first | (refine load_row (ty := 82) (g := w2.heap.size) rfl rfl rfl HR3.out Tryz.underlying82 rfl info_exact ?_; clear HR3) | (refine one8 tyP rfl rfl rfl ?_) |
              (refine appendL tyP encV_ok rfl rfl rfl rfl (xs := xs.take k) (World.ownsRow.alloc HO3.out _) (lit8 _ _ _) (by simp; omega) (HBW.out.alloc HBS.out _) (by simp; have := HBS.out; omega) ?_; intro v2 w4 ho4 hb4 hB4 hgr4))
            go_roundw
            case rel =>
              refine ⟨k + 1, by omega, by go_num, ?_, polyAll_take HA.out HC.out h1, hb4, hB4⟩
              rw [take_nextV HC.out]; exact ho4
            case measure => simp [intOf]; omega
        · obtain rfl : k = xs.length := by omega
          have HO := Lib.hid hO
          have HL := Lib.hid hbel
          have HA := Lib.hid hall
          clear hO hbel hall hB
          go_wp2
          go_ret2
          have hv : polyOk xs = true := by
            unfold polyOk
            have := HA.out
            rw [List.take_length] at this
            rw [this, HLN.out]; rfl
          have ho := HO.out
          rw [List.take_length] at ho
          rw [polyO_yes hv]
          exact ⟨HL.out, _, rfl, ho⟩

theorem pt_sub (a b : V) : pt (subV a b).up = pt (sub a.up b.up) := by
  rw [pt_subV]
  exact pt_same fun j _ => by simp only [mul1, sub]; omega
def aroundL (xs : List V) (c : V) : List V := xs.map fun x => subV x c
theorem around_next {xs : List V} {k : Nat} {x : V} (c : V) (h : xs[k]? = some x) : aroundL (xs.take (k + 1)) c = aroundL (xs.take k) c ++ [subV x c] := by
  unfold aroundL
  rw [take_nextV h, List.map_append]; rfl
theorem around_len (xs : List V) (c : V) : (aroundL xs c).length = xs.length := by simp [aroundL]
set_option maxHeartbeats 2000000 in
theorem around_any (v : Value) (xs : List V) (c : V) (w : World) (hv : ReadsL encV w v xs) (hn : xs.length ≤ 48) (hx : ∀ x ∈ xs, InR x.up) (hcr : InR c.up) :
    Calls Tryz.prog 66 #[v, pt c.up] w fun e w' => Below w.heap.size w w' ∧ ∃ v', e = .returned v' ∧ OwnL encV 8 w' w.heap.size 82 v' (aroundL xs c) := by
  obtain ⟨p, cap, rfl, hc1, hc2, hp0, hp⟩ := hv
  simp only [maxLen] at hc2
  have HP := Lib.hid hp
  have HX := Lib.hid hx
  have sc := vec_size 8 c.up
  clear hp hx
  unfold pt
  go_enter Tryz.func66, Tryz.ntmps66
  go_upto_region 1 with fail
  show Code.wp _ _ _ _ (w.alloc (.cells (vec 8 c.up) 82))
  have hC1 := RowAt.new w 8 82 c.up
  have hL1 := (Below.refl w.heap.size w).alloc (Nat.le_refl _) (.cells (vec 8 c.up) 82)
  have hS1 : w.heap.size ≤ (w.alloc (.cells (vec 8 c.up) 82)).heap.size := hL1.size
  generalize w.alloc (.cells (vec 8 c.up) 82) = W at *
  go_wp2_with (refine makeL (en := encV) tyP rfl rfl xs.length rfl rfl (by omega) (Below.refl _ W) (Nat.le_refl _) ?_; intro w2 ho1 hb1 hB1)
  have hC2 := hC1.below hb1
  go_loopw [5, 7, 13] (fun v' _ i wr => ∃ k : Nat, k ≤ xs.length ∧ i = .int .i64 k ∧ OwnL encV 8 wr W.heap.size 82 v' (aroundL (xs.take k) c) ∧ RowAt wr w.heap.size 8 82 c.up ∧ Below W.heap.size W wr ∧ W.heap.size ≤ wr.heap.size) (fun _ _ i _ => xs.length - (intOf i).toNat)
  case atStart => exact ⟨0, Nat.zero_le _, rfl, ho1, hC2, hb1, hB1⟩
  case round =>
    clear ho1 hb1 hB1 hC2
    obtain ⟨k, hk, rfl, hO, hR, hbel, hB⟩ := hrel
    by_cases hlt : k < xs.length
    · have hkz : (k : Int) < (xs.length : Int) := by omega
      have hk0 : (0 : Int) ≤ (k : Int) := by omega
      obtain ⟨x, hc⟩ : ∃ x, xs[k]? = some x := ⟨_, List.getElem?_eq_getElem hlt⟩
      obtain ⟨g, o, rfl, hg, hr⟩ := HP.out (by rintro rfl; have := hp0 rfl; omega)
      have HE := Lib.hid (cells_part encV_ok (cells_below hr hg (below_next hL1 hbel)) hc)
      have L := fun w => less_any x.up c.up (HX.out x (List.mem_of_getElem? hc)) hcr w
      have hPS := pt_sub x c
      rw [← hPS] at L
      have HNX := Lib.hid (around_next c hc)
      have hsl : (aroundL (xs.take k) c).length ≤ 48 := by rw [around_len, List.length_take]; omega
      clear hPS
      unfold pt at L
      generalize subV x c = y at *
      have HO := Lib.hid hO
      have HL := Lib.hid hbel
      have HB := Lib.hid hB
      clear hr hO hbel hB hc
      go_upto_region 5 with (first | (refine load_part (T := 82) (f := x.up) rfl rfl rfl HE.out Tryz.underlying82 rfl info_exact ?_) | (refine store_new (ty := 82) (f' := x.up) rfl rfl rfl rfl zero8 info_exact ?_))
      show Code.wp _ _ _ _ (wr.alloc (.cells (vec 8 x.up) 82))
      have hX3 := RowAt.new wr 8 82 x.up
      have hR3 := hR.alloc (.cells (vec 8 x.up) 82)
      have HO3 := Lib.hid (show OwnL encV 8 (wr.alloc (.cells (vec 8 x.up) 82)) _ _ _ _ from World.ownsRow.alloc HO.out (.cells (vec 8 x.up) 82))
      have HL3 := Lib.hid (HL.out.alloc HB.out (.cells (vec 8 x.up) 82))
      have HB3 : Aside (W.heap.size ≤ (wr.alloc (.cells (vec 8 x.up) 82)).heap.size) := (show _ ≤ _ from by have := HB.out; simp; omega)
      clear hR HO HL HB HE
      generalize wr.alloc (.cells (vec 8 x.up) 82) = w3 at *
      generalize wr.heap.size = gx at *
      go_wp2_with (first | (refine load_row (g := gx) rfl rfl rfl hX3 Tryz.underlying82 rfl info_exact ?_) | (refine load_row (g := w.heap.size) rfl rfl rfl hR3 Tryz.underlying82 rfl info_exact ?_))
      refine (L _).mono ?_; rintro e w4 ⟨rfl, hb4⟩
      have hR4 := hR3.below hb4
      have HO4 := Lib.hid (rows_below HO3.out hb4)
      have HL4 := Lib.hid (HL3.out.trans (hb4.mono HL3.out.size))
      have HB4 := Lib.hid (Nat.le_trans HB3.out hb4.size)
      clear hX3 hR3 HO3 HL3 HB3 hb4 L
      go_wp2_with (first | (refine one8 tyP rfl rfl rfl ?_) |
        (refine appendL tyP encV_ok rfl rfl rfl rfl (xs := aroundL (xs.take k) c) (World.ownsRow.alloc HO4.out _) (lit8 _ _ _) (by simp; omega) (HL4.out.alloc HB4.out _) (by simp; have := HB4.out; omega) ?_; intro v2 w5 ho5 hb5 hB5 hgr5))
      go_roundw
      case rel => exact ⟨k + 1, by omega, by go_num, by rw [HNX.out]; exact ho5, hC1.below hb5, hb5, hB5⟩
      case measure => simp [intOf]; omega
    · obtain rfl : k = xs.length := by omega
      have HO := Lib.hid hO
      have HL := Lib.hid hbel
      clear hO hbel hB hR
      go_wp2
      go_ret
      have ho := HO.out
      rw [List.take_length] at ho
      exact ⟨below_next hL1 HL.out, _, rfl, rows_mono ho hS1⟩

end Go.Proofs.YtdpakhggpgdgbaaGreat
/- Out of the text PolyD: what the draws of polygons need. -/
namespace Go.Proofs.YtdpakhggpgdgbaaGreat
set_option maxRecDepth 20000
open Go.ChangeShapes Go.WideShapes Go.ChangeAt Go.RowKit
set_option linter.unusedVariables false
set_option linter.unusedSimpArgs false
set_option maxHeartbeats 1000000 in
theorem PolyValid_any (v : Value) (xs : List V) (w : World) (hv : ReadsL encV w v xs) : Calls Tryz.prog 25 #[v] w fun e w' => e = .returned (.bool (polyOk xs)) ∧ Below w.heap.size w w' := by
  have T := polygonOf_any v xs w hv
  have HF : (polyO xs).isSome = polyOk xs := by unfold polyO; cases polyOk xs <;> rfl
  clear hv
  generalize polyO xs = o at *
  generalize polyOk xs = r at *
  subst HF
  have T := Lib.hid T
  go_enter Tryz.func25, Tryz.ntmps25
  go_wp2_with fail
  refine T.out.mono ?_; rintro e w1 ⟨hb1, v1, rfl, -⟩
  have HB := Lib.hid hb1
  clear T hb1
  go_wp2
  go_ret
  exact ⟨rfl, HB.out⟩

def seenO (xs : List V) (c : V) : Option (List V) := if polyOk xs && smallF 100 c.up then some (aroundL xs c) else none
theorem polyOk_small {xs : List V} (h : polyOk xs = true) : ∀ x ∈ xs, ∀ j, j < 8 → -((100 : Nat) : Int) ≤ x.up j ∧ x.up j ≤ ((100 : Nat) : Int) := fun x hx => by
  unfold polyOk at h
  rw [Bool.and_eq_true] at h
  exact smallF_iff.1 (List.all_eq_true.1 h.1 x hx)
theorem small_R {a : Nat → Int} (h : ∀ j, j < 8 → -((100 : Nat) : Int) ≤ a j ∧ a j ≤ ((100 : Nat) : Int)) : InR a := fun j hj => by have := h j hj; omega
set_option maxHeartbeats 2000000 in
theorem polygonAround_any (v : Value) (xs : List V) (c : V) (w : World) (hv : ReadsL encV w v xs) : Calls Tryz.prog 33 #[v, pt c.up] w (ToldL 82 w (seenO xs c)) := by
  have T := fun (w' : World) (h : ReadsL encV w' v xs) => polygonOf_any v xs w' h
  have C := fun w => exactWithin_any c.up 100 (by omega) w
  have sc := vec_size 8 c.up
  have hV1 := hv.below ((Below.refl w.heap.size w).alloc (Nat.le_refl _) (.cells (vec 8 c.up) 40))
  replace T := Lib.hid (T _ hV1)
  clear hv hV1
  unfold pt at *
  cases hp : polyOk xs
  · have hF : seenO xs c = none := by unfold seenO; rw [hp]; rfl
    rw [hF]
    rw [polyO_no hp] at T
    clear hF
    go_enter Tryz.func33, Tryz.ntmps33
    go_upto_region 1 with fail
    show Code.wp _ _ _ _ (w.alloc (.cells (vec 8 c.up) 40))
    have hC1 := RowAt.new w 8 40 c.up
    have hL1 := (Below.refl w.heap.size w).alloc (Nat.le_refl _) (.cells (vec 8 c.up) 40)
    generalize w.alloc (.cells (vec 8 c.up) 40) = W at *
    go_wp2_with fail
    refine T.out.mono ?_; rintro e w1 ⟨hb1, v1, rfl, -⟩
    have hC2 := hC1.below hb1
    have HL2 := Lib.hid (below_next hL1 hb1)
    clear T hb1 hC1 hL1
    go_wp2_with (first | (refine load_row (g := w.heap.size) rfl rfl rfl hC2 Tryz.underlying40 rfl info_cyc ?_))
    refine (C _).mono ?_; rintro e w2 ⟨rfl, hb2⟩
    have HL3 := Lib.hid (below_next HL2.out hb2)
    clear C hb2 hC2
    generalize (if smallF 100 c.up = true then c.up else nul) = f at *
    go_wp2_with (first | (refine store_new (ty := 82) rfl rfl rfl rfl zero8 info_exact ?_))
    go_ret2
    exact ⟨HL3.out.alloc HL3.out.size _, _, rfl, ownL_none _ _ _⟩
  · rw [polyO_yes hp] at T
    have HLN := polyOk_len hp
    have HX := Lib.hid (fun x hx => small_R (polyOk_small hp x hx))
    cases hc : smallF 100 c.up
    · have hF : seenO xs c = none := by unfold seenO; rw [hp, hc]; rfl
      rw [hF]
      rw [hc] at C
      simp only [Bool.false_eq_true, if_false] at C
      clear hF
      go_enter Tryz.func33, Tryz.ntmps33
      go_upto_region 1 with fail
      show Code.wp _ _ _ _ (w.alloc (.cells (vec 8 c.up) 40))
      have hC1 := RowAt.new w 8 40 c.up
      have hL1 := (Below.refl w.heap.size w).alloc (Nat.le_refl _) (.cells (vec 8 c.up) 40)
      generalize w.alloc (.cells (vec 8 c.up) 40) = W at *
      go_wp2_with fail
      refine T.out.mono ?_; rintro e w1 ⟨hb1, v1, rfl, -⟩
      have hC2 := hC1.below hb1
      have HL2 := Lib.hid (below_next hL1 hb1)
      clear T hb1 hC1 hL1
      go_wp2_with (first | (refine load_row (g := w.heap.size) rfl rfl rfl hC2 Tryz.underlying40 rfl info_cyc ?_))
      refine (C _).mono ?_; rintro e w2 ⟨rfl, hb2⟩
      have HL3 := Lib.hid (below_next HL2.out hb2)
      clear C hb2 hC2
      go_wp2_with (first | (refine store_new (ty := 82) rfl rfl rfl rfl zero8 info_exact ?_))
      go_ret2
      exact ⟨HL3.out.alloc HL3.out.size _, _, rfl, ownL_none _ _ _⟩
    · have hF : seenO xs c = some (aroundL xs c) := by unfold seenO; rw [hp, hc]; rfl
      have HCR := small_R (smallF_iff.1 hc)
      rw [hF]
      rw [hc] at C
      simp only [if_true] at C
      clear hF
      go_enter Tryz.func33, Tryz.ntmps33
      go_upto_region 1 with fail
      show Code.wp _ _ _ _ (w.alloc (.cells (vec 8 c.up) 40))
      have hC1 := RowAt.new w 8 40 c.up
      have hL1 := (Below.refl w.heap.size w).alloc (Nat.le_refl _) (.cells (vec 8 c.up) 40)
      generalize w.alloc (.cells (vec 8 c.up) 40) = W at *
      go_wp2_with fail
      refine T.out.mono ?_; rintro e w1 ⟨hb1, v1, rfl, ho1⟩
      have hC2 := hC1.below hb1
      have HL2 := Lib.hid (below_next hL1 hb1)
      have HO1 := Lib.hid ho1
      clear T hb1 hC1 hL1 ho1
      go_wp2_with (first | (refine load_row (g := w.heap.size) rfl rfl rfl hC2 Tryz.underlying40 rfl info_cyc ?_))
      refine (C _).mono ?_; rintro e w2 ⟨rfl, hb2⟩
      have HL3 := Lib.hid (below_next HL2.out hb2)
      have HO2 := Lib.hid (rows_below HO1.out hb2)
      clear C hb2 hC2 HO1
      go_upto_region 3 with (first | (refine store_new (ty := 82) (f' := c.up) rfl rfl rfl rfl zero8 info_exact ?_))
      show Code.wp _ _ _ _ (w2.alloc (.cells (vec 8 c.up) 82))
      have hE3 := RowAt.new w2 8 82 c.up
      have HL4 := Lib.hid (HL3.out.alloc HL3.out.size (.cells (vec 8 c.up) 82))
      have HO3 := Lib.hid (show OwnL encV 8 (w2.alloc (.cells (vec 8 c.up) 82)) _ _ _ _ from World.ownsRow.alloc HO2.out (.cells (vec 8 c.up) 82))
      clear HO2 HL3
      generalize w2.alloc (.cells (vec 8 c.up) 82) = w3 at *
      generalize w2.heap.size = gc at *
      have AR := fun (w' : World) (h : ReadsL encV w' v1 xs) => Lib.hid (around_any v1 xs c w' h HLN.2 HX.out HCR)
      go_wp2_with (first | (refine load_row (g := gc) rfl rfl rfl hE3 Tryz.underlying82 rfl info_exact ?_))
      refine (AR _ (ownL_reads HO3.out)).out.mono ?_; rintro e w4 ⟨hb4, v4, rfl, ho4⟩
      have HL5 := Lib.hid (below_next HL4.out hb4)
      have HO5 := Lib.hid (rows_mono ho4 HL4.out.size)
      clear hb4 ho4 AR hE3
      go_wp2
      go_ret2
      exact ⟨HL5.out, _, rfl, HO5.out⟩

def prevV (xs : List V) (k : Nat) : V := at' xs ((k + xs.length - 1) % xs.length)
def stepsQ (xs : List V) (k : Nat) : List V := (List.range k).map fun i => subV (at' xs i) (prevV xs i)
theorem stepsQ_len (xs : List V) (k : Nat) : (stepsQ xs k).length = k := by simp [stepsQ]
theorem stepsQ_next (xs : List V) (k : Nat) : stepsQ xs (k + 1) = stepsQ xs k ++ [subV (at' xs k) (prevV xs k)] := by simp [stepsQ, List.range_succ]
theorem prevV_zero {xs : List V} (h : 1 ≤ xs.length) : prevV xs 0 = at' xs (xs.length - 1) := by
  unfold prevV
  rw [Nat.zero_add, Nat.mod_eq_of_lt (by omega)]
theorem prevV_next {xs : List V} {k : Nat} (h : k < xs.length) : prevV xs (k + 1) = at' xs k := by
  unfold prevV
  rw [show k + 1 + xs.length - 1 = k + xs.length by omega, Nat.add_mod_right, Nat.mod_eq_of_lt h]
theorem rows_heap {w w' : World} {B T K n g len cap : Nat} {cs : List Value} (h : w.ownsRow B T K (.slice (some ⟨g, 0, none⟩) len cap) n cs) (e : w'.heap[g]? = w.heap[g]?) : w'.ownsRow B T K (.slice (some ⟨g, 0, none⟩) len cap) n cs := by
  refine ⟨h.1, ?_⟩
  rcases h.2 with ⟨h0, _⟩ | ⟨g', cap', cur, h0, hB, hg, rest⟩
  · cases h0
  · simp only [Value.slice.injEq, Option.some.injEq, Addr.mk.injEq] at h0
    obtain ⟨⟨rfl, _⟩, rfl, rfl⟩ := h0
    exact .inr ⟨g, _, cur, rfl, hB, e.trans hg, rest⟩
theorem row_grown {w w' : World} {g n r : Nat} {T : TypeId} {f : Nat → Int} (h : RowAt w g n T f) (hg : w.grownBy w' (some r)) (hne : g ≠ r) : RowAt w' g n T f :=
  (hg.block g h.lt (fun e => hne (Option.some.inj e))).trans h
set_option maxHeartbeats 4000000 in
theorem steps_any (v : Value) (xs : List V) (w : World) (hv : ReadsL encV w v xs) (hn1 : 1 ≤ xs.length) (hn : xs.length ≤ 48) (hx : ∀ x ∈ xs, InR x.up) :
    Calls Tryz.prog 49 #[v] w fun e w' => Below w.heap.size w w' ∧ ∃ v', e = .returned v' ∧ OwnL encV 8 w' w.heap.size 82 v' (stepsQ xs xs.length) := by
  have hne : ¬ xs = [] := by rintro rfl; simp at hn1
  obtain ⟨g, o, cap, rfl, hc1, hc2, hg, hr⟩ := reads_ptr8 hv hne
  simp only [maxLen] at hc2
  have HR := Lib.hid hr
  have HX : Aside (∀ k, k < xs.length → InR (at' xs k).up) := (show _ from fun k hk => hx _ (List.mem_of_getElem? (at_get hk)))
  have hcap : xs.length ≤ 48 := hn
  clear hr hv hx hne
  obtain ⟨m, hm⟩ : ∃ m, xs.length - 1 = m := ⟨_, rfl⟩
  have hmz : IntKind.i64.wrap ((xs.length : Int) - 1) = (m : Int) := by rw [IntKind.wrap_i64]; omega
  have hml : m < xs.length := by omega
  have hm5 : (m : Int) < (xs.length : Int) := by omega
  have hm6 : (0 : Int) ≤ (m : Int) := by omega
  have HPZ : Aside (at' xs m = prevV xs 0) := (show _ = _ from by rw [prevV_zero hn1, hm])
  have hmz2 : (xs.length : Int) - 1 = (m : Int) := by omega
  go_enter Tryz.func49, Tryz.ntmps49
  go_upto_region 2 with (refine makeL (en := encV) tyP rfl rfl xs.length rfl rfl (by omega) (Below.refl _ w) (Nat.le_refl _) ?_; intro w2 ho1 hb1 hB1)
  have HE0 := Lib.hid (cells_part encV_ok (cells_below HR.out hg hb1) (at_get hml))
  go_upto_region 3 with (first | (refine load_part (T := 82) (f := (at' xs m).up) rfl rfl rfl HE0.out Tryz.underlying82 rfl info_exact ?_) | (refine store_new (ty := 82) (f' := (at' xs m).up) rfl rfl rfl rfl zero8 info_exact ?_))
  show Code.wp _ _ _ _ (w2.alloc (.cells (vec 8 (at' xs m).up) 82))
  have hF := RowAt.new w2 8 82 (at' xs m).up
  rw [HPZ.out] at hF ⊢
  have hw2 := hB1
  have hlt2 : w.heap.size < w2.heap.size := (ho1.lt w.heap.size rfl).2
  have ho2 : OwnL encV 8 (w2.alloc (.cells (vec 8 (prevV xs 0).up) 82)) w.heap.size 82 (.slice (some ⟨w.heap.size, 0, none⟩) 0 xs.length) [] := World.ownsRow.alloc ho1 _
  have hb2 := hb1.alloc hB1 (.cells (vec 8 (prevV xs 0).up) 82)
  have hgF : w.heap.size < w2.heap.size := hlt2
  clear ho1 hb1 HE0 HPZ
  generalize w2.alloc (.cells (vec 8 (prevV xs 0).up) 82) = w3 at *
  generalize w2.heap.size = gF at *
  go_wp2
  go_loopw [3, 6, 18] (fun v' _ i wr => ∃ k : Nat, k ≤ xs.length ∧ i = .int .i64 k ∧ v' = .slice (some ⟨w.heap.size, 0, none⟩) k xs.length ∧ OwnL encV 8 wr w.heap.size 82 (.slice (some ⟨w.heap.size, 0, none⟩) k xs.length) (stepsQ xs k) ∧ RowAt wr gF 8 82 (prevV xs k).up ∧ Below w.heap.size w wr) (fun _ _ i _ => xs.length - (intOf i).toNat)
  case atStart => exact ⟨0, Nat.zero_le _, rfl, rfl, ho2, hF, hb2⟩
  case round =>
    clear ho2 hF hb2
    obtain ⟨k, hk, rfl, rfl, hO, hFr, hbel⟩ := hrel
    by_cases hlt : k < xs.length
    · have hkz : (k : Int) < (xs.length : Int) := by omega
      have hk0 : (0 : Int) ≤ (k : Int) := by omega
      have HE := Lib.hid (cells_part encV_ok (cells_below HR.out hg hbel) (at_get hlt))
      have L := fun w => less_any (at' xs k).up (prevV xs k).up (HX.out k hlt) (HX.out _ (Nat.mod_lt _ (by omega))) w
      rw [← pt_sub] at L
      have HNX := Lib.hid (stepsQ_next xs k)
      have HPN := Lib.hid (prevV_next hlt)
      have hsl := stepsQ_len xs k
      unfold pt at L
      generalize subV (at' xs k) (prevV xs k) = y at *
      generalize prevV xs k = z at *
      generalize at' xs k = x at *
      have HO := Lib.hid hO
      have HL := Lib.hid hbel
      have hsz := hbel.size
      clear hO hbel
      go_upto_region 6 with (first | (refine load_part (T := 82) (f := x.up) rfl rfl rfl HE.out Tryz.underlying82 rfl info_exact ?_) | (refine store_new (ty := 82) (f' := x.up) rfl rfl rfl rfl zero8 info_exact ?_))
      show Code.wp _ _ _ _ (wr.alloc (.cells (vec 8 x.up) 82))
      have hX3 := RowAt.new wr 8 82 x.up
      have hR3 := hFr.alloc (.cells (vec 8 x.up) 82)
      have hgx : gF < wr.heap.size := hFr.lt
      have HO3 := Lib.hid (show OwnL encV 8 (wr.alloc (.cells (vec 8 x.up) 82)) _ _ _ _ from World.ownsRow.alloc HO.out (.cells (vec 8 x.up) 82))
      have HL3 := Lib.hid (HL.out.alloc hsz (.cells (vec 8 x.up) 82))
      clear hFr HO HL HE
      generalize wr.alloc (.cells (vec 8 x.up) 82) = w3 at *
      generalize wr.heap.size = gx at *
      go_wp2_with (first | (refine load_row (g := gx) rfl rfl rfl hX3 Tryz.underlying82 rfl info_exact ?_) | (refine load_row (g := gF) rfl rfl rfl hR3 Tryz.underlying82 rfl info_exact ?_))
      refine (L _).mono ?_; rintro e w4 ⟨rfl, hb4⟩
      have hX4 := (hX3.below hb4).alloc (.cells (vec 8 y.up) 82)
      have hR4 := (hR3.below hb4).alloc (.cells (vec 8 y.up) 82)
      have HO4 := Lib.hid (show OwnL encV 8 (w4.alloc (.cells (vec 8 y.up) 82)) w.heap.size 82 (.slice (some ⟨w.heap.size, 0, none⟩) (stepsQ xs k).length xs.length) (stepsQ xs k) from by rw [hsl]; exact World.ownsRow.alloc (rows_below HO3.out hb4) _)
      have HL4 := Lib.hid ((below_next HL3.out hb4).alloc (below_next HL3.out hb4).size (.cells (vec 8 y.up) 82))
      clear hX3 hR3 HO3 HL3 hb4 L
      have hlen : (stepsQ xs k ++ [y]).length = k + 1 := by simp [hsl]
      go_upto_region 7 with (first | (refine one8 tyP rfl rfl rfl ?_) |
        (refine append_fitL tyP encV_ok rfl rfl (xs := stepsQ xs k) (by rw [hsl]; rfl) rfl HO4.out (litL_range (en := encV) w4 y _) (by rw [hsl]; simp; omega) ?_; intro w5 ho5 hgr5; rw [hlen] at *))
      have hX5 := row_grown hX4 hgr5 (by omega)
      have hR5 := row_grown hR4 hgr5 (by omega)
      have HL5 := Lib.hid (HL4.out.grown hgr5 HL4.out.size (fun k e => by cases e; exact Nat.le_refl _))
      have HO5 := Lib.hid ho5
      clear hX4 hR4 HO4 HL4 ho5 hgr5
      go_wp2_with (first | (refine load_row (g := gx) rfl rfl rfl hX5 Tryz.underlying82 rfl info_exact ?_) | (refine store_row (g := gF) (f' := x.up) rfl rfl rfl rfl hR5 info_exact ?_))
      go_roundw
      case rel => exact ⟨k + 1, by omega, by go_num, by trivial, by rw [HNX.out]; exact rows_heap HO5.out (setRow_other _ _ _ _ (by omega)), by rw [HPN.out]; exact hR5.setRow, below_setRow HL5.out (by omega) _⟩
      case measure => simp [intOf]; omega
    · obtain rfl : k = xs.length := by omega
      have HO := Lib.hid hO
      have HL := Lib.hid hbel
      clear hO hbel hFr
      go_wp2
      go_ret
      exact ⟨HL.out, _, rfl, HO.out⟩

end Go.Proofs.YtdpakhggpgdgbaaGreat
/- Out of the text PolyE: what the draws of polygons need. -/
namespace Go.Proofs.YtdpakhggpgdgbaaGreat
set_option maxRecDepth 20000
open Go.ChangeShapes Go.WideShapes Go.ChangeAt Go.RowKit
set_option linter.unusedVariables false
set_option linter.unusedSimpArgs false
section
variable {P : Program} {ops : Array Oper} {Q : Exit → Act → World → Prop}
theorem upon_wide {o : Oper} {a : Act} {next : Act → World → Prop} {r : Result Next} (n : Nat) (h : o.upon P a next Q r) : o.uponIn Fence.wide n P a next Q r := by
  cases r with
  | ok x w' =>
    cases x <;> simp only [Oper.upon, Oper.uponIn] at h ⊢ <;>
      first
        | exact h
        | exact ⟨fun hd => (by cases hd), CallsIn.mono (callsIn_wide.2 h) (fun e w'' he => by cases e <;> exact he)⟩
        | exact ⟨fun hd => (by cases hd), fun c cs _ => let ⟨v, w', r, s⟩ := h c cs; ⟨v, w', r, stepsIn_wide.2 s⟩⟩
  | halt x w' => cases x <;> simp only [Oper.upon, Oper.uponIn] at h ⊢ <;> exact h
/-- An operation that is walked plainly, under the wide fence. -/
theorem wp_wide {o : Oper} {a : Act} {w : World} {next : Act → World → Prop} (n : Nat) (h : o.wp P a w next Q) : o.wpIn Fence.wide n P a w next Q := by
  refine ⟨fun f _ => trivial, ?_⟩
  have e : o.semAt Fence.wide.round a.eval = execOp a.eval o := rfl
  rw [e]
  exact upon_wide n h
end
/-- The value of a side out of two points. -/
theorem fill_16 (f g : Nat → Int) : Instr.fill (fun i => some (i * 8, 8)) (vec 16 nul) [(0, .agg (vec 8 f)), (1, .agg (vec 8 g))] = some (vec 16 (sd f g)) := by
  have h1 : vec 16 nul = #[.int .i64 0, .int .i64 0, .int .i64 0, .int .i64 0, .int .i64 0, .int .i64 0, .int .i64 0, .int .i64 0, .int .i64 0, .int .i64 0, .int .i64 0, .int .i64 0, .int .i64 0, .int .i64 0, .int .i64 0, .int .i64 0] := rfl
  have h2 : ∀ f, vec 8 f = #[.int .i64 (f 0), .int .i64 (f 1), .int .i64 (f 2), .int .i64 (f 3), .int .i64 (f 4), .int .i64 (f 5), .int .i64 (f 6), .int .i64 (f 7)] := fun f => rfl
  have h3 : vec 16 (sd f g) = #[.int .i64 (f 0), .int .i64 (f 1), .int .i64 (f 2), .int .i64 (f 3), .int .i64 (f 4), .int .i64 (f 5), .int .i64 (f 6), .int .i64 (f 7), .int .i64 (g 0), .int .i64 (g 1), .int .i64 (g 2), .int .i64 (g 3), .int .i64 (g 4), .int .i64 (g 5), .int .i64 (g 6), .int .i64 (g 7)] := rfl
  rw [h1, h2, h2, h3]
  simp [Instr.fill, Value.cells]
theorem run_side (f g : Nat → Int) (w : World) : (Instr.build 89 #[(0, .agg (vec 8 f)), (1, .agg (vec 8 g))]).run Tryz.prog w = .ok (.agg (vec 16 (sd f g))) w := by
  have e : (Tryz.prog.info? 89).map (fun i => (i.zero, i.size, i.bytes)) = some (some (.agg (vec 16 nul)), 16, 128) := by kernel_rfl
  have e2 : (Tryz.prog.info? 82).map (fun i => (i.zero, i.size, i.bytes)) = some (some (.agg (vec 8 nul)), 8, 64) := by kernel_rfl
  obtain ⟨i, hi, hz, hs, hb⟩ := info_parts e
  obtain ⟨i2, hi2, hz2, hs2, hb2⟩ := info_parts e2
  simp [Instr.build, run_underlying Tryz.underlying89, sizeOf, typeInfo, zeroValue, hi, hz, hi2, hs2, Sem.run_bind, Value.cells, fill_16]

theorem exec_side {o : Oper} {a : Act} {x y : Operand} {f g : Nat → Int} (ho : o.op = .build 89 #[(0, x), (1, y)]) (hx : a.eval x = .agg (vec 8 f)) (hy : a.eval y = .agg (vec 8 g)) (w : World) : (execOp a.eval o).run Tryz.prog w = .ok (.value (.agg (vec 16 (sd f g)))) w := by
  unfold execOp
  simp [ho, hx, hy, Sem.run_bind, run_side, Result.andThen]
theorem cells_same {w w' : World} {g o : Nat} {cs : List Value} (h : w.rangeAt g o cs) (e : w'.heap[g]? = w.heap[g]?) : w'.rangeAt g o cs := fun j v hv => (World.cell?_of_block e).trans (h j v hv)
theorem lt_same {w w' : World} {g : Nat} (h : g < w.heap.size) (e : w'.heap[g]? = w.heap[g]?) : g < w'.heap.size := by
  rw [Array.getElem?_eq_getElem h] at e
  exact (Array.getElem?_eq_some_iff.1 e).1
/-- The first k sides. -/
def sidesL (xs : List V) (k : Nat) : List (V × V) := (List.range k).map fun i => (at' xs i, at' xs ((i + 1) % xs.length))
theorem sidesL_len (xs : List V) (k : Nat) : (sidesL xs k).length = k := by simp [sidesL]
theorem sidesL_next (xs : List V) (k : Nat) : sidesL xs (k + 1) = sidesL xs k ++ [(at' xs k, at' xs ((k + 1) % xs.length))] := by simp [sidesL, List.range_succ]
theorem sidesL_split (xs : List V) {n k : Nat} (h : k < n) : ∃ rest, sidesL xs n = sidesL xs k ++ (at' xs k, at' xs ((k + 1) % xs.length)) :: rest := by
  induction n with
  | zero => omega
  | succ n ih =>
    rw [sidesL_next]
    by_cases e : k = n
    · subst e; exact ⟨[], rfl⟩
    · obtain ⟨rest, hr⟩ := ih (by omega)
      exact ⟨rest ++ [(at' xs n, at' xs ((n + 1) % xs.length))], by rw [hr]; simp⟩
def encS (s : V × V) : Array Value := #[st s.1.up s.2.up]

set_option maxHeartbeats 4000000 in
theorem sides_gives (g o cap : Nat) (xs : List V) (n : Nat) (hn : 1 ≤ n) (w : World) (hg : g < w.heap.size) (hr : w.rangeAt g o (flt encV xs)) (hc1 : xs.length ≤ cap) (hc2 : cap ≤ maxLen) (h1 : 1 ≤ xs.length) (h48 : xs.length ≤ 48) : GivesB n Tryz.prog 51 #[.slice (some ⟨g, o, none⟩) xs.length cap] encS (sidesL xs xs.length) g w := fun l J Jx W hW hJ hY h0 => by
  simp only [maxLen] at hc2
  have HR := Lib.hid hr
  have HJ := Lib.hid hJ
  have HY := Lib.hid hY
  clear hr hJ hY
  refine callsIn_of_wp Tryz.func51 rfl trivial ?_ rfl
  simp only [Tryz.ntmps51, List.size_toArray, List.length_cons, List.length_nil, Nat.reduceAdd, Nat.reduceSub, Array.replicate_succ, Array.replicate_zero, List.push_toArray, List.append_toArray, List.nil_append, List.cons_append]
  refine (wpIn_wide (n := n)).2 ?_
  go_wp2
  refine (wpIn_wide (n := n)).1 ?_
  gi_loopw [4, 5, 8] (fun _ _ i wr => ∃ k : Nat, k ≤ xs.length ∧ i = .int .i64 k ∧ J (sidesL xs k) wr ∧ wr.heap[g]? = w.heap[g]?) (fun _ _ i _ => xs.length - (intOf i).toNat)
  case atStart => exact ⟨0, Nat.zero_le _, rfl, h0, hW.block g hg⟩
  case round =>
    obtain ⟨k, hk, rfl, hJk, hbel⟩ := hrel
    by_cases hlt : k < xs.length
    · have hkz : (k : Int) < (xs.length : Int) := by omega
      have hk0 : (0 : Int) ≤ (k : Int) := by omega
      obtain ⟨r, hrr⟩ : ∃ r, (k + 1) % xs.length = r := ⟨_, rfl⟩
      have hrl : r < xs.length := by rw [← hrr]; exact Nat.mod_lt _ (by omega)
      have q1 : IntKind.i64.wrap ((k : Int) + 1) = (k : Int) + 1 := by rw [IntKind.wrap_i64]; omega
      have q2 : ((k : Int) + 1).tmod (xs.length : Int) = (r : Int) := by
        rw [Int.tmod_eq_emod_of_nonneg (by omega), ← hrr]; simp
      have q3 : IntKind.i64.wrap (r : Int) = (r : Int) := by rw [IntKind.wrap_i64]; omega
      have q4 : ¬ (xs.length : Int) = 0 := by omega
      have q4c : ¬ xs = [] := by rintro rfl; simp at h1
      have q4b : ((xs.length : Int) == 0) = false := by simpa using q4c
      have q5 : (r : Int) < (xs.length : Int) := by omega
      have q6 : (0 : Int) ≤ (r : Int) := by omega
      have HE1 := Lib.hid (cells_part encV_ok (cells_same HR.out hbel) (at_get hlt))
      have HNX := Lib.hid (sidesL_next xs k)
      have HSP := Lib.hid (sidesL_split xs hlt)
      rw [hrr] at HNX HSP
      have HRY := Lib.hid (at_get hrl)
      clear hrr
      refine (wpIn_wide (n := n)).2 ?_
      go_upto_region 3 with (first | (refine load_part (T := 82) (f := (at' xs k).up) rfl rfl rfl HE1.out Tryz.underlying82 rfl info_exact ?_) | (refine store_new (ty := 82) (f' := (at' xs k).up) rfl rfl rfl rfl zero8 info_exact ?_))
      show Code.wp _ _ _ _ (wr.alloc (.cells (vec 8 (at' xs k).up) 82))
      have hC := (RowAt.new wr 8 82 (at' xs k).up).drew1
      have hJ1 := HJ.out _ _ _ hJk (((Below.refl wr.heap.size wr).alloc (Nat.le_refl _) (.cells (vec 8 (at' xs k).up) 82)).drew)
      have hB1 : (wr.alloc (.cells (vec 8 (at' xs k).up) 82)).drew.heap[g]? = w.heap[g]? := ((((Below.refl wr.heap.size wr).alloc (Nat.le_refl _) (.cells (vec 8 (at' xs k).up) 82)).drew).block g (lt_same hg hbel)).trans hbel
      have HE2 := Lib.hid (cells_part encV_ok (cells_same HR.out hB1) HRY.out)
      obtain ⟨fn, tm, asg, body, hy, hRd⟩ := HY.out (sidesL xs k) (at' xs k, at' xs r) _ HSP.out hJ1
      clear hJ1 hJk hbel HE1 HRY
      dsimp only [encS] at hy
      generalize (wr.alloc (.cells (vec 8 (at' xs k).up) 82)) = W1 at *
      generalize at' xs k = x at *
      generalize at' xs r = y at *
      generalize wr.heap.size = gc at *
      have hside := run_side x.up y.up
      have HRD := Lib.hid hRd
      clear hRd
      refine (wpIn_wide (n := n)).1 ?_
      refine wpIn_region_any (by kernel_rfl) ?_
      show wpAnyIn _ _ _ _ _ _ _ _ _ W1.drew
      refine wpAnyIn_take (i := 0) (oi := _) (v := .func (.yield l) #[] #[]) rfl rfl (by kernel_rfl) (by kernel_rfl) (by kernel_rfl) (fun _ _ _ h => h) ⟨Or.inl ⟨by rfl, fun w => by go_simp⟩, fun w => rfl⟩ ?_
      try simp only [Act.put, List.setIfInBounds_toArray, List.set_cons_zero, List.set_cons_succ, List.getElem_toArray, List.getElem_cons_succ, List.getElem_cons_zero]
      refine wpAnyIn_take (i := 2) (oi := _) (v := .slice (some ⟨g, o, none⟩) xs.length cap) rfl rfl (by kernel_rfl) (by kernel_rfl) (by kernel_rfl) (fun _ _ _ h => h) ⟨Or.inl ⟨by rfl, fun w => by go_simp⟩, fun w => rfl⟩ ?_
      try simp only [Act.put, List.setIfInBounds_toArray, List.set_cons_zero, List.set_cons_succ, List.getElem_toArray, List.getElem_cons_succ, List.getElem_cons_zero]
      refine wpAnyIn_take (i := 3) (oi := _) (v := .int .i64 k) rfl rfl (by kernel_rfl) (by kernel_rfl) (by kernel_rfl) (fun _ _ _ h => h) ⟨Or.inl ⟨by rfl, fun w => by go_simp⟩, fun w => rfl⟩ ?_
      try simp only [Act.put, List.setIfInBounds_toArray, List.set_cons_zero, List.set_cons_succ, List.getElem_toArray, List.getElem_cons_succ, List.getElem_cons_zero]
      refine wpAnyIn_take (i := 4) (oi := _) (v := .int .i64 ((k : Int) + 1)) rfl rfl (by kernel_rfl) (by kernel_rfl) (by kernel_rfl) (fun _ _ _ h => h) ⟨Or.inl ⟨by rfl, fun w => by go_simp⟩, fun w => rfl⟩ ?_
      try simp only [Act.put, List.setIfInBounds_toArray, List.set_cons_zero, List.set_cons_succ, List.getElem_toArray, List.getElem_cons_succ, List.getElem_cons_zero]
      refine wpAnyIn_take (i := 5) (oi := _) (v := .slice (some ⟨g, o, none⟩) xs.length cap) rfl rfl (by kernel_rfl) (by kernel_rfl) (by kernel_rfl) (fun _ _ _ h => h) ⟨Or.inl ⟨by rfl, fun w => by go_simp⟩, fun w => rfl⟩ ?_
      try simp only [Act.put, List.setIfInBounds_toArray, List.set_cons_zero, List.set_cons_succ, List.getElem_toArray, List.getElem_cons_succ, List.getElem_cons_zero]
      refine wpAnyIn_take (i := 6) (oi := _) (v := .int .i64 xs.length) rfl rfl (by kernel_rfl) (by kernel_rfl) (by kernel_rfl) (fun _ _ _ h => h) ⟨Or.inl ⟨by rfl, fun w => by go_simp⟩, fun w => rfl⟩ ?_
      try simp only [Act.put, List.setIfInBounds_toArray, List.set_cons_zero, List.set_cons_succ, List.getElem_toArray, List.getElem_cons_succ, List.getElem_cons_zero]
      refine wpAnyIn_take (i := 7) (oi := _) (v := .int .i64 r) rfl rfl (by kernel_rfl) (by kernel_rfl) (by kernel_rfl) (fun _ _ _ h => h) ⟨Or.inl ⟨by rfl, fun w => by go_simp⟩, fun w => rfl⟩ ?_
      try simp only [Act.put, List.setIfInBounds_toArray, List.set_cons_zero, List.set_cons_succ, List.getElem_toArray, List.getElem_cons_succ, List.getElem_cons_zero]
      refine wpAnyIn_take (i := 8) (oi := _) (v := .pointer (some ⟨g, o + r * 8, none⟩)) rfl rfl (by kernel_rfl) (by kernel_rfl) (by kernel_rfl) (fun _ _ _ h => h) ⟨Or.inl ⟨by rfl, fun w => by go_simp⟩, fun w => rfl⟩ ?_
      try simp only [Act.put, List.setIfInBounds_toArray, List.set_cons_zero, List.set_cons_succ, List.getElem_toArray, List.getElem_cons_succ, List.getElem_cons_zero]
      refine wpAnyIn_ready (rs := [1, 9]) (by kernel_rfl) (by simp) ?_
      refine AllReadyIn.cons (o := _) rfl (fun K hK => ?_) (AllReadyIn.cons (o := _) rfl (fun K hK => ?_) AllReadyIn.nil)
      · rw [if_pos (by rfl)]
        refine wp_wide _ ?_
        refine wp_load_mid 82 _ rfl gc 0 rfl (lst 8 x.up) _ hC.range Tryz.underlying82 rfl (by rw [lst_length]; exact info_exact) ?_
        refine hK _ _ ?_
        clear hK K
        try simp only [Act.put, List.setIfInBounds_toArray, List.set_cons_zero, List.set_cons_succ, List.getElem_toArray, List.getElem_cons_succ, List.getElem_cons_zero]
        refine wpAnyIn_ready (rs := [9]) (by kernel_rfl) (by simp) ?_
        refine AllReadyIn.cons (o := _) rfl (fun K hK => ?_) AllReadyIn.nil
        rw [if_pos (by rfl)]
        refine wp_wide _ ?_
        refine wp_load_mid 82 _ rfl g (o + r * 8) rfl (lst 8 y.up) _ HE2.out Tryz.underlying82 rfl (by rw [lst_length]; exact info_exact) ?_
        refine hK _ _ ?_
        clear hK K
        try simp only [Act.put, List.setIfInBounds_toArray, List.set_cons_zero, List.set_cons_succ, List.getElem_toArray, List.getElem_cons_succ, List.getElem_cons_zero]
        refine wpAnyIn_take (i := 10) (oi := _) (v := .agg (vec 16 (sd x.up y.up))) rfl rfl (by kernel_rfl) (by kernel_rfl) (by kernel_rfl) (fun _ _ _ h => h) ⟨Or.inl ⟨by rfl, fun w => exec_side rfl rfl rfl w⟩, fun w => rfl⟩ ?_
        try simp only [Act.put, List.setIfInBounds_toArray, List.set_cons_zero, List.set_cons_succ, List.getElem_toArray, List.getElem_cons_succ, List.getElem_cons_zero]
        refine wpAnyIn_ready (rs := [11]) (by kernel_rfl) (by simp) ?_
        refine AllReadyIn.cons (o := _) rfl (fun K hK => ?_) AllReadyIn.nil
        rw [if_pos (by rfl)]
        go_simp
        refine HRD.out.mono ?_; rintro e W3 (⟨rfl, hJ3, hk3⟩ | ⟨rfl, hx3⟩)
        · refine hK _ _ ?_
          clear hK K
          try simp only [Act.put, List.setIfInBounds_toArray, List.set_cons_zero, List.set_cons_succ, List.getElem_toArray, List.getElem_cons_succ, List.getElem_cons_zero]
          refine wpAnyIn_take (i := 12) (oi := _) (v := .bool false) rfl rfl (by kernel_rfl) (by kernel_rfl) (by kernel_rfl) (fun _ _ _ h => h) ⟨Or.inl ⟨by rfl, fun w => by go_simp⟩, fun w => rfl⟩ ?_
          try simp only [Act.put, List.setIfInBounds_toArray, List.set_cons_zero, List.set_cons_succ, List.getElem_toArray, List.getElem_cons_succ, List.getElem_cons_zero]
          refine wpAnyIn_done (by kernel_rfl) ?_ _
          have hJ4 : J (sidesL xs (k + 1)) W3 := by rw [HNX.out]; exact hJ3
          have hB4 := hk3.trans hB1
          go_wp2
          go_roundw
          case rel => exact ⟨k + 1, by omega, by go_num, hJ4, hB4⟩
          case measure => simp [intOf]; omega
        · refine hK _ _ ?_
          clear hK K
          try simp only [Act.put, List.setIfInBounds_toArray, List.set_cons_zero, List.set_cons_succ, List.getElem_toArray, List.getElem_cons_succ, List.getElem_cons_zero]
          refine wpAnyIn_take (i := 12) (oi := _) (v := .bool true) rfl rfl (by kernel_rfl) (by kernel_rfl) (by kernel_rfl) (fun _ _ _ h => h) ⟨Or.inl ⟨by rfl, fun w => by go_simp⟩, fun w => rfl⟩ ?_
          try simp only [Act.put, List.setIfInBounds_toArray, List.set_cons_zero, List.set_cons_succ, List.getElem_toArray, List.getElem_cons_succ, List.getElem_cons_zero]
          refine wpAnyIn_done (by kernel_rfl) ?_ _
          go_wp2
          refine bodyPost_ret (results_none rfl _ _ _) rfl ?_
          exact ⟨⟨_, rfl⟩, .inr ⟨_, _, HSP.out, hx3⟩⟩
      · rw [if_pos (by rfl)]
        refine wp_wide _ ?_
        refine wp_load_mid 82 _ rfl g (o + r * 8) rfl (lst 8 y.up) _ HE2.out Tryz.underlying82 rfl (by rw [lst_length]; exact info_exact) ?_
        refine hK _ _ ?_
        clear hK K
        try simp only [Act.put, List.setIfInBounds_toArray, List.set_cons_zero, List.set_cons_succ, List.getElem_toArray, List.getElem_cons_succ, List.getElem_cons_zero]
        refine wpAnyIn_ready (rs := [1]) (by kernel_rfl) (by simp) ?_
        refine AllReadyIn.cons (o := _) rfl (fun K hK => ?_) AllReadyIn.nil
        rw [if_pos (by rfl)]
        refine wp_wide _ ?_
        refine wp_load_mid 82 _ rfl gc 0 rfl (lst 8 x.up) _ hC.range Tryz.underlying82 rfl (by rw [lst_length]; exact info_exact) ?_
        refine hK _ _ ?_
        clear hK K
        try simp only [Act.put, List.setIfInBounds_toArray, List.set_cons_zero, List.set_cons_succ, List.getElem_toArray, List.getElem_cons_succ, List.getElem_cons_zero]
        refine wpAnyIn_take (i := 10) (oi := _) (v := .agg (vec 16 (sd x.up y.up))) rfl rfl (by kernel_rfl) (by kernel_rfl) (by kernel_rfl) (fun _ _ _ h => h) ⟨Or.inl ⟨by rfl, fun w => exec_side rfl rfl rfl w⟩, fun w => rfl⟩ ?_
        try simp only [Act.put, List.setIfInBounds_toArray, List.set_cons_zero, List.set_cons_succ, List.getElem_toArray, List.getElem_cons_succ, List.getElem_cons_zero]
        refine wpAnyIn_ready (rs := [11]) (by kernel_rfl) (by simp) ?_
        refine AllReadyIn.cons (o := _) rfl (fun K hK => ?_) AllReadyIn.nil
        rw [if_pos (by rfl)]
        go_simp
        refine HRD.out.mono ?_; rintro e W3 (⟨rfl, hJ3, hk3⟩ | ⟨rfl, hx3⟩)
        · refine hK _ _ ?_
          clear hK K
          try simp only [Act.put, List.setIfInBounds_toArray, List.set_cons_zero, List.set_cons_succ, List.getElem_toArray, List.getElem_cons_succ, List.getElem_cons_zero]
          refine wpAnyIn_take (i := 12) (oi := _) (v := .bool false) rfl rfl (by kernel_rfl) (by kernel_rfl) (by kernel_rfl) (fun _ _ _ h => h) ⟨Or.inl ⟨by rfl, fun w => by go_simp⟩, fun w => rfl⟩ ?_
          try simp only [Act.put, List.setIfInBounds_toArray, List.set_cons_zero, List.set_cons_succ, List.getElem_toArray, List.getElem_cons_succ, List.getElem_cons_zero]
          refine wpAnyIn_done (by kernel_rfl) ?_ _
          have hJ4 : J (sidesL xs (k + 1)) W3 := by rw [HNX.out]; exact hJ3
          have hB4 := hk3.trans hB1
          go_wp2
          go_roundw
          case rel => exact ⟨k + 1, by omega, by go_num, hJ4, hB4⟩
          case measure => simp [intOf]; omega
        · refine hK _ _ ?_
          clear hK K
          try simp only [Act.put, List.setIfInBounds_toArray, List.set_cons_zero, List.set_cons_succ, List.getElem_toArray, List.getElem_cons_succ, List.getElem_cons_zero]
          refine wpAnyIn_take (i := 12) (oi := _) (v := .bool true) rfl rfl (by kernel_rfl) (by kernel_rfl) (by kernel_rfl) (fun _ _ _ h => h) ⟨Or.inl ⟨by rfl, fun w => by go_simp⟩, fun w => rfl⟩ ?_
          try simp only [Act.put, List.setIfInBounds_toArray, List.set_cons_zero, List.set_cons_succ, List.getElem_toArray, List.getElem_cons_succ, List.getElem_cons_zero]
          refine wpAnyIn_done (by kernel_rfl) ?_ _
          go_wp2
          refine bodyPost_ret (results_none rfl _ _ _) rfl ?_
          exact ⟨⟨_, rfl⟩, .inr ⟨_, _, HSP.out, hx3⟩⟩
    · obtain rfl : k = xs.length := by omega
      gi_wp2
      go_end0
      exact ⟨⟨_, rfl⟩, .inl hJk⟩

end Go.Proofs.YtdpakhggpgdgbaaGreat
/- Out of the text PolyF: what the draws of polygons need. -/
namespace Go.Proofs.YtdpakhggpgdgbaaGreat
set_option maxRecDepth 20000
open Go.ChangeShapes Go.WideShapes Go.ChangeAt Go.RowKit
set_option linter.unusedVariables false
set_option linter.unusedSimpArgs false
attribute [local go_sem] Oper.semAt_some
/-- One cell of the call's own. -/
def CellAt (W : World) (g : Nat) (v : Value) : Prop := W.cell? ⟨g, 0, none⟩ = some v ∧ W.frozen? ⟨g, 0, none⟩ = false
theorem CellAt.below {W W' : World} {g B : Nat} {v : Value} (h : CellAt W g v) (hg : g < B) (hb : Below B W W') : CellAt W' g v :=
  ⟨(hb.cell (p := ⟨g, 0, none⟩) hg).trans h.1, (hb.frozen (p := ⟨g, 0, none⟩) hg).trans h.2⟩
theorem CellAt.new (w : World) (v : Value) (T : TypeId) : CellAt (w.alloc (.cells #[v] T)) w.heap.size v :=
  ⟨by rw [cell_of_row _ _ _ _ _ _ (heap_alloc_new w _)]; rfl, frozen_of_row _ _ _ _ _ (heap_alloc_new w _)⟩
theorem CellAt.set {W : World} {g : Nat} {v : Value} (h : CellAt W g v) (u : Value) : CellAt (W.setCell ⟨g, 0, none⟩ u) g u :=
  ⟨World.cell?_setCell_same' _ _ _ (by rw [h.1]; rfl), by rw [World.frozen?_setCell]; exact h.2⟩
theorem results_cell {P : Program} {fn : Func} {p : Tmp} {ty : TypeId} {tmps : Array Value} {w : World} {g : Nat} {v : Value} (h : fn.results = #[.cell p ty]) (hp : tmps.getD p undef = .pointer (some ⟨g, 0, none⟩)) (hg : w.cell? ⟨g, 0, none⟩ = some v)
    (hu : P.underlying ty = some .bool) : (results fn tmps).run P w = .ok v w := by
  have hp' : tmps[p]?.getD undef = .pointer (some ⟨g, 0, none⟩) := by simpa using hp
  simp [results, h, hp', asAddr, go_sem, isAgg, run_underlying hu, hg]
theorem not_lets {K : Act → World → Prop} : ¬ LetsOut (Exit.then K (fun _ _ _ => False)) := by rintro ⟨_, _, h⟩; exact h

theorem zero16 : (#[.int .i64 0, .int .i64 0, .int .i64 0, .int .i64 0, .int .i64 0, .int .i64 0, .int .i64 0, .int .i64 0, .int .i64 0, .int .i64 0, .int .i64 0, .int .i64 0, .int .i64 0, .int .i64 0, .int .i64 0, .int .i64 0] : Array Value) = vec 16 (fun _ => 0) := rfl
theorem sides_bound {xs : List V} {M : Nat} (h1 : 1 ≤ xs.length) (hs : ∀ x ∈ xs, ∀ j, j < 8 → -(M : Int) ≤ x.up j ∧ x.up j ≤ (M : Int)) {pre : List (V × V)} {x : V × V} (hx : ∃ rest, sidesL xs xs.length = pre ++ x :: rest) :
    (∀ j, j < 8 → -(M : Int) ≤ x.1.up j ∧ x.1.up j ≤ (M : Int)) ∧ (∀ j, j < 8 → -(M : Int) ≤ x.2.up j ∧ x.2.up j ≤ (M : Int)) := by
  obtain ⟨rest, e⟩ := hx
  have hm : x ∈ sidesL xs xs.length := by rw [e]; simp
  unfold sidesL at hm
  obtain ⟨i, hi, rfl⟩ := List.mem_map.1 hm
  have hi := List.mem_range.1 hi
  exact ⟨hs _ (List.mem_of_getElem? (at_get hi)), hs _ (List.mem_of_getElem? (at_get (Nat.mod_lt _ (by omega))))⟩
def meetS' (s : V × V) : Bool := onS (qv s.1.up) (qv s.2.up)
def meetL (xs : List V) : Bool := (sidesL xs xs.length).any meetS'

set_option maxHeartbeats 4000000 in
theorem meetsZero_any (v : Value) (xs : List V) (w : World) (hv : ReadsL encV w v xs) (h1 : 1 ≤ xs.length) (h48 : xs.length ≤ 48) (hs : ∀ x ∈ xs, ∀ j, j < 8 → -((200 : Nat) : Int) ≤ x.up j ∧ x.up j ≤ ((200 : Nat) : Int)) :
    Calls Tryz.prog 42 #[v] w fun e w' => e = .returned (.bool (meetL xs)) ∧ Below w.heap.size w w' := by
  obtain ⟨g, o, cap, rfl, hc1, hc2, hg, hr⟩ := reads_ptr8 hv (by rintro rfl; simp at h1)
  have G := sides_gives g o cap xs (3 - 1) (by omega) w hg hr hc1 hc2 h1 h48
  clear hv hr hc2
  have HS := Lib.hid hs
  clear hs
  refine (callsIn_wide (n := 3)).1 (callsIn_of_wp_marks Tryz.func42 rfl trivial ?_ rfl)
  refine (wpIn_wide (n := 3)).2 ?_
  simp only [Tryz.ntmps42, List.size_toArray, List.length_cons, List.length_nil, Nat.reduceAdd, Nat.reduceSub, Array.replicate_succ, Array.replicate_zero, List.push_toArray, List.append_toArray, List.nil_append, List.cons_append]
  go_wp2
  show Code.wp _ _ _ _ (w.alloc (.cells #[.bool false] 4))
  have hC0 := CellAt.new w (.bool false) 4
  have hB0 := (Below.refl w.heap.size w).alloc (Nat.le_refl _) (.cells #[.bool false] 4)
  have hsz : (w.alloc (.cells #[.bool false] 4)).heap.size = w.heap.size + 1 := by simp
  generalize w.alloc (.cells #[.bool false] 4) = W0 at *
  refine (wpIn_wide (n := 3)).1 ?_
  refine range_bound (by omega) rfl (enters_of Tryz.func51 (by kernel_rfl) rfl) G hB0 (by omega) (fun _ => rfl)
    (fun pre W => (CellAt W w.heap.size (.bool false) ∧ ∀ x ∈ pre, meetS' x = false) ∧ Below w.heap.size w W)
    (fun c pre W => (c = .ret ∧ CellAt W w.heap.size (.bool true) ∧ ∃ x ∈ pre, meetS' x = true) ∧ Below w.heap.size w W)
    (fun pre A C h hb => ⟨⟨h.1.1.below (by omega) hb, h.1.2⟩, h.2.trans (hb.mono (by omega))⟩)
    (fun c pre A C h hb => ⟨⟨h.1.1, h.1.2.1.below (by omega) hb, h.1.2.2⟩, h.2.trans (hb.mono (by omega))⟩)
    ⟨⟨hC0, fun x hx => by cases hx⟩, hB0⟩
    (fun x a' W => ∃ Bx, W0.heap.size + 1 < Bx ∧ RowAt W Bx 16 89 (sd x.1.up x.2.up) ∧ a' = { tmps := #[.slice (some ⟨g, o, none⟩) xs.length cap, undef, .pointer (some ⟨w.heap.size, 0, none⟩), .pointer (some ⟨Bx, 0, none⟩), .slice (some ⟨g, o, none⟩) xs.length cap, .func (.func 51) #[.slice (some ⟨g, o, none⟩) xs.length cap] #[], st x.1.up x.2.up, undef, undef], defers := [] })
    (fun x a' A C h hb => by obtain ⟨Bx, h2, h3, h4⟩ := h; exact ⟨Bx, h2, h3.below hb, h4⟩)
    (fun x a' A r o h hl => by
      obtain ⟨Bx, h2, h3, h4⟩ := h
      exact ⟨Bx, h2, (World.putObj_heap_other (by omega)).trans h3, h4⟩)
    ?assign ?body ?done ?stop
  case assign =>
    intro l x A K hlt hK
    dsimp only [encS]
    have ss := vec_size 16 (sd x.1.up x.2.up)
    gi_upto_region 2 with fail
    refine region_in not_lets rfl ?_
    go_wp2_with (refine store_new (ty := 89) (f' := sd x.1.up x.2.up) rfl rfl rfl rfl zero16 info_side ?_)
    exact hK _ _ ((Below.refl _ _).alloc (Nat.le_refl _) _) ⟨A.heap.size, hlt, RowAt.new A 16 89 _, rfl⟩
  case body =>
    rintro l pre x a' A hx hlt ⟨⟨hC, hno⟩, hB⟩ ⟨Bx, hBx, hX, rfl⟩
    obtain ⟨b1, b2⟩ := sides_bound h1 HS.out hx
    have M := fun w => sideMeets_any x.1.up x.2.up b1 b2 w
    obtain ⟨q, hq⟩ : ∃ q, meetS' x = q := ⟨_, rfl⟩
    have hq2 : onS (qv x.1.up) (qv x.2.up) = q := hq
    rw [hq2] at M
    have HNO := Lib.hid hno
    have HB := Lib.hid hB
    clear hno hB b1 b2
    gi_upto_region 3 with fail
    refine region_in (by rintro ⟨_, _, h⟩; exact h) rfl ?_
    go_wp2_with (refine load_row (g := Bx) rfl rfl rfl hX Tryz.underlying89 rfl info_side ?_)
    refine (M _).mono ?_; rintro e C ⟨rfl, hb⟩
    have hC2 := hC.below (show w.heap.size < A.heap.size by omega) hb
    have HK := Lib.hid (keeps_below hb)
    have HB2 := Lib.hid (HB.out.trans (hb.mono (by omega)))
    have HBW := Lib.hid (hb.block g (by omega))
    clear hX M hC hb
    cases q
    · go_wp2
      gi_wp2
      exact ⟨HK.out.from _, HBW.out, ⟨hC2, fun y hy => (List.mem_append.1 hy).elim (HNO.out y) fun h => by rw [List.mem_singleton.1 h]; exact hq⟩, HB2.out⟩
    · have c1 := hC2.1
      have f1 := hC2.2
      go_wp2
      gi_wp2
      exact ⟨(HK.out.trans (KeepsOthers.setCell _ _ _)).from _, ⟨rfl, hC2.set _, x, by simp, hq⟩, HB2.out.setCell (p := ⟨w.heap.size, 0, none⟩) (Nat.le_refl _) _⟩
  case done =>
    rintro D W hD ⟨⟨hC, hno⟩, hB⟩ hK
    have c1 := hC.1
    have f1 := hC.2
    have HM : Aside (meetL xs = false) := (show _ = _ from List.any_eq_false.2 fun x hx => by rw [hno x hx]; decide)
    have HB := Lib.hid hB
    clear hno hB
    go_wp2
    have hC2 := hC.set (.bool false)
    have hK2 := (KeepsOthers.setCell W ⟨w.heap.size, 0, none⟩ (.bool false)).same D _ hK rfl
    refine ⟨by simp, .inl ⟨_, _, rfl, run_takeDeferred hK2, ?_⟩⟩
    exact ⟨_, results_cell rfl rfl (cell_kept hC2.1 (grownBy_putObj' _ D (.deferred none)) (fun r e => by cases e; exact ⟨_, hK2, rfl⟩)) (by kernel_rfl), by rw [HM.out], (HB.out.setCell (p := ⟨w.heap.size, 0, none⟩) (Nat.le_refl _) _).trans (below_put (by omega) hK2)⟩
  case stop =>
    rintro D c pre x W hD hx ⟨⟨rfl, hC, hyes⟩, hB⟩ hK
    have c1 := hC.1
    have f1 := hC.2
    have HB := Lib.hid hB
    have HM : Aside (meetL xs = true) := (show _ = _ from by
      obtain ⟨y, hy, hm⟩ := hyes
      obtain ⟨rest, e⟩ := hx
      unfold meetL
      rw [e]
      refine List.any_eq_true.2 ⟨y, ?_, hm⟩
      rcases List.mem_append.1 hy with h | h
      · exact List.mem_append_left _ h
      · rw [List.mem_singleton.1 h]; simp)
    clear hB hyes hx
    gi_wp2
    refine ⟨by simp, .inl ⟨_, _, rfl, run_takeDeferred hK, ?_⟩⟩
    exact ⟨_, results_cell rfl rfl (cell_kept hC.1 (grownBy_putObj' _ D (.deferred none)) (fun r e => by cases e; exact ⟨_, hK, rfl⟩)) (by kernel_rfl), by rw [HM.out], HB.out.trans (below_put (by omega) hK)⟩

def windW (s : V × V) : Int := wn (qv s.1.up) (qv s.2.up)
def windS (pre : List (V × V)) : Int := (pre.map windW).sum
theorem windS_next (pre : List (V × V)) (x : V × V) : windS (pre ++ [x]) = windS pre + windW x := by simp [windS]
theorem windW_small (x : V × V) : -1 ≤ windW x ∧ windW x ≤ 1 := by
  unfold windW wn
  split
  · omega
  · split <;> omega
theorem windS_small : ∀ pre : List (V × V), -(pre.length : Int) ≤ windS pre ∧ windS pre ≤ (pre.length : Int)
  | [] => by simp [windS]
  | x :: pre => by
    have h1 := windS_small pre
    have h2 := windW_small x
    have e : windS (x :: pre) = windW x + windS pre := by simp [windS]
    rw [e, List.length_cons]
    omega
/-- What is told of a winding. -/
def windL (xs : List V) : Option Int := if meetL xs then none else some (windS (sidesL xs xs.length))
def toldZ (o : Option Int) : Value := .tuple #[.int .i64 (o.getD 0), .bool o.isSome]
set_option maxHeartbeats 4000000 in
theorem winding_any (v : Value) (xs : List V) (w : World) (hv : ReadsL encV w v xs) (h1 : 1 ≤ xs.length) (h48 : xs.length ≤ 48) (hs : ∀ x ∈ xs, ∀ j, j < 8 → -((200 : Nat) : Int) ≤ x.up j ∧ x.up j ≤ ((200 : Nat) : Int)) :
    Calls Tryz.prog 34 #[v] w fun e w' => e = .returned (toldZ (windL xs)) ∧ Below w.heap.size w w' := by
  have MZ := meetsZero_any v xs w hv h1 h48 hs
  obtain ⟨g, o, cap, rfl, hc1, hc2, hg, hr⟩ := reads_ptr8 hv (by rintro rfl; simp at h1)
  have HR := Lib.hid hr
  have HS := Lib.hid hs
  clear hs hv hr
  cases hm : meetL xs
  case true =>
    have hF : windL xs = none := by unfold windL; rw [hm]; rfl
    rw [hF]
    rw [hm] at MZ
    clear hF
    go_enter Tryz.func34, Tryz.ntmps34
    go_wp2_with fail
    refine MZ.mono ?_; rintro e w1 ⟨rfl, hb1⟩
    clear MZ
    go_wp2
    go_ret2
    exact ⟨rfl, hb1⟩
  case false =>
  have hF : windL xs = some (windS (sidesL xs xs.length)) := by unfold windL; rw [hm]; rfl
  rw [hF]
  rw [hm] at MZ
  clear hF hm
  refine (callsIn_wide (n := 3)).1 (callsIn_of_wp_marks Tryz.func34 rfl trivial ?_ rfl)
  refine (wpIn_wide (n := 3)).2 ?_
  simp only [Tryz.ntmps34, List.size_toArray, List.length_cons, List.length_nil, Nat.reduceAdd, Nat.reduceSub, Array.replicate_succ, Array.replicate_zero, List.push_toArray, List.append_toArray, List.nil_append, List.cons_append]
  go_wp2_with fail
  refine MZ.mono ?_; rintro e w1 ⟨rfl, hb1⟩
  have G := sides_gives g o cap xs (3 - 1) (by omega) w1 (Nat.lt_of_lt_of_le hg hb1.size) (cells_below HR.out hg hb1) hc1 hc2 h1 h48
  clear hc2
  have HB1 := Lib.hid hb1
  have hz1 := hb1.size
  clear MZ hb1
  go_wp2
  show Code.wp _ _ _ _ (w1.alloc (.cells #[.int .i64 0] 3))
  have hC0 := CellAt.new w1 (.int .i64 0) 3
  have hB0 := (Below.refl w1.heap.size w1).alloc (Nat.le_refl _) (.cells #[.int .i64 0] 3)
  have hsz : (w1.alloc (.cells #[.int .i64 0] 3)).heap.size = w1.heap.size + 1 := by simp
  generalize w1.alloc (.cells #[.int .i64 0] 3) = W0 at *
  refine (wpIn_wide (n := 3)).1 ?_
  refine range_bound (by omega) rfl (enters_of Tryz.func51 (by kernel_rfl) rfl) G hB0 (by omega) (fun _ => rfl)
    (fun pre W => CellAt W w1.heap.size (.int .i64 (windS pre)) ∧ Below w1.heap.size w1 W)
    (fun c pre W => False)
    (fun pre A C h hb => ⟨h.1.below (by omega) hb, h.2.trans (hb.mono (by omega))⟩)
    (fun c pre A C h hb => h)
    ⟨hC0, hB0⟩
    (fun x a' W => ∃ Bx, W0.heap.size + 1 < Bx ∧ RowAt W Bx 16 89 (sd x.1.up x.2.up) ∧ a' = { tmps := #[.slice (some ⟨g, o, none⟩) xs.length cap, undef, .int .i64 0, .bool false, .pointer (some ⟨w1.heap.size, 0, none⟩), .pointer (some ⟨Bx, 0, none⟩), .slice (some ⟨g, o, none⟩) xs.length cap, .bool false, .slice (some ⟨g, o, none⟩) xs.length cap, .func (.func 51) #[.slice (some ⟨g, o, none⟩) xs.length cap] #[], st x.1.up x.2.up, undef, undef, undef, undef, undef], defers := [] })
    (fun x a' A C h hb => by obtain ⟨Bx, h2, h3, h4⟩ := h; exact ⟨Bx, h2, h3.below hb, h4⟩)
    (fun x a' A r o h hl => by
      obtain ⟨Bx, h2, h3, h4⟩ := h
      exact ⟨Bx, h2, (World.putObj_heap_other (by omega)).trans h3, h4⟩)
    ?assign ?body ?done ?stop
  case assign =>
    intro l x A K hlt hK
    dsimp only [encS]
    have ss := vec_size 16 (sd x.1.up x.2.up)
    gi_upto_region 5 with fail
    refine region_in not_lets rfl ?_
    go_wp2_with (refine store_new (ty := 89) (f' := sd x.1.up x.2.up) rfl rfl rfl rfl zero16 info_side ?_)
    exact hK _ _ ((Below.refl _ _).alloc (Nat.le_refl _) _) ⟨A.heap.size, hlt, RowAt.new A 16 89 _, rfl⟩
  case body =>
    rintro l pre x a' A hx hlt ⟨hC, hB⟩ ⟨Bx, hBx, hX, rfl⟩
    obtain ⟨b1, b2⟩ := sides_bound h1 HS.out hx
    have M := fun w => sidePassing_any x.1.up x.2.up b1 b2 w
    have hlen : pre.length ≤ 48 := by
      obtain ⟨rest, e⟩ := hx
      have := congrArg List.length e
      rw [sidesL_len] at this
      simp at this
      omega
    have hn1 := windS_small pre
    have hn2 := windW_small x
    have hq2 : wn (qv x.1.up) (qv x.2.up) = windW x := rfl
    rw [hq2] at M
    have HN := Lib.hid (windS_next pre x)
    generalize windS pre = n1 at *
    generalize windW x = n2 at *
    obtain ⟨n3, hn3⟩ : ∃ n3, n1 + n2 = n3 := ⟨_, rfl⟩
    have hw3 : IntKind.i64.wrap n3 = n3 := by rw [IntKind.wrap_i64]; omega
    have HN2 : Aside (windS (pre ++ [x]) = n3) := (show _ = _ from by rw [HN.out, hn3])
    have HB := Lib.hid hB
    clear hB b1 b2 HN hn1 hn2 hx hlen
    gi_upto_region 6 with fail
    have hC1 : CellAt A.drew w1.heap.size (.int .i64 n1) := hC
    refine drawn_in (S := fun W => RowAt W Bx 16 89 (sd x.1.up x.2.up) ∧ ∃ m, CellAt W w1.heap.size (.int .i64 m)) (by rintro ⟨_, _, h⟩; exact h) (by rfl) (by kernel_rfl) ⟨hX.drew1, n1, hC1⟩ (fun hHeld => ?_)
    clear hX hC
    refine wpAnyH_take (i := 1) (oi := _) (v := .agg (vec 16 (sd x.1.up x.2.up))) rfl (by kernel_rfl) (by kernel_rfl) (by kernel_rfl) (fun _ _ _ h => h) (yieldsIf_load_mid (by rfl) _ _ rfl _ _ rfl _ _ ((fun w h => h.1.range)) Tryz.underlying89 rfl (size_side (sd x.1.up x.2.up))) hHeld ?_
    try simp only [Act.put, List.setIfInBounds_toArray, List.set_cons_zero, List.set_cons_succ, List.getElem_toArray, List.getElem_cons_succ, List.getElem_cons_zero]
    refine wpAnyH_ready (rs := [0, 2]) (by kernel_rfl) (by simp) ?_
    refine AllReadyH.cons (o := _) rfl (fun K hK => ?_) (AllReadyH.cons (o := _) rfl (fun K hK => ?_) AllReadyH.nil)
    · have hcell := hC1.1
      go_simp
      refine hK.out _ _ hHeld (fun hHeld => ?_)
      clear hK K hcell
      try simp only [Act.put, List.setIfInBounds_toArray, List.set_cons_zero, List.set_cons_succ, List.getElem_toArray, List.getElem_cons_succ, List.getElem_cons_zero]
      refine wpAnyH_ready (rs := [2]) (by kernel_rfl) (by simp) ?_
      refine AllReadyH.cons (o := _) rfl (fun K hK => ?_) AllReadyH.nil
      go_simp
      refine (M _).mono ?_; rintro e w2 ⟨rfl, hb2⟩
      go_wp2_with fail
      obtain ⟨q1, m, q2⟩ := hHeld
      have hC2 := hC1.below (World.block_lt_of_cell? _ _ hC1.1) hb2
      refine hK.out _ _ ⟨q1.below hb2, m, q2.below (World.block_lt_of_cell? _ _ q2.1) hb2⟩ (fun hHeld => ?_)
      clear hK K
      try simp only [Act.put, List.setIfInBounds_toArray, List.set_cons_zero, List.set_cons_succ, List.getElem_toArray, List.getElem_cons_succ, List.getElem_cons_zero]
      clear q1 q2 M hC1
      refine wpAnyH_take (i := 3) (oi := _) (v := .int .i64 n3) rfl (by kernel_rfl) (by kernel_rfl) (by kernel_rfl) (fun _ _ _ h => h) (Or.inl ⟨by rfl, fun w h => by go_simp⟩) hHeld ?_
      try simp only [Act.put, List.setIfInBounds_toArray, List.set_cons_zero, List.set_cons_succ, List.getElem_toArray, List.getElem_cons_succ, List.getElem_cons_zero]
      refine wpAnyH_ready (rs := [4]) (by kernel_rfl) (by simp) ?_
      refine AllReadyH.cons (o := _) rfl (fun K hK => ?_) AllReadyH.nil
      have hcell := hC2.1
      have hfree := hC2.2
      go_simp
      refine hK.out _ _ ⟨hHeld.1.other _ _ (by simp; omega), n3, hC2.set _⟩ (fun hHeld => ?_)
      clear hK K
      try simp only [Act.put, List.setIfInBounds_toArray, List.set_cons_zero, List.set_cons_succ, List.getElem_toArray, List.getElem_cons_succ, List.getElem_cons_zero]
      refine wpAnyH_done (by kernel_rfl) ?_ _
      have hb3 : Below A.heap.size A w2 := (Below.refl _ _).drew.trans hb2
      gi_wp2
      exact ⟨((keeps_below hb3).trans (KeepsOthers.setCell _ _ _)).from _, (Below.heap_setCell _ _ _ g (by simp; omega)).trans (hb3.block g (by omega)), by rw [HN2.out]; exact hC2.set _, (HB.out.trans (hb3.mono (show w1.heap.size ≤ A.heap.size by omega))).setCell (p := ⟨w1.heap.size, 0, none⟩) (Nat.le_refl _) _⟩
    · go_simp
      refine (M _).mono ?_; rintro e w2 ⟨rfl, hb2⟩
      go_wp2_with fail
      obtain ⟨q1, m, q2⟩ := hHeld
      have hC2 := hC1.below (World.block_lt_of_cell? _ _ hC1.1) hb2
      refine hK.out _ _ ⟨q1.below hb2, m, q2.below (World.block_lt_of_cell? _ _ q2.1) hb2⟩ (fun hHeld => ?_)
      clear hK K
      try simp only [Act.put, List.setIfInBounds_toArray, List.set_cons_zero, List.set_cons_succ, List.getElem_toArray, List.getElem_cons_succ, List.getElem_cons_zero]
      clear q1 q2 M hC1
      refine wpAnyH_ready (rs := [0]) (by kernel_rfl) (by simp) ?_
      refine AllReadyH.cons (o := _) rfl (fun K hK => ?_) AllReadyH.nil
      have hcell := hC2.1
      go_simp
      refine hK.out _ _ hHeld (fun hHeld => ?_)
      clear hK K hcell
      try simp only [Act.put, List.setIfInBounds_toArray, List.set_cons_zero, List.set_cons_succ, List.getElem_toArray, List.getElem_cons_succ, List.getElem_cons_zero]
      refine wpAnyH_take (i := 3) (oi := _) (v := .int .i64 n3) rfl (by kernel_rfl) (by kernel_rfl) (by kernel_rfl) (fun _ _ _ h => h) (Or.inl ⟨by rfl, fun w h => by go_simp⟩) hHeld ?_
      try simp only [Act.put, List.setIfInBounds_toArray, List.set_cons_zero, List.set_cons_succ, List.getElem_toArray, List.getElem_cons_succ, List.getElem_cons_zero]
      refine wpAnyH_ready (rs := [4]) (by kernel_rfl) (by simp) ?_
      refine AllReadyH.cons (o := _) rfl (fun K hK => ?_) AllReadyH.nil
      have hcell := hC2.1
      have hfree := hC2.2
      go_simp
      refine hK.out _ _ ⟨hHeld.1.other _ _ (by simp; omega), n3, hC2.set _⟩ (fun hHeld => ?_)
      clear hK K
      try simp only [Act.put, List.setIfInBounds_toArray, List.set_cons_zero, List.set_cons_succ, List.getElem_toArray, List.getElem_cons_succ, List.getElem_cons_zero]
      refine wpAnyH_done (by kernel_rfl) ?_ _
      have hb3 : Below A.heap.size A w2 := (Below.refl _ _).drew.trans hb2
      gi_wp2
      exact ⟨((keeps_below hb3).trans (KeepsOthers.setCell _ _ _)).from _, (Below.heap_setCell _ _ _ g (by simp; omega)).trans (hb3.block g (by omega)), by rw [HN2.out]; exact hC2.set _, (HB.out.trans (hb3.mono (show w1.heap.size ≤ A.heap.size by omega))).setCell (p := ⟨w1.heap.size, 0, none⟩) (Nat.le_refl _) _⟩
  case done =>
    rintro D W hD ⟨hC, hB⟩ hK
    have c1 := hC.1
    have f1 := hC.2
    have HB := Lib.hid hB
    clear hB
    go_wp2
    refine ⟨by simp, .inl ⟨_, _, rfl, run_takeDeferred hK, ?_⟩⟩
    exact ⟨_, results_tmp2 rfl _ _ _, rfl, HB1.out.trans ((HB.out.trans (below_put (by omega) hK)).mono hz1)⟩
  case stop =>
    rintro D c pre x W hD hx h hK
    exact h.elim

end Go.Proofs.YtdpakhggpgdgbaaGreat
