/-
  Out of the text PolyJ: what the draws of polygons need.
  Out of the text PolyZ: what the draws of polygons need.
-/
import Derived.Test.YtdpakhggpgdgbaaGreatM21
import Derived.Test.YtdpakhggpgdgbaaGreatM20
/- Out of the text PolyJ: what the draws of polygons need. -/
namespace Go.Proofs.YtdpakhggpgdgbaaGreat
set_option maxRecDepth 20000
open Go.ChangeShapes Go.WideShapes Go.ChangeAt Go.RowKit
set_option linter.unusedVariables false
set_option linter.unusedSimpArgs false
theorem other_any (b m : Int) (g : Nat) (w : World) (h : CellAt w g (.int .i64 m)) : Calls Tryz.prog 22 #[.int .i64 b, .pointer (some ⟨g, 0, none⟩)] w fun e w' => e = .returned (.bool (b != m)) ∧ w = w' := by
  have hcell := h.1
  go_enter Tryz.func22, Tryz.ntmps22
  go_wp2
  go_ret
  exact ⟨rfl, rfl⟩
abbrev otherV (g : Nat) : Value := .func (.func 22) #[] #[.pointer (some ⟨g, 0, none⟩)]
theorem enters_other : ∀ args w, (callFunc 22 args).run Tryz.prog w = .ok (.enter 22 args) w := enters_of Tryz.func22 (by kernel_rfl) rfl
set_option maxHeartbeats 2000000 in
theorem indexOther_any (v : Value) (L : List Int) (g m' : Nat) (m : Int) (w : World) (hv : ReadsL encI w v L) (hm : CellAt w g (.int .i64 m)) :
    Calls Tryz.prog 50 #[v, otherV g] w fun e w' => ∃ r : Int, e = .returned (.int .i64 r) ∧ decide (0 ≤ r) = L.any (fun b => b != m) ∧ w = w' := by
  obtain ⟨p, cap, rfl, hc1, hc2, hp0, hp⟩ := hv
  simp only [maxLen] at hc2
  have HP := Lib.hid hp
  have eg := enters_other
  have HM := Lib.hid hm
  clear hp hm
  go_enter Tryz.func50, Tryz.ntmps50
  go_wp2
  go_loopw [5, 8] (fun _ i wr => ∃ k : Nat, k ≤ L.length ∧ i = .int .i64 k ∧ (∀ b ∈ L.take k, (b != m) = false) ∧ w = wr) (fun _ i _ => L.length - (intOf i).toNat)
  case atStart => exact ⟨0, Nat.zero_le _, rfl, fun b hb => by simp at hb, rfl⟩
  case round =>
    obtain ⟨k, hk, rfl, hz, rfl⟩ := hrel
    have HZ := Lib.hid hz
    clear hz
    by_cases hlt : k < L.length
    · have hkz : (k : Int) < (L.length : Int) := by omega
      have hk0 : (0 : Int) ≤ (k : Int) := by omega
      obtain ⟨b, hc⟩ : ∃ b, L[k]? = some b := ⟨_, List.getElem?_eq_getElem hlt⟩
      obtain ⟨g2, o2, rfl, hg2, hr2⟩ := HP.out (by rintro rfl; have := hp0 rfl; omega)
      have hcell := int_cell hr2 hc
      have HC := Lib.hid hc
      clear hr2 hc
      have C := fun (w : World) (h : CellAt w g (.int .i64 m)) => other_any b m g w h
      go_wp2_with fail
      refine (C _ HM.out).mono ?_; rintro e w2 ⟨rfl, rfl⟩
      clear C
      cases hq : (b != m)
      · have hne : b = m := by simpa using hq
        go_wp2
        go_roundw
        case rel =>
          refine ⟨k + 1, by omega, by go_num, fun d hd => ?_, by trivial⟩
          rw [List.take_add_one, HC.out] at hd
          rcases List.mem_append.1 hd with h | h
          · exact HZ.out d h
          · rw [show d = b by simpa using h]; exact hq
        case measure => simp [intOf]; omega
      · go_wp2
        go_ret
        refine ⟨(k : Int), rfl, ?_, rfl⟩
        rw [decide_eq_true (by omega)]
        exact (List.any_eq_true.2 ⟨b, List.mem_of_getElem? HC.out, hq⟩).symm
    · obtain rfl : k = L.length := by omega
      go_wp2
      go_ret
      refine ⟨-1, rfl, ?_, rfl⟩
      rw [decide_eq_false (by omega)]
      refine (List.any_eq_false.2 fun d hd => ?_).symm
      have := HZ.out d (by rw [List.take_length]; exact hd)
      rw [this]; decide
theorem containsOther_any (v : Value) (L : List Int) (g : Nat) (m : Int) (w : World) (hv : ReadsL encI w v L) (hm : CellAt w g (.int .i64 m)) :
    Calls Tryz.prog 20 #[v, otherV g] w fun e w' => e = .returned (.bool (L.any fun b => b != m)) ∧ w = w' := by
  have C := indexOther_any v L g 0 m w hv hm
  generalize L.any (fun b => b != m) = q at *
  clear hv hm
  go_enter Tryz.func20, Tryz.ntmps20
  go_wp2_with fail
  refine C.mono ?_; rintro e w2 ⟨r, rfl, hr, rfl⟩
  clear C
  go_wp2
  go_ret
  exact ⟨ret_bool (by rw [← hr]), rfl⟩
theorem all_other (P : Nat → Q2) (n : Nat) (m : Int) : ((List.range n).map (bnd P n)).any (fun b => b != m) = !(List.range n).all fun k => decide (bnd P n k = m) := by
  rw [List.any_map, List.not_all_eq_any_not]
  congr 1
set_option maxHeartbeats 4000000 in
theorem PolyConvex_any (v : Value) (xs : List V) (w : World) (hv : ReadsL encV w v xs) : Calls Tryz.prog 6 #[v] w fun e w' => e = .returned (.bool (convB xs)) ∧ Below w.heap.size w w' := by
  have T := polygonOf_any v xs w hv
  clear hv
  cases h : polyOk xs
  · rw [polyO_no h] at T
    have hF : convB xs = false := by unfold convB; rw [h]; rfl
    rw [hF]
    have T := Lib.hid T
    go_enter Tryz.func6, Tryz.ntmps6
    go_wp2_with fail
    refine T.out.mono ?_; rintro e w1 ⟨hb1, v1, rfl, -⟩
    have HB := Lib.hid hb1
    clear T hb1
    go_wp2
    go_ret
    exact ⟨rfl, HB.out⟩
  · rw [polyO_yes h] at T
    have hln := polyOk_len h
    have TU := fun (v' : Value) (w' : World) (hr : ReadsL encV w' v' xs) => turns_any v' xs w' hr h
    cases hk : okB (PQ xs) xs.length
    · have hF : convB xs = false := by unfold convB; rw [h, hk]; rfl
      have hT : turnsO xs = none := by unfold turnsO; rw [h, hk]; rfl
      rw [hF]
      rw [hT] at TU
      simp only [toldZ, Option.getD_none, Option.isSome_none] at TU
      clear hF hT hk
      have T := Lib.hid T
      go_enter Tryz.func6, Tryz.ntmps6
      go_wp2_with fail
      refine T.out.mono ?_; rintro e w1 ⟨hb1, v1, rfl, ho1⟩
      have HB := Lib.hid hb1
      have TU1 := TU v1 w1 (ownL_reads ho1)
      clear T hb1 ho1 TU
      go_wp2_with fail
      refine TU1.mono ?_; rintro e w2 ⟨rfl, hb2⟩
      have HB2 := Lib.hid (below_next HB.out hb2)
      clear hb2 TU1
      go_wp2
      go_ret
      exact ⟨rfl, HB2.out.alloc HB2.out.size _⟩
    · have hT : turnsO xs = some (turnZ (PQ xs) xs.length) := by unfold turnsO; rw [h, hk]; rfl
      have hF : convB xs = !(((List.range xs.length).map (bnd (PQ xs) xs.length)).any fun b => b != turnZ (PQ xs) xs.length) := by unfold convB; rw [h, hk, all_other, Bool.not_not]; rfl
      rw [hF]
      rw [hT] at TU
      simp only [toldZ, Option.getD_some, Option.isSome_some] at TU
      have BE := fun (v' : Value) (w' : World) (hr : ReadsL encV w' v' xs) => Lib.hid (bends_any v' xs w' hr hln.1 hln.2 (polyOk_small h))
      rw [bends_way xs] at BE
      have CO := fun (v' : Value) (g : Nat) (w' : World) (hr : ReadsL encI w' v' ((List.range xs.length).map (bnd (PQ xs) xs.length))) (hm : CellAt w' g (.int .i64 (turnZ (PQ xs) xs.length))) => containsOther_any v' _ g _ w' hr hm
      clear hF hT hk
      generalize (List.range xs.length).map (bnd (PQ xs) xs.length) = L at *
      generalize turnZ (PQ xs) xs.length = m at *
      generalize L.any (fun b => b != m) = q at *
      have T := Lib.hid T
      go_enter Tryz.func6, Tryz.ntmps6
      go_wp2_with fail
      refine T.out.mono ?_; rintro e w1 ⟨hb1, v1, rfl, ho1⟩
      have HB := Lib.hid hb1
      have TU1 := TU v1 w1 (ownL_reads ho1)
      have HO1 := Lib.hid ho1
      clear T hb1 ho1 TU
      go_wp2_with fail
      refine TU1.mono ?_; rintro e w2 ⟨rfl, hb2⟩
      have HB2 := Lib.hid ((below_next HB.out hb2).alloc (below_next HB.out hb2).size (.cells #[.int .i64 m] 3))
      have HO2 := Lib.hid (show OwnL encV 8 (w2.alloc (.cells #[.int .i64 m] 3)) _ _ _ _ from World.ownsRow.alloc (rows_below HO1.out hb2) (.cells #[.int .i64 m] 3))
      have hC := CellAt.new w2 (.int .i64 m) 3
      clear hb2 TU1 HO1 HB
      go_upto_region 5 with fail
      show Code.wp _ _ _ _ (w2.alloc (.cells #[.int .i64 m] 3))
      have hlt : w2.heap.size < (w2.alloc (.cells #[.int .i64 m] 3)).heap.size := by simp
      generalize w2.alloc (.cells #[.int .i64 m] 3) = W2 at *
      have BE1 := BE v1 W2 (ownL_reads HO2.out)
      clear BE HO2
      go_wp2_with fail
      refine BE1.out.mono ?_; rintro e w3 ⟨hb3, v3, rfl, ho3⟩
      have HB3 := Lib.hid (below_next HB2.out hb3)
      have CO1 := CO v3 w2.heap.size w3 (ownL_reads ho3) (hC.below hlt hb3)
      clear hb3 ho3 BE1 CO hC HB2
      generalize w2.heap.size = gt at *
      go_wp2_with fail
      refine CO1.mono ?_; rintro e w4 ⟨rfl, rfl⟩
      clear CO1
      go_wp2
      go_ret
      exact ⟨ret_bool (by simp), HB3.out⟩

end Go.Proofs.YtdpakhggpgdgbaaGreat
/- Out of the text PolyZ: what the draws of polygons need. -/
namespace Go.Proofs.YtdpakhggpgdgbaaGreat
set_option maxRecDepth 20000
open Go.ChangeShapes Go.WideShapes Go.ChangeAt Go.RowKit
set_option linter.unusedVariables false
set_option linter.unusedSimpArgs false
/-- The winding of the first k sides. -/
def windK (xs : List V) (c : V) (k : Nat) : Int := sumI (fun i => wn (PQ xs i - qv c.up) (PQ xs ((i + 1) % xs.length) - qv c.up)) k
theorem windK_next (xs : List V) (c : V) (k : Nat) : windK xs c (k + 1) = windK xs c k + wn (PQ xs k - qv c.up) (PQ xs ((k + 1) % xs.length) - qv c.up) := rfl
theorem wn_small (p q : Q2) : -1 ≤ wn p q ∧ wn p q ≤ 1 := by
  unfold wn
  split
  · omega
  · split <;> omega
theorem windK_small (xs : List V) (c : V) : ∀ k : Nat, -(k : Int) ≤ windK xs c k ∧ windK xs c k ≤ (k : Int)
  | 0 => ⟨Int.le_refl 0, Int.le_refl 0⟩
  | k + 1 => by
    have h1 := windK_small xs c k
    have h2 := wn_small (PQ xs k - qv c.up) (PQ xs ((k + 1) % xs.length) - qv c.up)
    rw [windK_next]
    omega
set_option maxHeartbeats 8000000 in
theorem specPolyWinding_any (v : Value) (xs : List V) (c : V) (w : World) (hv : ReadsL encV w v xs) : Calls Tryz.prog 14 #[v, pt c.up] w fun e w' => e = .returned (toldZ (windO xs c)) ∧ Below w.heap.size w w' := by
  have sc := vec_size 8 c.up
  have hv1 := hv.below ((Below.refl w.heap.size w).alloc (Nat.le_refl _) (.cells (vec 8 c.up) 40))
  have T := specPolyValid_any v xs _ hv1
  have SM := fun w => l8Small_any c.up 100 (by omega) w
  have ON := fun (w' : World) (h : ReadsL encV w' v xs) => specPolyOn_any v xs c w' h
  have hC := RowAt.new w 8 40 c.up
  have hL := (Below.refl w.heap.size w).alloc (Nat.le_refl _) (.cells (vec 8 c.up) 40)
  have HV1 := Lib.hid hv1
  unfold pt at *
  cases hp : polyOk xs
  · have hF : windO xs c = none := by unfold windO; rw [hp]; rfl
    rw [hF]
    rw [hp] at T
    clear hv hv1 hF ON HV1
    go_enter Tryz.func14, Tryz.ntmps14
    go_upto_region 1 with fail
    show Code.wp _ _ _ _ (w.alloc (.cells (vec 8 c.up) 40))
    generalize w.alloc (.cells (vec 8 c.up) 40) = W at *
    go_wp2_with fail
    refine T.mono ?_; rintro e w1 ⟨rfl, hb1⟩
    have HL1 := Lib.hid (below_next hL hb1)
    clear T hb1 hC hL
    go_wp2
    go_ret2
    exact ⟨rfl, HL1.out⟩
  · rw [hp] at T
    cases hc : smallF 100 c.up
    · have hF : windO xs c = none := by unfold windO; rw [hp, hc]; rfl
      rw [hF]
      rw [hc] at SM
      clear hv hv1 hF ON HV1
      go_enter Tryz.func14, Tryz.ntmps14
      go_upto_region 1 with fail
      show Code.wp _ _ _ _ (w.alloc (.cells (vec 8 c.up) 40))
      generalize w.alloc (.cells (vec 8 c.up) 40) = W at *
      go_wp2_with fail
      refine T.mono ?_; rintro e w1 ⟨rfl, hb1⟩
      have hC1 := hC.below hb1
      have HL1 := Lib.hid (below_next hL hb1)
      clear T hb1 hC hL
      go_wp2_with (refine load_pt_on (by rfl) rfl rfl hC1.range Tryz.underlying40 rfl info_cyc ?_)
      refine (SM _).mono ?_; rintro e w2 ⟨rfl, hb2⟩
      have HL2 := Lib.hid (below_next HL1.out hb2)
      clear SM hb2 hC1 HL1
      go_wp2
      go_ret2
      exact ⟨rfl, HL2.out⟩
    · rw [hc] at SM
      have hon : onB xs c = onP (PQ xs) (qv c.up) xs.length := by unfold onB; rw [hp, hc]; rfl
      rw [hon] at ON
      cases ho : onP (PQ xs) (qv c.up) xs.length
      case true =>
        have hF : windO xs c = none := by unfold windO; rw [hp, hc, ho]; rfl
        rw [hF]
        rw [ho] at ON
        clear hv hv1 hF hon
        go_enter Tryz.func14, Tryz.ntmps14
        go_upto_region 1 with fail
        show Code.wp _ _ _ _ (w.alloc (.cells (vec 8 c.up) 40))
        generalize w.alloc (.cells (vec 8 c.up) 40) = W at *
        go_wp2_with fail
        refine T.mono ?_; rintro e w1 ⟨rfl, hb1⟩
        have hC1 := hC.below hb1
        have HL1 := Lib.hid (below_next hL hb1)
        have HV2 := Lib.hid (HV1.out.below hb1)
        clear T hb1 hC hL HV1
        go_wp2_with (refine load_pt_on (by rfl) rfl rfl hC1.range Tryz.underlying40 rfl info_cyc ?_)
        refine (SM _).mono ?_; rintro e w2 ⟨rfl, hb2⟩
        have hC2 := hC1.below hb2
        have HL2 := Lib.hid (below_next HL1.out hb2)
        have ON2 := ON w2 (HV2.out.below hb2)
        clear SM hb2 hC1 HL1 HV2 ON
        go_wp2_with (refine load_pt_on (by rfl) rfl rfl hC2.range Tryz.underlying40 rfl info_cyc ?_)
        refine ON2.mono ?_; rintro e w3 ⟨rfl, hb3⟩
        have HL3 := Lib.hid (below_next HL2.out hb3)
        clear ON2 hb3 hC2 HL2
        go_wp2
        go_ret2
        exact ⟨rfl, HL3.out⟩
      case false =>
      have hln := polyOk_len hp
      have hF : windO xs c = some (windK xs c xs.length) := by unfold windO; rw [hp, hc, ho]; rfl
      have HF := Lib.hid hF
      rw [ho] at ON
      have HX := Lib.hid (polyOk_small hp)
      have HCB := smallF_iff.1 hc
      obtain ⟨g, o, cap, rfl, hc1, hc2, hg, hr⟩ := reads_ptr8 hv (by rintro rfl; simp at hln)
      simp only [maxLen] at hc2
      have HR := Lib.hid hr
      have hcap : xs.length ≤ 48 := hln.2
      clear hv hv1 hF hr hon ho
      go_enter Tryz.func14, Tryz.ntmps14
      go_upto_region 1 with fail
      show Code.wp _ _ _ _ (w.alloc (.cells (vec 8 c.up) 40))
      generalize w.alloc (.cells (vec 8 c.up) 40) = W at *
      go_wp2_with fail
      refine T.mono ?_; rintro e w1 ⟨rfl, hb1⟩
      have hC1 := hC.below hb1
      have HL1 := Lib.hid (below_next hL hb1)
      have HV2 := Lib.hid (HV1.out.below hb1)
      clear T hb1 hC hL HV1
      go_wp2_with (refine load_pt_on (by rfl) rfl rfl hC1.range Tryz.underlying40 rfl info_cyc ?_)
      refine (SM _).mono ?_; rintro e w2 ⟨rfl, hb2⟩
      have hC2 := hC1.below hb2
      have HL2 := Lib.hid (below_next HL1.out hb2)
      have ON2 := ON w2 (HV2.out.below hb2)
      clear SM hb2 hC1 HL1 HV2 ON
      go_wp2_with (refine load_pt_on (by rfl) rfl rfl hC2.range Tryz.underlying40 rfl info_cyc ?_)
      refine ON2.mono ?_; rintro e w3 ⟨rfl, hb3⟩
      have hC3 := hC2.below hb3
      have HL3 := Lib.hid (below_next HL2.out hb3)
      clear ON2 hb3 hC2 HL2
      go_wp2
      go_loopw [6, 7] (fun t i wr => ∃ k : Nat, k ≤ xs.length ∧ i = .int .i64 k ∧ t = .int .i64 (windK xs c k) ∧ RowAt wr w.heap.size 8 40 c.up ∧ Below w.heap.size w wr) (fun _ i _ => xs.length - (intOf i).toNat)
      case atStart => exact ⟨0, Nat.zero_le _, rfl, rfl, hC3, HL3.out⟩
      case round =>
        clear hC3 HL3
        obtain ⟨k, hk, rfl, rfl, hCr, hbel⟩ := hrel
        by_cases hlt : k < xs.length
        · have hkz : (k : Int) < (xs.length : Int) := by omega
          have hk0 : (0 : Int) ≤ (k : Int) := by omega
          have hrl : (k + 1) % xs.length < xs.length := Nat.mod_lt _ (by omega)
          obtain ⟨r, hrr⟩ : ∃ r, (k + 1) % xs.length = r := ⟨_, rfl⟩
          rw [hrr] at hrl
          have q1 : IntKind.i64.wrap ((k : Int) + 1) = (k : Int) + 1 := by rw [IntKind.wrap_i64]; omega
          have q2 : ((k : Int) + 1).tmod (xs.length : Int) = (r : Int) := by
            rw [Int.tmod_eq_emod_of_nonneg (by omega), ← hrr]; simp
          have q3 : IntKind.i64.wrap (r : Int) = (r : Int) := by rw [IntKind.wrap_i64]; omega
          have q4 : ¬ (xs.length : Int) = 0 := by omega
          have q4c : ¬ xs = [] := by rintro rfl; simp at hln
          have q4b : ((xs.length : Int) == 0) = false := by simpa using q4c
          have q5 : (r : Int) < (xs.length : Int) := by omega
          have q6 : (0 : Int) ≤ (r : Int) := by omega
          have HE1 := Lib.hid (cells_part encV_ok HR.out (at_get hlt))
          have HE2 := Lib.hid (cells_part encV_ok HR.out (at_get hrl))
          have bx := HX.out _ (List.mem_of_getElem? (at_get hlt))
          have bY := HX.out _ (List.mem_of_getElem? (at_get hrl))
          have HNX := windK_next xs c k
          have hts := windK_small xs c k
          have htn := wn_small (PQ xs k - qv c.up) (PQ xs ((k + 1) % xs.length) - qv c.up)
          have e1 : PQ xs k - qv c.up = qv (subV (at' xs k) c).up := (qv_subV _ _).symm
          have e2 : PQ xs ((k + 1) % xs.length) - qv c.up = qv (subV (at' xs r) c).up := by rw [hrr]; exact (qv_subV _ _).symm
          rw [e1, e2] at HNX htn
          have X := fun w => specSum_any (at' xs k).up c.up (-1) (by omega) (fun j hj => by have := bx j hj; omega) (fun j hj => by have := HCB j hj; omega) w
          have Y := fun w => specSum_any (at' xs r).up c.up (-1) (by omega) (fun j hj => by have := bY j hj; omega) (fun j hj => by have := HCB j hj; omega) w
          rw [← pt_subV] at X Y
          have hx := sub_small bx HCB
          have hy := sub_small bY HCB
          clear hrr bx bY e1 e2
          generalize subV (at' xs k) c = x at *
          generalize subV (at' xs r) c = y at *
          generalize at' xs k = x0 at *
          generalize at' xs r = y0 at *
          have IX := fun w => specIm_wide x.up (fun j hj => by have := hx j hj; omega) w
          have IY := fun w => specIm_wide y.up (fun j hj => by have := hy j hj; omega) w
          have hix := ima_small hx
          have hiy := ima_small hy
          have SX := fun w => l3Sign_at (ima x.up) (fun j hj => by have := hix j hj; omega) w
          have SY := fun w => l3Sign_at (ima y.up) (fun j hj => by have := hiy j hj; omega) w
          have CR := fun w => l8Cross_any x.up y.up (M := 200) (by omega) hx hy w
          have hcs := crs_small (M := 200) (by omega) hx hy
          have S1 := fun w => l3Sign_at (crs x.up y.up) (fun j hj => by have := hcs j hj; omega) w
          have h3 := sgR_three (cr (qv x.up) (qv y.up))
          rw [wn_B] at HNX htn
          have eu1 : upB (qv x.up) = decide (0 < sgf (ima x.up)) := rfl
          have eu2 : upB (qv y.up) = decide (0 < sgf (ima y.up)) := rfl
          rw [eu1, eu2, ← sgf_crs] at HNX htn
          rw [← sgf_crs] at h3
          have sx := vec_size 8 x.up
          have sy := vec_size 8 y.up
          clear hcs hix hiy hx hy eu1 eu2
          generalize sgf (crs x.up y.up) = s at *
          generalize sgf (ima x.up) = s2 at *
          generalize sgf (ima y.up) = s3 at *
          generalize crs x.up y.up = f1 at *
          generalize ima x.up = f2 at *
          generalize ima y.up = f3 at *
          obtain ⟨tk, htk⟩ : ∃ tk, windK xs c k = tk := ⟨_, rfl⟩
          rw [htk] at HNX hts ⊢
          have qa : IntKind.i64.wrap (tk + 1) = tk + 1 := by rw [IntKind.wrap_i64]; omega
          have qb : IntKind.i64.wrap (tk - 1) = tk - 1 := by rw [IntKind.wrap_i64]; omega
          have HNX := Lib.hid HNX
          clear htn htk hts
          unfold pt at X Y CR
          go_upto_region 7 with fail
          go_cut [8] (fun s8 wx => ∃ gx : Nat, s8 = .pointer (some ⟨gx, 0, none⟩) ∧ RowAt wx gx 8 40 x.up ∧ RowAt wx w.heap.size 8 40 c.up ∧ Below w.heap.size w wx)
          case first =>
            refine wp_region_held_drew (S := fun w' => RowAt w' w.heap.size 8 40 c.up ∧ Below w.heap.size w w') (by kernel_rfl) ⟨hCr.drew1, hbel.drew⟩ (fun hHeld => ?_)
            clear hCr hbel
            refine wpAnyH_take (i := 0) (oi := _) (v := .slice (some ⟨g, o, none⟩) xs.length cap) rfl (by kernel_rfl) (by kernel_rfl) (by kernel_rfl) (fun _ _ _ h => h) (Or.inl ⟨by rfl, fun w h => by go_simp⟩) hHeld ?_
            try simp only [Act.put, List.setIfInBounds_toArray, List.set_cons_zero, List.set_cons_succ, List.getElem_toArray, List.getElem_cons_succ, List.getElem_cons_zero]
            refine wpAnyH_take (i := 1) (oi := _) (v := .int .i64 k) rfl (by kernel_rfl) (by kernel_rfl) (by kernel_rfl) (fun _ _ _ h => h) (Or.inl ⟨by rfl, fun w h => by go_simp⟩) hHeld ?_
            try simp only [Act.put, List.setIfInBounds_toArray, List.set_cons_zero, List.set_cons_succ, List.getElem_toArray, List.getElem_cons_succ, List.getElem_cons_zero]
            refine wpAnyH_take (i := 2) (oi := _) (v := .pointer (some ⟨g, o + k * 8, none⟩)) rfl (by kernel_rfl) (by kernel_rfl) (by kernel_rfl) (fun _ _ _ h => h) (Or.inl ⟨by rfl, fun w h => by go_simp⟩) hHeld ?_
            try simp only [Act.put, List.setIfInBounds_toArray, List.set_cons_zero, List.set_cons_succ, List.getElem_toArray, List.getElem_cons_succ, List.getElem_cons_zero]
            refine wpAnyH_take (i := 3) (oi := _) (v := .agg (vec 8 x0.up)) rfl (by kernel_rfl) (by kernel_rfl) (by kernel_rfl) (fun _ _ _ h => h) (yieldsIf_load_mid (by rfl) _ _ rfl _ _ rfl _ _ ((fun w h => range_kept8 HE1.out hg h.2)) Tryz.underlying40 rfl (size_cyc8 x0.up)) hHeld ?_
            try simp only [Act.put, List.setIfInBounds_toArray, List.set_cons_zero, List.set_cons_succ, List.getElem_toArray, List.getElem_cons_succ, List.getElem_cons_zero]
            refine wpAnyH_take (i := 4) (oi := _) (v := .agg (vec 8 c.up)) rfl (by kernel_rfl) (by kernel_rfl) (by kernel_rfl) (fun _ _ _ h => h) (yieldsIf_load_mid (by rfl) _ _ rfl _ _ rfl _ _ ((fun w h => h.1.range)) Tryz.underlying40 rfl (size_cyc8 c.up)) hHeld ?_
            try simp only [Act.put, List.setIfInBounds_toArray, List.set_cons_zero, List.set_cons_succ, List.getElem_toArray, List.getElem_cons_succ, List.getElem_cons_zero]
            refine wpAnyH_ready (rs := [5, 6]) (by kernel_rfl) (by simp) ?_
            refine AllReadyH.cons (o := _) rfl (fun K hK => ?_) (AllReadyH.cons (o := _) rfl (fun K hK => ?_) AllReadyH.nil)
            · go_simp
              refine (X _).mono ?_; rintro e w5 ⟨rfl, hb5⟩
              go_wp2_with fail
              obtain ⟨h1, h2⟩ := hHeld
              refine hK.out _ _ ⟨h1.below hb5, below_next h2 hb5⟩ (fun hHeld => ?_)
              clear hK K
              try simp only [Act.put, List.setIfInBounds_toArray, List.set_cons_zero, List.set_cons_succ, List.getElem_toArray, List.getElem_cons_succ, List.getElem_cons_zero]
              clear h1 h2 hb5 X 
              refine wpAnyH_ready (rs := [6]) (by kernel_rfl) (by simp) ?_
              refine AllReadyH.cons (o := _) rfl (fun K hK => ?_) AllReadyH.nil
              go_simp
              obtain ⟨h1, h2⟩ := hHeld
              have hne : w.heap.size ≠ w5.heap.size := Nat.ne_of_lt h1.lt
              have hge : w.heap.size ≤ w5.heap.size := h2.size
              have hN : RowAt (w5.alloc (.cells #[.int .i64 0, .int .i64 0, .int .i64 0, .int .i64 0, .int .i64 0, .int .i64 0, .int .i64 0, .int .i64 0] 40)) w5.heap.size 8 40 (fun _ => 0) := RowAt.newAt zero8 rfl
              refine hK.out _ _ ⟨h1.alloc _, h2.alloc h2.size _⟩ (fun hHeld => ?_)
              clear hK K
              try simp only [Act.put, List.setIfInBounds_toArray, List.set_cons_zero, List.set_cons_succ, List.getElem_toArray, List.getElem_cons_succ, List.getElem_cons_zero]
              clear h1 h2 
              refine wpAnyH_ready (rs := [7]) (by kernel_rfl) (by simp) ?_
              refine AllReadyH.cons (o := _) rfl (fun K hK => ?_) AllReadyH.nil
              rw [if_pos (by rfl)]
              refine store_step (f' := x.up) rfl rfl rfl hN info_cyc ?_
              have hN2 := hN.setRow (f' := x.up)
              obtain ⟨h1, h2⟩ := hHeld
              have hlt1 := h1.lt
              have hC6 := h1.rowOther _ (vec 8 x.up) hne
              have hB6 := below_setRow h2 hge (vec 8 x.up)
              refine hK.out _ _ ⟨hC6, hB6⟩ (fun hHeld => ?_)
              clear hK K
              try simp only [Act.put, List.setIfInBounds_toArray, List.set_cons_zero, List.set_cons_succ, List.getElem_toArray, List.getElem_cons_succ, List.getElem_cons_zero]
              clear hHeld h1 h2  hN
              refine wpAnyH_done (by kernel_rfl) ?_ _
              go_wp2_with fail
              go_meet
              exact ⟨_, rfl, hN2, hC6, hB6⟩
            · go_simp
              obtain ⟨h1, h2⟩ := hHeld
              have hne : w.heap.size ≠ wr.drew.heap.size := Nat.ne_of_lt h1.lt
              have hge : w.heap.size ≤ wr.drew.heap.size := h2.size
              have hN0 : RowAt (wr.drew.alloc (.cells #[.int .i64 0, .int .i64 0, .int .i64 0, .int .i64 0, .int .i64 0, .int .i64 0, .int .i64 0, .int .i64 0] 40)) wr.drew.heap.size 8 40 (fun _ => 0) := RowAt.newAt zero8 rfl
              refine hK.out _ _ ⟨h1.alloc _, h2.alloc h2.size _⟩ (fun hHeld => ?_)
              clear hK K
              try simp only [Act.put, List.setIfInBounds_toArray, List.set_cons_zero, List.set_cons_succ, List.getElem_toArray, List.getElem_cons_succ, List.getElem_cons_zero]
              clear h1 h2 
              refine wpAnyH_ready (rs := [5]) (by kernel_rfl) (by simp) ?_
              refine AllReadyH.cons (o := _) rfl (fun K hK => ?_) AllReadyH.nil
              go_simp
              refine (X _).mono ?_; rintro e w5 ⟨rfl, hb5⟩
              go_wp2_with fail
              obtain ⟨h1, h2⟩ := hHeld
              have hN := hN0.below hb5
              refine hK.out _ _ ⟨h1.below hb5, below_next h2 hb5⟩ (fun hHeld => ?_)
              clear hK K
              try simp only [Act.put, List.setIfInBounds_toArray, List.set_cons_zero, List.set_cons_succ, List.getElem_toArray, List.getElem_cons_succ, List.getElem_cons_zero]
              clear h1 h2 hb5 X  hN0
              refine wpAnyH_ready (rs := [7]) (by kernel_rfl) (by simp) ?_
              refine AllReadyH.cons (o := _) rfl (fun K hK => ?_) AllReadyH.nil
              rw [if_pos (by rfl)]
              refine store_step (f' := x.up) rfl rfl rfl hN info_cyc ?_
              have hN2 := hN.setRow (f' := x.up)
              obtain ⟨h1, h2⟩ := hHeld
              have hlt1 := h1.lt
              have hC6 := h1.rowOther _ (vec 8 x.up) hne
              have hB6 := below_setRow h2 hge (vec 8 x.up)
              refine hK.out _ _ ⟨hC6, hB6⟩ (fun hHeld => ?_)
              clear hK K
              try simp only [Act.put, List.setIfInBounds_toArray, List.set_cons_zero, List.set_cons_succ, List.getElem_toArray, List.getElem_cons_succ, List.getElem_cons_zero]
              clear hHeld h1 h2  hN
              refine wpAnyH_done (by kernel_rfl) ?_ _
              go_wp2_with fail
              go_meet
              exact ⟨_, rfl, hN2, hC6, hB6⟩
          case rest =>
          clear hCr hbel
          obtain ⟨gx, rfl, hX1, hCr, hbel⟩ := hcut
          clear X
          go_upto_region 8 with fail
          go_cut [9] (fun s9 wy => ∃ gy : Nat, s9 = .pointer (some ⟨gy, 0, none⟩) ∧ RowAt wy gx 8 40 x.up ∧ RowAt wy gy 8 40 y.up ∧ RowAt wy w.heap.size 8 40 c.up ∧ Below w.heap.size w wy)
          case first =>
            refine wp_region_held_drew (S := fun w' => RowAt w' w.heap.size 8 40 c.up ∧ RowAt w' gx 8 40 x.up ∧ Below w.heap.size w w') (by kernel_rfl) ⟨hCr.drew1, hX1.drew1, hbel.drew⟩ (fun hHeld => ?_)
            clear hCr hbel hX1
            refine wpAnyH_take (i := 0) (oi := _) (v := .slice (some ⟨g, o, none⟩) xs.length cap) rfl (by kernel_rfl) (by kernel_rfl) (by kernel_rfl) (fun _ _ _ h => h) (Or.inl ⟨by rfl, fun w h => by go_simp⟩) hHeld ?_
            try simp only [Act.put, List.setIfInBounds_toArray, List.set_cons_zero, List.set_cons_succ, List.getElem_toArray, List.getElem_cons_succ, List.getElem_cons_zero]
            refine wpAnyH_take (i := 1) (oi := _) (v := .int .i64 k) rfl (by kernel_rfl) (by kernel_rfl) (by kernel_rfl) (fun _ _ _ h => h) (Or.inl ⟨by rfl, fun w h => by go_simp⟩) hHeld ?_
            try simp only [Act.put, List.setIfInBounds_toArray, List.set_cons_zero, List.set_cons_succ, List.getElem_toArray, List.getElem_cons_succ, List.getElem_cons_zero]
            refine wpAnyH_take (i := 2) (oi := _) (v := .int .i64 ((k : Int) + 1)) rfl (by kernel_rfl) (by kernel_rfl) (by kernel_rfl) (fun _ _ _ h => h) (Or.inl ⟨by rfl, fun w h => by go_simp⟩) hHeld ?_
            try simp only [Act.put, List.setIfInBounds_toArray, List.set_cons_zero, List.set_cons_succ, List.getElem_toArray, List.getElem_cons_succ, List.getElem_cons_zero]
            refine wpAnyH_take (i := 3) (oi := _) (v := .slice (some ⟨g, o, none⟩) xs.length cap) rfl (by kernel_rfl) (by kernel_rfl) (by kernel_rfl) (fun _ _ _ h => h) (Or.inl ⟨by rfl, fun w h => by go_simp⟩) hHeld ?_
            try simp only [Act.put, List.setIfInBounds_toArray, List.set_cons_zero, List.set_cons_succ, List.getElem_toArray, List.getElem_cons_succ, List.getElem_cons_zero]
            refine wpAnyH_take (i := 4) (oi := _) (v := .int .i64 xs.length) rfl (by kernel_rfl) (by kernel_rfl) (by kernel_rfl) (fun _ _ _ h => h) (Or.inl ⟨by rfl, fun w h => by go_simp⟩) hHeld ?_
            try simp only [Act.put, List.setIfInBounds_toArray, List.set_cons_zero, List.set_cons_succ, List.getElem_toArray, List.getElem_cons_succ, List.getElem_cons_zero]
            refine wpAnyH_take (i := 5) (oi := _) (v := .int .i64 r) rfl (by kernel_rfl) (by kernel_rfl) (by kernel_rfl) (fun _ _ _ h => h) (Or.inl ⟨by rfl, fun w h => by go_simp⟩) hHeld ?_
            try simp only [Act.put, List.setIfInBounds_toArray, List.set_cons_zero, List.set_cons_succ, List.getElem_toArray, List.getElem_cons_succ, List.getElem_cons_zero]
            refine wpAnyH_take (i := 6) (oi := _) (v := .pointer (some ⟨g, o + r * 8, none⟩)) rfl (by kernel_rfl) (by kernel_rfl) (by kernel_rfl) (fun _ _ _ h => h) (Or.inl ⟨by rfl, fun w h => by go_simp⟩) hHeld ?_
            try simp only [Act.put, List.setIfInBounds_toArray, List.set_cons_zero, List.set_cons_succ, List.getElem_toArray, List.getElem_cons_succ, List.getElem_cons_zero]
            refine wpAnyH_take (i := 7) (oi := _) (v := .agg (vec 8 y0.up)) rfl (by kernel_rfl) (by kernel_rfl) (by kernel_rfl) (fun _ _ _ h => h) (yieldsIf_load_mid (by rfl) _ _ rfl _ _ rfl _ _ ((fun w h => range_kept8 HE2.out hg h.2.2)) Tryz.underlying40 rfl (size_cyc8 y0.up)) hHeld ?_
            try simp only [Act.put, List.setIfInBounds_toArray, List.set_cons_zero, List.set_cons_succ, List.getElem_toArray, List.getElem_cons_succ, List.getElem_cons_zero]
            refine wpAnyH_take (i := 8) (oi := _) (v := .agg (vec 8 c.up)) rfl (by kernel_rfl) (by kernel_rfl) (by kernel_rfl) (fun _ _ _ h => h) (yieldsIf_load_mid (by rfl) _ _ rfl _ _ rfl _ _ ((fun w h => h.1.range)) Tryz.underlying40 rfl (size_cyc8 c.up)) hHeld ?_
            try simp only [Act.put, List.setIfInBounds_toArray, List.set_cons_zero, List.set_cons_succ, List.getElem_toArray, List.getElem_cons_succ, List.getElem_cons_zero]
            refine wpAnyH_ready (rs := [9, 10]) (by kernel_rfl) (by simp) ?_
            refine AllReadyH.cons (o := _) rfl (fun K hK => ?_) (AllReadyH.cons (o := _) rfl (fun K hK => ?_) AllReadyH.nil)
            · go_simp
              refine (Y _).mono ?_; rintro e w5 ⟨rfl, hb5⟩
              go_wp2_with fail
              obtain ⟨h1, e0, h2⟩ := hHeld
              refine hK.out _ _ ⟨h1.below hb5, e0.below hb5, below_next h2 hb5⟩ (fun hHeld => ?_)
              clear hK K
              try simp only [Act.put, List.setIfInBounds_toArray, List.set_cons_zero, List.set_cons_succ, List.getElem_toArray, List.getElem_cons_succ, List.getElem_cons_zero]
              clear h1 h2 hb5 Y e0
              refine wpAnyH_ready (rs := [10]) (by kernel_rfl) (by simp) ?_
              refine AllReadyH.cons (o := _) rfl (fun K hK => ?_) AllReadyH.nil
              go_simp
              obtain ⟨h1, e0, h2⟩ := hHeld
              have hne : w.heap.size ≠ w5.heap.size := Nat.ne_of_lt h1.lt
              have hne0 : gx ≠ w5.heap.size := Nat.ne_of_lt e0.lt
              have hge : w.heap.size ≤ w5.heap.size := h2.size
              have hN : RowAt (w5.alloc (.cells #[.int .i64 0, .int .i64 0, .int .i64 0, .int .i64 0, .int .i64 0, .int .i64 0, .int .i64 0, .int .i64 0] 40)) w5.heap.size 8 40 (fun _ => 0) := RowAt.newAt zero8 rfl
              refine hK.out _ _ ⟨h1.alloc _, e0.alloc _, h2.alloc h2.size _⟩ (fun hHeld => ?_)
              clear hK K
              try simp only [Act.put, List.setIfInBounds_toArray, List.set_cons_zero, List.set_cons_succ, List.getElem_toArray, List.getElem_cons_succ, List.getElem_cons_zero]
              clear h1 h2 e0
              refine wpAnyH_ready (rs := [11]) (by kernel_rfl) (by simp) ?_
              refine AllReadyH.cons (o := _) rfl (fun K hK => ?_) AllReadyH.nil
              rw [if_pos (by rfl)]
              refine store_step (f' := y.up) rfl rfl rfl hN info_cyc ?_
              have hN2 := hN.setRow (f' := y.up)
              obtain ⟨h1, e0, h2⟩ := hHeld
              have hlt1 := h1.lt
              have hlt_0 := e0.lt
              have hC6 := h1.rowOther _ (vec 8 y.up) hne
              have hE0 := e0.rowOther _ (vec 8 y.up) hne0
              have hB6 := below_setRow h2 hge (vec 8 y.up)
              refine hK.out _ _ ⟨hC6, hE0, hB6⟩ (fun hHeld => ?_)
              clear hK K
              try simp only [Act.put, List.setIfInBounds_toArray, List.set_cons_zero, List.set_cons_succ, List.getElem_toArray, List.getElem_cons_succ, List.getElem_cons_zero]
              clear hHeld h1 h2 e0 hN
              refine wpAnyH_done (by kernel_rfl) ?_ _
              go_wp2_with fail
              go_meet
              exact ⟨_, rfl, hE0, hN2, hC6, hB6⟩
            · go_simp
              obtain ⟨h1, e0, h2⟩ := hHeld
              have hne : w.heap.size ≠ wc.drew.heap.size := Nat.ne_of_lt h1.lt
              have hne0 : gx ≠ wc.drew.heap.size := Nat.ne_of_lt e0.lt
              have hge : w.heap.size ≤ wc.drew.heap.size := h2.size
              have hN0 : RowAt (wc.drew.alloc (.cells #[.int .i64 0, .int .i64 0, .int .i64 0, .int .i64 0, .int .i64 0, .int .i64 0, .int .i64 0, .int .i64 0] 40)) wc.drew.heap.size 8 40 (fun _ => 0) := RowAt.newAt zero8 rfl
              refine hK.out _ _ ⟨h1.alloc _, e0.alloc _, h2.alloc h2.size _⟩ (fun hHeld => ?_)
              clear hK K
              try simp only [Act.put, List.setIfInBounds_toArray, List.set_cons_zero, List.set_cons_succ, List.getElem_toArray, List.getElem_cons_succ, List.getElem_cons_zero]
              clear h1 h2 e0
              refine wpAnyH_ready (rs := [9]) (by kernel_rfl) (by simp) ?_
              refine AllReadyH.cons (o := _) rfl (fun K hK => ?_) AllReadyH.nil
              go_simp
              refine (Y _).mono ?_; rintro e w5 ⟨rfl, hb5⟩
              go_wp2_with fail
              obtain ⟨h1, e0, h2⟩ := hHeld
              have hN := hN0.below hb5
              refine hK.out _ _ ⟨h1.below hb5, e0.below hb5, below_next h2 hb5⟩ (fun hHeld => ?_)
              clear hK K
              try simp only [Act.put, List.setIfInBounds_toArray, List.set_cons_zero, List.set_cons_succ, List.getElem_toArray, List.getElem_cons_succ, List.getElem_cons_zero]
              clear h1 h2 hb5 Y e0 hN0
              refine wpAnyH_ready (rs := [11]) (by kernel_rfl) (by simp) ?_
              refine AllReadyH.cons (o := _) rfl (fun K hK => ?_) AllReadyH.nil
              rw [if_pos (by rfl)]
              refine store_step (f' := y.up) rfl rfl rfl hN info_cyc ?_
              have hN2 := hN.setRow (f' := y.up)
              obtain ⟨h1, e0, h2⟩ := hHeld
              have hlt1 := h1.lt
              have hlt_0 := e0.lt
              have hC6 := h1.rowOther _ (vec 8 y.up) hne
              have hE0 := e0.rowOther _ (vec 8 y.up) hne0
              have hB6 := below_setRow h2 hge (vec 8 y.up)
              refine hK.out _ _ ⟨hC6, hE0, hB6⟩ (fun hHeld => ?_)
              clear hK K
              try simp only [Act.put, List.setIfInBounds_toArray, List.set_cons_zero, List.set_cons_succ, List.getElem_toArray, List.getElem_cons_succ, List.getElem_cons_zero]
              clear hHeld h1 h2 e0 hN
              refine wpAnyH_done (by kernel_rfl) ?_ _
              go_wp2_with fail
              go_meet
              exact ⟨_, rfl, hE0, hN2, hC6, hB6⟩
          case rest =>
          clear hCr hbel hX1
          obtain ⟨gy, rfl, hX2, hY2, hCr, hbel⟩ := hcut
          clear Y
          go_wp2_with (first | (refine load_row (g := gx) rfl rfl rfl hX2 Tryz.underlying40 rfl info_cyc ?_) | (refine load_row (g := gy) rfl rfl rfl hY2 Tryz.underlying40 rfl info_cyc ?_))
          refine (IX _).mono ?_; rintro e v1 ⟨rfl, hb5⟩
          replace hX2 := hX2.below hb5
          replace hY2 := hY2.below hb5
          replace hCr := hCr.below hb5
          replace hbel := below_next hbel hb5
          clear hb5 IX
          go_upto_region 10 with fail
          refine (SX _).mono ?_; rintro e v2 ⟨rfl, hb5⟩
          replace hX2 := hX2.below hb5
          replace hY2 := hY2.below hb5
          replace hCr := hCr.below hb5
          replace hbel := below_next hbel hb5
          clear hb5 SX
          go_upto_region 11 with (first | (refine load_row (g := gx) rfl rfl rfl hX2 Tryz.underlying40 rfl info_cyc ?_) | (refine load_row (g := gy) rfl rfl rfl hY2 Tryz.underlying40 rfl info_cyc ?_))
          refine (IY _).mono ?_; rintro e v3 ⟨rfl, hb5⟩
          replace hX2 := hX2.below hb5
          replace hY2 := hY2.below hb5
          replace hCr := hCr.below hb5
          replace hbel := below_next hbel hb5
          clear hb5 IY
          go_upto_region 11 with fail
          refine (SY _).mono ?_; rintro e v4 ⟨rfl, hb5⟩
          replace hX2 := hX2.below hb5
          replace hY2 := hY2.below hb5
          replace hCr := hCr.below hb5
          replace hbel := below_next hbel hb5
          clear hb5 SY
          go_wp2_with (first | (refine load_row (g := gx) rfl rfl rfl hX2 Tryz.underlying40 rfl info_cyc ?_) | (refine load_row (g := gy) rfl rfl rfl hY2 Tryz.underlying40 rfl info_cyc ?_))
          refine (CR _).mono ?_; rintro e v5 ⟨rfl, hb5⟩
          replace hX2 := hX2.below hb5
          replace hY2 := hY2.below hb5
          replace hCr := hCr.below hb5
          replace hbel := below_next hbel hb5
          clear hb5 CR
          go_upto_region 12 with fail
          refine (S1 _).mono ?_; rintro e v6 ⟨rfl, hb5⟩
          replace hX2 := hX2.below hb5
          replace hY2 := hY2.below hb5
          replace hCr := hCr.below hb5
          replace hbel := below_next hbel hb5
          clear hb5 S1
          clear hX2 hY2
          have HBL := Lib.hid hbel
          have HCR := Lib.hid hCr
          clear hbel hCr
          by_cases hp2 : 0 < s2
          · by_cases hq2 : 0 < s3
            · rcases h3 with rfl | rfl | rfl
              · go_wp2
                go_roundw
                case rel => exact ⟨k + 1, by omega, by go_num, by rw [HNX.out]; simp [wnB, hp2, hq2, Int.sub_eq_add_neg] <;> omega, HCR.out, HBL.out⟩
                case measure => simp [intOf]; omega
                all_goals (exfalso; rename_i hz; revert hz; (try rename_i hz; revert hz); simp [hp2, hq2] <;> omega)
              · go_wp2
                go_roundw
                case rel => exact ⟨k + 1, by omega, by go_num, by rw [HNX.out]; simp [wnB, hp2, hq2, Int.sub_eq_add_neg] <;> omega, HCR.out, HBL.out⟩
                case measure => simp [intOf]; omega
                all_goals (exfalso; rename_i hz; revert hz; (try rename_i hz; revert hz); simp [hp2, hq2] <;> omega)
              · go_wp2
                go_roundw
                case rel => exact ⟨k + 1, by omega, by go_num, by rw [HNX.out]; simp [wnB, hp2, hq2, Int.sub_eq_add_neg] <;> omega, HCR.out, HBL.out⟩
                case measure => simp [intOf]; omega
                all_goals (exfalso; rename_i hz; revert hz; (try rename_i hz; revert hz); simp [hp2, hq2] <;> omega)
            · rcases h3 with rfl | rfl | rfl
              · go_wp2
                go_roundw
                case rel => exact ⟨k + 1, by omega, by go_num, by rw [HNX.out]; simp [wnB, hp2, hq2, Int.sub_eq_add_neg] <;> omega, HCR.out, HBL.out⟩
                case measure => simp [intOf]; omega
                all_goals (exfalso; rename_i hz; revert hz; (try rename_i hz; revert hz); simp [hp2, hq2] <;> omega)
              · go_wp2
                go_roundw
                case rel => exact ⟨k + 1, by omega, by go_num, by rw [HNX.out]; simp [wnB, hp2, hq2, Int.sub_eq_add_neg] <;> omega, HCR.out, HBL.out⟩
                case measure => simp [intOf]; omega
                all_goals (exfalso; rename_i hz; revert hz; (try rename_i hz; revert hz); simp [hp2, hq2] <;> omega)
              · go_wp2
                go_roundw
                case rel => exact ⟨k + 1, by omega, by go_num, by rw [HNX.out]; simp [wnB, hp2, hq2, Int.sub_eq_add_neg] <;> omega, HCR.out, HBL.out⟩
                case measure => simp [intOf]; omega
                all_goals (exfalso; rename_i hz; revert hz; (try rename_i hz; revert hz); simp [hp2, hq2] <;> omega)
          · by_cases hq2 : 0 < s3
            · rcases h3 with rfl | rfl | rfl
              · go_wp2
                go_roundw
                case rel => exact ⟨k + 1, by omega, by go_num, by rw [HNX.out]; simp [wnB, hp2, hq2, Int.sub_eq_add_neg] <;> omega, HCR.out, HBL.out⟩
                case measure => simp [intOf]; omega
                all_goals (exfalso; rename_i hz; revert hz; (try rename_i hz; revert hz); simp [hp2, hq2] <;> omega)
              · go_wp2
                go_roundw
                case rel => exact ⟨k + 1, by omega, by go_num, by rw [HNX.out]; simp [wnB, hp2, hq2, Int.sub_eq_add_neg] <;> omega, HCR.out, HBL.out⟩
                case measure => simp [intOf]; omega
                all_goals (exfalso; rename_i hz; revert hz; (try rename_i hz; revert hz); simp [hp2, hq2] <;> omega)
              · go_wp2
                go_roundw
                case rel => exact ⟨k + 1, by omega, by go_num, by rw [HNX.out]; simp [wnB, hp2, hq2, Int.sub_eq_add_neg] <;> omega, HCR.out, HBL.out⟩
                case measure => simp [intOf]; omega
                all_goals (exfalso; rename_i hz; revert hz; (try rename_i hz; revert hz); simp [hp2, hq2] <;> omega)
            · rcases h3 with rfl | rfl | rfl
              · go_wp2
                go_roundw
                case rel => exact ⟨k + 1, by omega, by go_num, by rw [HNX.out]; simp [wnB, hp2, hq2, Int.sub_eq_add_neg] <;> omega, HCR.out, HBL.out⟩
                case measure => simp [intOf]; omega
                all_goals (exfalso; rename_i hz; revert hz; (try rename_i hz; revert hz); simp [hp2, hq2] <;> omega)
              · go_wp2
                go_roundw
                case rel => exact ⟨k + 1, by omega, by go_num, by rw [HNX.out]; simp [wnB, hp2, hq2, Int.sub_eq_add_neg] <;> omega, HCR.out, HBL.out⟩
                case measure => simp [intOf]; omega
                all_goals (exfalso; rename_i hz; revert hz; (try rename_i hz; revert hz); simp [hp2, hq2] <;> omega)
              · go_wp2
                go_roundw
                case rel => exact ⟨k + 1, by omega, by go_num, by rw [HNX.out]; simp [wnB, hp2, hq2, Int.sub_eq_add_neg] <;> omega, HCR.out, HBL.out⟩
                case measure => simp [intOf]; omega
                all_goals (exfalso; rename_i hz; revert hz; (try rename_i hz; revert hz); simp [hp2, hq2] <;> omega)
        · obtain rfl : k = xs.length := by omega
          have HBL := Lib.hid hbel
          clear hbel hCr
          go_wp2
          go_ret2
          exact ⟨by rw [HF.out]; rfl, HBL.out⟩

end Go.Proofs.YtdpakhggpgdgbaaGreat
