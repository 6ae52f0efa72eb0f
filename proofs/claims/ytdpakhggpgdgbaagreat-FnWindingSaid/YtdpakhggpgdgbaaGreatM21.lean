/-
  Out of the text PolyY: what the draws of polygons need.
  Out of the text PolyZ2: what the draws of polygons need.
  Out of the text PolyI: what the draws of polygons need.
  Out of the text PolyK: what the draws of polygons need.
-/
import Derived.Test.YtdpakhggpgdgbaaGreatM20
import Derived.Test.YtdpakhggpgdgbaaGreatM19
import Derived.Test.YtdpakhggpgdgbaaGreatM18
/- Out of the text PolyY: what the draws of polygons need. -/
namespace Go.Proofs.YtdpakhggpgdgbaaGreat
set_option maxRecDepth 20000
open Go.ChangeShapes Go.WideShapes Go.ChangeAt Go.RowKit
set_option linter.unusedVariables false
set_option linter.unusedSimpArgs false
theorem own_alloc {w : World} {B T K n : Nat} {v : Value} {cs : List Value} (h : w.ownsRow B T K v n cs) (o : Obj) : (w.alloc o).ownsRow B T K v n cs := World.ownsRow.alloc h o
/-- The turns of the first k steps. -/
def turnK (xs : List V) (k : Nat) : Int := sumI (fun i => tn (stp' (PQ xs) xs.length ((i + xs.length - 1) % xs.length)) (stp' (PQ xs) xs.length i)) k
theorem turnK_next (xs : List V) (k : Nat) : turnK xs (k + 1) = turnK xs k + tn (stp' (PQ xs) xs.length ((k + xs.length - 1) % xs.length)) (stp' (PQ xs) xs.length k) := rfl
def tnB (s : Int) (p q : Bool) : Int := if 0 < s ∧ p = false ∧ q = true then 1 else if s < 0 ∧ p = true ∧ q = false then -1 else 0
theorem tn_B (p q : Q2) : tn p q = tnB (sgR (cr p q)) (hiB p) (hiB q) := rfl
theorem tn_small (p q : Q2) : -1 ≤ tn p q ∧ tn p q ≤ 1 := by
  unfold tn
  split
  · omega
  · split <;> omega
theorem turnK_small (xs : List V) : ∀ k : Nat, -(k : Int) ≤ turnK xs k ∧ turnK xs k ≤ (k : Int)
  | 0 => ⟨Int.le_refl 0, Int.le_refl 0⟩
  | k + 1 => by
    have h1 := turnK_small xs k
    have h2 := tn_small (stp' (PQ xs) xs.length ((k + xs.length - 1) % xs.length)) (stp' (PQ xs) xs.length k)
    rw [turnK_next]
    omega
/-- Step k may follow. -/
def goK (xs : List V) (k : Nat) : Bool := !onS (stp' (PQ xs) xs.length ((k + xs.length - 1) % xs.length)) (stp' (PQ xs) xs.length k)
theorem goK_all {xs : List V} (h : ∀ k, k < xs.length → goK xs k = true) : okB (PQ xs) xs.length = true := List.all_eq_true.2 fun k hk => h k (List.mem_range.1 hk)
theorem goK_no {xs : List V} {k : Nat} (hk : k < xs.length) (h : goK xs k = false) : okB (PQ xs) xs.length = false := List.all_eq_false.2 ⟨k, List.mem_range.2 hk, by unfold goK at h; rw [h]; decide⟩
set_option maxHeartbeats 8000000 in
theorem specPolyTurns_any (v : Value) (xs : List V) (w : World) (hv : ReadsL encV w v xs) : Calls Tryz.prog 24 #[v] w fun e w' => e = .returned (toldZ (turnsO xs)) ∧ Below w.heap.size w w' := by
  have RV := specPolyValid_any v xs w hv
  cases hr : polyOk xs
  · rw [hr] at RV
    have hF : turnsO xs = none := by unfold turnsO; rw [hr]; rfl
    rw [hF]
    clear hr hv hF
    go_enter Tryz.func24, Tryz.ntmps24
    go_wp2_with fail
    refine RV.mono ?_; rintro e w1 ⟨rfl, hb1⟩
    have HL1 := Lib.hid hb1
    clear RV hb1
    go_wp2
    go_ret2
    exact ⟨rfl, HL1.out⟩
  · rw [hr] at RV
    have hln := polyOk_len hr
    have HX := Lib.hid (polyOk_small hr)
    have HP := Lib.hid hr
    obtain ⟨g0, o0, c0, rfl, hc0, hm0, hg0, hrg0⟩ := reads_ptr8 hv (by rintro rfl; simp at hln)
    have ST := fun (w' : World) (h1 : g0 < w'.heap.size) (h2 : w'.rangeAt g0 o0 (flt encV xs)) => l8Steps_any g0 o0 c0 xs w' h1 h2 hc0 hm0 hln.2 hln.1 (fun k hk j hj => by have := HX.out _ (List.mem_of_getElem? (at_get hk)) j hj; omega)
    have HR0 := Lib.hid hrg0
    have hcap : xs.length ≤ 48 := hln.2
    clear hr hv hrg0 hm0
    go_enter Tryz.func24, Tryz.ntmps24
    go_wp2_with fail
    refine RV.mono ?_; rintro e w1 ⟨rfl, hb1⟩
    have HL1 := Lib.hid hb1
    have ST1 := Lib.hid (ST w1 (Nat.lt_of_lt_of_le hg0 hb1.size) (cells_below HR0.out hg0 hb1))
    clear RV hb1 ST HR0
    go_wp2_with fail
    refine ST1.out.mono ?_; rintro e w2 ⟨hb2, v1, rfl, ho2⟩
    have hlv := stepsV_len xs xs.length
    have ho3 : w2.ownsRow w.heap.size 40 8 v1 xs.length (flt encV (stepsV xs xs.length)) := by
      have := rows_mono ho2 HL1.out.size
      rwa [hlv] at this
    obtain ⟨g1, cap1, rfl⟩ := own_shape ho3 hln.1
    have hc1 : xs.length ≤ cap1 ∧ cap1 ≤ 9223372036854775807 := by
      have := (ownL_parts ho3 hlv).2.2
      simp only [maxLen] at this
      omega
    have HL2 := Lib.hid (below_next HL1.out hb2)
    have HS2 := Lib.hid ho3
    clear ST1 hb2 ho2 ho3 HL1
    go_wp2
    go_loopw [6, 7] (fun t i wr => ∃ k : Nat, k ≤ xs.length ∧ i = .int .i64 k ∧ t = .int .i64 (turnK xs k) ∧ (∀ p, p < k → goK xs p = true) ∧ wr.ownsRow w.heap.size 40 8 (.slice (some ⟨g1, 0, none⟩) xs.length cap1) xs.length (flt encV (stepsV xs xs.length)) ∧ Below w.heap.size w wr) (fun _ i _ => xs.length - (intOf i).toNat)
    case atStart => exact ⟨0, Nat.zero_le _, rfl, rfl, fun p hp => by omega, HS2.out, HL2.out⟩
    case round =>
      clear HL2 HS2
      obtain ⟨k, hk, rfl, rfl, hgo, hS, hbel⟩ := hrel
      have HGO := Lib.hid hgo
      clear hgo
      by_cases hlt : k < xs.length
      · have hkz : (k : Int) < (xs.length : Int) := by omega
        have hk0 : (0 : Int) ≤ (k : Int) := by omega
        obtain ⟨r, hrr⟩ : ∃ r, (k + xs.length - 1) % xs.length = r := ⟨_, rfl⟩
        have hrl : r < xs.length := by rw [← hrr]; exact Nat.mod_lt _ (by omega)
        obtain ⟨m1, hm1⟩ : ∃ m1 : Int, (k : Int) + (xs.length : Int) = m1 := ⟨_, rfl⟩
        have q0 : IntKind.i64.wrap m1 = m1 := by rw [IntKind.wrap_i64]; omega
        have q0b : IntKind.i64.wrap (m1 - 1) = m1 - 1 := by rw [IntKind.wrap_i64]; omega
        have q2 : (m1 - 1).tmod (xs.length : Int) = (r : Int) := by
          rw [Int.tmod_eq_emod_of_nonneg (by omega), ← hrr, ← hm1]
          have e : (k : Int) + (xs.length : Int) - 1 = ((k + xs.length - 1 : Nat) : Int) := by omega
          rw [e]; simp
        have q3 : IntKind.i64.wrap (r : Int) = (r : Int) := by rw [IntKind.wrap_i64]; omega
        have q4 : ¬ (xs.length : Int) = 0 := by omega
        have q4c : ¬ xs = [] := by rintro rfl; simp at hln
        have q4b : ((xs.length : Int) == 0) = false := by simpa using q4c
        have q5 : (r : Int) < (xs.length : Int) := by omega
        have q6 : (0 : Int) ≤ (r : Int) := by omega
        have hek := at_get (xs := stepsV xs xs.length) (k := k) (by rw [hlv]; exact hlt)
        have her := at_get (xs := stepsV xs xs.length) (k := r) (by rw [hlv]; exact hrl)
        have bx := stepsV_small HX.out hrl
        have bY := stepsV_small HX.out hlt
        have ex := qv_stepsV xs hrl
        have ey := qv_stepsV xs hlt
        have HNX := turnK_next xs k
        have hts := turnK_small xs k
        have htn := tn_small (stp' (PQ xs) xs.length ((k + xs.length - 1) % xs.length)) (stp' (PQ xs) xs.length k)
        have HGK : goK xs k = !onS (stp' (PQ xs) xs.length ((k + xs.length - 1) % xs.length)) (stp' (PQ xs) xs.length k) := rfl
        rw [hrr, ← ex, ← ey] at HNX htn HGK
        have hpx := own_part hS hlv her
        have hpy := own_part (own_alloc hS (.cells (vec 8 (at' (stepsV xs xs.length) r).up) 40)) hlv hek
        have hS2 := own_alloc (own_alloc hS (.cells (vec 8 (at' (stepsV xs xs.length) r).up) 40)) (.cells (vec 8 (at' (stepsV xs xs.length) k).up) 40)
        clear ex ey hrr hek her hS
        generalize at' (stepsV xs xs.length) r = x at *
        generalize at' (stepsV xs xs.length) k = y at *
        have CR := fun w => l8Cross_any x.up y.up (M := 200) (by omega) bx bY w
        have hcs := crs_small (M := 200) (by omega) bx bY
        have S1 := fun w => l3Sign_at (crs x.up y.up) (fun j hj => by have := hcs j hj; omega) w
        have MI := fun w => specMirror_any x.up (small_inR bx (by omega)) w
        have hm := mir_small bx
        have TI := fun w => specTimes_any (mir x.up) y.up (fun j hj => by have := hm j hj; omega) (small_inR bY (by omega)) w
        have hpm := prd_mir_small (M := 200) (by omega) bx bY
        have RE := fun w => specRe_wide (prd (mir x.up) y.up) (fun j hj => by have := hpm j hj; omega) w
        have hds := dts_small (M := 200) (by omega) bx bY
        have S2 := fun w => l3Sign_at (dts x.up y.up) (fun j hj => by have := hds j hj; omega) w
        have U1 := fun w => l8Upper_any x.up bx w
        have U2 := fun w => l8Upper_any y.up bY w
        have hdts : dts x.up y.up = rea (prd (mir x.up) y.up) := rfl
        rw [← hdts] at RE
        have h3 := sgR_three (cr (qv x.up) (qv y.up))
        rw [tn_B] at HNX htn
        have HGK2 : goK xs k = !(decide (sgf (crs x.up y.up) = 0) && decide (sgf (dts x.up y.up) ≤ 0)) := by rw [HGK]; unfold onS; rw [sgf_crs, sgf_dts]
        rw [← sgf_crs] at HNX htn h3
        clear hcs hds hpm hm bx bY hdts HGK
        generalize sgf (crs x.up y.up) = s at *
        generalize sgf (dts x.up y.up) = t at *
        generalize crs x.up y.up = f1 at *
        generalize dts x.up y.up = f2 at *
        generalize prd (mir x.up) y.up = f3 at *
        generalize mir x.up = f4 at *
        generalize hiB (qv x.up) = p at *
        generalize hiB (qv y.up) = q at *
        unfold pt at *
        go_upto_region 10 with (first | (refine load_part (T := 40) (f := x.up) rfl rfl rfl hpx Tryz.underlying40 rfl info_cyc ?_) | (refine store_new (ty := 40) (f' := x.up) rfl rfl rfl rfl zero8 info_cyc ?_))
        show Code.wp _ _ _ _ (wr.alloc (.cells (vec 8 x.up) 40))
        have hXa := RowAt.new wr 8 40 x.up
        have hL3 := hbel.alloc hbel.size (.cells (vec 8 x.up) 40)
        clear hpx hbel
        generalize wr.alloc (.cells (vec 8 x.up) 40) = W1 at *
        generalize wr.heap.size = gx at *
        go_upto_region 11 with (first | (refine load_part (T := 40) (f := y.up) rfl rfl rfl hpy Tryz.underlying40 rfl info_cyc ?_) | (refine store_new (ty := 40) (f' := y.up) rfl rfl rfl rfl zero8 info_cyc ?_))
        show Code.wp _ _ _ _ (W1.alloc (.cells (vec 8 y.up) 40))
        have hX2 := hXa.alloc (.cells (vec 8 y.up) 40)
        have hY2 := RowAt.new W1 8 40 y.up
        have hL4 := hL3.alloc hL3.size (.cells (vec 8 y.up) 40)
        clear hpy hL3 hXa
        generalize W1.alloc (.cells (vec 8 y.up) 40) = W2 at *
        generalize W1.heap.size = gy at *
        go_wp2_with (first | (refine load_row (g := gx) rfl rfl rfl hX2 Tryz.underlying40 rfl info_cyc ?_) | (refine load_row (g := gy) rfl rfl rfl hY2 Tryz.underlying40 rfl info_cyc ?_))
        refine (CR _).mono ?_; rintro e w3 ⟨rfl, hb3⟩
        have hX3 := hX2.below hb3
        have hY3 := hY2.below hb3
        have hS3 := rows_below hS2 hb3
        have hL5 := below_next hL4 hb3
        clear hX2 hY2 hS2 hL4 hb3 CR
        go_upto_region 12 with fail
        refine (S1 _).mono ?_; rintro e w4 ⟨rfl, hb3⟩
        have hX4 := hX3.below hb3
        have hY4 := hY3.below hb3
        have hS4 := rows_below hS3 hb3
        have hL6 := below_next hL5 hb3
        clear hX3 hY3 hS3 hL5 hb3 S1
        go_upto_region 12 with fail
        refine wp_region_held_drew (S := fun w' => RowAt w' gx 8 40 x.up ∧ RowAt w' gy 8 40 y.up ∧ w'.ownsRow w.heap.size 40 8 (.slice (some ⟨g1, 0, none⟩) xs.length cap1) xs.length (flt encV (stepsV xs xs.length)) ∧ Below w.heap.size w w') (by kernel_rfl) ⟨hX4.drew1, hY4.drew1, World.ownsRow.drew hS4, hL6.drew⟩ (fun hHeld => ?_)
        clear hX4 hY4 hS4 hL6
        refine wpAnyH_take (i := 0) (oi := _) (v := .agg (vec 8 x.up)) rfl (by kernel_rfl) (by kernel_rfl) (by kernel_rfl) (fun _ _ _ h => h) (yieldsIf_load_mid (by rfl) _ _ rfl _ _ rfl _ _ ((fun w h => h.1.range)) Tryz.underlying40 rfl (size_cyc8 x.up)) hHeld ?_
        try simp only [Act.put, List.setIfInBounds_toArray, List.set_cons_zero, List.set_cons_succ, List.getElem_toArray, List.getElem_cons_succ, List.getElem_cons_zero]
        refine wpAnyH_take (i := 2) (oi := _) (v := .agg (vec 8 y.up)) rfl (by kernel_rfl) (by kernel_rfl) (by kernel_rfl) (fun _ _ _ h => h) (yieldsIf_load_mid (by rfl) _ _ rfl _ _ rfl _ _ ((fun w h => h.2.1.range)) Tryz.underlying40 rfl (size_cyc8 y.up)) hHeld ?_
        try simp only [Act.put, List.setIfInBounds_toArray, List.set_cons_zero, List.set_cons_succ, List.getElem_toArray, List.getElem_cons_succ, List.getElem_cons_zero]
        refine wpAnyH_ready (rs := [1]) (by kernel_rfl) (by simp) ?_
        refine AllReadyH.cons (o := _) rfl (fun K hK => ?_) AllReadyH.nil
        go_simp
        refine (MI _).mono ?_; rintro e w5 ⟨rfl, hb3⟩
        go_wp2_with fail
        obtain ⟨h1, h2, h4, h5⟩ := hHeld
        refine hK.out _ _ ⟨h1.below hb3, h2.below hb3, rows_below h4 hb3, below_next h5 hb3⟩ (fun hHeld => ?_)
        clear hK K
        try simp only [Act.put, List.setIfInBounds_toArray, List.set_cons_zero, List.set_cons_succ, List.getElem_toArray, List.getElem_cons_succ, List.getElem_cons_zero]
        clear h1 h2 h4 h5 hb3 MI
        refine wpAnyH_ready (rs := [3]) (by kernel_rfl) (by simp) ?_
        refine AllReadyH.cons (o := _) rfl (fun K hK => ?_) AllReadyH.nil
        go_simp
        refine (TI _).mono ?_; rintro e w6 ⟨rfl, hb3⟩
        go_wp2_with fail
        obtain ⟨h1, h2, h4, h5⟩ := hHeld
        refine hK.out _ _ ⟨h1.below hb3, h2.below hb3, rows_below h4 hb3, below_next h5 hb3⟩ (fun hHeld => ?_)
        clear hK K
        try simp only [Act.put, List.setIfInBounds_toArray, List.set_cons_zero, List.set_cons_succ, List.getElem_toArray, List.getElem_cons_succ, List.getElem_cons_zero]
        clear h1 h2 h4 h5 hb3 TI
        refine wpAnyH_ready (rs := [4]) (by kernel_rfl) (by simp) ?_
        refine AllReadyH.cons (o := _) rfl (fun K hK => ?_) AllReadyH.nil
        go_simp
        refine (RE _).mono ?_; rintro e w7 ⟨rfl, hb3⟩
        go_wp2_with fail
        obtain ⟨h1, h2, h4, h5⟩ := hHeld
        refine hK.out _ _ ⟨h1.below hb3, h2.below hb3, rows_below h4 hb3, below_next h5 hb3⟩ (fun hHeld => ?_)
        clear hK K
        try simp only [Act.put, List.setIfInBounds_toArray, List.set_cons_zero, List.set_cons_succ, List.getElem_toArray, List.getElem_cons_succ, List.getElem_cons_zero]
        clear h1 h2 h4 h5 hb3 RE
        refine wpAnyH_ready (rs := [5]) (by kernel_rfl) (by simp) ?_
        refine AllReadyH.cons (o := _) rfl (fun K hK => ?_) AllReadyH.nil
        go_simp
        refine (S2 _).mono ?_; rintro e w8 ⟨rfl, hb3⟩
        go_wp2_with fail
        obtain ⟨h1, h2, h4, h5⟩ := hHeld
        refine hK.out _ _ ⟨h1.below hb3, h2.below hb3, rows_below h4 hb3, below_next h5 hb3⟩ (fun hHeld => ?_)
        clear hK K
        try simp only [Act.put, List.setIfInBounds_toArray, List.set_cons_zero, List.set_cons_succ, List.getElem_toArray, List.getElem_cons_succ, List.getElem_cons_zero]
        clear h1 h2 h4 h5 hb3 S2
        refine wpAnyH_take (i := 6) (oi := _) (v := .int .i64 t) rfl (by kernel_rfl) (by kernel_rfl) (by kernel_rfl) (fun _ _ _ h => h) (Or.inl ⟨by rfl, fun w h => by go_simp⟩) hHeld ?_
        try simp only [Act.put, List.setIfInBounds_toArray, List.set_cons_zero, List.set_cons_succ, List.getElem_toArray, List.getElem_cons_succ, List.getElem_cons_zero]
        refine wpAnyH_done (by kernel_rfl) ?_ _
        obtain ⟨hX9, hY9, hS9, hL9⟩ := hHeld
        have HS9 := Lib.hid hS9
        have HL9 := Lib.hid hL9
        clear hS9 hL9
        by_cases hstop : s = 0 ∧ t ≤ 0
        · obtain ⟨hs0, ht0⟩ := hstop
          subst hs0
          have HNO : Aside (turnsO xs = none) := (show _ = _ from by
            unfold turnsO
            rw [goK_no hlt (by rw [HGK2]; simp [ht0]), Bool.and_false]; rfl)
          clear HNX htn U1 U2 h3 HGK2 hX9 hY9
          go_wp2
          go_ret2
          exact ⟨by rw [HNO.out]; rfl, HL9.out⟩
        · have HGY : Aside (goK xs k = true) := (show _ = _ from by
            rw [HGK2]
            by_cases hs0 : s = 0
            · have : ¬ t ≤ 0 := fun h => hstop ⟨hs0, h⟩
              simp [this]
            · simp [hs0])
          clear HGK2
          obtain ⟨tk, htk⟩ : ∃ tk, turnK xs k = tk := ⟨_, rfl⟩
          rw [htk] at HNX hts ⊢
          have qa : IntKind.i64.wrap (tk + 1) = tk + 1 := by rw [IntKind.wrap_i64]; omega
          have qb : IntKind.i64.wrap (tk - 1) = tk - 1 := by rw [IntKind.wrap_i64]; omega
          have HNX := Lib.hid HNX
          clear htn htk hts
          rcases h3 with rfl | rfl | rfl
          · cases p
            · cases q
              · go_wp2_with (first | (refine load_pt_on (by rfl) rfl rfl hX9.range Tryz.underlying40 rfl info_cyc ?_))
                refine (U1 _).mono ?_; rintro e w9 ⟨rfl, hb3⟩
                have hY10 := hY9.below hb3
                have HS10 := Lib.hid (rows_below HS9.out hb3)
                have HL10 := Lib.hid (below_next HL9.out hb3)
                clear U1 hb3 hX9 hY9 HS9 HL9
                go_wp2_with (first | (refine load_pt_on (by rfl) rfl rfl hY10.range Tryz.underlying40 rfl info_cyc ?_))
                refine (U2 _).mono ?_; rintro e w10 ⟨rfl, hb3⟩
                have HS11 := Lib.hid (rows_below HS10.out hb3)
                have HL11 := Lib.hid (below_next HL10.out hb3)
                clear U2 hb3 hY10 HS10 HL10
                go_wp2
                go_roundw
                case rel => exact ⟨k + 1, by omega, by go_num, by rw [HNX.out]; simp [tnB], upto_succ HGO.out HGY.out, HS11.out, HL11.out⟩
                case measure => simp [intOf]; omega
              · go_wp2_with (first | (refine load_pt_on (by rfl) rfl rfl hX9.range Tryz.underlying40 rfl info_cyc ?_))
                refine (U1 _).mono ?_; rintro e w9 ⟨rfl, hb3⟩
                have hY10 := hY9.below hb3
                have HS10 := Lib.hid (rows_below HS9.out hb3)
                have HL10 := Lib.hid (below_next HL9.out hb3)
                clear U1 hb3 hX9 hY9 HS9 HL9
                go_wp2_with (first | (refine load_pt_on (by rfl) rfl rfl hY10.range Tryz.underlying40 rfl info_cyc ?_))
                refine (U2 _).mono ?_; rintro e w10 ⟨rfl, hb3⟩
                have HS11 := Lib.hid (rows_below HS10.out hb3)
                have HL11 := Lib.hid (below_next HL10.out hb3)
                clear U2 hb3 hY10 HS10 HL10
                go_wp2
                go_roundw
                case rel => exact ⟨k + 1, by omega, by go_num, by rw [HNX.out]; simp [tnB], upto_succ HGO.out HGY.out, HS11.out, HL11.out⟩
                case measure => simp [intOf]; omega
            · go_wp2_with (first | (refine load_pt_on (by rfl) rfl rfl hX9.range Tryz.underlying40 rfl info_cyc ?_))
              refine (U1 _).mono ?_; rintro e w9 ⟨rfl, hb3⟩
              have HS11 := Lib.hid (rows_below HS9.out hb3)
              have HL11 := Lib.hid (below_next HL9.out hb3)
              clear U1 hb3 hX9 hY9 HS9 HL9
              go_wp2
              go_roundw
              case rel => exact ⟨k + 1, by omega, by go_num, by rw [HNX.out]; simp [tnB], upto_succ HGO.out HGY.out, HS11.out, HL11.out⟩
              case measure => simp [intOf]; omega
          · cases p
            · go_wp2_with (first | (refine load_pt_on (by rfl) rfl rfl hX9.range Tryz.underlying40 rfl info_cyc ?_))
              refine (U1 _).mono ?_; rintro e w9 ⟨rfl, hb3⟩
              have HS11 := Lib.hid (rows_below HS9.out hb3)
              have HL11 := Lib.hid (below_next HL9.out hb3)
              clear U1 hb3 hX9 hY9 HS9 HL9
              go_wp2
              go_roundw
              case rel => exact ⟨k + 1, by omega, by go_num, by rw [HNX.out]; simp [tnB], upto_succ HGO.out HGY.out, HS11.out, HL11.out⟩
              case measure => simp [intOf]; omega
            · cases q
              · go_wp2_with (first | (refine load_pt_on (by rfl) rfl rfl hX9.range Tryz.underlying40 rfl info_cyc ?_))
                refine (U1 _).mono ?_; rintro e w9 ⟨rfl, hb3⟩
                have hY10 := hY9.below hb3
                have HS10 := Lib.hid (rows_below HS9.out hb3)
                have HL10 := Lib.hid (below_next HL9.out hb3)
                clear U1 hb3 hX9 hY9 HS9 HL9
                go_wp2_with (first | (refine load_pt_on (by rfl) rfl rfl hY10.range Tryz.underlying40 rfl info_cyc ?_))
                refine (U2 _).mono ?_; rintro e w10 ⟨rfl, hb3⟩
                have HS11 := Lib.hid (rows_below HS10.out hb3)
                have HL11 := Lib.hid (below_next HL10.out hb3)
                clear U2 hb3 hY10 HS10 HL10
                go_wp2
                go_roundw
                case rel => exact ⟨k + 1, by omega, by go_num, by rw [HNX.out]; simp [tnB, Int.sub_eq_add_neg], upto_succ HGO.out HGY.out, HS11.out, HL11.out⟩
                case measure => simp [intOf]; omega
              · go_wp2_with (first | (refine load_pt_on (by rfl) rfl rfl hX9.range Tryz.underlying40 rfl info_cyc ?_))
                refine (U1 _).mono ?_; rintro e w9 ⟨rfl, hb3⟩
                have hY10 := hY9.below hb3
                have HS10 := Lib.hid (rows_below HS9.out hb3)
                have HL10 := Lib.hid (below_next HL9.out hb3)
                clear U1 hb3 hX9 hY9 HS9 HL9
                go_wp2_with (first | (refine load_pt_on (by rfl) rfl rfl hY10.range Tryz.underlying40 rfl info_cyc ?_))
                refine (U2 _).mono ?_; rintro e w10 ⟨rfl, hb3⟩
                have HS11 := Lib.hid (rows_below HS10.out hb3)
                have HL11 := Lib.hid (below_next HL10.out hb3)
                clear U2 hb3 hY10 HS10 HL10
                go_wp2
                go_roundw
                case rel => exact ⟨k + 1, by omega, by go_num, by rw [HNX.out]; simp [tnB], upto_succ HGO.out HGY.out, HS11.out, HL11.out⟩
                case measure => simp [intOf]; omega
          · have ht1 : ¬ t ≤ 0 := fun h => hstop ⟨rfl, h⟩
            go_wp2
            go_roundw
            case rel => exact ⟨k + 1, by omega, by go_num, by rw [HNX.out]; simp [tnB], upto_succ HGO.out HGY.out, HS9.out, HL9.out⟩
            case measure => simp [intOf]; omega
      · obtain rfl : k = xs.length := by omega
        have HB8 := Lib.hid hbel
        have HT : Aside (turnsO xs = some (turnK xs xs.length)) := (show _ = _ from by
          unfold turnsO
          rw [HP.out, goK_all HGO.out]; rfl)
        clear hbel hS
        go_wp2
        go_ret2
        exact ⟨by rw [HT.out]; rfl, HB8.out⟩

end Go.Proofs.YtdpakhggpgdgbaaGreat
/- Out of the text PolyZ2: what the draws of polygons need. -/
namespace Go.Proofs.YtdpakhggpgdgbaaGreat
set_option maxRecDepth 20000
open Go.ChangeShapes Go.WideShapes Go.ChangeAt Go.RowKit
set_option linter.unusedVariables false
set_option linter.unusedSimpArgs false
theorem bendK_at (xs : List V) {k n : Nat} (h : k < n) : (bendK xs n)[k]? = some (bnd (PQ xs) xs.length k) := by
  unfold bendK
  rw [List.getElem?_map, List.getElem?_range h]; rfl
set_option maxHeartbeats 4000000 in
theorem specPolyConvex_any (v : Value) (xs : List V) (w : World) (hv : ReadsL encV w v xs) : Calls Tryz.prog 7 #[v] w fun e w' => e = .returned (.bool (convB xs)) ∧ Below w.heap.size w w' := by
  have BE := Lib.hid (specPolyBends_any v xs w hv)
  have TU := fun (w' : World) (h : ReadsL encV w' v xs) => specPolyTurns_any v xs w' h
  have HV := Lib.hid hv
  have hvs : ∃ p cap, v = .slice p xs.length cap ∧ cap ≤ maxLen ∧ xs.length ≤ cap := by
    obtain ⟨p, cap, rfl, h1, h2, _⟩ := hv
    exact ⟨p, cap, rfl, h2, h1⟩
  obtain ⟨p, cap, rfl, hcm, hcl⟩ := hvs
  simp only [maxLen] at hcm
  clear hv
  cases h : polyOk xs
  · have hF : convB xs = false := by unfold convB; rw [h]; rfl
    have hB : bendsO xs = none := by unfold bendsO; rw [h]; rfl
    rw [hF]
    rw [hB] at BE
    obtain ⟨m, q, hq⟩ : ∃ (m : Int) (q : Bool), toldZ (turnsO xs) = .tuple #[.int .i64 m, .bool q] := ⟨_, _, rfl⟩
    rw [hq] at TU
    clear hF hB hq
    go_enter Tryz.func7, Tryz.ntmps7
    go_wp2_with fail
    refine BE.out.mono ?_; rintro e w1 ⟨hb1, v1, rfl, -⟩
    have HB := Lib.hid hb1
    have TU1 := TU w1 (HV.out.below hb1)
    clear BE hb1 TU HV
    go_wp2_with fail
    refine TU1.mono ?_; rintro e w2 ⟨rfl, hb2⟩
    have HB2 := Lib.hid (below_next HB.out hb2)
    clear TU1 hb2
    go_wp2
    go_ret
    exact ⟨rfl, HB2.out⟩
  · have hln := polyOk_len h
    have hB : bendsO xs = some (bendK xs xs.length) := bendsO_yes h
    rw [hB] at BE
    cases hk : okB (PQ xs) xs.length
    · have hF : convB xs = false := by unfold convB; rw [h, hk]; rfl
      have hT : turnsO xs = none := by unfold turnsO; rw [h, hk]; rfl
      rw [hF]
      rw [hT] at TU
      simp only [toldZ, Option.getD_none, Option.isSome_none] at TU
      clear hF hT hk hB
      go_enter Tryz.func7, Tryz.ntmps7
      go_wp2_with fail
      refine BE.out.mono ?_; rintro e w1 ⟨hb1, v1, rfl, -⟩
      have HB := Lib.hid hb1
      have TU1 := TU w1 (HV.out.below hb1)
      clear BE hb1 TU HV
      go_wp2_with fail
      refine TU1.mono ?_; rintro e w2 ⟨rfl, hb2⟩
      have HB2 := Lib.hid (below_next HB.out hb2)
      clear TU1 hb2
      go_wp2
      go_ret
      exact ⟨rfl, HB2.out⟩
    · have hT : turnsO xs = some (turnZ (PQ xs) xs.length) := by unfold turnsO; rw [h, hk]; rfl
      rw [hT] at TU
      simp only [toldZ, Option.getD_some, Option.isSome_some] at TU
      have HA := convB_asked xs
      rw [h, hk] at HA
      have hms : -(xs.length : Int) ≤ turnZ (PQ xs) xs.length ∧ turnZ (PQ xs) xs.length ≤ (xs.length : Int) := turnK_small xs xs.length
      clear hT hk hB
      by_cases h3 : xs.length < 3
      · have hF : convB xs = false := by rw [HA, decide_eq_false (by omega : ¬ 3 ≤ xs.length)]; rfl
        rw [hF]
        have h3z : (xs.length : Int) < 3 := by omega
        clear hF HA hms
        generalize turnZ (PQ xs) xs.length = m at *
        go_enter Tryz.func7, Tryz.ntmps7
        go_wp2_with fail
        refine BE.out.mono ?_; rintro e w1 ⟨hb1, v1, rfl, -⟩
        have HB := Lib.hid hb1
        have TU1 := TU w1 (HV.out.below hb1)
        clear BE hb1 TU HV
        go_wp2_with fail
        refine TU1.mono ?_; rintro e w2 ⟨rfl, hb2⟩
        have HB2 := Lib.hid (below_next HB.out hb2)
        clear TU1 hb2
        go_wp2
        go_ret
        exact ⟨rfl, HB2.out⟩
      · have h3z : ¬ (xs.length : Int) < 3 := by omega
        rw [decide_eq_true (by omega : 3 ≤ xs.length)] at HA
        have HAH := Lib.hid HA
        clear HA
        have hxs : ¬ xs = [] := by rintro rfl; simp at h3
        have hbl := bendK_len xs xs.length
        have hcap : xs.length ≤ 48 := hln.2
        obtain ⟨b0, hb0⟩ : ∃ b0, bnd (PQ xs) xs.length 0 = b0 := ⟨_, rfl⟩
        have HB0 := Lib.hid hb0
        obtain ⟨m, hm⟩ : ∃ m, turnZ (PQ xs) xs.length = m := ⟨_, rfl⟩
        rw [hm] at TU hms
        have HM := Lib.hid hm
        have hqm : IntKind.i64.wrap (m * m) = m * m := by
          have h1 : m.natAbs ≤ 48 := by omega
          have h2 : (m * m).natAbs ≤ 48 * 48 := by rw [Int.natAbs_mul]; exact Nat.mul_le_mul h1 h1
          rw [IntKind.wrap_i64]; omega
        obtain ⟨mm, hmm⟩ : ∃ mm, m * m = mm := ⟨_, rfl⟩
        rw [hmm] at hqm
        have HMM := Lib.hid hmm
        have HE0 := Lib.hid (bendK_at xs (k := 0) (n := xs.length) (by omega))
        have HEK := Lib.hid (fun k (hk : k < xs.length) => bendK_at xs (k := k) (n := xs.length) hk)
        clear hb0 hm hms
        go_enter Tryz.func7, Tryz.ntmps7
        go_wp2_with fail
        refine BE.out.mono ?_; rintro e w1 ⟨hb1, v1, rfl, ho1⟩
        have HB := Lib.hid hb1
        have HO1 : Aside (w1.ownsRow w.heap.size 3 1 v1 xs.length (flt encI (bendK xs xs.length))) := (show World.ownsRow _ _ _ _ _ _ _ from by
          have : w1.ownsRow w.heap.size 3 1 v1 (bendK xs xs.length).length (flt encI (bendK xs xs.length)) := ho1
          rwa [hbl] at this)
        obtain ⟨g1, cap1, rfl⟩ := own_shape HO1.out hln.1
        have hc1 : xs.length ≤ cap1 ∧ cap1 ≤ 9223372036854775807 := by
          have := (ownL_parts HO1.out hbl).2.2
          simp only [maxLen] at this
          omega
        have TU1 := TU w1 (HV.out.below hb1)
        clear BE hb1 TU HV ho1
        go_wp2_with fail
        refine TU1.mono ?_; rintro e w2 ⟨rfl, hb2⟩
        have HB2 := Lib.hid (below_next HB.out hb2)
        have HO2 := Lib.hid (rows_below HO1.out hb2)
        clear TU1 hb2 HO1 HB
        go_wp2
        go_loopw [7] (fun i wr => ∃ k : Nat, k ≤ xs.length ∧ i = .int .i64 k ∧ (∀ p, p < k → bnd (PQ xs) xs.length p = b0) ∧ wr.ownsRow w.heap.size 3 1 (.slice (some ⟨g1, 0, none⟩) xs.length cap1) xs.length (flt encI (bendK xs xs.length)) ∧ Below w.heap.size w wr) (fun i _ => xs.length - (intOf i).toNat)
        case atStart => exact ⟨0, Nat.zero_le _, rfl, fun p hp => by omega, HO2.out, HB2.out⟩
        case round =>
          clear HO2 HB2
          obtain ⟨k, hk, rfl, hall, hO, hbel⟩ := hrel
          have HAL := Lib.hid hall
          clear hall
          have hrg := (ownL_parts hO hbl).2.1
          have hc0 := int_cell hrg HE0.out
          rw [HB0.out] at hc0
          simp only [Nat.zero_add] at hc0
          by_cases hlt : k < xs.length
          · have hkz : (k : Int) < (xs.length : Int) := by omega
            have hk0 : (0 : Int) ≤ (k : Int) := by omega
            have hz0 : (0 : Int) < (xs.length : Int) := by omega
            have hck := int_cell hrg (HEK.out k hlt)
            simp only [Nat.zero_add] at hck
            obtain ⟨bk, hbk⟩ : ∃ bk, bnd (PQ xs) xs.length k = bk := ⟨_, rfl⟩
            rw [hbk] at hck
            have HBK := Lib.hid hbk
            have hOd : wr.drew.ownsRow w.heap.size 3 1 (.slice (some ⟨g1, 0, none⟩) xs.length cap1) xs.length (flt encI (bendK xs xs.length)) := World.ownsRow.drew hO
            clear hrg hbk
            go_upto_region 8 with fail
            refine wp_region_held_drew (S := fun w' => w' = wr.drew) (by kernel_rfl) rfl (fun hHeld => ?_)
            have hck2 : wr.drew.cell? ⟨g1, k, none⟩ = some (.int .i64 bk) := hck
            have hc02 : wr.drew.cell? ⟨g1, 0, none⟩ = some (.int .i64 b0) := hc0
            clear hck hc0 hO
            refine wpAnyH_take (i := 0) (oi := _) (v := .slice (some ⟨g1, 0, none⟩) xs.length cap1) rfl (by kernel_rfl) (by kernel_rfl) (by kernel_rfl) (fun _ _ _ h => h) (Or.inl ⟨by rfl, fun w h => by go_simp⟩) hHeld ?_
            try simp only [Act.put, List.setIfInBounds_toArray, List.set_cons_zero, List.set_cons_succ, List.getElem_toArray, List.getElem_cons_succ, List.getElem_cons_zero]
            refine wpAnyH_take (i := 1) (oi := _) (v := .int .i64 k) rfl (by kernel_rfl) (by kernel_rfl) (by kernel_rfl) (fun _ _ _ h => h) (Or.inl ⟨by rfl, fun w h => by go_simp⟩) hHeld ?_
            try simp only [Act.put, List.setIfInBounds_toArray, List.set_cons_zero, List.set_cons_succ, List.getElem_toArray, List.getElem_cons_succ, List.getElem_cons_zero]
            refine wpAnyH_take (i := 2) (oi := _) (v := .pointer (some ⟨g1, k, none⟩)) rfl (by kernel_rfl) (by kernel_rfl) (by kernel_rfl) (fun _ _ _ h => h) (Or.inl ⟨by rfl, fun w h => by go_simp⟩) hHeld ?_
            try simp only [Act.put, List.setIfInBounds_toArray, List.set_cons_zero, List.set_cons_succ, List.getElem_toArray, List.getElem_cons_succ, List.getElem_cons_zero]
            refine wpAnyH_take (i := 3) (oi := _) (v := .int .i64 bk) rfl (by kernel_rfl) (by kernel_rfl) (by kernel_rfl) (fun _ _ _ h => h) (Or.inl ⟨by rfl, fun w h => by subst h; have hcell := hck2; go_simp⟩) hHeld ?_
            try simp only [Act.put, List.setIfInBounds_toArray, List.set_cons_zero, List.set_cons_succ, List.getElem_toArray, List.getElem_cons_succ, List.getElem_cons_zero]
            refine wpAnyH_take (i := 4) (oi := _) (v := .slice (some ⟨g1, 0, none⟩) xs.length cap1) rfl (by kernel_rfl) (by kernel_rfl) (by kernel_rfl) (fun _ _ _ h => h) (Or.inl ⟨by rfl, fun w h => by go_simp⟩) hHeld ?_
            try simp only [Act.put, List.setIfInBounds_toArray, List.set_cons_zero, List.set_cons_succ, List.getElem_toArray, List.getElem_cons_succ, List.getElem_cons_zero]
            refine wpAnyH_take (i := 5) (oi := _) (v := .pointer (some ⟨g1, 0, none⟩)) rfl (by kernel_rfl) (by kernel_rfl) (by kernel_rfl) (fun _ _ _ h => h) (Or.inl ⟨by rfl, fun w h => by go_simp⟩) hHeld ?_
            try simp only [Act.put, List.setIfInBounds_toArray, List.set_cons_zero, List.set_cons_succ, List.getElem_toArray, List.getElem_cons_succ, List.getElem_cons_zero]
            refine wpAnyH_take (i := 6) (oi := _) (v := .int .i64 b0) rfl (by kernel_rfl) (by kernel_rfl) (by kernel_rfl) (fun _ _ _ h => h) (Or.inl ⟨by rfl, fun w h => by subst h; have hcell := hc02; go_simp⟩) hHeld ?_
            try simp only [Act.put, List.setIfInBounds_toArray, List.set_cons_zero, List.set_cons_succ, List.getElem_toArray, List.getElem_cons_succ, List.getElem_cons_zero]
            refine wpAnyH_take (i := 7) (oi := _) (v := .bool (bk != b0)) rfl (by kernel_rfl) (by kernel_rfl) (by kernel_rfl) (fun _ _ _ h => h) (Or.inl ⟨by rfl, fun w h => by go_simp⟩) hHeld ?_
            try simp only [Act.put, List.setIfInBounds_toArray, List.set_cons_zero, List.set_cons_succ, List.getElem_toArray, List.getElem_cons_succ, List.getElem_cons_zero]
            refine wpAnyH_done (by kernel_rfl) ?_ _
            have HOD := Lib.hid hOd
            have HBL := Lib.hid hbel.drew
            clear hOd hbel hck2 hc02 hHeld
            cases hne : (bk != b0)
            · have heq : bk = b0 := by simpa using hne
              go_wp2
              go_roundw
              case rel => exact ⟨k + 1, by omega, by go_num, upto_succ HAL.out (by rw [HBK.out, heq]), HOD.out, HBL.out⟩
              case measure => simp [intOf]; omega
            · have hF : convB xs = false := by
                rw [HAH.out]
                have : (List.range xs.length).all (fun k => decide (bnd (PQ xs) xs.length k = bnd (PQ xs) xs.length 0)) = false := List.all_eq_false.2 ⟨k, List.mem_range.2 hlt, by rw [HBK.out, HB0.out]; simpa using hne⟩
                rw [this]; simp
              have HF := Lib.hid hF
              clear hF
              go_wp2
              go_ret
              exact ⟨by rw [HF.out]; rfl, HBL.out⟩
          · obtain rfl : k = xs.length := by omega
            have hz0 : (0 : Int) < (xs.length : Int) := by omega
            have HBL := Lib.hid hbel
            have hall : (List.range xs.length).all (fun k => decide (bnd (PQ xs) xs.length k = bnd (PQ xs) xs.length 0)) = true := List.all_eq_true.2 fun k hk => decide_eq_true (by rw [HB0.out]; exact HAL.out k (List.mem_range.1 hk))
            have hF : convB xs = (decide (b0 = m) && decide (mm = 1)) := by
              rw [HAH.out, hall, HB0.out, HM.out, HMM.out]; simp
            have HF := Lib.hid hF
            clear hF hall hbel hO hrg
            by_cases hbm : b0 = m
            · subst hbm
              go_wp2
              go_ret
              exact ⟨by rw [HF.out]; by_cases h1 : mm = 1 <;> simp [h1], HBL.out⟩
            · have hbm2 : (b0 == m) = false := by simpa using hbm
              go_wp2
              go_ret
              exact ⟨by rw [HF.out]; simp [hbm], HBL.out⟩

end Go.Proofs.YtdpakhggpgdgbaaGreat
/- Out of the text PolyI: what the draws of polygons need. -/
namespace Go.Proofs.YtdpakhggpgdgbaaGreat
set_option maxRecDepth 20000
open Go.ChangeShapes Go.WideShapes Go.ChangeAt Go.RowKit
set_option linter.unusedVariables false
set_option linter.unusedSimpArgs false
set_option maxHeartbeats 2000000 in
theorem PolyArea_any (v : Value) (xs : List V) (w : World) (hv : ReadsL encV w v xs) : Calls Tryz.prog 10 #[v] w fun e w' => e = .returned (tls (polyOk xs) (areaV xs)) ∧ Below w.heap.size w w' := by
  have hv1 := hv.below ((Below.refl w.heap.size w).alloc (Nat.le_refl _) (.cells (vec 4 nul) 32))
  have T := polygonOf_any v xs _ hv1
  have hO := RowAt.new w 4 32 nul
  have hL := (Below.refl w.heap.size w).alloc (Nat.le_refl _) (.cells (vec 4 nul) 32)
  clear hv hv1
  cases h : polyOk xs
  · rw [polyO_no h] at T
    rw [ans_no4]
    have T := Lib.hid T
    go_enter Tryz.func10, Tryz.ntmps10
    go_upto_region 1 with fail
    show Code.wp _ _ _ _ (w.alloc (.cells (vec 4 nul) 32))
    generalize w.alloc (.cells (vec 4 nul) 32) = W at *
    go_wp2_with fail
    refine T.out.mono ?_; rintro e w1 ⟨hb1, v1, rfl, -⟩
    have hO1 := hO.below hb1
    have hL1 := below_next hL hb1
    clear T hb1 hO hL
    go_wp2_with (refine store_row rfl rfl rfl (show _ = Value.agg (vec 4 nul) from rfl) hO1 info_surd ?_)
    refine bodyPost_ret (results_row_tmp rfl rfl hO1.setRow Tryz.underlying32 rfl info_surd) rfl ?_
    exact ⟨rfl, below_setRow hL1 (by omega) _⟩
  · rw [polyO_yes h] at T
    have hln := polyOk_len h
    have AR := fun (v' : Value) (w' : World) (hr : ReadsL encV w' v' xs) => area_any v' xs w' hr hln.1 hln.2 (polyOk_small h)
    rw [show accF (sidesL xs xs.length) = areaV xs from accF_is xs] at AR
    obtain ⟨c', v', hT, hE⟩ := told_some4 (areaV xs)
    rw [hE]
    clear hE
    generalize areaV xs = r at *
    have T := Lib.hid T
    go_enter Tryz.func10, Tryz.ntmps10
    go_upto_region 1 with fail
    show Code.wp _ _ _ _ (w.alloc (.cells (vec 4 nul) 32))
    generalize w.alloc (.cells (vec 4 nul) 32) = W at *
    go_wp2_with fail
    refine T.out.mono ?_; rintro e w1 ⟨hb1, v1, rfl, ho1⟩
    have hO1 := hO.below hb1
    have hL1 := below_next hL hb1
    have AR1 := AR v1 w1 (ownL_reads ho1)
    clear T hb1 hO hL ho1 AR
    go_wp2_with fail
    refine AR1.mono ?_; rintro e w2 ⟨rfl, hb2⟩
    have hO2 := hO1.below hb2
    have hL2 := below_next hL1 hb2
    clear hO1 hL1 hb2 AR1
    go_wp2_with fail
    refine (hT _).mono ?_; rintro e w3 ⟨rfl, hb3⟩
    have hO3 := hO2.below hb3
    have hL3 := below_next hL2 hb3
    clear hO2 hL2 hb3 hT
    go_wp2_with (refine store_row rfl rfl rfl rfl hO3 info_surd ?_)
    refine bodyPost_ret (results_row_tmp rfl rfl hO3.setRow Tryz.underlying32 rfl info_surd) rfl ?_
    exact ⟨rfl, below_setRow hL3 (by omega) _⟩

set_option maxHeartbeats 2000000 in
theorem PolyBends_any (v : Value) (xs : List V) (w : World) (hv : ReadsL encV w v xs) : Calls Tryz.prog 9 #[v] w (ToldI w (bendsO xs)) := by
  have T := polygonOf_any v xs w hv
  clear hv
  cases h : polyOk xs
  · rw [polyO_no h] at T
    have hF : bendsO xs = none := by unfold bendsO; rw [h]; rfl
    rw [hF]
    have T := Lib.hid T
    go_enter Tryz.func9, Tryz.ntmps9
    go_wp2_with fail
    refine T.out.mono ?_; rintro e w1 ⟨hb1, v1, rfl, -⟩
    have HB := Lib.hid hb1
    clear T hb1
    go_wp2
    go_ret2
    exact ⟨HB.out, _, rfl, World.ownsRow_nil _ _ _ _⟩
  · rw [polyO_yes h] at T
    have hln := polyOk_len h
    have BE := fun (v' : Value) (w' : World) (hr : ReadsL encV w' v' xs) => Lib.hid (bends_any v' xs w' hr hln.1 hln.2 (polyOk_small h))
    rw [bends_way xs] at BE
    have hF : bendsO xs = some ((List.range xs.length).map (bnd (PQ xs) xs.length)) := by unfold bendsO; rw [h]; rfl
    rw [hF]
    clear hF
    generalize (List.range xs.length).map (bnd (PQ xs) xs.length) = L at *
    have T := Lib.hid T
    go_enter Tryz.func9, Tryz.ntmps9
    go_wp2_with fail
    refine T.out.mono ?_; rintro e w1 ⟨hb1, v1, rfl, ho1⟩
    have HB := Lib.hid hb1
    have BE1 := BE v1 w1 (ownL_reads ho1)
    clear T hb1 ho1 BE
    go_wp2_with fail
    refine BE1.out.mono ?_; rintro e w2 ⟨hb2, v2, rfl, ho2⟩
    have HB2 := Lib.hid (below_next HB.out hb2)
    have HO2 := Lib.hid (rows_mono ho2 HB.out.size)
    clear hb2 ho2 BE1
    go_wp2
    go_ret2
    exact ⟨HB2.out, _, rfl, HO2.out⟩
/-- The turns of a polygon to calculate with. -/
theorem turns_any (v : Value) (xs : List V) (w : World) (hv : ReadsL encV w v xs) (h : polyOk xs = true) :
    Calls Tryz.prog 19 #[v] w fun e w' => e = .returned (toldZ (turnsO xs)) ∧ Below w.heap.size w w' := by
  have hln := polyOk_len h
  have hl := stepsQ_len xs xs.length
  have ST := steps_any v xs w hv hln.1 hln.2 (fun x hx => small_R (polyOk_small h x hx))
  have WD := fun (v' : Value) (w' : World) (hr : ReadsL encV w' v' (stepsQ xs xs.length)) => winding_any v' (stepsQ xs xs.length) w' hr (by omega) (by omega) (stepsQ_small hln.1 (polyOk_small h))
  rw [turns_way h] at WD
  clear hl
  generalize stepsQ xs xs.length = ys at *
  obtain ⟨m, q, hq⟩ : ∃ (m : Int) (q : Bool), toldZ (turnsO xs) = .tuple #[.int .i64 m, .bool q] := ⟨_, _, rfl⟩
  rw [hq] at WD ⊢
  clear hq hv
  have ST := Lib.hid ST
  go_enter Tryz.func19, Tryz.ntmps19
  go_wp2_with fail
  refine ST.out.mono ?_; rintro e w1 ⟨hb1, v1, rfl, ho1⟩
  have WD1 := WD v1 w1 (ownL_reads ho1)
  have HB := Lib.hid hb1
  clear ST hb1 ho1 WD
  go_wp2_with fail
  refine WD1.mono ?_; rintro e w2 ⟨rfl, hb2⟩
  have HB2 := Lib.hid (below_next HB.out hb2)
  clear hb2 WD1
  go_wp2
  go_ret2
  exact ⟨rfl, HB2.out⟩
theorem seen_yes {xs : List V} {c : V} (h : (polyOk xs && smallF 100 c.up) = true) : seenO xs c = some (aroundL xs c) := by unfold seenO; rw [h]; rfl
theorem seen_no {xs : List V} {c : V} (h : (polyOk xs && smallF 100 c.up) = false) : seenO xs c = none := by unfold seenO; rw [h]; rfl
set_option maxHeartbeats 2000000 in
theorem PolyOn_any (v : Value) (xs : List V) (c : V) (w : World) (hv : ReadsL encV w v xs) : Calls Tryz.prog 15 #[v, pt c.up] w fun e w' => e = .returned (.bool (onB xs c)) ∧ Below w.heap.size w w' := by
  have sc := vec_size 8 c.up
  have hv1 := hv.below ((Below.refl w.heap.size w).alloc (Nat.le_refl _) (.cells (vec 8 c.up) 40))
  have T := Lib.hid (polygonAround_any v xs c _ hv1)
  have hC := RowAt.new w 8 40 c.up
  have hL := (Below.refl w.heap.size w).alloc (Nat.le_refl _) (.cells (vec 8 c.up) 40)
  clear hv hv1
  unfold pt at *
  cases h : (polyOk xs && smallF 100 c.up)
  · have hF : onB xs c = false := by unfold onB; rw [h]; rfl
    rw [hF]
    rw [seen_no h] at T
    clear hF h
    go_enter Tryz.func15, Tryz.ntmps15
    go_upto_region 1 with fail
    show Code.wp _ _ _ _ (w.alloc (.cells (vec 8 c.up) 40))
    generalize w.alloc (.cells (vec 8 c.up) 40) = W at *
    go_wp2_with (refine load_row (g := w.heap.size) rfl rfl rfl hC Tryz.underlying40 rfl info_cyc ?_)
    refine T.out.mono ?_; rintro e w1 ⟨hb1, v1, rfl, -⟩
    have HB := Lib.hid (below_next hL hb1)
    clear T hb1 hC hL
    go_wp2
    go_ret
    exact ⟨rfl, HB.out⟩
  · have hF : onB xs c = meetL (aroundL xs c) := by unfold onB; rw [h, on_way]; rfl
    rw [hF]
    rw [seen_yes h] at T
    rw [Bool.and_eq_true] at h
    have hln := polyOk_len h.1
    have hal := around_len xs c
    have MZ := fun (v' : Value) (w' : World) (hr : ReadsL encV w' v' (aroundL xs c)) => meetsZero_any v' (aroundL xs c) w' hr (by omega) (by omega) (aroundL_small (polyOk_small h.1) (smallF_iff.1 h.2))
    clear hF hal
    generalize meetL (aroundL xs c) = q at *
    go_enter Tryz.func15, Tryz.ntmps15
    go_upto_region 1 with fail
    show Code.wp _ _ _ _ (w.alloc (.cells (vec 8 c.up) 40))
    generalize w.alloc (.cells (vec 8 c.up) 40) = W at *
    go_wp2_with (refine load_row (g := w.heap.size) rfl rfl rfl hC Tryz.underlying40 rfl info_cyc ?_)
    refine T.out.mono ?_; rintro e w1 ⟨hb1, v1, rfl, ho1⟩
    have HB := Lib.hid (below_next hL hb1)
    have MZ1 := MZ v1 w1 (ownL_reads ho1)
    clear T hb1 hC hL ho1 MZ
    go_wp2_with fail
    refine MZ1.mono ?_; rintro e w2 ⟨rfl, hb2⟩
    have HB2 := Lib.hid (below_next HB.out hb2)
    clear hb2 MZ1
    go_wp2
    go_ret
    exact ⟨ret_bool (by simp), HB2.out⟩
set_option maxHeartbeats 2000000 in
theorem PolyWinding_any (v : Value) (xs : List V) (c : V) (w : World) (hv : ReadsL encV w v xs) : Calls Tryz.prog 13 #[v, pt c.up] w fun e w' => e = .returned (toldZ (windO xs c)) ∧ Below w.heap.size w w' := by
  have sc := vec_size 8 c.up
  have hv1 := hv.below ((Below.refl w.heap.size w).alloc (Nat.le_refl _) (.cells (vec 8 c.up) 40))
  have T := Lib.hid (polygonAround_any v xs c _ hv1)
  have hC := RowAt.new w 8 40 c.up
  have hL := (Below.refl w.heap.size w).alloc (Nat.le_refl _) (.cells (vec 8 c.up) 40)
  clear hv hv1
  unfold pt at *
  cases h : (polyOk xs && smallF 100 c.up)
  · have hF : windO xs c = none := by unfold windO; rw [h]; rfl
    rw [hF]
    rw [seen_no h] at T
    clear hF h
    go_enter Tryz.func13, Tryz.ntmps13
    go_upto_region 1 with fail
    show Code.wp _ _ _ _ (w.alloc (.cells (vec 8 c.up) 40))
    generalize w.alloc (.cells (vec 8 c.up) 40) = W at *
    go_wp2_with (refine load_row (g := w.heap.size) rfl rfl rfl hC Tryz.underlying40 rfl info_cyc ?_)
    refine T.out.mono ?_; rintro e w1 ⟨hb1, v1, rfl, -⟩
    have HB := Lib.hid (below_next hL hb1)
    clear T hb1 hC hL
    go_wp2
    go_ret2
    exact ⟨rfl, HB.out⟩
  · have hF : windO xs c = windL (aroundL xs c) := by
      unfold windO windL
      rw [h, on_way, wind_way]
      cases onP (PQ xs) (qv c.up) xs.length <;> rfl
    rw [hF]
    rw [seen_yes h] at T
    rw [Bool.and_eq_true] at h
    have hln := polyOk_len h.1
    have hal := around_len xs c
    have WD := fun (v' : Value) (w' : World) (hr : ReadsL encV w' v' (aroundL xs c)) => winding_any v' (aroundL xs c) w' hr (by omega) (by omega) (aroundL_small (polyOk_small h.1) (smallF_iff.1 h.2))
    clear hF hal
    obtain ⟨m, q, hq⟩ : ∃ (m : Int) (q : Bool), toldZ (windL (aroundL xs c)) = .tuple #[.int .i64 m, .bool q] := ⟨_, _, rfl⟩
    rw [hq] at WD ⊢
    clear hq
    go_enter Tryz.func13, Tryz.ntmps13
    go_upto_region 1 with fail
    show Code.wp _ _ _ _ (w.alloc (.cells (vec 8 c.up) 40))
    generalize w.alloc (.cells (vec 8 c.up) 40) = W at *
    go_wp2_with (refine load_row (g := w.heap.size) rfl rfl rfl hC Tryz.underlying40 rfl info_cyc ?_)
    refine T.out.mono ?_; rintro e w1 ⟨hb1, v1, rfl, ho1⟩
    have HB := Lib.hid (below_next hL hb1)
    have WD1 := WD v1 w1 (ownL_reads ho1)
    clear T hb1 hC hL ho1 WD
    go_wp2_with fail
    refine WD1.mono ?_; rintro e w2 ⟨rfl, hb2⟩
    have HB2 := Lib.hid (below_next HB.out hb2)
    clear hb2 WD1
    go_wp2
    go_ret2
    exact ⟨rfl, HB2.out⟩

end Go.Proofs.YtdpakhggpgdgbaaGreat
/- Out of the text PolyK: what the draws of polygons need. -/
namespace Go.Proofs.YtdpakhggpgdgbaaGreat
set_option maxRecDepth 20000
open Go.ChangeShapes Go.WideShapes Go.ChangeAt Go.RowKit
set_option linter.unusedVariables false
set_option linter.unusedSimpArgs false
/-- The first k and the last k elements have changed places. -/
def rvL (xs : List V) (k : Nat) : List V := (List.range xs.length).map fun p => if p < k ∨ xs.length ≤ p + k then at' xs (xs.length - 1 - p) else at' xs p
theorem rvL_len (xs : List V) (k : Nat) : (rvL xs k).length = xs.length := by simp [rvL]
theorem rvL_at {xs : List V} {k p : Nat} (hp : p < xs.length) : (rvL xs k)[p]? = some (if p < k ∨ xs.length ≤ p + k then at' xs (xs.length - 1 - p) else at' xs p) := by
  unfold rvL
  rw [List.getElem?_map, List.getElem?_range hp]; rfl
theorem rvL_none (xs : List V) : rvL xs 0 = xs := by
  refine List.ext_getElem? fun p => ?_
  by_cases hp : p < xs.length
  · rw [rvL_at hp, if_neg (by omega), at_get hp]
  · rw [List.getElem?_eq_none (by rw [rvL_len]; omega), List.getElem?_eq_none (by omega)]
theorem rvL_all {xs : List V} {k : Nat} (h : xs.length ≤ 2 * k + 1) : rvL xs k = xs.reverse := by
  rw [← backV_all]
  unfold rvL backV
  refine List.map_congr_left fun p hp => ?_
  have hp := List.mem_range.1 hp
  by_cases hc : p < k ∨ xs.length ≤ p + k
  · rw [if_pos hc]
  · rw [if_neg hc, show xs.length - 1 - p = p by omega]
theorem rvL_step {xs : List V} {k r : Nat} (hr : xs.length - 1 - k = r) (h : k < r) : ((rvL xs k).set k (at' xs r)).set r (at' xs k) = rvL xs (k + 1) := by
  refine List.ext_getElem? fun p => ?_
  by_cases hp : p < xs.length
  · rw [rvL_at hp]
    by_cases e1 : p = r
    · subst e1
      rw [List.getElem?_set_self (by rw [List.length_set, rvL_len]; exact hp), if_pos (by omega), show xs.length - 1 - p = k by omega]
    · rw [List.getElem?_set_ne (Ne.symm e1)]
      by_cases e2 : p = k
      · subst e2
        rw [List.getElem?_set_self (by rw [rvL_len]; exact hp), if_pos (by omega), hr]
      · rw [List.getElem?_set_ne (Ne.symm e2), rvL_at hp]
        by_cases hc : p < k ∨ xs.length ≤ p + k
        · rw [if_pos hc, if_pos (by omega)]
        · rw [if_neg hc, if_neg (by omega)]
  · rw [List.getElem?_eq_none (by rw [List.length_set, List.length_set, rvL_len]; omega), List.getElem?_eq_none (by rw [rvL_len]; omega)]
set_option maxHeartbeats 4000000 in
theorem reverse_any (g cap B : Nat) (xs : List V) (w : World) (ho : OwnL encV 8 w B 40 (.slice (some ⟨g, 0, none⟩) xs.length cap) xs) (h1 : 1 ≤ xs.length) (h48 : xs.length ≤ 48) :
    Calls Tryz.prog 27 #[.slice (some ⟨g, 0, none⟩) xs.length cap] w fun e w' => (∃ v, e = .returned v) ∧ OwnL encV 8 w' B 40 (.slice (some ⟨g, 0, none⟩) xs.length cap) xs.reverse ∧ Below B w w' := by
  have hgB := (ho.lt g rfl).1
  have HO := Lib.hid ho
  clear ho
  go_enter Tryz.func27, Tryz.ntmps27
  go_wp2
  go_loopw [2, 3] (fun i j wr => ∃ k : Nat, k ≤ xs.length ∧ i = .int .i64 k ∧ j = .int .i64 ((xs.length : Int) - 1 - k) ∧ wr.ownsRow B 40 8 (.slice (some ⟨g, 0, none⟩) xs.length cap) xs.length (flt encV (rvL xs k)) ∧ Below B w wr) (fun i _ _ => xs.length - (intOf i).toNat)
  case atStart => exact ⟨0, Nat.zero_le _, rfl, by go_num, by rw [rvL_none]; exact HO.out, Below.refl _ _⟩
  case round =>
    obtain ⟨k, hk, rfl, rfl, hO, hB⟩ := hrel
    by_cases hlt : (k : Int) < (xs.length : Int) - 1 - k
    · obtain ⟨r, hr⟩ : ∃ r, xs.length - 1 - k = r := ⟨_, rfl⟩
      have hrz : (xs.length : Int) - 1 - k = (r : Int) := by omega
      have hkr : k < r := by omega
      have hrl : r < xs.length := by omega
      have hkl : k < xs.length := by omega
      have q1 : (k : Int) < (xs.length : Int) := by omega
      have q2 : (r : Int) < (xs.length : Int) := by omega
      have q3 : (0 : Int) ≤ (k : Int) := by omega
      have q4 : (0 : Int) ≤ (r : Int) := by omega
      have q5 : (k : Int) < (r : Int) := by omega
      have HST := Lib.hid (rvL_step hr hkr)
      have hek : (rvL xs k)[k]? = some (at' xs k) := by rw [rvL_at hkl, if_neg (by omega)]
      have her : (rvL xs k)[r]? = some (at' xs r) := by rw [rvL_at hrl, if_neg (by omega)]
      have hek2 : ((rvL xs k).set k (at' xs r))[r]? = some (at' xs r) := by rw [List.getElem?_set_ne (by omega)]; exact her
      have hln := rvL_len xs k
      have hzr : (r : Int) - 1 = (xs.length : Int) - 1 - ((k + 1 : Nat) : Int) := by omega
      have HZR := Lib.hid hzr
      rw [hrz] at hlt ⊢
      obtain ⟨hg, hrg, -, -⟩ := ownL_parts (en := encV) hO hln
      have hP1 := cells_part encV_ok hrg hek
      have hP2 := cells_part encV_ok hrg her
      rw [Nat.zero_add] at hP1 hP2
      generalize rvL xs k = zs at *
      generalize at' xs k = c at *
      generalize at' xs r = d at *
      have hOd : wr.drew.ownsRow B 40 8 (.slice (some ⟨g, 0, none⟩) xs.length cap) xs.length (flt encV zs) := World.ownsRow.drew hO
      have hBd : Below B w wr.drew := hB.drew
      clear hO hB hrg hrz hzr hr
      go_upto_region 3 with fail
      refine wp_region_held_drew (S := fun w' => True) (by kernel_rfl) trivial (fun hHeld => ?_)
      refine wpAnyH_take (i := 0) (oi := _) (v := .slice (some ⟨g, 0, none⟩) xs.length cap) rfl (by kernel_rfl) (by kernel_rfl) (by kernel_rfl) (fun _ _ _ h => h) (Or.inl ⟨by rfl, fun w h => by go_simp⟩) hHeld ?_
      try simp only [Act.put, List.setIfInBounds_toArray, List.set_cons_zero, List.set_cons_succ, List.getElem_toArray, List.getElem_cons_succ, List.getElem_cons_zero]
      refine wpAnyH_take (i := 1) (oi := _) (v := .int .i64 k) rfl (by kernel_rfl) (by kernel_rfl) (by kernel_rfl) (fun _ _ _ h => h) (Or.inl ⟨by rfl, fun w h => by go_simp⟩) hHeld ?_
      try simp only [Act.put, List.setIfInBounds_toArray, List.set_cons_zero, List.set_cons_succ, List.getElem_toArray, List.getElem_cons_succ, List.getElem_cons_zero]
      refine wpAnyH_take (i := 2) (oi := _) (v := .slice (some ⟨g, 0, none⟩) xs.length cap) rfl (by kernel_rfl) (by kernel_rfl) (by kernel_rfl) (fun _ _ _ h => h) (Or.inl ⟨by rfl, fun w h => by go_simp⟩) hHeld ?_
      try simp only [Act.put, List.setIfInBounds_toArray, List.set_cons_zero, List.set_cons_succ, List.getElem_toArray, List.getElem_cons_succ, List.getElem_cons_zero]
      refine wpAnyH_take (i := 3) (oi := _) (v := .int .i64 r) rfl (by kernel_rfl) (by kernel_rfl) (by kernel_rfl) (fun _ _ _ h => h) (Or.inl ⟨by rfl, fun w h => by go_simp⟩) hHeld ?_
      try simp only [Act.put, List.setIfInBounds_toArray, List.set_cons_zero, List.set_cons_succ, List.getElem_toArray, List.getElem_cons_succ, List.getElem_cons_zero]
      refine wpAnyH_take (i := 4) (oi := _) (v := .slice (some ⟨g, 0, none⟩) xs.length cap) rfl (by kernel_rfl) (by kernel_rfl) (by kernel_rfl) (fun _ _ _ h => h) (Or.inl ⟨by rfl, fun w h => by go_simp⟩) hHeld ?_
      try simp only [Act.put, List.setIfInBounds_toArray, List.set_cons_zero, List.set_cons_succ, List.getElem_toArray, List.getElem_cons_succ, List.getElem_cons_zero]
      refine wpAnyH_take (i := 5) (oi := _) (v := .int .i64 r) rfl (by kernel_rfl) (by kernel_rfl) (by kernel_rfl) (fun _ _ _ h => h) (Or.inl ⟨by rfl, fun w h => by go_simp⟩) hHeld ?_
      try simp only [Act.put, List.setIfInBounds_toArray, List.set_cons_zero, List.set_cons_succ, List.getElem_toArray, List.getElem_cons_succ, List.getElem_cons_zero]
      refine wpAnyH_take (i := 6) (oi := _) (v := .pointer (some ⟨g, r * 8, none⟩)) rfl (by kernel_rfl) (by kernel_rfl) (by kernel_rfl) (fun _ _ _ h => h) (Or.inl ⟨by rfl, fun w h => by go_simp⟩) hHeld ?_
      try simp only [Act.put, List.setIfInBounds_toArray, List.set_cons_zero, List.set_cons_succ, List.getElem_toArray, List.getElem_cons_succ, List.getElem_cons_zero]
      refine wpAnyH_take (i := 8) (oi := _) (v := .slice (some ⟨g, 0, none⟩) xs.length cap) rfl (by kernel_rfl) (by kernel_rfl) (by kernel_rfl) (fun _ _ _ h => h) (Or.inl ⟨by rfl, fun w h => by go_simp⟩) hHeld ?_
      try simp only [Act.put, List.setIfInBounds_toArray, List.set_cons_zero, List.set_cons_succ, List.getElem_toArray, List.getElem_cons_succ, List.getElem_cons_zero]
      refine wpAnyH_take (i := 9) (oi := _) (v := .int .i64 k) rfl (by kernel_rfl) (by kernel_rfl) (by kernel_rfl) (fun _ _ _ h => h) (Or.inl ⟨by rfl, fun w h => by go_simp⟩) hHeld ?_
      try simp only [Act.put, List.setIfInBounds_toArray, List.set_cons_zero, List.set_cons_succ, List.getElem_toArray, List.getElem_cons_succ, List.getElem_cons_zero]
      refine wpAnyH_take (i := 10) (oi := _) (v := .pointer (some ⟨g, k * 8, none⟩)) rfl (by kernel_rfl) (by kernel_rfl) (by kernel_rfl) (fun _ _ _ h => h) (Or.inl ⟨by rfl, fun w h => by go_simp⟩) hHeld ?_
      try simp only [Act.put, List.setIfInBounds_toArray, List.set_cons_zero, List.set_cons_succ, List.getElem_toArray, List.getElem_cons_succ, List.getElem_cons_zero]
      refine wpAnyH_ready (rs := [7, 11]) (by kernel_rfl) (by simp) ?_
      refine AllReadyH.cons (o := _) rfl (fun K hK => ?_) (AllReadyH.cons (o := _) rfl (fun K hK => ?_) AllReadyH.nil)
      · rw [if_pos (by rfl)]
        refine wp_load_mid 40 _ rfl g (r * 8) rfl (lst 8 d.up) _ hP2 Tryz.underlying40 rfl (by rw [lst_length]; exact info_cyc) ?_
        refine hK.out _ _ trivial (fun hHeld => ?_)
        clear hK K
        try simp only [Act.put, List.setIfInBounds_toArray, List.set_cons_zero, List.set_cons_succ, List.getElem_toArray, List.getElem_cons_succ, List.getElem_cons_zero]
        refine wpAnyH_ready (rs := [11]) (by kernel_rfl) (by simp) ?_
        refine AllReadyH.cons (o := _) rfl (fun K hK => ?_) AllReadyH.nil
        rw [if_pos (by rfl)]
        refine wp_load_mid 40 _ rfl g (k * 8) rfl (lst 8 c.up) _ hP1 Tryz.underlying40 rfl (by rw [lst_length]; exact info_cyc) ?_
        refine hK.out _ _ trivial (fun hHeld => ?_)
        clear hK K
        try simp only [Act.put, List.setIfInBounds_toArray, List.set_cons_zero, List.set_cons_succ, List.getElem_toArray, List.getElem_cons_succ, List.getElem_cons_zero]
        refine wpAnyH_take (i := 12) (oi := _) (v := .pointer (some ⟨g, k * 8, none⟩)) rfl (by kernel_rfl) (by kernel_rfl) (by kernel_rfl) (fun _ _ _ h => h) (Or.inl ⟨by rfl, fun w h => by go_simp⟩) hHeld ?_
        try simp only [Act.put, List.setIfInBounds_toArray, List.set_cons_zero, List.set_cons_succ, List.getElem_toArray, List.getElem_cons_succ, List.getElem_cons_zero]
        refine wpAnyH_ready (rs := [13]) (by kernel_rfl) (by simp) ?_
        refine AllReadyH.cons (o := _) rfl (fun K hK => ?_) AllReadyH.nil
        rw [if_pos (by rfl)]
        refine wp_store_mid 40 _ _ rfl g (k * 8) (vec 8 d.up) rfl rfl (by rw [vec_size]; exact rows_there (K := 8) (o := 0) (m := 8) hOd hkl (Nat.le_refl _)) (by rw [vec_size]; exact info_cyc) (vec_one 8 _) ?_
        have hO3 : (wr.drew.setCells g (k * 8) (vec 8 d.up).toList).ownsRow B 40 8 (.slice (some ⟨g, 0, none⟩) xs.length cap) xs.length (flt encV (zs.set k d)) := ownL_set encV_ok d hOd hek
        have hB3 := below_setCells (G := g) hgB (vec 8 d.up).toList (k * 8) _ hBd
        generalize wr.drew.setCells g (k * 8) (vec 8 d.up).toList = W5 at *
        refine hK.out _ _ trivial (fun hHeld => ?_)
        clear hK K
        try simp only [Act.put, List.setIfInBounds_toArray, List.set_cons_zero, List.set_cons_succ, List.getElem_toArray, List.getElem_cons_succ, List.getElem_cons_zero]
        refine wpAnyH_take (i := 14) (oi := _) (v := .pointer (some ⟨g, r * 8, none⟩)) rfl (by kernel_rfl) (by kernel_rfl) (by kernel_rfl) (fun _ _ _ h => h) (Or.inl ⟨by rfl, fun w h => by go_simp⟩) hHeld ?_
        try simp only [Act.put, List.setIfInBounds_toArray, List.set_cons_zero, List.set_cons_succ, List.getElem_toArray, List.getElem_cons_succ, List.getElem_cons_zero]
        refine wpAnyH_ready (rs := [15]) (by kernel_rfl) (by simp) ?_
        refine AllReadyH.cons (o := _) rfl (fun K hK => ?_) AllReadyH.nil
        rw [if_pos (by rfl)]
        refine wp_store_mid 40 _ _ rfl g (r * 8) (vec 8 c.up) rfl rfl (by rw [vec_size]; exact rows_there (K := 8) (o := 0) (m := 8) hO3 hrl (Nat.le_refl _)) (by rw [vec_size]; exact info_cyc) (vec_one 8 _) ?_
        have hO4 : (W5.setCells g (r * 8) (vec 8 c.up).toList).ownsRow B 40 8 (.slice (some ⟨g, 0, none⟩) xs.length cap) xs.length (flt encV ((zs.set k d).set r c)) := ownL_set encV_ok c hO3 hek2
        have hB4 := below_setCells (G := g) hgB (vec 8 c.up).toList (r * 8) _ hB3
        generalize W5.setCells g (r * 8) (vec 8 c.up).toList = W6 at *
        refine hK.out _ _ trivial (fun hHeld => ?_)
        clear hK K
        try simp only [Act.put, List.setIfInBounds_toArray, List.set_cons_zero, List.set_cons_succ, List.getElem_toArray, List.getElem_cons_succ, List.getElem_cons_zero]
        refine wpAnyH_done (by kernel_rfl) ?_ _
        rw [HST.out] at hO4
        go_wp2
        go_roundw
        case rel => exact ⟨k + 1, by omega, by go_num, by rw [← HZR.out], hO4, hB4⟩
        case measure => simp [intOf]; omega
      · rw [if_pos (by rfl)]
        refine wp_load_mid 40 _ rfl g (k * 8) rfl (lst 8 c.up) _ hP1 Tryz.underlying40 rfl (by rw [lst_length]; exact info_cyc) ?_
        refine hK.out _ _ trivial (fun hHeld => ?_)
        clear hK K
        try simp only [Act.put, List.setIfInBounds_toArray, List.set_cons_zero, List.set_cons_succ, List.getElem_toArray, List.getElem_cons_succ, List.getElem_cons_zero]
        refine wpAnyH_ready (rs := [7]) (by kernel_rfl) (by simp) ?_
        refine AllReadyH.cons (o := _) rfl (fun K hK => ?_) AllReadyH.nil
        rw [if_pos (by rfl)]
        refine wp_load_mid 40 _ rfl g (r * 8) rfl (lst 8 d.up) _ hP2 Tryz.underlying40 rfl (by rw [lst_length]; exact info_cyc) ?_
        refine hK.out _ _ trivial (fun hHeld => ?_)
        clear hK K
        try simp only [Act.put, List.setIfInBounds_toArray, List.set_cons_zero, List.set_cons_succ, List.getElem_toArray, List.getElem_cons_succ, List.getElem_cons_zero]
        refine wpAnyH_take (i := 12) (oi := _) (v := .pointer (some ⟨g, k * 8, none⟩)) rfl (by kernel_rfl) (by kernel_rfl) (by kernel_rfl) (fun _ _ _ h => h) (Or.inl ⟨by rfl, fun w h => by go_simp⟩) hHeld ?_
        try simp only [Act.put, List.setIfInBounds_toArray, List.set_cons_zero, List.set_cons_succ, List.getElem_toArray, List.getElem_cons_succ, List.getElem_cons_zero]
        refine wpAnyH_ready (rs := [13]) (by kernel_rfl) (by simp) ?_
        refine AllReadyH.cons (o := _) rfl (fun K hK => ?_) AllReadyH.nil
        rw [if_pos (by rfl)]
        refine wp_store_mid 40 _ _ rfl g (k * 8) (vec 8 d.up) rfl rfl (by rw [vec_size]; exact rows_there (K := 8) (o := 0) (m := 8) hOd hkl (Nat.le_refl _)) (by rw [vec_size]; exact info_cyc) (vec_one 8 _) ?_
        have hO3 : (wr.drew.setCells g (k * 8) (vec 8 d.up).toList).ownsRow B 40 8 (.slice (some ⟨g, 0, none⟩) xs.length cap) xs.length (flt encV (zs.set k d)) := ownL_set encV_ok d hOd hek
        have hB3 := below_setCells (G := g) hgB (vec 8 d.up).toList (k * 8) _ hBd
        generalize wr.drew.setCells g (k * 8) (vec 8 d.up).toList = W5 at *
        refine hK.out _ _ trivial (fun hHeld => ?_)
        clear hK K
        try simp only [Act.put, List.setIfInBounds_toArray, List.set_cons_zero, List.set_cons_succ, List.getElem_toArray, List.getElem_cons_succ, List.getElem_cons_zero]
        refine wpAnyH_take (i := 14) (oi := _) (v := .pointer (some ⟨g, r * 8, none⟩)) rfl (by kernel_rfl) (by kernel_rfl) (by kernel_rfl) (fun _ _ _ h => h) (Or.inl ⟨by rfl, fun w h => by go_simp⟩) hHeld ?_
        try simp only [Act.put, List.setIfInBounds_toArray, List.set_cons_zero, List.set_cons_succ, List.getElem_toArray, List.getElem_cons_succ, List.getElem_cons_zero]
        refine wpAnyH_ready (rs := [15]) (by kernel_rfl) (by simp) ?_
        refine AllReadyH.cons (o := _) rfl (fun K hK => ?_) AllReadyH.nil
        rw [if_pos (by rfl)]
        refine wp_store_mid 40 _ _ rfl g (r * 8) (vec 8 c.up) rfl rfl (by rw [vec_size]; exact rows_there (K := 8) (o := 0) (m := 8) hO3 hrl (Nat.le_refl _)) (by rw [vec_size]; exact info_cyc) (vec_one 8 _) ?_
        have hO4 : (W5.setCells g (r * 8) (vec 8 c.up).toList).ownsRow B 40 8 (.slice (some ⟨g, 0, none⟩) xs.length cap) xs.length (flt encV ((zs.set k d).set r c)) := ownL_set encV_ok c hO3 hek2
        have hB4 := below_setCells (G := g) hgB (vec 8 c.up).toList (r * 8) _ hB3
        generalize W5.setCells g (r * 8) (vec 8 c.up).toList = W6 at *
        refine hK.out _ _ trivial (fun hHeld => ?_)
        clear hK K
        try simp only [Act.put, List.setIfInBounds_toArray, List.set_cons_zero, List.set_cons_succ, List.getElem_toArray, List.getElem_cons_succ, List.getElem_cons_zero]
        refine wpAnyH_done (by kernel_rfl) ?_ _
        rw [HST.out] at hO4
        go_wp2
        go_roundw
        case rel => exact ⟨k + 1, by omega, by go_num, by rw [← HZR.out], hO4, hB4⟩
        case measure => simp [intOf]; omega
    · have hend := rvL_all (xs := xs) (k := k) (by omega)
      have HO2 := Lib.hid hO
      have HB := Lib.hid hB
      clear hO hB
      go_wp2
      go_end0
      refine ⟨⟨_, rfl⟩, ?_, HB.out⟩
      have := HO2.out
      rw [hend] at this
      show World.ownsRow _ _ _ _ _ xs.reverse.length _
      rw [List.length_reverse]; exact this

theorem cloneY_any (v : Value) (xs : List V) (w : World) (hv : ReadsL encV w v xs) (h1 : 1 ≤ xs.length) (h48 : xs.length ≤ 48) :
    Calls Tryz.prog 26 #[v] w fun e w' => Below w.heap.size w w' ∧ ∃ v', e = .returned v' ∧ OwnL encV 8 w' w.heap.size 40 v' xs := by
  have HR := Lib.hid hv
  obtain ⟨g, o, cap, rfl, hc1, hc2, hg, hr⟩ := reads_ptr8 hv (by rintro rfl; simp at h1)
  have E : ∀ w, (binOp .eql 23 (.slice (some ⟨g, o, none⟩) xs.length cap) (.slice none 0 0)).run Tryz.prog w = .ok (.bool false) w := fun w => by rfl
  have HA := Lib.hid (show OwnL encV 8 (w.alloc (.cells #[] 40)) w.heap.size 40 (.slice (some ⟨w.heap.size, 0, none⟩) 0 0) [] from World.ownsRow_made w #[] 0 (Nat.le_refl _) (by simp [maxLen]) (by simp))
  clear hv hr hc1 hc2
  go_enter Tryz.func26, Tryz.ntmps26
  go_wp2_with (first | (refine appendL tyY encV_ok rfl rfl rfl rfl (xs := []) HA.out (HR.out.below ((Below.refl _ _).alloc (Nat.le_refl _) _)) (by simp; omega) ((Below.refl w.heap.size w).alloc (Nat.le_refl _) _) (by simp) ?_; intro v2 w2 ho2 hb2 hB2 hgr2))
  go_ret
  exact ⟨hb2, _, rfl, ho2⟩
set_option maxHeartbeats 1000000 in
theorem PolyBack_any (v : Value) (xs : List V) (w : World) (hv : ReadsL encV w v xs) : Calls Tryz.prog 8 #[v] w (ToldL 40 w (backO xs)) := by
  have PV := PolyValid_any v xs w hv
  cases h : polyOk xs
  · rw [h] at PV
    have hF : backO xs = none := by unfold backO; rw [h]; rfl
    rw [hF]
    clear hv hF
    go_enter Tryz.func8, Tryz.ntmps8
    go_wp2_with fail
    refine PV.mono ?_; rintro e w1 ⟨rfl, hb1⟩
    have HB := Lib.hid hb1
    clear PV hb1
    go_wp2
    go_ret2
    exact ⟨HB.out, _, rfl, ownL_none _ _ _⟩
  · rw [h] at PV
    have hln := polyOk_len h
    have hF : backO xs = some xs.reverse := by unfold backO; rw [h]; rfl
    rw [hF]
    have CL := fun (w' : World) (hr : ReadsL encV w' v xs) => Lib.hid (cloneY_any v xs w' hr hln.1 hln.2)
    have HV := Lib.hid hv
    clear hv hF
    go_enter Tryz.func8, Tryz.ntmps8
    go_wp2_with fail
    refine PV.mono ?_; rintro e w1 ⟨rfl, hb1⟩
    have CL1 := CL w1 (HV.out.below hb1)
    have HB := Lib.hid hb1
    clear PV hb1 CL HV
    go_wp2_with fail
    refine CL1.out.mono ?_; rintro e w2 ⟨hb2, v2, rfl, ho2⟩
    have hv2 : ∃ g cap, v2 = .slice (some ⟨g, 0, none⟩) xs.length cap := by
      rcases ho2.2 with ⟨_, h0⟩ | ⟨g, cap, cur, rfl, _⟩
      · omega
      · exact ⟨g, cap, rfl⟩
    obtain ⟨g, cap, rfl⟩ := hv2
    have RV := Lib.hid (reverse_any g cap _ xs w2 ho2 hln.1 hln.2)
    have HB2 := Lib.hid (below_next HB.out hb2)
    have HS := Lib.hid HB.out.size
    clear CL1 hb2 ho2
    go_wp2_with fail
    refine RV.out.mono ?_; rintro e w3 ⟨⟨u, rfl⟩, ho3, hb3⟩
    have HO3 := Lib.hid (show OwnL encV 8 w3 w.heap.size 40 (.slice (some ⟨g, 0, none⟩) xs.length cap) xs.reverse from rows_mono ho3 HS.out)
    have HB3 := Lib.hid (HB2.out.trans (hb3.mono HS.out))
    clear RV ho3 hb3
    go_wp2
    go_ret2
    exact ⟨HB3.out, _, rfl, HO3.out⟩

end Go.Proofs.YtdpakhggpgdgbaaGreat
