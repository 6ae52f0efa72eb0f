/-
  spec: the turns of a polygon.
  spec: convex polygons.
  impl: convex polygons.
  spec: the winding of a polygon around a point.
-/
import Derived.Test.YtdpakhggpgdgbaaM20
/- spec: the turns of a polygon. -/
namespace Go.Proofs.Ytdpakhggpgdgbaa
set_option maxRecDepth 20000
open Go.ChangeShapes Go.WideShapes Go.ChangeAt Go.RowKit
set_option linter.unusedVariables false
set_option linter.unusedSimpArgs false

theorem own_alloc {w : World} {B T K n : Nat} {v : Value} {cs : List Value} (h : w.ownsRow B T K v n cs) (o : Obj) : (w.alloc o).ownsRow B T K v n cs := World.ownsRow.alloc h o
/-- The turns of the first k steps. -/
def turnK (xs : List V) (k : Nat) : Int := sumI (fun i => tn (stp' (PQ xs) xs.length ((i + xs.length - 1) % xs.length)) (stp' (PQ xs) xs.length i)) k
theorem turnK_next (xs : List V) (k : Nat) : turnK xs (k + 1) = turnK xs k + tn (stp' (PQ xs) xs.length ((k + xs.length - 1) % xs.length)) (stp' (PQ xs) xs.length k) := rfl
def tnB (s : Int) (p q : Bool) : Int := if 0 < s ∧ p = false ∧ q = true then 1 else if s < 0 ∧ p = true ∧ q = false then -1 else 0
theorem tn_B (p q : Q2) : tn p q = tnB (sgR (cr p q)) (hiB p) (hiB q) := rfl
theorem tn_small (p q : Q2) : -1 ≤ tn p q ∧ tn p q ≤ 1 := by
  unfold tn
  split
  · omega
  · split <;> omega
theorem turnK_small (xs : List V) : ∀ k : Nat, -(k : Int) ≤ turnK xs k ∧ turnK xs k ≤ (k : Int)
  | 0 => ⟨Int.le_refl 0, Int.le_refl 0⟩
  | k + 1 => by
    have h1 := turnK_small xs k
    have h2 := tn_small (stp' (PQ xs) xs.length ((k + xs.length - 1) % xs.length)) (stp' (PQ xs) xs.length k)
    rw [turnK_next]
    omega
/-- Step k may follow. -/
def goK (xs : List V) (k : Nat) : Bool := !onS (stp' (PQ xs) xs.length ((k + xs.length - 1) % xs.length)) (stp' (PQ xs) xs.length k)
theorem goK_all {xs : List V} (h : ∀ k, k < xs.length → goK xs k = true) : okB (PQ xs) xs.length = true := List.all_eq_true.2 fun k hk => h k (List.mem_range.1 hk)
theorem goK_no {xs : List V} {k : Nat} (hk : k < xs.length) (h : goK xs k = false) : okB (PQ xs) xs.length = false := List.all_eq_false.2 ⟨k, List.mem_range.2 hk, by unfold goK at h; rw [h]; decide⟩
set_option maxHeartbeats 8000000 in
theorem specPolyTurns_any (v : Value) (xs : List V) (w : World) (hv : ReadsL encV w v xs) : Calls Try.prog 37 #[v] w fun e w' => e = .returned (toldZ (turnsO xs)) ∧ Below w.heap.size w w' := by
  have RV := specPolyValid_any v xs w hv
  cases hr : polyOk xs
  · rw [hr] at RV
    have hF : turnsO xs = none := by unfold turnsO; rw [hr]; rfl
    rw [hF]
    clear hr hv hF
    go_enter Try.func37, Try.ntmps37
    go_wp2_with fail
    refine RV.mono ?_; rintro e w1 ⟨rfl, hb1⟩
    have HL1 := Lib.hid hb1
    clear RV hb1
    go_wp2
    go_ret2
    exact ⟨rfl, HL1.out⟩
  · rw [hr] at RV
    have hln := polyOk_len hr
    have HX := Lib.hid (polyOk_small hr)
    have HP := Lib.hid hr
    obtain ⟨g0, o0, c0, rfl, hc0, hm0, hg0, hrg0⟩ := reads_ptr8 hv (by rintro rfl; simp at hln)
    have ST := fun (w' : World) (h1 : g0 < w'.heap.size) (h2 : w'.rangeAt g0 o0 (flt encV xs)) => l8Steps_any g0 o0 c0 xs w' h1 h2 hc0 hm0 hln.2 hln.1 (fun k hk j hj => by have := HX.out _ (List.mem_of_getElem? (at_get hk)) j hj; omega)
    have HR0 := Lib.hid hrg0
    have hcap : xs.length ≤ 48 := hln.2
    clear hr hv hrg0 hm0
    go_enter Try.func37, Try.ntmps37
    go_wp2_with fail
    refine RV.mono ?_; rintro e w1 ⟨rfl, hb1⟩
    have HL1 := Lib.hid hb1
    have ST1 := Lib.hid (ST w1 (Nat.lt_of_lt_of_le hg0 hb1.size) (cells_below HR0.out hg0 hb1))
    clear RV hb1 ST HR0
    go_wp2_with fail
    refine ST1.out.mono ?_; rintro e w2 ⟨hb2, v1, rfl, ho2⟩
    have hlv := stepsV_len xs xs.length
    have ho3 : w2.ownsRow w.heap.size 32 8 v1 xs.length (flt encV (stepsV xs xs.length)) := by
      have := rows_mono ho2 HL1.out.size
      rwa [hlv] at this
    obtain ⟨g1, cap1, rfl⟩ := own_shape ho3 hln.1
    have hc1 : xs.length ≤ cap1 ∧ cap1 ≤ 9223372036854775807 := by
      have := (ownL_parts ho3 hlv).2.2
      simp only [maxLen] at this
      omega
    have HL2 := Lib.hid (below_next HL1.out hb2)
    have HS2 := Lib.hid ho3
    clear ST1 hb2 ho2 ho3 HL1
    go_wp2
    go_loopw [6, 7] (fun t i wr => ∃ k : Nat, k ≤ xs.length ∧ i = .int .i64 k ∧ t = .int .i64 (turnK xs k) ∧ (∀ p, p < k → goK xs p = true) ∧ wr.ownsRow w.heap.size 32 8 (.slice (some ⟨g1, 0, none⟩) xs.length cap1) xs.length (flt encV (stepsV xs xs.length)) ∧ Below w.heap.size w wr) (fun _ i _ => xs.length - (intOf i).toNat)
    case atStart => exact ⟨0, Nat.zero_le _, rfl, rfl, fun p hp => by omega, HS2.out, HL2.out⟩
    case round =>
      clear HL2 HS2
      obtain ⟨k, hk, rfl, rfl, hgo, hS, hbel⟩ := hrel
      have HGO := Lib.hid hgo
      clear hgo
      by_cases hlt : k < xs.length
      · have hkz : (k : Int) < (xs.length : Int) := by omega
        have hk0 : (0 : Int) ≤ (k : Int) := by omega
        obtain ⟨r, hrr⟩ : ∃ r, (k + xs.length - 1) % xs.length = r := ⟨_, rfl⟩
        have hrl : r < xs.length := by rw [← hrr]; exact Nat.mod_lt _ (by omega)
        obtain ⟨m1, hm1⟩ : ∃ m1 : Int, (k : Int) + (xs.length : Int) = m1 := ⟨_, rfl⟩
        have q0 : IntKind.i64.wrap m1 = m1 := by rw [IntKind.wrap_i64]; omega
        have q0b : IntKind.i64.wrap (m1 - 1) = m1 - 1 := by rw [IntKind.wrap_i64]; omega
        have q2 : (m1 - 1).tmod (xs.length : Int) = (r : Int) := by
          rw [Int.tmod_eq_emod_of_nonneg (by omega), ← hrr, ← hm1]
          have e : (k : Int) + (xs.length : Int) - 1 = ((k + xs.length - 1 : Nat) : Int) := by omega
          rw [e]; simp
        have q3 : IntKind.i64.wrap (r : Int) = (r : Int) := by rw [IntKind.wrap_i64]; omega
        have q4 : ¬ (xs.length : Int) = 0 := by omega
        have q4c : ¬ xs = [] := by rintro rfl; simp at hln
        have q4b : ((xs.length : Int) == 0) = false := by simpa using q4c
        have q5 : (r : Int) < (xs.length : Int) := by omega
        have q6 : (0 : Int) ≤ (r : Int) := by omega
        have hek := at_get (xs := stepsV xs xs.length) (k := k) (by rw [hlv]; exact hlt)
        have her := at_get (xs := stepsV xs xs.length) (k := r) (by rw [hlv]; exact hrl)
        have bx := stepsV_small HX.out hrl
        have bY := stepsV_small HX.out hlt
        have ex := qv_stepsV xs hrl
        have ey := qv_stepsV xs hlt
        have HNX := turnK_next xs k
        have hts := turnK_small xs k
        have htn := tn_small (stp' (PQ xs) xs.length ((k + xs.length - 1) % xs.length)) (stp' (PQ xs) xs.length k)
        have HGK : goK xs k = !onS (stp' (PQ xs) xs.length ((k + xs.length - 1) % xs.length)) (stp' (PQ xs) xs.length k) := rfl
        rw [hrr, ← ex, ← ey] at HNX htn HGK
        have hpx := own_part hS hlv her
        have hpy := own_part (own_alloc hS (.cells (vec 8 (at' (stepsV xs xs.length) r).up) 32)) hlv hek
        have hS2 := own_alloc (own_alloc hS (.cells (vec 8 (at' (stepsV xs xs.length) r).up) 32)) (.cells (vec 8 (at' (stepsV xs xs.length) k).up) 32)
        clear ex ey hrr hek her hS
        generalize at' (stepsV xs xs.length) r = x at *
        generalize at' (stepsV xs xs.length) k = y at *
        have CR := fun w => l8Cross_any x.up y.up (M := 200) (by omega) bx bY w
        have hcs := crs_small (M := 200) (by omega) bx bY
        have S1 := fun w => l3Sign_at (crs x.up y.up) (fun j hj => by have := hcs j hj; omega) w
        have MI := fun w => specMirror_any x.up (small_inR bx (by omega)) w
        have hm := mir_small bx
        have TI := fun w => specTimes_any (mir x.up) y.up (fun j hj => by have := hm j hj; omega) (small_inR bY (by omega)) w
        have hpm := prd_mir_small (M := 200) (by omega) bx bY
        have RE := fun w => specRe_wide (prd (mir x.up) y.up) (fun j hj => by have := hpm j hj; omega) w
        have hds := dts_small (M := 200) (by omega) bx bY
        have S2 := fun w => l3Sign_at (dts x.up y.up) (fun j hj => by have := hds j hj; omega) w
        have U1 := fun w => l8Upper_any x.up bx w
        have U2 := fun w => l8Upper_any y.up bY w
        have hdts : dts x.up y.up = rea (prd (mir x.up) y.up) := rfl
        rw [← hdts] at RE
        have h3 := sgR_three (cr (qv x.up) (qv y.up))
        rw [tn_B] at HNX htn
        have HGK2 : goK xs k = !(decide (sgf (crs x.up y.up) = 0) && decide (sgf (dts x.up y.up) ≤ 0)) := by rw [HGK]; unfold onS; rw [sgf_crs, sgf_dts]
        rw [← sgf_crs] at HNX htn h3
        clear hcs hds hpm hm bx bY hdts HGK
        generalize sgf (crs x.up y.up) = s at *
        generalize sgf (dts x.up y.up) = t at *
        generalize crs x.up y.up = f1 at *
        generalize dts x.up y.up = f2 at *
        generalize prd (mir x.up) y.up = f3 at *
        generalize mir x.up = f4 at *
        generalize hiB (qv x.up) = p at *
        generalize hiB (qv y.up) = q at *
        unfold pt at *
        go_upto_region 10 with (first | (refine load_part (T := 32) (f := x.up) rfl rfl rfl hpx Try.underlying32 rfl info_cyc ?_) | (refine store_new (ty := 32) (f' := x.up) rfl rfl rfl rfl zero8 info_cyc ?_))
        show Code.wp _ _ _ _ (wr.alloc (.cells (vec 8 x.up) 32))
        have hXa := RowAt.new wr 8 32 x.up
        have hL3 := hbel.alloc hbel.size (.cells (vec 8 x.up) 32)
        clear hpx hbel
        generalize wr.alloc (.cells (vec 8 x.up) 32) = W1 at *
        generalize wr.heap.size = gx at *
        go_upto_region 11 with (first | (refine load_part (T := 32) (f := y.up) rfl rfl rfl hpy Try.underlying32 rfl info_cyc ?_) | (refine store_new (ty := 32) (f' := y.up) rfl rfl rfl rfl zero8 info_cyc ?_))
        show Code.wp _ _ _ _ (W1.alloc (.cells (vec 8 y.up) 32))
        have hX2 := hXa.alloc (.cells (vec 8 y.up) 32)
        have hY2 := RowAt.new W1 8 32 y.up
        have hL4 := hL3.alloc hL3.size (.cells (vec 8 y.up) 32)
        clear hpy hL3 hXa
        generalize W1.alloc (.cells (vec 8 y.up) 32) = W2 at *
        generalize W1.heap.size = gy at *
        go_wp2_with (first | (refine load_row (g := gx) rfl rfl rfl hX2 Try.underlying32 rfl info_cyc ?_) | (refine load_row (g := gy) rfl rfl rfl hY2 Try.underlying32 rfl info_cyc ?_))
        refine (CR _).mono ?_; rintro e w3 ⟨rfl, hb3⟩
        have hX3 := hX2.below hb3
        have hY3 := hY2.below hb3
        have hS3 := rows_below hS2 hb3
        have hL5 := below_next hL4 hb3
        clear hX2 hY2 hS2 hL4 hb3 CR
        go_upto_region 12 with fail
        refine (S1 _).mono ?_; rintro e w4 ⟨rfl, hb3⟩
        have hX4 := hX3.below hb3
        have hY4 := hY3.below hb3
        have hS4 := rows_below hS3 hb3
        have hL6 := below_next hL5 hb3
        clear hX3 hY3 hS3 hL5 hb3 S1
        go_upto_region 12 with fail
        refine wp_region_held_drew (S := fun w' => RowAt w' gx 8 32 x.up ∧ RowAt w' gy 8 32 y.up ∧ w'.ownsRow w.heap.size 32 8 (.slice (some ⟨g1, 0, none⟩) xs.length cap1) xs.length (flt encV (stepsV xs xs.length)) ∧ Below w.heap.size w w') (by kernel_rfl) ⟨hX4.drew1, hY4.drew1, World.ownsRow.drew hS4, hL6.drew⟩ (fun hHeld => ?_)
        clear hX4 hY4 hS4 hL6
        refine wpAnyH_take (i := 0) (oi := _) (v := .agg (vec 8 x.up)) rfl (by kernel_rfl) (by kernel_rfl) (by kernel_rfl) (fun _ _ _ h => h) (yieldsIf_load_mid (by rfl) _ _ rfl _ _ rfl _ _ ((fun w h => h.1.range)) Try.underlying32 rfl (size_cyc8 x.up)) hHeld ?_
        try simp only [Act.put, List.setIfInBounds_toArray, List.set_cons_zero, List.set_cons_succ, List.getElem_toArray, List.getElem_cons_succ, List.getElem_cons_zero]
        refine wpAnyH_take (i := 2) (oi := _) (v := .agg (vec 8 y.up)) rfl (by kernel_rfl) (by kernel_rfl) (by kernel_rfl) (fun _ _ _ h => h) (yieldsIf_load_mid (by rfl) _ _ rfl _ _ rfl _ _ ((fun w h => h.2.1.range)) Try.underlying32 rfl (size_cyc8 y.up)) hHeld ?_
        try simp only [Act.put, List.setIfInBounds_toArray, List.set_cons_zero, List.set_cons_succ, List.getElem_toArray, List.getElem_cons_succ, List.getElem_cons_zero]
        refine wpAnyH_ready (rs := [1]) (by kernel_rfl) (by simp) ?_
        refine AllReadyH.cons (o := _) rfl (fun K hK => ?_) AllReadyH.nil
        go_simp
        refine (MI _).mono ?_; rintro e w5 ⟨rfl, hb3⟩
        go_wp2_with fail
        obtain ⟨h1, h2, h4, h5⟩ := hHeld
        refine hK.out _ _ ⟨h1.below hb3, h2.below hb3, rows_below h4 hb3, below_next h5 hb3⟩ (fun hHeld => ?_)
        clear hK K
        try simp only [Act.put, List.setIfInBounds_toArray, List.set_cons_zero, List.set_cons_succ, List.getElem_toArray, List.getElem_cons_succ, List.getElem_cons_zero]
        clear h1 h2 h4 h5 hb3 MI
        refine wpAnyH_ready (rs := [3]) (by kernel_rfl) (by simp) ?_
        refine AllReadyH.cons (o := _) rfl (fun K hK => ?_) AllReadyH.nil
        go_simp
        refine (TI _).mono ?_; rintro e w6 ⟨rfl, hb3⟩
        go_wp2_with fail
        obtain ⟨h1, h2, h4, h5⟩ := hHeld
        refine hK.out _ _ ⟨h1.below hb3, h2.below hb3, rows_below h4 hb3, below_next h5 hb3⟩ (fun hHeld => ?_)
        clear hK K
        try simp only [Act.put, List.setIfInBounds_toArray, List.set_cons_zero, List.set_cons_succ, List.getElem_toArray, List.getElem_cons_succ, List.getElem_cons_zero]
        clear h1 h2 h4 h5 hb3 TI
        refine wpAnyH_ready (rs := [4]) (by kernel_rfl) (by simp) ?_
        refine AllReadyH.cons (o := _) rfl (fun K hK => ?_) AllReadyH.nil
        go_simp
        refine (RE _).mono ?_; rintro e w7 ⟨rfl, hb3⟩
        go_wp2_with fail
        obtain ⟨h1, h2, h4, h5⟩ := hHeld
        refine hK.out _ _ ⟨h1.below hb3, h2.below hb3, rows_below h4 hb3, below_next h5 hb3⟩ (fun hHeld => ?_)
        clear hK K
        try simp only [Act.put, List.setIfInBounds_toArray, List.set_cons_zero, List.set_cons_succ, List.getElem_toArray, List.getElem_cons_succ, List.getElem_cons_zero]
        clear h1 h2 h4 h5 hb3 RE
        refine wpAnyH_ready (rs := [5]) (by kernel_rfl) (by simp) ?_
        refine AllReadyH.cons (o := _) rfl (fun K hK => ?_) AllReadyH.nil
        go_simp
        refine (S2 _).mono ?_; rintro e w8 ⟨rfl, hb3⟩
        go_wp2_with fail
        obtain ⟨h1, h2, h4, h5⟩ := hHeld
        refine hK.out _ _ ⟨h1.below hb3, h2.below hb3, rows_below h4 hb3, below_next h5 hb3⟩ (fun hHeld => ?_)
        clear hK K
        try simp only [Act.put, List.setIfInBounds_toArray, List.set_cons_zero, List.set_cons_succ, List.getElem_toArray, List.getElem_cons_succ, List.getElem_cons_zero]
        clear h1 h2 h4 h5 hb3 S2
        refine wpAnyH_take (i := 6) (oi := _) (v := .int .i64 t) rfl (by kernel_rfl) (by kernel_rfl) (by kernel_rfl) (fun _ _ _ h => h) (Or.inl ⟨by rfl, fun w h => by go_simp⟩) hHeld ?_
        try simp only [Act.put, List.setIfInBounds_toArray, List.set_cons_zero, List.set_cons_succ, List.getElem_toArray, List.getElem_cons_succ, List.getElem_cons_zero]
        refine wpAnyH_done (by kernel_rfl) ?_ _
        obtain ⟨hX9, hY9, hS9, hL9⟩ := hHeld
        have HS9 := Lib.hid hS9
        have HL9 := Lib.hid hL9
        clear hS9 hL9
        by_cases hstop : s = 0 ∧ t ≤ 0
        · obtain ⟨hs0, ht0⟩ := hstop
          subst hs0
          have HNO : Aside (turnsO xs = none) := (show _ = _ from by
            unfold turnsO
            rw [goK_no hlt (by rw [HGK2]; simp [ht0]), Bool.and_false]; rfl)
          clear HNX htn U1 U2 h3 HGK2 hX9 hY9
          go_wp2
          go_ret2
          exact ⟨by rw [HNO.out]; rfl, HL9.out⟩
        · have HGY : Aside (goK xs k = true) := (show _ = _ from by
            rw [HGK2]
            by_cases hs0 : s = 0
            · have : ¬ t ≤ 0 := fun h => hstop ⟨hs0, h⟩
              simp [this]
            · simp [hs0])
          clear HGK2
          obtain ⟨tk, htk⟩ : ∃ tk, turnK xs k = tk := ⟨_, rfl⟩
          rw [htk] at HNX hts ⊢
          have qa : IntKind.i64.wrap (tk + 1) = tk + 1 := by rw [IntKind.wrap_i64]; omega
          have qb : IntKind.i64.wrap (tk - 1) = tk - 1 := by rw [IntKind.wrap_i64]; omega
          have HNX := Lib.hid HNX
          clear htn htk hts
          rcases h3 with rfl | rfl | rfl
          · cases p
            · cases q
              · go_wp2_with (first | (refine load_pt_on (by rfl) rfl rfl hX9.range Try.underlying32 rfl info_cyc ?_))
                refine (U1 _).mono ?_; rintro e w9 ⟨rfl, hb3⟩
                have hY10 := hY9.below hb3
                have HS10 := Lib.hid (rows_below HS9.out hb3)
                have HL10 := Lib.hid (below_next HL9.out hb3)
                clear U1 hb3 hX9 hY9 HS9 HL9
                go_wp2_with (first | (refine load_pt_on (by rfl) rfl rfl hY10.range Try.underlying32 rfl info_cyc ?_))
                refine (U2 _).mono ?_; rintro e w10 ⟨rfl, hb3⟩
                have HS11 := Lib.hid (rows_below HS10.out hb3)
                have HL11 := Lib.hid (below_next HL10.out hb3)
                clear U2 hb3 hY10 HS10 HL10
                go_wp2
                go_roundw
                case rel => exact ⟨k + 1, by omega, by go_num, by rw [HNX.out]; simp [tnB], upto_succ HGO.out HGY.out, HS11.out, HL11.out⟩
                case measure => simp [intOf]; omega
              · go_wp2_with (first | (refine load_pt_on (by rfl) rfl rfl hX9.range Try.underlying32 rfl info_cyc ?_))
                refine (U1 _).mono ?_; rintro e w9 ⟨rfl, hb3⟩
                have hY10 := hY9.below hb3
                have HS10 := Lib.hid (rows_below HS9.out hb3)
                have HL10 := Lib.hid (below_next HL9.out hb3)
                clear U1 hb3 hX9 hY9 HS9 HL9
                go_wp2_with (first | (refine load_pt_on (by rfl) rfl rfl hY10.range Try.underlying32 rfl info_cyc ?_))
                refine (U2 _).mono ?_; rintro e w10 ⟨rfl, hb3⟩
                have HS11 := Lib.hid (rows_below HS10.out hb3)
                have HL11 := Lib.hid (below_next HL10.out hb3)
                clear U2 hb3 hY10 HS10 HL10
                go_wp2
                go_roundw
                case rel => exact ⟨k + 1, by omega, by go_num, by rw [HNX.out]; simp [tnB], upto_succ HGO.out HGY.out, HS11.out, HL11.out⟩
                case measure => simp [intOf]; omega
            · go_wp2_with (first | (refine load_pt_on (by rfl) rfl rfl hX9.range Try.underlying32 rfl info_cyc ?_))
              refine (U1 _).mono ?_; rintro e w9 ⟨rfl, hb3⟩
              have HS11 := Lib.hid (rows_below HS9.out hb3)
              have HL11 := Lib.hid (below_next HL9.out hb3)
              clear U1 hb3 hX9 hY9 HS9 HL9
              go_wp2
              go_roundw
              case rel => exact ⟨k + 1, by omega, by go_num, by rw [HNX.out]; simp [tnB], upto_succ HGO.out HGY.out, HS11.out, HL11.out⟩
              case measure => simp [intOf]; omega
          · cases p
            · go_wp2_with (first | (refine load_pt_on (by rfl) rfl rfl hX9.range Try.underlying32 rfl info_cyc ?_))
              refine (U1 _).mono ?_; rintro e w9 ⟨rfl, hb3⟩
              have HS11 := Lib.hid (rows_below HS9.out hb3)
              have HL11 := Lib.hid (below_next HL9.out hb3)
              clear U1 hb3 hX9 hY9 HS9 HL9
              go_wp2
              go_roundw
              case rel => exact ⟨k + 1, by omega, by go_num, by rw [HNX.out]; simp [tnB], upto_succ HGO.out HGY.out, HS11.out, HL11.out⟩
              case measure => simp [intOf]; omega
            · cases q
              · go_wp2_with (first | (refine load_pt_on (by rfl) rfl rfl hX9.range Try.underlying32 rfl info_cyc ?_))
                refine (U1 _).mono ?_; rintro e w9 ⟨rfl, hb3⟩
                have hY10 := hY9.below hb3
                have HS10 := Lib.hid (rows_below HS9.out hb3)
                have HL10 := Lib.hid (below_next HL9.out hb3)
                clear U1 hb3 hX9 hY9 HS9 HL9
                go_wp2_with (first | (refine load_pt_on (by rfl) rfl rfl hY10.range Try.underlying32 rfl info_cyc ?_))
                refine (U2 _).mono ?_; rintro e w10 ⟨rfl, hb3⟩
                have HS11 := Lib.hid (rows_below HS10.out hb3)
                have HL11 := Lib.hid (below_next HL10.out hb3)
                clear U2 hb3 hY10 HS10 HL10
                go_wp2
                go_roundw
                case rel => exact ⟨k + 1, by omega, by go_num, by rw [HNX.out]; simp [tnB, Int.sub_eq_add_neg], upto_succ HGO.out HGY.out, HS11.out, HL11.out⟩
                case measure => simp [intOf]; omega
              · go_wp2_with (first | (refine load_pt_on (by rfl) rfl rfl hX9.range Try.underlying32 rfl info_cyc ?_))
                refine (U1 _).mono ?_; rintro e w9 ⟨rfl, hb3⟩
                have hY10 := hY9.below hb3
                have HS10 := Lib.hid (rows_below HS9.out hb3)
                have HL10 := Lib.hid (below_next HL9.out hb3)
                clear U1 hb3 hX9 hY9 HS9 HL9
                go_wp2_with (first | (refine load_pt_on (by rfl) rfl rfl hY10.range Try.underlying32 rfl info_cyc ?_))
                refine (U2 _).mono ?_; rintro e w10 ⟨rfl, hb3⟩
                have HS11 := Lib.hid (rows_below HS10.out hb3)
                have HL11 := Lib.hid (below_next HL10.out hb3)
                clear U2 hb3 hY10 HS10 HL10
                go_wp2
                go_roundw
                case rel => exact ⟨k + 1, by omega, by go_num, by rw [HNX.out]; simp [tnB], upto_succ HGO.out HGY.out, HS11.out, HL11.out⟩
                case measure => simp [intOf]; omega
          · have ht1 : ¬ t ≤ 0 := fun h => hstop ⟨rfl, h⟩
            go_wp2
            go_roundw
            case rel => exact ⟨k + 1, by omega, by go_num, by rw [HNX.out]; simp [tnB], upto_succ HGO.out HGY.out, HS9.out, HL9.out⟩
            case measure => simp [intOf]; omega
      · obtain rfl : k = xs.length := by omega
        have HB8 := Lib.hid hbel
        have HT : Aside (turnsO xs = some (turnK xs xs.length)) := (show _ = _ from by
          unfold turnsO
          rw [HP.out, goK_all HGO.out]; rfl)
        clear hbel hS
        go_wp2
        go_ret2
        exact ⟨by rw [HT.out]; rfl, HB8.out⟩

end Go.Proofs.Ytdpakhggpgdgbaa
/- spec: convex polygons. -/
namespace Go.Proofs.Ytdpakhggpgdgbaa
set_option maxRecDepth 20000
open Go.ChangeShapes Go.WideShapes Go.ChangeAt Go.RowKit
set_option linter.unusedVariables false
set_option linter.unusedSimpArgs false

theorem bendK_at (xs : List V) {k n : Nat} (h : k < n) : (bendK xs n)[k]? = some (bnd (PQ xs) xs.length k) := by
  unfold bendK
  rw [List.getElem?_map, List.getElem?_range h]; rfl
set_option maxHeartbeats 4000000 in
theorem specPolyConvex_any (v : Value) (xs : List V) (w : World) (hv : ReadsL encV w v xs) : Calls Try.prog 52 #[v] w fun e w' => e = .returned (.bool (convB xs)) ∧ Below w.heap.size w w' := by
  have BE := Lib.hid (specPolyBends_any v xs w hv)
  have TU := fun (w' : World) (h : ReadsL encV w' v xs) => specPolyTurns_any v xs w' h
  have HV := Lib.hid hv
  have hvs : ∃ p cap, v = .slice p xs.length cap ∧ cap ≤ maxLen ∧ xs.length ≤ cap := by
    obtain ⟨p, cap, rfl, h1, h2, _⟩ := hv
    exact ⟨p, cap, rfl, h2, h1⟩
  obtain ⟨p, cap, rfl, hcm, hcl⟩ := hvs
  simp only [maxLen] at hcm
  clear hv
  cases h : polyOk xs
  · have hF : convB xs = false := by unfold convB; rw [h]; rfl
    have hB : bendsO xs = none := by unfold bendsO; rw [h]; rfl
    rw [hF]
    rw [hB] at BE
    obtain ⟨m, q, hq⟩ : ∃ (m : Int) (q : Bool), toldZ (turnsO xs) = .tuple #[.int .i64 m, .bool q] := ⟨_, _, rfl⟩
    rw [hq] at TU
    clear hF hB hq
    go_enter Try.func52, Try.ntmps52
    go_wp2_with fail
    refine BE.out.mono ?_; rintro e w1 ⟨hb1, v1, rfl, -⟩
    have HB := Lib.hid hb1
    have TU1 := TU w1 (HV.out.below hb1)
    clear BE hb1 TU HV
    go_wp2_with fail
    refine TU1.mono ?_; rintro e w2 ⟨rfl, hb2⟩
    have HB2 := Lib.hid (below_next HB.out hb2)
    clear TU1 hb2
    go_wp2
    go_ret
    exact ⟨rfl, HB2.out⟩
  · have hln := polyOk_len h
    have hB : bendsO xs = some (bendK xs xs.length) := bendsO_yes h
    rw [hB] at BE
    cases hk : okB (PQ xs) xs.length
    · have hF : convB xs = false := by unfold convB; rw [h, hk]; rfl
      have hT : turnsO xs = none := by unfold turnsO; rw [h, hk]; rfl
      rw [hF]
      rw [hT] at TU
      simp only [toldZ, Option.getD_none, Option.isSome_none] at TU
      clear hF hT hk hB
      go_enter Try.func52, Try.ntmps52
      go_wp2_with fail
      refine BE.out.mono ?_; rintro e w1 ⟨hb1, v1, rfl, -⟩
      have HB := Lib.hid hb1
      have TU1 := TU w1 (HV.out.below hb1)
      clear BE hb1 TU HV
      go_wp2_with fail
      refine TU1.mono ?_; rintro e w2 ⟨rfl, hb2⟩
      have HB2 := Lib.hid (below_next HB.out hb2)
      clear TU1 hb2
      go_wp2
      go_ret
      exact ⟨rfl, HB2.out⟩
    · have hT : turnsO xs = some (turnZ (PQ xs) xs.length) := by unfold turnsO; rw [h, hk]; rfl
      rw [hT] at TU
      simp only [toldZ, Option.getD_some, Option.isSome_some] at TU
      have HA := convB_asked xs
      rw [h, hk] at HA
      have hms : -(xs.length : Int) ≤ turnZ (PQ xs) xs.length ∧ turnZ (PQ xs) xs.length ≤ (xs.length : Int) := turnK_small xs xs.length
      clear hT hk hB
      by_cases h3 : xs.length < 3
      · have hF : convB xs = false := by rw [HA, decide_eq_false (by omega : ¬ 3 ≤ xs.length)]; rfl
        rw [hF]
        have h3z : (xs.length : Int) < 3 := by omega
        clear hF HA hms
        generalize turnZ (PQ xs) xs.length = m at *
        go_enter Try.func52, Try.ntmps52
        go_wp2_with fail
        refine BE.out.mono ?_; rintro e w1 ⟨hb1, v1, rfl, -⟩
        have HB := Lib.hid hb1
        have TU1 := TU w1 (HV.out.below hb1)
        clear BE hb1 TU HV
        go_wp2_with fail
        refine TU1.mono ?_; rintro e w2 ⟨rfl, hb2⟩
        have HB2 := Lib.hid (below_next HB.out hb2)
        clear TU1 hb2
        go_wp2
        go_ret
        exact ⟨rfl, HB2.out⟩
      · have h3z : ¬ (xs.length : Int) < 3 := by omega
        rw [decide_eq_true (by omega : 3 ≤ xs.length)] at HA
        have HAH := Lib.hid HA
        clear HA
        have hxs : ¬ xs = [] := by rintro rfl; simp at h3
        have hbl := bendK_len xs xs.length
        have hcap : xs.length ≤ 48 := hln.2
        obtain ⟨b0, hb0⟩ : ∃ b0, bnd (PQ xs) xs.length 0 = b0 := ⟨_, rfl⟩
        have HB0 := Lib.hid hb0
        obtain ⟨m, hm⟩ : ∃ m, turnZ (PQ xs) xs.length = m := ⟨_, rfl⟩
        rw [hm] at TU hms
        have HM := Lib.hid hm
        have hqm : IntKind.i64.wrap (m * m) = m * m := by
          have h1 : m.natAbs ≤ 48 := by omega
          have h2 : (m * m).natAbs ≤ 48 * 48 := by rw [Int.natAbs_mul]; exact Nat.mul_le_mul h1 h1
          rw [IntKind.wrap_i64]; omega
        obtain ⟨mm, hmm⟩ : ∃ mm, m * m = mm := ⟨_, rfl⟩
        rw [hmm] at hqm
        have HMM := Lib.hid hmm
        have HE0 := Lib.hid (bendK_at xs (k := 0) (n := xs.length) (by omega))
        have HEK := Lib.hid (fun k (hk : k < xs.length) => bendK_at xs (k := k) (n := xs.length) hk)
        clear hb0 hm hms
        go_enter Try.func52, Try.ntmps52
        go_wp2_with fail
        refine BE.out.mono ?_; rintro e w1 ⟨hb1, v1, rfl, ho1⟩
        have HB := Lib.hid hb1
        have HO1 : Aside (w1.ownsRow w.heap.size 3 1 v1 xs.length (flt encI (bendK xs xs.length))) := (show World.ownsRow _ _ _ _ _ _ _ from by
          have : w1.ownsRow w.heap.size 3 1 v1 (bendK xs xs.length).length (flt encI (bendK xs xs.length)) := ho1
          rwa [hbl] at this)
        obtain ⟨g1, cap1, rfl⟩ := own_shape HO1.out hln.1
        have hc1 : xs.length ≤ cap1 ∧ cap1 ≤ 9223372036854775807 := by
          have := (ownL_parts HO1.out hbl).2.2
          simp only [maxLen] at this
          omega
        have TU1 := TU w1 (HV.out.below hb1)
        clear BE hb1 TU HV ho1
        go_wp2_with fail
        refine TU1.mono ?_; rintro e w2 ⟨rfl, hb2⟩
        have HB2 := Lib.hid (below_next HB.out hb2)
        have HO2 := Lib.hid (rows_below HO1.out hb2)
        clear TU1 hb2 HO1 HB
        go_wp2
        go_loopw [7] (fun i wr => ∃ k : Nat, k ≤ xs.length ∧ i = .int .i64 k ∧ (∀ p, p < k → bnd (PQ xs) xs.length p = b0) ∧ wr.ownsRow w.heap.size 3 1 (.slice (some ⟨g1, 0, none⟩) xs.length cap1) xs.length (flt encI (bendK xs xs.length)) ∧ Below w.heap.size w wr) (fun i _ => xs.length - (intOf i).toNat)
        case atStart => exact ⟨0, Nat.zero_le _, rfl, fun p hp => by omega, HO2.out, HB2.out⟩
        case round =>
          clear HO2 HB2
          obtain ⟨k, hk, rfl, hall, hO, hbel⟩ := hrel
          have HAL := Lib.hid hall
          clear hall
          have hrg := (ownL_parts hO hbl).2.1
          have hc0 := int_cell hrg HE0.out
          rw [HB0.out] at hc0
          simp only [Nat.zero_add] at hc0
          by_cases hlt : k < xs.length
          · have hkz : (k : Int) < (xs.length : Int) := by omega
            have hk0 : (0 : Int) ≤ (k : Int) := by omega
            have hz0 : (0 : Int) < (xs.length : Int) := by omega
            have hck := int_cell hrg (HEK.out k hlt)
            simp only [Nat.zero_add] at hck
            obtain ⟨bk, hbk⟩ : ∃ bk, bnd (PQ xs) xs.length k = bk := ⟨_, rfl⟩
            rw [hbk] at hck
            have HBK := Lib.hid hbk
            have hOd : wr.drew.ownsRow w.heap.size 3 1 (.slice (some ⟨g1, 0, none⟩) xs.length cap1) xs.length (flt encI (bendK xs xs.length)) := World.ownsRow.drew hO
            clear hrg hbk
            go_upto_region 8 with fail
            refine wp_region_held_drew (S := fun w' => w' = wr.drew) (by kernel_rfl) rfl (fun hHeld => ?_)
            have hck2 : wr.drew.cell? ⟨g1, k, none⟩ = some (.int .i64 bk) := hck
            have hc02 : wr.drew.cell? ⟨g1, 0, none⟩ = some (.int .i64 b0) := hc0
            clear hck hc0 hO
            refine wpAnyH_take (i := 0) (oi := _) (v := .slice (some ⟨g1, 0, none⟩) xs.length cap1) rfl (by kernel_rfl) (by kernel_rfl) (by kernel_rfl) (fun _ _ _ h => h) (Or.inl ⟨by rfl, fun w h => by go_simp⟩) hHeld ?_
            try simp only [Act.put, List.setIfInBounds_toArray, List.set_cons_zero, List.set_cons_succ, List.getElem_toArray, List.getElem_cons_succ, List.getElem_cons_zero]
            refine wpAnyH_take (i := 1) (oi := _) (v := .int .i64 k) rfl (by kernel_rfl) (by kernel_rfl) (by kernel_rfl) (fun _ _ _ h => h) (Or.inl ⟨by rfl, fun w h => by go_simp⟩) hHeld ?_
            try simp only [Act.put, List.setIfInBounds_toArray, List.set_cons_zero, List.set_cons_succ, List.getElem_toArray, List.getElem_cons_succ, List.getElem_cons_zero]
            refine wpAnyH_take (i := 2) (oi := _) (v := .pointer (some ⟨g1, k, none⟩)) rfl (by kernel_rfl) (by kernel_rfl) (by kernel_rfl) (fun _ _ _ h => h) (Or.inl ⟨by rfl, fun w h => by go_simp⟩) hHeld ?_
            try simp only [Act.put, List.setIfInBounds_toArray, List.set_cons_zero, List.set_cons_succ, List.getElem_toArray, List.getElem_cons_succ, List.getElem_cons_zero]
            refine wpAnyH_take (i := 3) (oi := _) (v := .int .i64 bk) rfl (by kernel_rfl) (by kernel_rfl) (by kernel_rfl) (fun _ _ _ h => h) (Or.inl ⟨by rfl, fun w h => by subst h; have hcell := hck2; go_simp⟩) hHeld ?_
            try simp only [Act.put, List.setIfInBounds_toArray, List.set_cons_zero, List.set_cons_succ, List.getElem_toArray, List.getElem_cons_succ, List.getElem_cons_zero]
            refine wpAnyH_take (i := 4) (oi := _) (v := .slice (some ⟨g1, 0, none⟩) xs.length cap1) rfl (by kernel_rfl) (by kernel_rfl) (by kernel_rfl) (fun _ _ _ h => h) (Or.inl ⟨by rfl, fun w h => by go_simp⟩) hHeld ?_
            try simp only [Act.put, List.setIfInBounds_toArray, List.set_cons_zero, List.set_cons_succ, List.getElem_toArray, List.getElem_cons_succ, List.getElem_cons_zero]
            refine wpAnyH_take (i := 5) (oi := _) (v := .pointer (some ⟨g1, 0, none⟩)) rfl (by kernel_rfl) (by kernel_rfl) (by kernel_rfl) (fun _ _ _ h => h) (Or.inl ⟨by rfl, fun w h => by go_simp⟩) hHeld ?_
            try simp only [Act.put, List.setIfInBounds_toArray, List.set_cons_zero, List.set_cons_succ, List.getElem_toArray, List.getElem_cons_succ, List.getElem_cons_zero]
            refine wpAnyH_take (i := 6) (oi := _) (v := .int .i64 b0) rfl (by kernel_rfl) (by kernel_rfl) (by kernel_rfl) (fun _ _ _ h => h) (Or.inl ⟨by rfl, fun w h => by subst h; have hcell := hc02; go_simp⟩) hHeld ?_
            try simp only [Act.put, List.setIfInBounds_toArray, List.set_cons_zero, List.set_cons_succ, List.getElem_toArray, List.getElem_cons_succ, List.getElem_cons_zero]
            refine wpAnyH_take (i := 7) (oi := _) (v := .bool (bk != b0)) rfl (by kernel_rfl) (by kernel_rfl) (by kernel_rfl) (fun _ _ _ h => h) (Or.inl ⟨by rfl, fun w h => by go_simp⟩) hHeld ?_
            try simp only [Act.put, List.setIfInBounds_toArray, List.set_cons_zero, List.set_cons_succ, List.getElem_toArray, List.getElem_cons_succ, List.getElem_cons_zero]
            refine wpAnyH_done (by kernel_rfl) ?_ _
            have HOD := Lib.hid hOd
            have HBL := Lib.hid hbel.drew
            clear hOd hbel hck2 hc02 hHeld
            cases hne : (bk != b0)
            · have heq : bk = b0 := by simpa using hne
              go_wp2
              go_roundw
              case rel => exact ⟨k + 1, by omega, by go_num, upto_succ HAL.out (by rw [HBK.out, heq]), HOD.out, HBL.out⟩
              case measure => simp [intOf]; omega
            · have hF : convB xs = false := by
                rw [HAH.out]
                have : (List.range xs.length).all (fun k => decide (bnd (PQ xs) xs.length k = bnd (PQ xs) xs.length 0)) = false := List.all_eq_false.2 ⟨k, List.mem_range.2 hlt, by rw [HBK.out, HB0.out]; simpa using hne⟩
                rw [this]; simp
              have HF := Lib.hid hF
              clear hF
              go_wp2
              go_ret
              exact ⟨by rw [HF.out]; rfl, HBL.out⟩
          · obtain rfl : k = xs.length := by omega
            have hz0 : (0 : Int) < (xs.length : Int) := by omega
            have HBL := Lib.hid hbel
            have hall : (List.range xs.length).all (fun k => decide (bnd (PQ xs) xs.length k = bnd (PQ xs) xs.length 0)) = true := List.all_eq_true.2 fun k hk => decide_eq_true (by rw [HB0.out]; exact HAL.out k (List.mem_range.1 hk))
            have hF : convB xs = (decide (b0 = m) && decide (mm = 1)) := by
              rw [HAH.out, hall, HB0.out, HM.out, HMM.out]; simp
            have HF := Lib.hid hF
            clear hF hall hbel hO hrg
            by_cases hbm : b0 = m
            · subst hbm
              go_wp2
              go_ret
              exact ⟨by rw [HF.out]; by_cases h1 : mm = 1 <;> simp [h1], HBL.out⟩
            · have hbm2 : (b0 == m) = false := by simpa using hbm
              go_wp2
              go_ret
              exact ⟨by rw [HF.out]; simp [hbm], HBL.out⟩

end Go.Proofs.Ytdpakhggpgdgbaa
/- impl: convex polygons. -/
namespace Go.Proofs.Ytdpakhggpgdgbaa
set_option maxRecDepth 20000
open Go.ChangeShapes Go.WideShapes Go.ChangeAt Go.RowKit
set_option linter.unusedVariables false
set_option linter.unusedSimpArgs false

theorem other_any (b m : Int) (g : Nat) (w : World) (h : CellAt w g (.int .i64 m)) : Calls Try.prog 87 #[.int .i64 b, .pointer (some ⟨g, 0, none⟩)] w fun e w' => e = .returned (.bool (b != m)) ∧ w = w' := by
  have hcell := h.1
  go_enter Try.func87, Try.ntmps87
  go_wp2
  go_ret
  exact ⟨rfl, rfl⟩
abbrev otherV (g : Nat) : Value := .func (.func 87) #[] #[.pointer (some ⟨g, 0, none⟩)]
theorem enters_other : ∀ args w, (callFunc 87 args).run Try.prog w = .ok (.enter 87 args) w := enters_of Try.func87 (by kernel_rfl) rfl
set_option maxHeartbeats 2000000 in
theorem indexOther_any (v : Value) (L : List Int) (g m' : Nat) (m : Int) (w : World) (hv : ReadsL encI w v L) (hm : CellAt w g (.int .i64 m)) :
    Calls Try.prog 116 #[v, otherV g] w fun e w' => ∃ r : Int, e = .returned (.int .i64 r) ∧ decide (0 ≤ r) = L.any (fun b => b != m) ∧ w = w' := by
  obtain ⟨p, cap, rfl, hc1, hc2, hp0, hp⟩ := hv
  simp only [maxLen] at hc2
  have HP := Lib.hid hp
  have eg := enters_other
  have HM := Lib.hid hm
  clear hp hm
  go_enter Try.func116, Try.ntmps116
  go_wp2
  go_loopw [5, 8] (fun _ i wr => ∃ k : Nat, k ≤ L.length ∧ i = .int .i64 k ∧ (∀ b ∈ L.take k, (b != m) = false) ∧ w = wr) (fun _ i _ => L.length - (intOf i).toNat)
  case atStart => exact ⟨0, Nat.zero_le _, rfl, fun b hb => by simp at hb, rfl⟩
  case round =>
    obtain ⟨k, hk, rfl, hz, rfl⟩ := hrel
    have HZ := Lib.hid hz
    clear hz
    by_cases hlt : k < L.length
    · have hkz : (k : Int) < (L.length : Int) := by omega
      have hk0 : (0 : Int) ≤ (k : Int) := by omega
      obtain ⟨b, hc⟩ : ∃ b, L[k]? = some b := ⟨_, List.getElem?_eq_getElem hlt⟩
      obtain ⟨g2, o2, rfl, hg2, hr2⟩ := HP.out (by rintro rfl; have := hp0 rfl; omega)
      have hcell := int_cell hr2 hc
      have HC := Lib.hid hc
      clear hr2 hc
      have C := fun (w : World) (h : CellAt w g (.int .i64 m)) => other_any b m g w h
      go_wp2_with fail
      refine (C _ HM.out).mono ?_; rintro e w2 ⟨rfl, rfl⟩
      clear C
      cases hq : (b != m)
      · have hne : b = m := by simpa using hq
        go_wp2
        go_roundw
        case rel =>
          refine ⟨k + 1, by omega, by go_num, fun d hd => ?_, by trivial⟩
          rw [List.take_add_one, HC.out] at hd
          rcases List.mem_append.1 hd with h | h
          · exact HZ.out d h
          · rw [show d = b by simpa using h]; exact hq
        case measure => simp [intOf]; omega
      · go_wp2
        go_ret
        refine ⟨(k : Int), rfl, ?_, rfl⟩
        rw [decide_eq_true (by omega)]
        exact (List.any_eq_true.2 ⟨b, List.mem_of_getElem? HC.out, hq⟩).symm
    · obtain rfl : k = L.length := by omega
      go_wp2
      go_ret
      refine ⟨-1, rfl, ?_, rfl⟩
      rw [decide_eq_false (by omega)]
      refine (List.any_eq_false.2 fun d hd => ?_).symm
      have := HZ.out d (by rw [List.take_length]; exact hd)
      rw [this]; decide
theorem containsOther_any (v : Value) (L : List Int) (g : Nat) (m : Int) (w : World) (hv : ReadsL encI w v L) (hm : CellAt w g (.int .i64 m)) :
    Calls Try.prog 86 #[v, otherV g] w fun e w' => e = .returned (.bool (L.any fun b => b != m)) ∧ w = w' := by
  have C := indexOther_any v L g 0 m w hv hm
  generalize L.any (fun b => b != m) = q at *
  clear hv hm
  go_enter Try.func86, Try.ntmps86
  go_wp2_with fail
  refine C.mono ?_; rintro e w2 ⟨r, rfl, hr, rfl⟩
  clear C
  go_wp2
  go_ret
  exact ⟨ret_bool (by rw [← hr]), rfl⟩
theorem all_other (P : Nat → Q2) (n : Nat) (m : Int) : ((List.range n).map (bnd P n)).any (fun b => b != m) = !(List.range n).all fun k => decide (bnd P n k = m) := by
  rw [List.any_map, List.not_all_eq_any_not]
  congr 1
set_option maxHeartbeats 4000000 in
theorem PolyConvex_any (v : Value) (xs : List V) (w : World) (hv : ReadsL encV w v xs) : Calls Try.prog 53 #[v] w fun e w' => e = .returned (.bool (convB xs)) ∧ Below w.heap.size w w' := by
  have T := polygonOf_any v xs w hv
  clear hv
  cases h : polyOk xs
  · rw [polyO_no h] at T
    have hF : convB xs = false := by unfold convB; rw [h]; rfl
    rw [hF]
    have T := Lib.hid T
    go_enter Try.func53, Try.ntmps53
    go_wp2_with fail
    refine T.out.mono ?_; rintro e w1 ⟨hb1, v1, rfl, -⟩
    have HB := Lib.hid hb1
    clear T hb1
    go_wp2
    go_ret
    exact ⟨rfl, HB.out⟩
  · rw [polyO_yes h] at T
    have hln := polyOk_len h
    have TU := fun (v' : Value) (w' : World) (hr : ReadsL encV w' v' xs) => turns_any v' xs w' hr h
    cases hk : okB (PQ xs) xs.length
    · have hF : convB xs = false := by unfold convB; rw [h, hk]; rfl
      have hT : turnsO xs = none := by unfold turnsO; rw [h, hk]; rfl
      rw [hF]
      rw [hT] at TU
      simp only [toldZ, Option.getD_none, Option.isSome_none] at TU
      clear hF hT hk
      have T := Lib.hid T
      go_enter Try.func53, Try.ntmps53
      go_wp2_with fail
      refine T.out.mono ?_; rintro e w1 ⟨hb1, v1, rfl, ho1⟩
      have HB := Lib.hid hb1
      have TU1 := TU v1 w1 (ownL_reads ho1)
      clear T hb1 ho1 TU
      go_wp2_with fail
      refine TU1.mono ?_; rintro e w2 ⟨rfl, hb2⟩
      have HB2 := Lib.hid (below_next HB.out hb2)
      clear hb2 TU1
      go_wp2
      go_ret
      exact ⟨rfl, HB2.out.alloc HB2.out.size _⟩
    · have hT : turnsO xs = some (turnZ (PQ xs) xs.length) := by unfold turnsO; rw [h, hk]; rfl
      have hF : convB xs = !(((List.range xs.length).map (bnd (PQ xs) xs.length)).any fun b => b != turnZ (PQ xs) xs.length) := by unfold convB; rw [h, hk, all_other, Bool.not_not]; rfl
      rw [hF]
      rw [hT] at TU
      simp only [toldZ, Option.getD_some, Option.isSome_some] at TU
      have BE := fun (v' : Value) (w' : World) (hr : ReadsL encV w' v' xs) => Lib.hid (bends_any v' xs w' hr hln.1 hln.2 (polyOk_small h))
      rw [bends_way xs] at BE
      have CO := fun (v' : Value) (g : Nat) (w' : World) (hr : ReadsL encI w' v' ((List.range xs.length).map (bnd (PQ xs) xs.length))) (hm : CellAt w' g (.int .i64 (turnZ (PQ xs) xs.length))) => containsOther_any v' _ g _ w' hr hm
      clear hF hT hk
      generalize (List.range xs.length).map (bnd (PQ xs) xs.length) = L at *
      generalize turnZ (PQ xs) xs.length = m at *
      generalize L.any (fun b => b != m) = q at *
      have T := Lib.hid T
      go_enter Try.func53, Try.ntmps53
      go_wp2_with fail
      refine T.out.mono ?_; rintro e w1 ⟨hb1, v1, rfl, ho1⟩
      have HB := Lib.hid hb1
      have TU1 := TU v1 w1 (ownL_reads ho1)
      have HO1 := Lib.hid ho1
      clear T hb1 ho1 TU
      go_wp2_with fail
      refine TU1.mono ?_; rintro e w2 ⟨rfl, hb2⟩
      have HB2 := Lib.hid ((below_next HB.out hb2).alloc (below_next HB.out hb2).size (.cells #[.int .i64 m] 3))
      have HO2 := Lib.hid (show OwnL encV 8 (w2.alloc (.cells #[.int .i64 m] 3)) _ _ _ _ from World.ownsRow.alloc (rows_below HO1.out hb2) (.cells #[.int .i64 m] 3))
      have hC := CellAt.new w2 (.int .i64 m) 3
      clear hb2 TU1 HO1 HB
      go_upto_region 5 with fail
      show Code.wp _ _ _ _ (w2.alloc (.cells #[.int .i64 m] 3))
      have hlt : w2.heap.size < (w2.alloc (.cells #[.int .i64 m] 3)).heap.size := by simp
      generalize w2.alloc (.cells #[.int .i64 m] 3) = W2 at *
      have BE1 := BE v1 W2 (ownL_reads HO2.out)
      clear BE HO2
      go_wp2_with fail
      refine BE1.out.mono ?_; rintro e w3 ⟨hb3, v3, rfl, ho3⟩
      have HB3 := Lib.hid (below_next HB2.out hb3)
      have CO1 := CO v3 w2.heap.size w3 (ownL_reads ho3) (hC.below hlt hb3)
      clear hb3 ho3 BE1 CO hC HB2
      generalize w2.heap.size = gt at *
      go_wp2_with fail
      refine CO1.mono ?_; rintro e w4 ⟨rfl, rfl⟩
      clear CO1
      go_wp2
      go_ret
      exact ⟨ret_bool (by simp), HB3.out⟩

end Go.Proofs.Ytdpakhggpgdgbaa
/- spec: the winding of a polygon around a point. -/
namespace Go.Proofs.Ytdpakhggpgdgbaa
set_option maxRecDepth 20000
open Go.ChangeShapes Go.WideShapes Go.ChangeAt Go.RowKit
set_option linter.unusedVariables false
set_option linter.unusedSimpArgs false

/-- The winding of the first k sides. -/
def windK (xs : List V) (c : V) (k : Nat) : Int := sumI (fun i => wn (PQ xs i - qv c.up) (PQ xs ((i + 1) % xs.length) - qv c.up)) k
theorem windK_next (xs : List V) (c : V) (k : Nat) : windK xs c (k + 1) = windK xs c k + wn (PQ xs k - qv c.up) (PQ xs ((k + 1) % xs.length) - qv c.up) := rfl
theorem wn_small (p q : Q2) : -1 ≤ wn p q ∧ wn p q ≤ 1 := by
  unfold wn
  split
  · omega
  · split <;> omega
theorem windK_small (xs : List V) (c : V) : ∀ k : Nat, -(k : Int) ≤ windK xs c k ∧ windK xs c k ≤ (k : Int)
  | 0 => ⟨Int.le_refl 0, Int.le_refl 0⟩
  | k + 1 => by
    have h1 := windK_small xs c k
    have h2 := wn_small (PQ xs k - qv c.up) (PQ xs ((k + 1) % xs.length) - qv c.up)
    rw [windK_next]
    omega
set_option maxHeartbeats 8000000 in
theorem specPolyWinding_any (v : Value) (xs : List V) (c : V) (w : World) (hv : ReadsL encV w v xs) : Calls Try.prog 54 #[v, pt c.up] w fun e w' => e = .returned (toldZ (windO xs c)) ∧ Below w.heap.size w w' := by
  have sc := vec_size 8 c.up
  have hv1 := hv.below ((Below.refl w.heap.size w).alloc (Nat.le_refl _) (.cells (vec 8 c.up) 32))
  have T := specPolyValid_any v xs _ hv1
  have SM := fun w => l8Small_any c.up 100 (by omega) w
  have ON := fun (w' : World) (h : ReadsL encV w' v xs) => specPolyOn_any v xs c w' h
  have hC := RowAt.new w 8 32 c.up
  have hL := (Below.refl w.heap.size w).alloc (Nat.le_refl _) (.cells (vec 8 c.up) 32)
  have HV1 := Lib.hid hv1
  unfold pt at *
  cases hp : polyOk xs
  · have hF : windO xs c = none := by unfold windO; rw [hp]; rfl
    rw [hF]
    rw [hp] at T
    clear hv hv1 hF ON HV1
    go_enter Try.func54, Try.ntmps54
    go_upto_region 1 with fail
    show Code.wp _ _ _ _ (w.alloc (.cells (vec 8 c.up) 32))
    generalize w.alloc (.cells (vec 8 c.up) 32) = W at *
    go_wp2_with fail
    refine T.mono ?_; rintro e w1 ⟨rfl, hb1⟩
    have HL1 := Lib.hid (below_next hL hb1)
    clear T hb1 hC hL
    go_wp2
    go_ret2
    exact ⟨rfl, HL1.out⟩
  · rw [hp] at T
    cases hc : smallF 100 c.up
    · have hF : windO xs c = none := by unfold windO; rw [hp, hc]; rfl
      rw [hF]
      rw [hc] at SM
      clear hv hv1 hF ON HV1
      go_enter Try.func54, Try.ntmps54
      go_upto_region 1 with fail
      show Code.wp _ _ _ _ (w.alloc (.cells (vec 8 c.up) 32))
      generalize w.alloc (.cells (vec 8 c.up) 32) = W at *
      go_wp2_with fail
      refine T.mono ?_; rintro e w1 ⟨rfl, hb1⟩
      have hC1 := hC.below hb1
      have HL1 := Lib.hid (below_next hL hb1)
      clear T hb1 hC hL
      go_wp2_with (refine load_pt_on (by rfl) rfl rfl hC1.range Try.underlying32 rfl info_cyc ?_)
      refine (SM _).mono ?_; rintro e w2 ⟨rfl, hb2⟩
      have HL2 := Lib.hid (below_next HL1.out hb2)
      clear SM hb2 hC1 HL1
      go_wp2
      go_ret2
      exact ⟨rfl, HL2.out⟩
    · rw [hc] at SM
      have hon : onB xs c = onP (PQ xs) (qv c.up) xs.length := by unfold onB; rw [hp, hc]; rfl
      rw [hon] at ON
      cases ho : onP (PQ xs) (qv c.up) xs.length
      case true =>
        have hF : windO xs c = none := by unfold windO; rw [hp, hc, ho]; rfl
        rw [hF]
        rw [ho] at ON
        clear hv hv1 hF hon
        go_enter Try.func54, Try.ntmps54
        go_upto_region 1 with fail
        show Code.wp _ _ _ _ (w.alloc (.cells (vec 8 c.up) 32))
        generalize w.alloc (.cells (vec 8 c.up) 32) = W at *
        go_wp2_with fail
        refine T.mono ?_; rintro e w1 ⟨rfl, hb1⟩
        have hC1 := hC.below hb1
        have HL1 := Lib.hid (below_next hL hb1)
        have HV2 := Lib.hid (HV1.out.below hb1)
        clear T hb1 hC hL HV1
        go_wp2_with (refine load_pt_on (by rfl) rfl rfl hC1.range Try.underlying32 rfl info_cyc ?_)
        refine (SM _).mono ?_; rintro e w2 ⟨rfl, hb2⟩
        have hC2 := hC1.below hb2
        have HL2 := Lib.hid (below_next HL1.out hb2)
        have ON2 := ON w2 (HV2.out.below hb2)
        clear SM hb2 hC1 HL1 HV2 ON
        go_wp2_with (refine load_pt_on (by rfl) rfl rfl hC2.range Try.underlying32 rfl info_cyc ?_)
        refine ON2.mono ?_; rintro e w3 ⟨rfl, hb3⟩
        have HL3 := Lib.hid (below_next HL2.out hb3)
        clear ON2 hb3 hC2 HL2
        go_wp2
        go_ret2
        exact ⟨rfl, HL3.out⟩
      case false =>
      have hln := polyOk_len hp
      have hF : windO xs c = some (windK xs c xs.length) := by unfold windO; rw [hp, hc, ho]; rfl
      have HF := Lib.hid hF
      rw [ho] at ON
      have HX := Lib.hid (polyOk_small hp)
      have HCB := smallF_iff.1 hc
      obtain ⟨g, o, cap, rfl, hc1, hc2, hg, hr⟩ := reads_ptr8 hv (by rintro rfl; simp at hln)
      simp only [maxLen] at hc2
      have HR := Lib.hid hr
      have hcap : xs.length ≤ 48 := hln.2
      clear hv hv1 hF hr hon ho
      go_enter Try.func54, Try.ntmps54
      go_upto_region 1 with fail
      show Code.wp _ _ _ _ (w.alloc (.cells (vec 8 c.up) 32))
      generalize w.alloc (.cells (vec 8 c.up) 32) = W at *
      go_wp2_with fail
      refine T.mono ?_; rintro e w1 ⟨rfl, hb1⟩
      have hC1 := hC.below hb1
      have HL1 := Lib.hid (below_next hL hb1)
      have HV2 := Lib.hid (HV1.out.below hb1)
      clear T hb1 hC hL HV1
      go_wp2_with (refine load_pt_on (by rfl) rfl rfl hC1.range Try.underlying32 rfl info_cyc ?_)
      refine (SM _).mono ?_; rintro e w2 ⟨rfl, hb2⟩
      have hC2 := hC1.below hb2
      have HL2 := Lib.hid (below_next HL1.out hb2)
      have ON2 := ON w2 (HV2.out.below hb2)
      clear SM hb2 hC1 HL1 HV2 ON
      go_wp2_with (refine load_pt_on (by rfl) rfl rfl hC2.range Try.underlying32 rfl info_cyc ?_)
      refine ON2.mono ?_; rintro e w3 ⟨rfl, hb3⟩
      have hC3 := hC2.below hb3
      have HL3 := Lib.hid (below_next HL2.out hb3)
      clear ON2 hb3 hC2 HL2
      go_wp2
      go_loopw [6, 7] (fun t i wr => ∃ k : Nat, k ≤ xs.length ∧ i = .int .i64 k ∧ t = .int .i64 (windK xs c k) ∧ RowAt wr w.heap.size 8 32 c.up ∧ Below w.heap.size w wr) (fun _ i _ => xs.length - (intOf i).toNat)
      case atStart => exact ⟨0, Nat.zero_le _, rfl, rfl, hC3, HL3.out⟩
      case round =>
        clear hC3 HL3
        obtain ⟨k, hk, rfl, rfl, hCr, hbel⟩ := hrel
        by_cases hlt : k < xs.length
        · have hkz : (k : Int) < (xs.length : Int) := by omega
          have hk0 : (0 : Int) ≤ (k : Int) := by omega
          have hrl : (k + 1) % xs.length < xs.length := Nat.mod_lt _ (by omega)
          obtain ⟨r, hrr⟩ : ∃ r, (k + 1) % xs.length = r := ⟨_, rfl⟩
          rw [hrr] at hrl
          have q1 : IntKind.i64.wrap ((k : Int) + 1) = (k : Int) + 1 := by rw [IntKind.wrap_i64]; omega
          have q2 : ((k : Int) + 1).tmod (xs.length : Int) = (r : Int) := by
            rw [Int.tmod_eq_emod_of_nonneg (by omega), ← hrr]; simp
          have q3 : IntKind.i64.wrap (r : Int) = (r : Int) := by rw [IntKind.wrap_i64]; omega
          have q4 : ¬ (xs.length : Int) = 0 := by omega
          have q4c : ¬ xs = [] := by rintro rfl; simp at hln
          have q4b : ((xs.length : Int) == 0) = false := by simpa using q4c
          have q5 : (r : Int) < (xs.length : Int) := by omega
          have q6 : (0 : Int) ≤ (r : Int) := by omega
          have HE1 := Lib.hid (cells_part encV_ok HR.out (at_get hlt))
          have HE2 := Lib.hid (cells_part encV_ok HR.out (at_get hrl))
          have bx := HX.out _ (List.mem_of_getElem? (at_get hlt))
          have bY := HX.out _ (List.mem_of_getElem? (at_get hrl))
          have HNX := windK_next xs c k
          have hts := windK_small xs c k
          have htn := wn_small (PQ xs k - qv c.up) (PQ xs ((k + 1) % xs.length) - qv c.up)
          have e1 : PQ xs k - qv c.up = qv (subV (at' xs k) c).up := (qv_subV _ _).symm
          have e2 : PQ xs ((k + 1) % xs.length) - qv c.up = qv (subV (at' xs r) c).up := by rw [hrr]; exact (qv_subV _ _).symm
          rw [e1, e2] at HNX htn
          have X := fun w => specSum_any (at' xs k).up c.up (-1) (by omega) (fun j hj => by have := bx j hj; omega) (fun j hj => by have := HCB j hj; omega) w
          have Y := fun w => specSum_any (at' xs r).up c.up (-1) (by omega) (fun j hj => by have := bY j hj; omega) (fun j hj => by have := HCB j hj; omega) w
          rw [← pt_subV] at X Y
          have hx := sub_small bx HCB
          have hy := sub_small bY HCB
          clear hrr bx bY e1 e2
          generalize subV (at' xs k) c = x at *
          generalize subV (at' xs r) c = y at *
          generalize at' xs k = x0 at *
          generalize at' xs r = y0 at *
          have IX := fun w => specIm_wide x.up (fun j hj => by have := hx j hj; omega) w
          have IY := fun w => specIm_wide y.up (fun j hj => by have := hy j hj; omega) w
          have hix := ima_small hx
          have hiy := ima_small hy
          have SX := fun w => l3Sign_at (ima x.up) (fun j hj => by have := hix j hj; omega) w
          have SY := fun w => l3Sign_at (ima y.up) (fun j hj => by have := hiy j hj; omega) w
          have CR := fun w => l8Cross_any x.up y.up (M := 200) (by omega) hx hy w
          have hcs := crs_small (M := 200) (by omega) hx hy
          have S1 := fun w => l3Sign_at (crs x.up y.up) (fun j hj => by have := hcs j hj; omega) w
          have h3 := sgR_three (cr (qv x.up) (qv y.up))
          rw [wn_B] at HNX htn
          have eu1 : upB (qv x.up) = decide (0 < sgf (ima x.up)) := rfl
          have eu2 : upB (qv y.up) = decide (0 < sgf (ima y.up)) := rfl
          rw [eu1, eu2, ← sgf_crs] at HNX htn
          rw [← sgf_crs] at h3
          have sx := vec_size 8 x.up
          have sy := vec_size 8 y.up
          clear hcs hix hiy hx hy eu1 eu2
          generalize sgf (crs x.up y.up) = s at *
          generalize sgf (ima x.up) = s2 at *
          generalize sgf (ima y.up) = s3 at *
          generalize crs x.up y.up = f1 at *
          generalize ima x.up = f2 at *
          generalize ima y.up = f3 at *
          obtain ⟨tk, htk⟩ : ∃ tk, windK xs c k = tk := ⟨_, rfl⟩
          rw [htk] at HNX hts ⊢
          have qa : IntKind.i64.wrap (tk + 1) = tk + 1 := by rw [IntKind.wrap_i64]; omega
          have qb : IntKind.i64.wrap (tk - 1) = tk - 1 := by rw [IntKind.wrap_i64]; omega
          have HNX := Lib.hid HNX
          clear htn htk hts
          unfold pt at X Y CR
          go_upto_region 7 with fail
          go_cut [8] (fun s8 wx => ∃ gx : Nat, s8 = .pointer (some ⟨gx, 0, none⟩) ∧ RowAt wx gx 8 32 x.up ∧ RowAt wx w.heap.size 8 32 c.up ∧ Below w.heap.size w wx)
          case first =>
            refine wp_region_held_drew (S := fun w' => RowAt w' w.heap.size 8 32 c.up ∧ Below w.heap.size w w') (by kernel_rfl) ⟨hCr.drew1, hbel.drew⟩ (fun hHeld => ?_)
            clear hCr hbel
            refine wpAnyH_take (i := 0) (oi := _) (v := .slice (some ⟨g, o, none⟩) xs.length cap) rfl (by kernel_rfl) (by kernel_rfl) (by kernel_rfl) (fun _ _ _ h => h) (Or.inl ⟨by rfl, fun w h => by go_simp⟩) hHeld ?_
            try simp only [Act.put, List.setIfInBounds_toArray, List.set_cons_zero, List.set_cons_succ, List.getElem_toArray, List.getElem_cons_succ, List.getElem_cons_zero]
            refine wpAnyH_take (i := 1) (oi := _) (v := .int .i64 k) rfl (by kernel_rfl) (by kernel_rfl) (by kernel_rfl) (fun _ _ _ h => h) (Or.inl ⟨by rfl, fun w h => by go_simp⟩) hHeld ?_
            try simp only [Act.put, List.setIfInBounds_toArray, List.set_cons_zero, List.set_cons_succ, List.getElem_toArray, List.getElem_cons_succ, List.getElem_cons_zero]
            refine wpAnyH_take (i := 2) (oi := _) (v := .pointer (some ⟨g, o + k * 8, none⟩)) rfl (by kernel_rfl) (by kernel_rfl) (by kernel_rfl) (fun _ _ _ h => h) (Or.inl ⟨by rfl, fun w h => by go_simp⟩) hHeld ?_
            try simp only [Act.put, List.setIfInBounds_toArray, List.set_cons_zero, List.set_cons_succ, List.getElem_toArray, List.getElem_cons_succ, List.getElem_cons_zero]
            refine wpAnyH_take (i := 3) (oi := _) (v := .agg (vec 8 x0.up)) rfl (by kernel_rfl) (by kernel_rfl) (by kernel_rfl) (fun _ _ _ h => h) (yieldsIf_load_mid (by rfl) _ _ rfl _ _ rfl _ _ ((fun w h => range_kept8 HE1.out hg h.2)) Try.underlying32 rfl (size_cyc8 x0.up)) hHeld ?_
            try simp only [Act.put, List.setIfInBounds_toArray, List.set_cons_zero, List.set_cons_succ, List.getElem_toArray, List.getElem_cons_succ, List.getElem_cons_zero]
            refine wpAnyH_take (i := 4) (oi := _) (v := .agg (vec 8 c.up)) rfl (by kernel_rfl) (by kernel_rfl) (by kernel_rfl) (fun _ _ _ h => h) (yieldsIf_load_mid (by rfl) _ _ rfl _ _ rfl _ _ ((fun w h => h.1.range)) Try.underlying32 rfl (size_cyc8 c.up)) hHeld ?_
            try simp only [Act.put, List.setIfInBounds_toArray, List.set_cons_zero, List.set_cons_succ, List.getElem_toArray, List.getElem_cons_succ, List.getElem_cons_zero]
            refine wpAnyH_ready (rs := [5, 6]) (by kernel_rfl) (by simp) ?_
            refine AllReadyH.cons (o := _) rfl (fun K hK => ?_) (AllReadyH.cons (o := _) rfl (fun K hK => ?_) AllReadyH.nil)
            · go_simp
              refine (X _).mono ?_; rintro e w5 ⟨rfl, hb5⟩
              go_wp2_with fail
              obtain ⟨h1, h2⟩ := hHeld
              refine hK.out _ _ ⟨h1.below hb5, below_next h2 hb5⟩ (fun hHeld => ?_)
              clear hK K
              try simp only [Act.put, List.setIfInBounds_toArray, List.set_cons_zero, List.set_cons_succ, List.getElem_toArray, List.getElem_cons_succ, List.getElem_cons_zero]
              clear h1 h2 hb5 X 
              refine wpAnyH_ready (rs := [6]) (by kernel_rfl) (by simp) ?_
              refine AllReadyH.cons (o := _) rfl (fun K hK => ?_) AllReadyH.nil
              go_simp
              obtain ⟨h1, h2⟩ := hHeld
              have hne : w.heap.size ≠ w5.heap.size := Nat.ne_of_lt h1.lt
              have hge : w.heap.size ≤ w5.heap.size := h2.size
              have hN : RowAt (w5.alloc (.cells #[.int .i64 0, .int .i64 0, .int .i64 0, .int .i64 0, .int .i64 0, .int .i64 0, .int .i64 0, .int .i64 0] 32)) w5.heap.size 8 32 (fun _ => 0) := RowAt.newAt zero8 rfl
              refine hK.out _ _ ⟨h1.alloc _, h2.alloc h2.size _⟩ (fun hHeld => ?_)
              clear hK K
              try simp only [Act.put, List.setIfInBounds_toArray, List.set_cons_zero, List.set_cons_succ, List.getElem_toArray, List.getElem_cons_succ, List.getElem_cons_zero]
              clear h1 h2 
              refine wpAnyH_ready (rs := [7]) (by kernel_rfl) (by simp) ?_
              refine AllReadyH.cons (o := _) rfl (fun K hK => ?_) AllReadyH.nil
              rw [if_pos (by rfl)]
              refine store_step (f' := x.up) rfl rfl rfl hN info_cyc ?_
              have hN2 := hN.setRow (f' := x.up)
              obtain ⟨h1, h2⟩ := hHeld
              have hlt1 := h1.lt
              have hC6 := h1.rowOther _ (vec 8 x.up) hne
              have hB6 := below_setRow h2 hge (vec 8 x.up)
              refine hK.out _ _ ⟨hC6, hB6⟩ (fun hHeld => ?_)
              clear hK K
              try simp only [Act.put, List.setIfInBounds_toArray, List.set_cons_zero, List.set_cons_succ, List.getElem_toArray, List.getElem_cons_succ, List.getElem_cons_zero]
              clear hHeld h1 h2  hN
              refine wpAnyH_done (by kernel_rfl) ?_ _
              go_wp2_with fail
              go_meet
              exact ⟨_, rfl, hN2, hC6, hB6⟩
            · go_simp
              obtain ⟨h1, h2⟩ := hHeld
              have hne : w.heap.size ≠ wr.drew.heap.size := Nat.ne_of_lt h1.lt
              have hge : w.heap.size ≤ wr.drew.heap.size := h2.size
              have hN0 : RowAt (wr.drew.alloc (.cells #[.int .i64 0, .int .i64 0, .int .i64 0, .int .i64 0, .int .i64 0, .int .i64 0, .int .i64 0, .int .i64 0] 32)) wr.drew.heap.size 8 32 (fun _ => 0) := RowAt.newAt zero8 rfl
              refine hK.out _ _ ⟨h1.alloc _, h2.alloc h2.size _⟩ (fun hHeld => ?_)
              clear hK K
              try simp only [Act.put, List.setIfInBounds_toArray, List.set_cons_zero, List.set_cons_succ, List.getElem_toArray, List.getElem_cons_succ, List.getElem_cons_zero]
              clear h1 h2 
              refine wpAnyH_ready (rs := [5]) (by kernel_rfl) (by simp) ?_
              refine AllReadyH.cons (o := _) rfl (fun K hK => ?_) AllReadyH.nil
              go_simp
              refine (X _).mono ?_; rintro e w5 ⟨rfl, hb5⟩
              go_wp2_with fail
              obtain ⟨h1, h2⟩ := hHeld
              have hN := hN0.below hb5
              refine hK.out _ _ ⟨h1.below hb5, below_next h2 hb5⟩ (fun hHeld => ?_)
              clear hK K
              try simp only [Act.put, List.setIfInBounds_toArray, List.set_cons_zero, List.set_cons_succ, List.getElem_toArray, List.getElem_cons_succ, List.getElem_cons_zero]
              clear h1 h2 hb5 X  hN0
              refine wpAnyH_ready (rs := [7]) (by kernel_rfl) (by simp) ?_
              refine AllReadyH.cons (o := _) rfl (fun K hK => ?_) AllReadyH.nil
              rw [if_pos (by rfl)]
              refine store_step (f' := x.up) rfl rfl rfl hN info_cyc ?_
              have hN2 := hN.setRow (f' := x.up)
              obtain ⟨h1, h2⟩ := hHeld
              have hlt1 := h1.lt
              have hC6 := h1.rowOther _ (vec 8 x.up) hne
              have hB6 := below_setRow h2 hge (vec 8 x.up)
              refine hK.out _ _ ⟨hC6, hB6⟩ (fun hHeld => ?_)
              clear hK K
              try simp only [Act.put, List.setIfInBounds_toArray, List.set_cons_zero, List.set_cons_succ, List.getElem_toArray, List.getElem_cons_succ, List.getElem_cons_zero]
              clear hHeld h1 h2  hN
              refine wpAnyH_done (by kernel_rfl) ?_ _
              go_wp2_with fail
              go_meet
              exact ⟨_, rfl, hN2, hC6, hB6⟩
          case rest =>
          clear hCr hbel
          obtain ⟨gx, rfl, hX1, hCr, hbel⟩ := hcut
          clear X
          go_upto_region 8 with fail
          go_cut [9] (fun s9 wy => ∃ gy : Nat, s9 = .pointer (some ⟨gy, 0, none⟩) ∧ RowAt wy gx 8 32 x.up ∧ RowAt wy gy 8 32 y.up ∧ RowAt wy w.heap.size 8 32 c.up ∧ Below w.heap.size w wy)
          case first =>
            refine wp_region_held_drew (S := fun w' => RowAt w' w.heap.size 8 32 c.up ∧ RowAt w' gx 8 32 x.up ∧ Below w.heap.size w w') (by kernel_rfl) ⟨hCr.drew1, hX1.drew1, hbel.drew⟩ (fun hHeld => ?_)
            clear hCr hbel hX1
            refine wpAnyH_take (i := 0) (oi := _) (v := .slice (some ⟨g, o, none⟩) xs.length cap) rfl (by kernel_rfl) (by kernel_rfl) (by kernel_rfl) (fun _ _ _ h => h) (Or.inl ⟨by rfl, fun w h => by go_simp⟩) hHeld ?_
            try simp only [Act.put, List.setIfInBounds_toArray, List.set_cons_zero, List.set_cons_succ, List.getElem_toArray, List.getElem_cons_succ, List.getElem_cons_zero]
            refine wpAnyH_take (i := 1) (oi := _) (v := .int .i64 k) rfl (by kernel_rfl) (by kernel_rfl) (by kernel_rfl) (fun _ _ _ h => h) (Or.inl ⟨by rfl, fun w h => by go_simp⟩) hHeld ?_
            try simp only [Act.put, List.setIfInBounds_toArray, List.set_cons_zero, List.set_cons_succ, List.getElem_toArray, List.getElem_cons_succ, List.getElem_cons_zero]
            refine wpAnyH_take (i := 2) (oi := _) (v := .int .i64 ((k : Int) + 1)) rfl (by kernel_rfl) (by kernel_rfl) (by kernel_rfl) (fun _ _ _ h => h) (Or.inl ⟨by rfl, fun w h => by go_simp⟩) hHeld ?_
            try simp only [Act.put, List.setIfInBounds_toArray, List.set_cons_zero, List.set_cons_succ, List.getElem_toArray, List.getElem_cons_succ, List.getElem_cons_zero]
            refine wpAnyH_take (i := 3) (oi := _) (v := .slice (some ⟨g, o, none⟩) xs.length cap) rfl (by kernel_rfl) (by kernel_rfl) (by kernel_rfl) (fun _ _ _ h => h) (Or.inl ⟨by rfl, fun w h => by go_simp⟩) hHeld ?_
            try simp only [Act.put, List.setIfInBounds_toArray, List.set_cons_zero, List.set_cons_succ, List.getElem_toArray, List.getElem_cons_succ, List.getElem_cons_zero]
            refine wpAnyH_take (i := 4) (oi := _) (v := .int .i64 xs.length) rfl (by kernel_rfl) (by kernel_rfl) (by kernel_rfl) (fun _ _ _ h => h) (Or.inl ⟨by rfl, fun w h => by go_simp⟩) hHeld ?_
            try simp only [Act.put, List.setIfInBounds_toArray, List.set_cons_zero, List.set_cons_succ, List.getElem_toArray, List.getElem_cons_succ, List.getElem_cons_zero]
            refine wpAnyH_take (i := 5) (oi := _) (v := .int .i64 r) rfl (by kernel_rfl) (by kernel_rfl) (by kernel_rfl) (fun _ _ _ h => h) (Or.inl ⟨by rfl, fun w h => by go_simp⟩) hHeld ?_
            try simp only [Act.put, List.setIfInBounds_toArray, List.set_cons_zero, List.set_cons_succ, List.getElem_toArray, List.getElem_cons_succ, List.getElem_cons_zero]
            refine wpAnyH_take (i := 6) (oi := _) (v := .pointer (some ⟨g, o + r * 8, none⟩)) rfl (by kernel_rfl) (by kernel_rfl) (by kernel_rfl) (fun _ _ _ h => h) (Or.inl ⟨by rfl, fun w h => by go_simp⟩) hHeld ?_
            try simp only [Act.put, List.setIfInBounds_toArray, List.set_cons_zero, List.set_cons_succ, List.getElem_toArray, List.getElem_cons_succ, List.getElem_cons_zero]
            refine wpAnyH_take (i := 7) (oi := _) (v := .agg (vec 8 y0.up)) rfl (by kernel_rfl) (by kernel_rfl) (by kernel_rfl) (fun _ _ _ h => h) (yieldsIf_load_mid (by rfl) _ _ rfl _ _ rfl _ _ ((fun w h => range_kept8 HE2.out hg h.2.2)) Try.underlying32 rfl (size_cyc8 y0.up)) hHeld ?_
            try simp only [Act.put, List.setIfInBounds_toArray, List.set_cons_zero, List.set_cons_succ, List.getElem_toArray, List.getElem_cons_succ, List.getElem_cons_zero]
            refine wpAnyH_take (i := 8) (oi := _) (v := .agg (vec 8 c.up)) rfl (by kernel_rfl) (by kernel_rfl) (by kernel_rfl) (fun _ _ _ h => h) (yieldsIf_load_mid (by rfl) _ _ rfl _ _ rfl _ _ ((fun w h => h.1.range)) Try.underlying32 rfl (size_cyc8 c.up)) hHeld ?_
            try simp only [Act.put, List.setIfInBounds_toArray, List.set_cons_zero, List.set_cons_succ, List.getElem_toArray, List.getElem_cons_succ, List.getElem_cons_zero]
            refine wpAnyH_ready (rs := [9, 10]) (by kernel_rfl) (by simp) ?_
            refine AllReadyH.cons (o := _) rfl (fun K hK => ?_) (AllReadyH.cons (o := _) rfl (fun K hK => ?_) AllReadyH.nil)
            · go_simp
              refine (Y _).mono ?_; rintro e w5 ⟨rfl, hb5⟩
              go_wp2_with fail
              obtain ⟨h1, e0, h2⟩ := hHeld
              refine hK.out _ _ ⟨h1.below hb5, e0.below hb5, below_next h2 hb5⟩ (fun hHeld => ?_)
              clear hK K
              try simp only [Act.put, List.setIfInBounds_toArray, List.set_cons_zero, List.set_cons_succ, List.getElem_toArray, List.getElem_cons_succ, List.getElem_cons_zero]
              clear h1 h2 hb5 Y e0
              refine wpAnyH_ready (rs := [10]) (by kernel_rfl) (by simp) ?_
              refine AllReadyH.cons (o := _) rfl (fun K hK => ?_) AllReadyH.nil
              go_simp
              obtain ⟨h1, e0, h2⟩ := hHeld
              have hne : w.heap.size ≠ w5.heap.size := Nat.ne_of_lt h1.lt
              have hne0 : gx ≠ w5.heap.size := Nat.ne_of_lt e0.lt
              have hge : w.heap.size ≤ w5.heap.size := h2.size
              have hN : RowAt (w5.alloc (.cells #[.int .i64 0, .int .i64 0, .int .i64 0, .int .i64 0, .int .i64 0, .int .i64 0, .int .i64 0, .int .i64 0] 32)) w5.heap.size 8 32 (fun _ => 0) := RowAt.newAt zero8 rfl
              refine hK.out _ _ ⟨h1.alloc _, e0.alloc _, h2.alloc h2.size _⟩ (fun hHeld => ?_)
              clear hK K
              try simp only [Act.put, List.setIfInBounds_toArray, List.set_cons_zero, List.set_cons_succ, List.getElem_toArray, List.getElem_cons_succ, List.getElem_cons_zero]
              clear h1 h2 e0
              refine wpAnyH_ready (rs := [11]) (by kernel_rfl) (by simp) ?_
              refine AllReadyH.cons (o := _) rfl (fun K hK => ?_) AllReadyH.nil
              rw [if_pos (by rfl)]
              refine store_step (f' := y.up) rfl rfl rfl hN info_cyc ?_
              have hN2 := hN.setRow (f' := y.up)
              obtain ⟨h1, e0, h2⟩ := hHeld
              have hlt1 := h1.lt
              have hlt_0 := e0.lt
              have hC6 := h1.rowOther _ (vec 8 y.up) hne
              have hE0 := e0.rowOther _ (vec 8 y.up) hne0
              have hB6 := below_setRow h2 hge (vec 8 y.up)
              refine hK.out _ _ ⟨hC6, hE0, hB6⟩ (fun hHeld => ?_)
              clear hK K
              try simp only [Act.put, List.setIfInBounds_toArray, List.set_cons_zero, List.set_cons_succ, List.getElem_toArray, List.getElem_cons_succ, List.getElem_cons_zero]
              clear hHeld h1 h2 e0 hN
              refine wpAnyH_done (by kernel_rfl) ?_ _
              go_wp2_with fail
              go_meet
              exact ⟨_, rfl, hE0, hN2, hC6, hB6⟩
            · go_simp
              obtain ⟨h1, e0, h2⟩ := hHeld
              have hne : w.heap.size ≠ wc.drew.heap.size := Nat.ne_of_lt h1.lt
              have hne0 : gx ≠ wc.drew.heap.size := Nat.ne_of_lt e0.lt
              have hge : w.heap.size ≤ wc.drew.heap.size := h2.size
              have hN0 : RowAt (wc.drew.alloc (.cells #[.int .i64 0, .int .i64 0, .int .i64 0, .int .i64 0, .int .i64 0, .int .i64 0, .int .i64 0, .int .i64 0] 32)) wc.drew.heap.size 8 32 (fun _ => 0) := RowAt.newAt zero8 rfl
              refine hK.out _ _ ⟨h1.alloc _, e0.alloc _, h2.alloc h2.size _⟩ (fun hHeld => ?_)
              clear hK K
              try simp only [Act.put, List.setIfInBounds_toArray, List.set_cons_zero, List.set_cons_succ, List.getElem_toArray, List.getElem_cons_succ, List.getElem_cons_zero]
              clear h1 h2 e0
              refine wpAnyH_ready (rs := [9]) (by kernel_rfl) (by simp) ?_
              refine AllReadyH.cons (o := _) rfl (fun K hK => ?_) AllReadyH.nil
              go_simp
              refine (Y _).mono ?_; rintro e w5 ⟨rfl, hb5⟩
              go_wp2_with fail
              obtain ⟨h1, e0, h2⟩ := hHeld
              have hN := hN0.below hb5
              refine hK.out _ _ ⟨h1.below hb5, e0.below hb5, below_next h2 hb5⟩ (fun hHeld => ?_)
              clear hK K
              try simp only [Act.put, List.setIfInBounds_toArray, List.set_cons_zero, List.set_cons_succ, List.getElem_toArray, List.getElem_cons_succ, List.getElem_cons_zero]
              clear h1 h2 hb5 Y e0 hN0
              refine wpAnyH_ready (rs := [11]) (by kernel_rfl) (by simp) ?_
              refine AllReadyH.cons (o := _) rfl (fun K hK => ?_) AllReadyH.nil
              rw [if_pos (by rfl)]
              refine store_step (f' := y.up) rfl rfl rfl hN info_cyc ?_
              have hN2 := hN.setRow (f' := y.up)
              obtain ⟨h1, e0, h2⟩ := hHeld
              have hlt1 := h1.lt
              have hlt_0 := e0.lt
              have hC6 := h1.rowOther _ (vec 8 y.up) hne
              have hE0 := e0.rowOther _ (vec 8 y.up) hne0
              have hB6 := below_setRow h2 hge (vec 8 y.up)
              refine hK.out _ _ ⟨hC6, hE0, hB6⟩ (fun hHeld => ?_)
              clear hK K
              try simp only [Act.put, List.setIfInBounds_toArray, List.set_cons_zero, List.set_cons_succ, List.getElem_toArray, List.getElem_cons_succ, List.getElem_cons_zero]
              clear hHeld h1 h2 e0 hN
              refine wpAnyH_done (by kernel_rfl) ?_ _
              go_wp2_with fail
              go_meet
              exact ⟨_, rfl, hE0, hN2, hC6, hB6⟩
          case rest =>
          clear hCr hbel hX1
          obtain ⟨gy, rfl, hX2, hY2, hCr, hbel⟩ := hcut
          clear Y
          go_wp2_with (first | (refine load_row (g := gx) rfl rfl rfl hX2 Try.underlying32 rfl info_cyc ?_) | (refine load_row (g := gy) rfl rfl rfl hY2 Try.underlying32 rfl info_cyc ?_))
          refine (IX _).mono ?_; rintro e v1 ⟨rfl, hb5⟩
          replace hX2 := hX2.below hb5
          replace hY2 := hY2.below hb5
          replace hCr := hCr.below hb5
          replace hbel := below_next hbel hb5
          clear hb5 IX
          go_upto_region 10 with fail
          refine (SX _).mono ?_; rintro e v2 ⟨rfl, hb5⟩
          replace hX2 := hX2.below hb5
          replace hY2 := hY2.below hb5
          replace hCr := hCr.below hb5
          replace hbel := below_next hbel hb5
          clear hb5 SX
          go_upto_region 11 with (first | (refine load_row (g := gx) rfl rfl rfl hX2 Try.underlying32 rfl info_cyc ?_) | (refine load_row (g := gy) rfl rfl rfl hY2 Try.underlying32 rfl info_cyc ?_))
          refine (IY _).mono ?_; rintro e v3 ⟨rfl, hb5⟩
          replace hX2 := hX2.below hb5
          replace hY2 := hY2.below hb5
          replace hCr := hCr.below hb5
          replace hbel := below_next hbel hb5
          clear hb5 IY
          go_upto_region 11 with fail
          refine (SY _).mono ?_; rintro e v4 ⟨rfl, hb5⟩
          replace hX2 := hX2.below hb5
          replace hY2 := hY2.below hb5
          replace hCr := hCr.below hb5
          replace hbel := below_next hbel hb5
          clear hb5 SY
          go_wp2_with (first | (refine load_row (g := gx) rfl rfl rfl hX2 Try.underlying32 rfl info_cyc ?_) | (refine load_row (g := gy) rfl rfl rfl hY2 Try.underlying32 rfl info_cyc ?_))
          refine (CR _).mono ?_; rintro e v5 ⟨rfl, hb5⟩
          replace hX2 := hX2.below hb5
          replace hY2 := hY2.below hb5
          replace hCr := hCr.below hb5
          replace hbel := below_next hbel hb5
          clear hb5 CR
          go_upto_region 12 with fail
          refine (S1 _).mono ?_; rintro e v6 ⟨rfl, hb5⟩
          replace hX2 := hX2.below hb5
          replace hY2 := hY2.below hb5
          replace hCr := hCr.below hb5
          replace hbel := below_next hbel hb5
          clear hb5 S1
          clear hX2 hY2
          have HBL := Lib.hid hbel
          have HCR := Lib.hid hCr
          clear hbel hCr
          by_cases hp2 : 0 < s2
          · by_cases hq2 : 0 < s3
            · rcases h3 with rfl | rfl | rfl
              · go_wp2
                go_roundw
                case rel => exact ⟨k + 1, by omega, by go_num, by rw [HNX.out]; simp [wnB, hp2, hq2, Int.sub_eq_add_neg] <;> omega, HCR.out, HBL.out⟩
                case measure => simp [intOf]; omega
                all_goals (exfalso; rename_i hz; revert hz; (try rename_i hz; revert hz); simp [hp2, hq2] <;> omega)
              · go_wp2
                go_roundw
                case rel => exact ⟨k + 1, by omega, by go_num, by rw [HNX.out]; simp [wnB, hp2, hq2, Int.sub_eq_add_neg] <;> omega, HCR.out, HBL.out⟩
                case measure => simp [intOf]; omega
                all_goals (exfalso; rename_i hz; revert hz; (try rename_i hz; revert hz); simp [hp2, hq2] <;> omega)
              · go_wp2
                go_roundw
                case rel => exact ⟨k + 1, by omega, by go_num, by rw [HNX.out]; simp [wnB, hp2, hq2, Int.sub_eq_add_neg] <;> omega, HCR.out, HBL.out⟩
                case measure => simp [intOf]; omega
                all_goals (exfalso; rename_i hz; revert hz; (try rename_i hz; revert hz); simp [hp2, hq2] <;> omega)
            · rcases h3 with rfl | rfl | rfl
              · go_wp2
                go_roundw
                case rel => exact ⟨k + 1, by omega, by go_num, by rw [HNX.out]; simp [wnB, hp2, hq2, Int.sub_eq_add_neg] <;> omega, HCR.out, HBL.out⟩
                case measure => simp [intOf]; omega
                all_goals (exfalso; rename_i hz; revert hz; (try rename_i hz; revert hz); simp [hp2, hq2] <;> omega)
              · go_wp2
                go_roundw
                case rel => exact ⟨k + 1, by omega, by go_num, by rw [HNX.out]; simp [wnB, hp2, hq2, Int.sub_eq_add_neg] <;> omega, HCR.out, HBL.out⟩
                case measure => simp [intOf]; omega
                all_goals (exfalso; rename_i hz; revert hz; (try rename_i hz; revert hz); simp [hp2, hq2] <;> omega)
              · go_wp2
                go_roundw
                case rel => exact ⟨k + 1, by omega, by go_num, by rw [HNX.out]; simp [wnB, hp2, hq2, Int.sub_eq_add_neg] <;> omega, HCR.out, HBL.out⟩
                case measure => simp [intOf]; omega
                all_goals (exfalso; rename_i hz; revert hz; (try rename_i hz; revert hz); simp [hp2, hq2] <;> omega)
          · by_cases hq2 : 0 < s3
            · rcases h3 with rfl | rfl | rfl
              · go_wp2
                go_roundw
                case rel => exact ⟨k + 1, by omega, by go_num, by rw [HNX.out]; simp [wnB, hp2, hq2, Int.sub_eq_add_neg] <;> omega, HCR.out, HBL.out⟩
                case measure => simp [intOf]; omega
                all_goals (exfalso; rename_i hz; revert hz; (try rename_i hz; revert hz); simp [hp2, hq2] <;> omega)
              · go_wp2
                go_roundw
                case rel => exact ⟨k + 1, by omega, by go_num, by rw [HNX.out]; simp [wnB, hp2, hq2, Int.sub_eq_add_neg] <;> omega, HCR.out, HBL.out⟩
                case measure => simp [intOf]; omega
                all_goals (exfalso; rename_i hz; revert hz; (try rename_i hz; revert hz); simp [hp2, hq2] <;> omega)
              · go_wp2
                go_roundw
                case rel => exact ⟨k + 1, by omega, by go_num, by rw [HNX.out]; simp [wnB, hp2, hq2, Int.sub_eq_add_neg] <;> omega, HCR.out, HBL.out⟩
                case measure => simp [intOf]; omega
                all_goals (exfalso; rename_i hz; revert hz; (try rename_i hz; revert hz); simp [hp2, hq2] <;> omega)
            · rcases h3 with rfl | rfl | rfl
              · go_wp2
                go_roundw
                case rel => exact ⟨k + 1, by omega, by go_num, by rw [HNX.out]; simp [wnB, hp2, hq2, Int.sub_eq_add_neg] <;> omega, HCR.out, HBL.out⟩
                case measure => simp [intOf]; omega
                all_goals (exfalso; rename_i hz; revert hz; (try rename_i hz; revert hz); simp [hp2, hq2] <;> omega)
              · go_wp2
                go_roundw
                case rel => exact ⟨k + 1, by omega, by go_num, by rw [HNX.out]; simp [wnB, hp2, hq2, Int.sub_eq_add_neg] <;> omega, HCR.out, HBL.out⟩
                case measure => simp [intOf]; omega
                all_goals (exfalso; rename_i hz; revert hz; (try rename_i hz; revert hz); simp [hp2, hq2] <;> omega)
              · go_wp2
                go_roundw
                case rel => exact ⟨k + 1, by omega, by go_num, by rw [HNX.out]; simp [wnB, hp2, hq2, Int.sub_eq_add_neg] <;> omega, HCR.out, HBL.out⟩
                case measure => simp [intOf]; omega
                all_goals (exfalso; rename_i hz; revert hz; (try rename_i hz; revert hz); simp [hp2, hq2] <;> omega)
        · obtain rfl : k = xs.length := by omega
          have HBL := Lib.hid hbel
          clear hbel hCr
          go_wp2
          go_ret2
          exact ⟨by rw [HF.out]; rfl, HBL.out⟩

end Go.Proofs.Ytdpakhggpgdgbaa
