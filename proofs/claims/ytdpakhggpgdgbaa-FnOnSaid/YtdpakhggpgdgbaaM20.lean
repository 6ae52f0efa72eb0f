/-
  spec: a point on a polygon; areas.
  impl: the functions on polygons, but for the one on convex ones and the opposite order.
  impl: the opposite order.
  spec: the bends and the turns of a polygon.
-/
import Derived.Test.YtdpakhggpgdgbaaM19
import Derived.Test.YtdpakhggpgdgbaaM18
/- spec: a point on a polygon; areas. -/
namespace Go.Proofs.Ytdpakhggpgdgbaa
set_option maxRecDepth 20000
open Go.ChangeShapes Go.WideShapes Go.ChangeAt Go.RowKit
set_option linter.unusedVariables false
set_option linter.unusedSimpArgs false

/-- spec's signs, of numbers up to 10^8. -/
theorem l3Sign_at (f : Nat → Int) (h : ∀ j, j < 4 → -100000000 ≤ f j ∧ f j ≤ 100000000) (w : World) : Calls Try.prog 75 #[.agg (vec 4 f)] w fun e w' => e = .returned (.int .i64 (sgf f)) ∧ Below w.heap.size w w' :=
  l3Sign_any (f 0) (f 1) (f 2) (f 3) (h 0 (by omega)) (h 1 (by omega)) (h 2 (by omega)) (h 3 (by omega)) w
def box3c (w : World) (a b c : Nat → Int) (T : TypeId) : World := ((w.alloc (.cells (vec 8 a) T)).alloc (.cells (vec 8 b) T)).alloc (.cells (vec 8 c) T)
theorem box3c_facts (w : World) (a b c : Nat → Int) (T : TypeId) : RowAt (box3c w a b c T) w.heap.size 8 T a ∧ RowAt (box3c w a b c T) (w.heap.size + 1) 8 T b ∧ RowAt (box3c w a b c T) (w.heap.size + 1 + 1) 8 T c ∧ Below w.heap.size w (box3c w a b c T) :=
  ⟨((RowAt.newAt rfl rfl).alloc _).alloc _, (RowAt.newAt rfl (by simp)).alloc _, RowAt.newAt rfl (by simp), (((Below.refl _ _).alloc (Nat.le_refl _) _).alloc (by simp) _).alloc (by simp; omega) _⟩
set_option maxHeartbeats 4000000 in
theorem l8On_any (a b c : V) (ha : ∀ j, j < 8 → -((100 : Nat) : Int) ≤ a.up j ∧ a.up j ≤ ((100 : Nat) : Int)) (hb : ∀ j, j < 8 → -((100 : Nat) : Int) ≤ b.up j ∧ b.up j ≤ ((100 : Nat) : Int)) (hc : ∀ j, j < 8 → -((100 : Nat) : Int) ≤ c.up j ∧ c.up j ≤ ((100 : Nat) : Int)) (w : World) :
    Calls Try.prog 82 #[pt a.up, pt b.up, pt c.up] w fun e w' => e = .returned (.bool (onS (qv a.up - qv c.up) (qv b.up - qv c.up))) ∧ Below w.heap.size w w' := by
  have sa := vec_size 8 a.up
  have sb := vec_size 8 b.up
  have sc := vec_size 8 c.up
  have X := fun w => specSum_any a.up c.up (-1) (by omega) (fun j hj => by have := ha j hj; omega) (fun j hj => by have := hc j hj; omega) w
  have Y := fun w => specSum_any b.up c.up (-1) (by omega) (fun j hj => by have := hb j hj; omega) (fun j hj => by have := hc j hj; omega) w
  rw [← pt_subV] at X Y
  have hx := sub_small ha hc
  have hy := sub_small hb hc
  rw [← qv_subV, ← qv_subV]
  generalize subV a c = x at *
  generalize subV b c = y at *
  have CR := fun w => l8Cross_any x.up y.up (M := 200) (by omega) hx hy w
  have hcs := crs_small (M := 200) (by omega) hx hy
  have S1 := fun w => l3Sign_at (crs x.up y.up) (fun j hj => by have := hcs j hj; omega) w
  have MI := fun w => specMirror_any x.up (small_inR hx (by omega)) w
  have hm := mir_small hx
  have TI := fun w => specTimes_any (mir x.up) y.up (fun j hj => by have := hm j hj; omega) (small_inR hy (by omega)) w
  have hpm := prd_mir_small (M := 200) (by omega) hx hy
  have RE := fun w => specRe_wide (prd (mir x.up) y.up) (fun j hj => by have := hpm j hj; omega) w
  have hds := dts_small (M := 200) (by omega) hx hy
  have S2 := fun w => l3Sign_at (dts x.up y.up) (fun j hj => by have := hds j hj; omega) w
  have HE : onS (qv x.up) (qv y.up) = (decide (sgf (crs x.up y.up) = 0) && decide (sgf (dts x.up y.up) ≤ 0)) := by unfold onS; rw [sgf_crs, sgf_dts]
  rw [HE]
  have hdts : dts x.up y.up = rea (prd (mir x.up) y.up) := rfl
  rw [← hdts] at RE
  clear HE hcs hds hpm hm hx hy ha hb hc hdts
  generalize sgf (crs x.up y.up) = s at *
  generalize sgf (dts x.up y.up) = t at *
  generalize crs x.up y.up = f1 at *
  generalize dts x.up y.up = f2 at *
  generalize prd (mir x.up) y.up = f3 at *
  generalize mir x.up = f4 at *
  unfold pt at *
  go_enter Try.func82, Try.ntmps82
  go_upto_region 1 with fail
  show Code.wp _ _ _ _ (box3c w a.up b.up c.up 32)
  obtain ⟨hA, hB, hC, hL⟩ := box3c_facts w a.up b.up c.up 32
  generalize box3c w a.up b.up c.up 32 = W at *
  go_upto_region 2 with (first | (refine load_row (g := w.heap.size) rfl rfl rfl hA Try.underlying32 rfl info_cyc ?_) | (refine load_row (g := w.heap.size + 1 + 1) rfl rfl rfl hC Try.underlying32 rfl info_cyc ?_))
  refine (X _).mono ?_; rintro e w1 ⟨rfl, hb1⟩
  have hB1 := (hB.below hb1).alloc (.cells (vec 8 x.up) 32)
  have hC1 := (hC.below hb1).alloc (.cells (vec 8 x.up) 32)
  have hL1 := (below_next hL hb1).alloc (below_next hL hb1).size (.cells (vec 8 x.up) 32)
  have hX1 := RowAt.new w1 8 32 x.up
  clear hA hB hC hL hb1 X
  go_upto_region 2 with (refine store_new (ty := 32) (f' := x.up) rfl rfl rfl rfl zero8 info_cyc ?_)
  show Code.wp _ _ _ _ (w1.alloc (.cells (vec 8 x.up) 32))
  generalize w1.alloc (.cells (vec 8 x.up) 32) = W1 at *
  generalize w1.heap.size = gx at *
  go_upto_region 3 with (first | (refine load_row (g := w.heap.size + 1) rfl rfl rfl hB1 Try.underlying32 rfl info_cyc ?_) | (refine load_row (g := w.heap.size + 1 + 1) rfl rfl rfl hC1 Try.underlying32 rfl info_cyc ?_))
  refine (Y _).mono ?_; rintro e w2 ⟨rfl, hb2⟩
  have hX2 := (hX1.below hb2).alloc (.cells (vec 8 y.up) 32)
  have hL2 := (below_next hL1 hb2).alloc (below_next hL1 hb2).size (.cells (vec 8 y.up) 32)
  have hY2 := RowAt.new w2 8 32 y.up
  clear hB1 hC1 hX1 hL1 hb2 Y
  go_upto_region 3 with (refine store_new (ty := 32) (f' := y.up) rfl rfl rfl rfl zero8 info_cyc ?_)
  show Code.wp _ _ _ _ (w2.alloc (.cells (vec 8 y.up) 32))
  generalize w2.alloc (.cells (vec 8 y.up) 32) = W2 at *
  generalize w2.heap.size = gy at *
  refine wp_region_held_drew (S := fun w' => RowAt w' gx 8 32 x.up ∧ RowAt w' gy 8 32 y.up ∧ Below w.heap.size w w') (by kernel_rfl) ⟨hX2.drew1, hY2.drew1, hL2.drew⟩ (fun hHeld => ?_)
  clear hX2 hY2 hL2
  refine wpAnyH_take (i := 0) (oi := _) (v := .agg (vec 8 x.up)) rfl (by kernel_rfl) (by kernel_rfl) (by kernel_rfl) (fun _ _ _ h => h) (yieldsIf_load_mid (by rfl) _ _ rfl _ _ rfl _ _ ((fun w h => h.1.range)) Try.underlying32 rfl (size_cyc8 x.up)) hHeld ?_
  try simp only [Act.put, List.setIfInBounds_toArray, List.set_cons_zero, List.set_cons_succ, List.getElem_toArray, List.getElem_cons_succ, List.getElem_cons_zero]
  refine wpAnyH_take (i := 1) (oi := _) (v := .agg (vec 8 y.up)) rfl (by kernel_rfl) (by kernel_rfl) (by kernel_rfl) (fun _ _ _ h => h) (yieldsIf_load_mid (by rfl) _ _ rfl _ _ rfl _ _ ((fun w h => h.2.1.range)) Try.underlying32 rfl (size_cyc8 y.up)) hHeld ?_
  try simp only [Act.put, List.setIfInBounds_toArray, List.set_cons_zero, List.set_cons_succ, List.getElem_toArray, List.getElem_cons_succ, List.getElem_cons_zero]
  refine wpAnyH_ready (rs := [2]) (by kernel_rfl) (by simp) ?_
  refine AllReadyH.cons (o := _) rfl (fun K hK => ?_) AllReadyH.nil
  go_simp
  refine (CR _).mono ?_; rintro e w3 ⟨rfl, hb3⟩
  go_wp2_with fail
  obtain ⟨h1, h2, h3⟩ := hHeld
  refine hK.out _ _ ⟨h1.below hb3, h2.below hb3, below_next h3 hb3⟩ (fun hHeld => ?_)
  clear hK K
  try simp only [Act.put, List.setIfInBounds_toArray, List.set_cons_zero, List.set_cons_succ, List.getElem_toArray, List.getElem_cons_succ, List.getElem_cons_zero]
  clear h1 h2 h3 hb3 CR
  refine wpAnyH_ready (rs := [3]) (by kernel_rfl) (by simp) ?_
  refine AllReadyH.cons (o := _) rfl (fun K hK => ?_) AllReadyH.nil
  go_simp
  refine (S1 _).mono ?_; rintro e w4 ⟨rfl, hb3⟩
  go_wp2_with fail
  obtain ⟨h1, h2, h3⟩ := hHeld
  refine hK.out _ _ ⟨h1.below hb3, h2.below hb3, below_next h3 hb3⟩ (fun hHeld => ?_)
  clear hK K
  try simp only [Act.put, List.setIfInBounds_toArray, List.set_cons_zero, List.set_cons_succ, List.getElem_toArray, List.getElem_cons_succ, List.getElem_cons_zero]
  clear h1 h2 h3 hb3 S1
  by_cases hs : s = 0
  · subst hs
    refine wpAnyH_take (i := 4) (oi := _) (v := .bool true) rfl (by kernel_rfl) (by kernel_rfl) (by kernel_rfl) (fun _ _ _ h => h) (Or.inl ⟨by rfl, fun w h => by go_simp⟩) hHeld ?_
    try simp only [Act.put, List.setIfInBounds_toArray, List.set_cons_zero, List.set_cons_succ, List.getElem_toArray, List.getElem_cons_succ, List.getElem_cons_zero]
    refine wpAnyH_take (i := 5) (oi := _) (v := .bool true) rfl (by kernel_rfl) (by kernel_rfl) (by kernel_rfl) (fun _ _ _ h => h) (Or.inl ⟨by rfl, fun w h => by go_simp⟩) hHeld ?_
    try simp only [Act.put, List.setIfInBounds_toArray, List.set_cons_zero, List.set_cons_succ, List.getElem_toArray, List.getElem_cons_succ, List.getElem_cons_zero]
    refine wpAnyH_take (i := 6) (oi := _) (v := .agg (vec 8 x.up)) rfl (by kernel_rfl) (by kernel_rfl) (by kernel_rfl) (fun _ _ _ h => h) (yieldsIf_load_mid (by rfl) _ _ rfl _ _ rfl _ _ ((fun w h => h.1.range)) Try.underlying32 rfl (size_cyc8 x.up)) hHeld ?_
    try simp only [Act.put, List.setIfInBounds_toArray, List.set_cons_zero, List.set_cons_succ, List.getElem_toArray, List.getElem_cons_succ, List.getElem_cons_zero]
    refine wpAnyH_take (i := 8) (oi := _) (v := .agg (vec 8 y.up)) rfl (by kernel_rfl) (by kernel_rfl) (by kernel_rfl) (fun _ _ _ h => h) (yieldsIf_load_mid (by rfl) _ _ rfl _ _ rfl _ _ ((fun w h => h.2.1.range)) Try.underlying32 rfl (size_cyc8 y.up)) hHeld ?_
    try simp only [Act.put, List.setIfInBounds_toArray, List.set_cons_zero, List.set_cons_succ, List.getElem_toArray, List.getElem_cons_succ, List.getElem_cons_zero]
    refine wpAnyH_ready (rs := [7]) (by kernel_rfl) (by simp) ?_
    refine AllReadyH.cons (o := _) rfl (fun K hK => ?_) AllReadyH.nil
    go_simp
    refine (MI _).mono ?_; rintro e w5 ⟨rfl, hb3⟩
    go_wp2_with fail
    obtain ⟨h1, h2, h3⟩ := hHeld
    refine hK.out _ _ ⟨h1.below hb3, h2.below hb3, below_next h3 hb3⟩ (fun hHeld => ?_)
    clear hK K
    try simp only [Act.put, List.setIfInBounds_toArray, List.set_cons_zero, List.set_cons_succ, List.getElem_toArray, List.getElem_cons_succ, List.getElem_cons_zero]
    clear h1 h2 h3 hb3 MI
    refine wpAnyH_ready (rs := [9]) (by kernel_rfl) (by simp) ?_
    refine AllReadyH.cons (o := _) rfl (fun K hK => ?_) AllReadyH.nil
    go_simp
    refine (TI _).mono ?_; rintro e w6 ⟨rfl, hb3⟩
    go_wp2_with fail
    obtain ⟨h1, h2, h3⟩ := hHeld
    refine hK.out _ _ ⟨h1.below hb3, h2.below hb3, below_next h3 hb3⟩ (fun hHeld => ?_)
    clear hK K
    try simp only [Act.put, List.setIfInBounds_toArray, List.set_cons_zero, List.set_cons_succ, List.getElem_toArray, List.getElem_cons_succ, List.getElem_cons_zero]
    clear h1 h2 h3 hb3 TI
    refine wpAnyH_ready (rs := [10]) (by kernel_rfl) (by simp) ?_
    refine AllReadyH.cons (o := _) rfl (fun K hK => ?_) AllReadyH.nil
    go_simp
    refine (RE _).mono ?_; rintro e w7 ⟨rfl, hb3⟩
    go_wp2_with fail
    obtain ⟨h1, h2, h3⟩ := hHeld
    refine hK.out _ _ ⟨h1.below hb3, h2.below hb3, below_next h3 hb3⟩ (fun hHeld => ?_)
    clear hK K
    try simp only [Act.put, List.setIfInBounds_toArray, List.set_cons_zero, List.set_cons_succ, List.getElem_toArray, List.getElem_cons_succ, List.getElem_cons_zero]
    clear h1 h2 h3 hb3 RE
    refine wpAnyH_ready (rs := [11]) (by kernel_rfl) (by simp) ?_
    refine AllReadyH.cons (o := _) rfl (fun K hK => ?_) AllReadyH.nil
    go_simp
    refine (S2 _).mono ?_; rintro e w8 ⟨rfl, hb3⟩
    go_wp2_with fail
    obtain ⟨h1, h2, h3⟩ := hHeld
    refine hK.out _ _ ⟨h1.below hb3, h2.below hb3, below_next h3 hb3⟩ (fun hHeld => ?_)
    clear hK K
    try simp only [Act.put, List.setIfInBounds_toArray, List.set_cons_zero, List.set_cons_succ, List.getElem_toArray, List.getElem_cons_succ, List.getElem_cons_zero]
    clear h1 h2 h3 hb3 S2
    refine wpAnyH_take (i := 12) (oi := _) (v := .bool (decide (t ≤ 0))) rfl (by kernel_rfl) (by kernel_rfl) (by kernel_rfl) (fun _ _ _ h => h) (Or.inl ⟨by rfl, fun w h => by go_simp⟩) hHeld ?_
    try simp only [Act.put, List.setIfInBounds_toArray, List.set_cons_zero, List.set_cons_succ, List.getElem_toArray, List.getElem_cons_succ, List.getElem_cons_zero]
    refine wpAnyH_take (i := 13) (oi := _) (v := .bool (decide (t ≤ 0))) rfl (by kernel_rfl) (by kernel_rfl) (by kernel_rfl) (fun _ _ _ h => h) (Or.inl ⟨by rfl, fun w h => by go_simp⟩) hHeld ?_
    try simp only [Act.put, List.setIfInBounds_toArray, List.set_cons_zero, List.set_cons_succ, List.getElem_toArray, List.getElem_cons_succ, List.getElem_cons_zero]
    refine wpAnyH_take (i := 14) (oi := _) (v := .bool (decide (t ≤ 0))) rfl (by kernel_rfl) (by kernel_rfl) (by kernel_rfl) (fun _ _ _ h => h) (Or.inl ⟨by rfl, fun w h => by go_simp⟩) hHeld ?_
    try simp only [Act.put, List.setIfInBounds_toArray, List.set_cons_zero, List.set_cons_succ, List.getElem_toArray, List.getElem_cons_succ, List.getElem_cons_zero]
    refine wpAnyH_done (by kernel_rfl) ?_ _
    have hL3 := hHeld.2.2
    clear hHeld
    go_wp2
    go_ret
    exact ⟨ret_bool (by simp), hL3⟩
  · have hs2 : (s == 0) = false := by simpa using hs
    refine wpAnyH_take (i := 4) (oi := _) (v := .bool false) rfl (by kernel_rfl) (by kernel_rfl) (by kernel_rfl) (fun _ _ _ h => h) (Or.inl ⟨by rfl, fun w h => by go_simp⟩) hHeld ?_
    try simp only [Act.put, List.setIfInBounds_toArray, List.set_cons_zero, List.set_cons_succ, List.getElem_toArray, List.getElem_cons_succ, List.getElem_cons_zero]
    refine wpAnyH_take (i := 5) (oi := _) (v := .bool false) rfl (by kernel_rfl) (by kernel_rfl) (by kernel_rfl) (fun _ _ _ h => h) (Or.inl ⟨by rfl, fun w h => by go_simp⟩) hHeld ?_
    try simp only [Act.put, List.setIfInBounds_toArray, List.set_cons_zero, List.set_cons_succ, List.getElem_toArray, List.getElem_cons_succ, List.getElem_cons_zero]
    refine wpAnyH_take (i := 6) (oi := _) (v := undef) rfl (by kernel_rfl) (by kernel_rfl) (by kernel_rfl) (fun _ _ _ h => h) (Or.inr ⟨by rfl, rfl⟩) hHeld ?_
    try simp only [Act.put, List.setIfInBounds_toArray, List.set_cons_zero, List.set_cons_succ, List.getElem_toArray, List.getElem_cons_succ, List.getElem_cons_zero]
    refine wpAnyH_take (i := 7) (oi := _) (v := undef) rfl (by kernel_rfl) (by kernel_rfl) (by kernel_rfl) (fun _ _ _ h => h) (Or.inr ⟨by rfl, rfl⟩) hHeld ?_
    try simp only [Act.put, List.setIfInBounds_toArray, List.set_cons_zero, List.set_cons_succ, List.getElem_toArray, List.getElem_cons_succ, List.getElem_cons_zero]
    refine wpAnyH_take (i := 8) (oi := _) (v := undef) rfl (by kernel_rfl) (by kernel_rfl) (by kernel_rfl) (fun _ _ _ h => h) (Or.inr ⟨by rfl, rfl⟩) hHeld ?_
    try simp only [Act.put, List.setIfInBounds_toArray, List.set_cons_zero, List.set_cons_succ, List.getElem_toArray, List.getElem_cons_succ, List.getElem_cons_zero]
    refine wpAnyH_take (i := 9) (oi := _) (v := undef) rfl (by kernel_rfl) (by kernel_rfl) (by kernel_rfl) (fun _ _ _ h => h) (Or.inr ⟨by rfl, rfl⟩) hHeld ?_
    try simp only [Act.put, List.setIfInBounds_toArray, List.set_cons_zero, List.set_cons_succ, List.getElem_toArray, List.getElem_cons_succ, List.getElem_cons_zero]
    refine wpAnyH_take (i := 10) (oi := _) (v := undef) rfl (by kernel_rfl) (by kernel_rfl) (by kernel_rfl) (fun _ _ _ h => h) (Or.inr ⟨by rfl, rfl⟩) hHeld ?_
    try simp only [Act.put, List.setIfInBounds_toArray, List.set_cons_zero, List.set_cons_succ, List.getElem_toArray, List.getElem_cons_succ, List.getElem_cons_zero]
    refine wpAnyH_take (i := 11) (oi := _) (v := undef) rfl (by kernel_rfl) (by kernel_rfl) (by kernel_rfl) (fun _ _ _ h => h) (Or.inr ⟨by rfl, rfl⟩) hHeld ?_
    try simp only [Act.put, List.setIfInBounds_toArray, List.set_cons_zero, List.set_cons_succ, List.getElem_toArray, List.getElem_cons_succ, List.getElem_cons_zero]
    refine wpAnyH_take (i := 12) (oi := _) (v := undef) rfl (by kernel_rfl) (by kernel_rfl) (by kernel_rfl) (fun _ _ _ h => h) (Or.inr ⟨by rfl, rfl⟩) hHeld ?_
    try simp only [Act.put, List.setIfInBounds_toArray, List.set_cons_zero, List.set_cons_succ, List.getElem_toArray, List.getElem_cons_succ, List.getElem_cons_zero]
    refine wpAnyH_take (i := 13) (oi := _) (v := .bool false) rfl (by kernel_rfl) (by kernel_rfl) (by kernel_rfl) (fun _ _ _ h => h) (Or.inl ⟨by rfl, fun w h => by go_simp⟩) hHeld ?_
    try simp only [Act.put, List.setIfInBounds_toArray, List.set_cons_zero, List.set_cons_succ, List.getElem_toArray, List.getElem_cons_succ, List.getElem_cons_zero]
    refine wpAnyH_take (i := 14) (oi := _) (v := .bool false) rfl (by kernel_rfl) (by kernel_rfl) (by kernel_rfl) (fun _ _ _ h => h) (Or.inl ⟨by rfl, fun w h => by go_simp⟩) hHeld ?_
    try simp only [Act.put, List.setIfInBounds_toArray, List.set_cons_zero, List.set_cons_succ, List.getElem_toArray, List.getElem_cons_succ, List.getElem_cons_zero]
    refine wpAnyH_done (by kernel_rfl) ?_ _
    have hL3 := hHeld.2.2
    clear hHeld
    go_wp2
    go_ret
    exact ⟨ret_bool (by simp [hs]), hL3⟩

/-! A point on a polygon. -/
def onK (xs : List V) (c : V) (k : Nat) : Bool := onS (PQ xs k - qv c.up) (PQ xs ((k + 1) % xs.length) - qv c.up)
theorem onP_yes {xs : List V} {c : V} {k : Nat} (h : k < xs.length) (hk : onK xs c k = true) : onP (PQ xs) (qv c.up) xs.length = true :=
  List.any_eq_true.2 ⟨k, List.mem_range.2 h, hk⟩
theorem onP_no {xs : List V} {c : V} (h : ∀ k, k < xs.length → onK xs c k = false) : onP (PQ xs) (qv c.up) xs.length = false :=
  List.any_eq_false.2 fun k hk => by have := h k (List.mem_range.1 hk); unfold onK at this; rw [this]; decide
set_option maxHeartbeats 4000000 in
theorem specPolyOn_any (v : Value) (xs : List V) (c : V) (w : World) (hv : ReadsL encV w v xs) : Calls Try.prog 39 #[v, pt c.up] w fun e w' => e = .returned (.bool (onB xs c)) ∧ Below w.heap.size w w' := by
  have sc := vec_size 8 c.up
  have hv1 := hv.below ((Below.refl w.heap.size w).alloc (Nat.le_refl _) (.cells (vec 8 c.up) 32))
  have T := specPolyValid_any v xs _ hv1
  have SM := fun w => l8Small_any c.up 100 (by omega) w
  have hC := RowAt.new w 8 32 c.up
  have hL := (Below.refl w.heap.size w).alloc (Nat.le_refl _) (.cells (vec 8 c.up) 32)
  unfold pt at *
  cases hp : polyOk xs
  · have hF : onB xs c = false := by unfold onB; rw [hp]; rfl
    rw [hF]
    rw [hp] at T
    clear hv hv1 hF
    go_enter Try.func39, Try.ntmps39
    go_upto_region 1 with fail
    show Code.wp _ _ _ _ (w.alloc (.cells (vec 8 c.up) 32))
    generalize w.alloc (.cells (vec 8 c.up) 32) = W at *
    go_wp2_with fail
    refine T.mono ?_; rintro e w1 ⟨rfl, hb1⟩
    have HL1 := Lib.hid (below_next hL hb1)
    clear T hb1 hC hL
    go_wp2
    go_ret
    exact ⟨rfl, HL1.out⟩
  · rw [hp] at T
    cases hc : smallF 100 c.up
    · have hF : onB xs c = false := by unfold onB; rw [hp, hc]; rfl
      rw [hF]
      rw [hc] at SM
      clear hv hv1 hF
      go_enter Try.func39, Try.ntmps39
      go_upto_region 1 with fail
      show Code.wp _ _ _ _ (w.alloc (.cells (vec 8 c.up) 32))
      generalize w.alloc (.cells (vec 8 c.up) 32) = W at *
      go_wp2_with fail
      refine T.mono ?_; rintro e w1 ⟨rfl, hb1⟩
      have hC1 := hC.below hb1
      have HL1 := Lib.hid (below_next hL hb1)
      clear T hb1 hC hL
      go_wp2_with (refine load_pt_on (by rfl) rfl rfl hC1.range Try.underlying32 rfl info_cyc ?_)
      refine (SM _).mono ?_; rintro e w2 ⟨rfl, hb2⟩
      have HL2 := Lib.hid (below_next HL1.out hb2)
      clear SM hb2 hC1 HL1
      go_wp2
      go_ret
      exact ⟨rfl, HL2.out⟩
    · rw [hc] at SM
      have hln := polyOk_len hp
      have hF : onB xs c = onP (PQ xs) (qv c.up) xs.length := by unfold onB; rw [hp, hc]; rfl
      have HF := Lib.hid hF
      have HX := Lib.hid (polyOk_small hp)
      have HCB := smallF_iff.1 hc
      obtain ⟨g, o, cap, rfl, hc1, hc2, hg, hr⟩ := reads_ptr8 hv (by rintro rfl; simp at hln)
      simp only [maxLen] at hc2
      have HR := Lib.hid hr
      clear hv hv1 hF hr
      obtain ⟨res, hres⟩ : ∃ res, onP (PQ xs) (qv c.up) xs.length = res := ⟨_, rfl⟩
      have HRES := Lib.hid hres
      clear hres
      have hcap : xs.length ≤ 48 := hln.2
      go_enter Try.func39, Try.ntmps39
      go_upto_region 1 with fail
      show Code.wp _ _ _ _ (w.alloc (.cells (vec 8 c.up) 32))
      generalize w.alloc (.cells (vec 8 c.up) 32) = W at *
      go_wp2_with fail
      refine T.mono ?_; rintro e w1 ⟨rfl, hb1⟩
      have hC1 := hC.below hb1
      have HL1 := Lib.hid (below_next hL hb1)
      clear T hb1 hC hL
      go_wp2_with (refine load_pt_on (by rfl) rfl rfl hC1.range Try.underlying32 rfl info_cyc ?_)
      refine (SM _).mono ?_; rintro e w2 ⟨rfl, hb2⟩
      have hC2 := hC1.below hb2
      have HL2 := Lib.hid (below_next HL1.out hb2)
      clear SM hb2 hC1 HL1
      go_wp2
      go_loopw [5] (fun i wr => ∃ k : Nat, k ≤ xs.length ∧ i = .int .i64 k ∧ (∀ p, p < k → onK xs c p = false) ∧ RowAt wr w.heap.size 8 32 c.up ∧ Below w.heap.size w wr) (fun i _ => xs.length - (intOf i).toNat)
      case atStart => exact ⟨0, Nat.zero_le _, rfl, fun p hp => by omega, hC2, HL2.out⟩
      case round =>
        clear hC2 HL2
        obtain ⟨k, hk, rfl, hno, hCr, hbel⟩ := hrel
        have HNO := Lib.hid hno
        clear hno
        by_cases hlt : k < xs.length
        · have hkz : (k : Int) < (xs.length : Int) := by omega
          have hk0 : (0 : Int) ≤ (k : Int) := by omega
          have hrl : (k + 1) % xs.length < xs.length := Nat.mod_lt _ (by omega)
          have HE1 := Lib.hid (cells_part encV_ok HR.out (at_get hlt))
          have HE2 := Lib.hid (cells_part encV_ok HR.out (at_get hrl))
          have ON := fun w => l8On_any (at' xs k) (at' xs ((k + 1) % xs.length)) c (HX.out _ (List.mem_of_getElem? (at_get hlt))) (HX.out _ (List.mem_of_getElem? (at_get hrl))) HCB w
          have hon : onS (qv (at' xs k).up - qv c.up) (qv (at' xs ((k + 1) % xs.length)).up - qv c.up) = onK xs c k := rfl
          rw [hon] at ON
          obtain ⟨r, hrr⟩ : ∃ r, (k + 1) % xs.length = r := ⟨_, rfl⟩
          rw [hrr] at HE2 ON hrl
          have q1 : IntKind.i64.wrap ((k : Int) + 1) = (k : Int) + 1 := by rw [IntKind.wrap_i64]; omega
          have q2 : ((k : Int) + 1).tmod (xs.length : Int) = (r : Int) := by
            rw [Int.tmod_eq_emod_of_nonneg (by omega), ← hrr]; simp
          have q3 : IntKind.i64.wrap (r : Int) = (r : Int) := by rw [IntKind.wrap_i64]; omega
          have q4 : ¬ (xs.length : Int) = 0 := by omega
          have q4c : ¬ xs = [] := by rintro rfl; simp at hln
          have q4b : ((xs.length : Int) == 0) = false := by simpa using q4c
          have q5 : (r : Int) < (xs.length : Int) := by omega
          have q6 : (0 : Int) ≤ (r : Int) := by omega
          obtain ⟨q, hq⟩ : ∃ q, onK xs c k = q := ⟨_, rfl⟩
          rw [hq] at ON
          have HQ := Lib.hid hq
          clear hrr hq hon
          generalize at' xs k = x at *
          generalize at' xs r = y at *
          unfold pt at ON
          go_upto_region 6 with fail
          refine wp_region_held_drew (S := fun w' => RowAt w' w.heap.size 8 32 c.up ∧ Below w.heap.size w w') (by kernel_rfl) ⟨hCr.drew1, hbel.drew⟩ (fun hHeld => ?_)
          clear hCr hbel
          refine wpAnyH_take (i := 0) (oi := _) (v := .slice (some ⟨g, o, none⟩) xs.length cap) rfl (by kernel_rfl) (by kernel_rfl) (by kernel_rfl) (fun _ _ _ h => h) (Or.inl ⟨by rfl, fun w h => by go_simp⟩) hHeld ?_
          try simp only [Act.put, List.setIfInBounds_toArray, List.set_cons_zero, List.set_cons_succ, List.getElem_toArray, List.getElem_cons_succ, List.getElem_cons_zero]
          refine wpAnyH_take (i := 1) (oi := _) (v := .int .i64 k) rfl (by kernel_rfl) (by kernel_rfl) (by kernel_rfl) (fun _ _ _ h => h) (Or.inl ⟨by rfl, fun w h => by go_simp⟩) hHeld ?_
          try simp only [Act.put, List.setIfInBounds_toArray, List.set_cons_zero, List.set_cons_succ, List.getElem_toArray, List.getElem_cons_succ, List.getElem_cons_zero]
          refine wpAnyH_take (i := 2) (oi := _) (v := .pointer (some ⟨g, o + k * 8, none⟩)) rfl (by kernel_rfl) (by kernel_rfl) (by kernel_rfl) (fun _ _ _ h => h) (Or.inl ⟨by rfl, fun w h => by go_simp⟩) hHeld ?_
          try simp only [Act.put, List.setIfInBounds_toArray, List.set_cons_zero, List.set_cons_succ, List.getElem_toArray, List.getElem_cons_succ, List.getElem_cons_zero]
          refine wpAnyH_take (i := 3) (oi := _) (v := .agg (vec 8 x.up)) rfl (by kernel_rfl) (by kernel_rfl) (by kernel_rfl) (fun _ _ _ h => h) (yieldsIf_load_mid (by rfl) _ _ rfl _ _ rfl _ _ ((fun w h => range_kept8 HE1.out hg h.2)) Try.underlying32 rfl (size_cyc8 x.up)) hHeld ?_
          try simp only [Act.put, List.setIfInBounds_toArray, List.set_cons_zero, List.set_cons_succ, List.getElem_toArray, List.getElem_cons_succ, List.getElem_cons_zero]
          refine wpAnyH_take (i := 4) (oi := _) (v := .slice (some ⟨g, o, none⟩) xs.length cap) rfl (by kernel_rfl) (by kernel_rfl) (by kernel_rfl) (fun _ _ _ h => h) (Or.inl ⟨by rfl, fun w h => by go_simp⟩) hHeld ?_
          try simp only [Act.put, List.setIfInBounds_toArray, List.set_cons_zero, List.set_cons_succ, List.getElem_toArray, List.getElem_cons_succ, List.getElem_cons_zero]
          refine wpAnyH_take (i := 5) (oi := _) (v := .int .i64 k) rfl (by kernel_rfl) (by kernel_rfl) (by kernel_rfl) (fun _ _ _ h => h) (Or.inl ⟨by rfl, fun w h => by go_simp⟩) hHeld ?_
          try simp only [Act.put, List.setIfInBounds_toArray, List.set_cons_zero, List.set_cons_succ, List.getElem_toArray, List.getElem_cons_succ, List.getElem_cons_zero]
          refine wpAnyH_take (i := 6) (oi := _) (v := .int .i64 ((k : Int) + 1)) rfl (by kernel_rfl) (by kernel_rfl) (by kernel_rfl) (fun _ _ _ h => h) (Or.inl ⟨by rfl, fun w h => by go_simp⟩) hHeld ?_
          try simp only [Act.put, List.setIfInBounds_toArray, List.set_cons_zero, List.set_cons_succ, List.getElem_toArray, List.getElem_cons_succ, List.getElem_cons_zero]
          refine wpAnyH_take (i := 7) (oi := _) (v := .slice (some ⟨g, o, none⟩) xs.length cap) rfl (by kernel_rfl) (by kernel_rfl) (by kernel_rfl) (fun _ _ _ h => h) (Or.inl ⟨by rfl, fun w h => by go_simp⟩) hHeld ?_
          try simp only [Act.put, List.setIfInBounds_toArray, List.set_cons_zero, List.set_cons_succ, List.getElem_toArray, List.getElem_cons_succ, List.getElem_cons_zero]
          refine wpAnyH_take (i := 8) (oi := _) (v := .int .i64 xs.length) rfl (by kernel_rfl) (by kernel_rfl) (by kernel_rfl) (fun _ _ _ h => h) (Or.inl ⟨by rfl, fun w h => by go_simp⟩) hHeld ?_
          try simp only [Act.put, List.setIfInBounds_toArray, List.set_cons_zero, List.set_cons_succ, List.getElem_toArray, List.getElem_cons_succ, List.getElem_cons_zero]
          refine wpAnyH_take (i := 9) (oi := _) (v := .int .i64 r) rfl (by kernel_rfl) (by kernel_rfl) (by kernel_rfl) (fun _ _ _ h => h) (Or.inl ⟨by rfl, fun w h => by go_simp⟩) hHeld ?_
          try simp only [Act.put, List.setIfInBounds_toArray, List.set_cons_zero, List.set_cons_succ, List.getElem_toArray, List.getElem_cons_succ, List.getElem_cons_zero]
          refine wpAnyH_take (i := 10) (oi := _) (v := .pointer (some ⟨g, o + r * 8, none⟩)) rfl (by kernel_rfl) (by kernel_rfl) (by kernel_rfl) (fun _ _ _ h => h) (Or.inl ⟨by rfl, fun w h => by go_simp⟩) hHeld ?_
          try simp only [Act.put, List.setIfInBounds_toArray, List.set_cons_zero, List.set_cons_succ, List.getElem_toArray, List.getElem_cons_succ, List.getElem_cons_zero]
          refine wpAnyH_take (i := 11) (oi := _) (v := .agg (vec 8 y.up)) rfl (by kernel_rfl) (by kernel_rfl) (by kernel_rfl) (fun _ _ _ h => h) (yieldsIf_load_mid (by rfl) _ _ rfl _ _ rfl _ _ ((fun w h => range_kept8 HE2.out hg h.2)) Try.underlying32 rfl (size_cyc8 y.up)) hHeld ?_
          try simp only [Act.put, List.setIfInBounds_toArray, List.set_cons_zero, List.set_cons_succ, List.getElem_toArray, List.getElem_cons_succ, List.getElem_cons_zero]
          refine wpAnyH_take (i := 12) (oi := _) (v := .agg (vec 8 c.up)) rfl (by kernel_rfl) (by kernel_rfl) (by kernel_rfl) (fun _ _ _ h => h) (yieldsIf_load_mid (by rfl) _ _ rfl _ _ rfl _ _ ((fun w h => h.1.range)) Try.underlying32 rfl (size_cyc8 c.up)) hHeld ?_
          try simp only [Act.put, List.setIfInBounds_toArray, List.set_cons_zero, List.set_cons_succ, List.getElem_toArray, List.getElem_cons_succ, List.getElem_cons_zero]
          refine wpAnyH_ready (rs := [13]) (by kernel_rfl) (by simp) ?_
          refine AllReadyH.cons (o := _) rfl (fun K hK => ?_) AllReadyH.nil
          go_simp
          refine (ON _).mono ?_; rintro e w5 ⟨rfl, hb5⟩
          go_wp2_with fail
          obtain ⟨h1, h2⟩ := hHeld
          refine hK.out _ _ ⟨h1.below hb5, below_next h2 hb5⟩ (fun hHeld => ?_)
          clear hK K
          try simp only [Act.put, List.setIfInBounds_toArray, List.set_cons_zero, List.set_cons_succ, List.getElem_toArray, List.getElem_cons_succ, List.getElem_cons_zero]
          clear h1 h2 hb5 ON
          refine wpAnyH_done (by kernel_rfl) ?_ _
          obtain ⟨hC6, hB6⟩ := hHeld
          have HB6 := Lib.hid hB6
          clear hB6
          cases q
          · go_wp2
            go_roundw
            case rel => exact ⟨k + 1, by omega, by go_num, upto_succ HNO.out HQ.out, hC6, HB6.out⟩
            case measure => simp [intOf]; omega
          · go_wp2
            go_ret
            exact ⟨by rw [HF.out, onP_yes hlt HQ.out]; rfl, HB6.out⟩
        · obtain rfl : k = xs.length := by omega
          have HB6 := Lib.hid hbel
          clear hbel hCr
          go_wp2
          go_ret
          exact ⟨by rw [HF.out, onP_no HNO.out]; rfl, HB6.out⟩

/-! Areas. -/
theorem specSum4_wide (a b : Nat → Int) (ha : ∀ j, j < 4 → -1000000000000 ≤ a j ∧ a j ≤ 1000000000000) (hb : ∀ j, j < 4 → -1000000000000 ≤ b j ∧ b j ≤ 1000000000000) (w : World) :
    Calls Try.prog 72 #[.agg (vec 4 a), .int .i64 1, .agg (vec 4 b)] w fun e w' => e = .returned (.agg (vec 4 (add a b))) ∧ Below w.heap.size w w' := by
  have a0 := ha 0 (by omega); have a1 := ha 1 (by omega); have a2 := ha 2 (by omega); have a3 := ha 3 (by omega)
  have b0 := hb 0 (by omega); have b1 := hb 1 (by omega); have b2 := hb 2 (by omega); have b3 := hb 3 (by omega)
  clear ha hb
  change Calls Try.prog 72 #[.agg #[.int .i64 (a 0), .int .i64 (a 1), .int .i64 (a 2), .int .i64 (a 3)], .int .i64 1, .agg #[.int .i64 (b 0), .int .i64 (b 1), .int .i64 (b 2), .int .i64 (b 3)]] w fun e w' => e = .returned (.agg #[.int .i64 (a 0 + b 0), .int .i64 (a 1 + b 1), .int .i64 (a 2 + b 2), .int .i64 (a 3 + b 3)]) ∧ Below w.heap.size w w'
  go_enter Try.func72, Try.ntmps72
  go_wp2
  simp [bodyPost, results, Try.results72, go_sem]
  exact below_three _ _ _ _
/-- The first crosses added. -/
def areaK (xs : List V) (k : Nat) : Nat → Int := sumF (fun i => crs (at' xs i).up (at' xs ((i + 1) % xs.length)).up) k
theorem areaK_next (xs : List V) (k : Nat) : areaK xs (k + 1) = add (areaK xs k) (crs (at' xs k).up (at' xs ((k + 1) % xs.length)).up) := rfl
theorem areaK_small {xs : List V} (hs : ∀ x ∈ xs, ∀ j, j < 8 → -((100 : Nat) : Int) ≤ x.up j ∧ x.up j ≤ ((100 : Nat) : Int)) {j : Nat} (hj : j < 4) : ∀ {k : Nat}, k ≤ xs.length → -(3840000 * (k : Int)) ≤ areaK xs k j ∧ areaK xs k j ≤ 3840000 * (k : Int)
  | 0, _ => ⟨Int.le_refl 0, Int.le_refl 0⟩
  | k + 1, h => by
    have h1 := areaK_small hs hj (k := k) (by omega)
    have h2 := crs_small (M := 100) (by omega) (hs _ (List.mem_of_getElem? (at_get (show k < xs.length by omega)))) (hs _ (List.mem_of_getElem? (at_get (Nat.mod_lt (k + 1) (show 0 < xs.length by omega))))) j hj
    have e : areaK xs (k + 1) j = areaK xs k j + crs (at' xs k).up (at' xs ((k + 1) % xs.length)).up j := rfl
    have h3 : -3840000 ≤ crs (at' xs k).up (at' xs ((k + 1) % xs.length)).up j ∧ crs (at' xs k).up (at' xs ((k + 1) % xs.length)).up j ≤ 3840000 := by omega
    rw [e]
    generalize areaK xs k j = x at *
    generalize crs (at' xs k).up (at' xs ((k + 1) % xs.length)).up j = y at *
    have ek : ((k + 1 : Nat) : Int) = (k : Int) + 1 := by omega
    rw [ek]
    clear h2 e
    omega
set_option maxHeartbeats 4000000 in
theorem specPolyArea_any (v : Value) (xs : List V) (w : World) (hv : ReadsL encV w v xs) : Calls Try.prog 30 #[v] w fun e w' => e = .returned (tls (polyOk xs) (areaV xs)) ∧ Below w.heap.size w w' := by
  have hb0 : Below w.heap.size w ((w.alloc (.cells (vec 4 nul) 37)).alloc (.cells (vec 4 nul) 37)) := ((Below.refl _ w).alloc (Nat.le_refl _) _).alloc (by simp) _
  have hv1 := hv.below hb0
  have T := specPolyValid_any v xs _ hv1
  have hR := (RowAt.new w 4 37 nul).alloc (.cells (vec 4 nul) 37)
  have hS : RowAt ((w.alloc (.cells (vec 4 nul) 37)).alloc (.cells (vec 4 nul) 37)) (w.heap.size + 1) 4 37 nul := RowAt.newAt rfl (by simp)
  cases hp : polyOk xs
  · rw [hp] at T
    rw [ans_no4]
    clear hv hv1
    go_enter Try.func30, Try.ntmps30
    go_upto_region 2 with (refine store_new (ty := 37) (f' := nul) rfl rfl rfl rfl zero4 info_surd ?_)
    show Code.wp _ _ _ _ ((w.alloc (.cells (vec 4 nul) 37)).alloc (.cells (vec 4 nul) 37))
    generalize (w.alloc (.cells (vec 4 nul) 37)).alloc (.cells (vec 4 nul) 37) = W at *
    go_wp2_with fail
    refine T.mono ?_; rintro e w1 ⟨rfl, hb1⟩
    have hR1 := hR.below hb1
    have hS1 := hS.below hb1
    have hL1 := below_next hb0 hb1
    clear T hb1 hR hS hb0
    go_wp2_with (first | (refine load_row (g := w.heap.size + 1) rfl rfl rfl hS1 Try.underlying37 rfl info_surd ?_) | (refine store_row (g := w.heap.size) (f' := nul) rfl rfl rfl rfl hR1 info_surd ?_))
    refine bodyPost_ret (results_row_tmp rfl rfl hR1.setRow Try.underlying37 rfl info_surd) rfl ?_
    exact ⟨rfl, below_setRow hL1 (by omega) _⟩
  · rw [hp] at T
    have hln := polyOk_len hp
    have HX := Lib.hid (polyOk_small hp)
    obtain ⟨g, o, cap, rfl, hc1, hc2, hg, hr⟩ := reads_ptr8 hv (by rintro rfl; simp at hln)
    simp only [maxLen] at hc2
    have HR := Lib.hid hr
    have hcap : xs.length ≤ 48 := hln.2
    obtain ⟨c', v', hT, hE⟩ := specDone_some (areaV xs)
    rw [hE]
    have hAV : areaV xs = areaK xs xs.length := rfl
    rw [hAV] at hT
    clear hE hv hv1 hr hAV
    go_enter Try.func30, Try.ntmps30
    go_upto_region 2 with (refine store_new (ty := 37) (f' := nul) rfl rfl rfl rfl zero4 info_surd ?_)
    show Code.wp _ _ _ _ ((w.alloc (.cells (vec 4 nul) 37)).alloc (.cells (vec 4 nul) 37))
    generalize (w.alloc (.cells (vec 4 nul) 37)).alloc (.cells (vec 4 nul) 37) = W at *
    go_wp2_with fail
    refine T.mono ?_; rintro e w1 ⟨rfl, hb1⟩
    have hR1 := hR.below hb1
    have hS1 := hS.below hb1
    have hL1 := below_next hb0 hb1
    clear T hb1 hR hS hb0
    go_wp2
    go_loopw [5] (fun i wr => ∃ k : Nat, k ≤ xs.length ∧ i = .int .i64 k ∧ RowAt wr (w.heap.size + 1) 4 37 (areaK xs k) ∧ RowAt wr w.heap.size 4 37 nul ∧ Below w.heap.size w wr) (fun i _ => xs.length - (intOf i).toNat)
    case atStart => exact ⟨0, Nat.zero_le _, rfl, hS1, hR1, hL1⟩
    case round =>
      clear hS1 hR1 hL1
      obtain ⟨k, hk, rfl, hSk, hRk, hbel⟩ := hrel
      by_cases hlt : k < xs.length
      · have hkz : (k : Int) < (xs.length : Int) := by omega
        have hk0 : (0 : Int) ≤ (k : Int) := by omega
        have hrl : (k + 1) % xs.length < xs.length := Nat.mod_lt _ (by omega)
        have HE1 := Lib.hid (cells_part encV_ok HR.out (at_get hlt))
        have HE2 := Lib.hid (cells_part encV_ok HR.out (at_get hrl))
        have bx := HX.out _ (List.mem_of_getElem? (at_get hlt))
        have bY := HX.out _ (List.mem_of_getElem? (at_get hrl))
        have CR := fun w => l8Cross_any (at' xs k).up (at' xs ((k + 1) % xs.length)).up (M := 100) (by omega) bx bY w
        have hn1 : ∀ j, j < 4 → -1000000000000 ≤ areaK xs k j ∧ areaK xs k j ≤ 1000000000000 := fun j hj => by
          have := areaK_small HX.out hj hk
          omega
        have hn2 : ∀ j, j < 4 → -1000000000000 ≤ crs (at' xs k).up (at' xs ((k + 1) % xs.length)).up j ∧ crs (at' xs k).up (at' xs ((k + 1) % xs.length)).up j ≤ 1000000000000 := fun j hj => by
          have := crs_small (M := 100) (by omega) bx bY j hj
          omega
        have PL := fun w => specSum4_wide (areaK xs k) (crs (at' xs k).up (at' xs ((k + 1) % xs.length)).up) hn1 hn2 w
        have HNX := Lib.hid (areaK_next xs k)
        clear bx bY hn1 hn2
        generalize crs (at' xs k).up (at' xs ((k + 1) % xs.length)).up = f2 at *
        generalize areaK xs k = f1 at *
        generalize add f1 f2 = f3 at *
        obtain ⟨r, hrr⟩ : ∃ r, (k + 1) % xs.length = r := ⟨_, rfl⟩
        rw [hrr] at HE2 CR hrl
        have q1 : IntKind.i64.wrap ((k : Int) + 1) = (k : Int) + 1 := by rw [IntKind.wrap_i64]; omega
        have q2 : ((k : Int) + 1).tmod (xs.length : Int) = (r : Int) := by
          rw [Int.tmod_eq_emod_of_nonneg (by omega), ← hrr]; simp
        have q3 : IntKind.i64.wrap (r : Int) = (r : Int) := by rw [IntKind.wrap_i64]; omega
        have q4 : ¬ (xs.length : Int) = 0 := by omega
        have q4c : ¬ xs = [] := by rintro rfl; simp at hln
        have q4b : ((xs.length : Int) == 0) = false := by simpa using q4c
        have q5 : (r : Int) < (xs.length : Int) := by omega
        have q6 : (0 : Int) ≤ (r : Int) := by omega
        clear hrr
        generalize at' xs k = x at *
        generalize at' xs r = y at *
        unfold pt at CR
        go_upto_region 7 with fail
        have hS1 : RowAt wr.drew (w.heap.size + 1) 4 37 f1 := hSk
        have hR1 : RowAt wr.drew w.heap.size 4 37 nul := hRk
        refine wp_region_held_drew (S := fun w' => (∃ f, RowAt w' (w.heap.size + 1) 4 37 f) ∧ Below w.heap.size w w') (by kernel_rfl) ⟨⟨_, hS1⟩, hbel.drew⟩ (fun hHeld => ?_)
        clear hSk hRk hbel
        refine wpAnyH_take (i := 1) (oi := _) (v := .slice (some ⟨g, o, none⟩) xs.length cap) rfl (by kernel_rfl) (by kernel_rfl) (by kernel_rfl) (fun _ _ _ h => h) (Or.inl ⟨by rfl, fun w h => by go_simp⟩) hHeld ?_
        try simp only [Act.put, List.setIfInBounds_toArray, List.set_cons_zero, List.set_cons_succ, List.getElem_toArray, List.getElem_cons_succ, List.getElem_cons_zero]
        refine wpAnyH_take (i := 2) (oi := _) (v := .int .i64 k) rfl (by kernel_rfl) (by kernel_rfl) (by kernel_rfl) (fun _ _ _ h => h) (Or.inl ⟨by rfl, fun w h => by go_simp⟩) hHeld ?_
        try simp only [Act.put, List.setIfInBounds_toArray, List.set_cons_zero, List.set_cons_succ, List.getElem_toArray, List.getElem_cons_succ, List.getElem_cons_zero]
        refine wpAnyH_take (i := 3) (oi := _) (v := .pointer (some ⟨g, o + k * 8, none⟩)) rfl (by kernel_rfl) (by kernel_rfl) (by kernel_rfl) (fun _ _ _ h => h) (Or.inl ⟨by rfl, fun w h => by go_simp⟩) hHeld ?_
        try simp only [Act.put, List.setIfInBounds_toArray, List.set_cons_zero, List.set_cons_succ, List.getElem_toArray, List.getElem_cons_succ, List.getElem_cons_zero]
        refine wpAnyH_take (i := 4) (oi := _) (v := .agg (vec 8 x.up)) rfl (by kernel_rfl) (by kernel_rfl) (by kernel_rfl) (fun _ _ _ h => h) (yieldsIf_load_mid (by rfl) _ _ rfl _ _ rfl _ _ ((fun w h => range_kept8 HE1.out hg h.2)) Try.underlying32 rfl (size_cyc8 x.up)) hHeld ?_
        try simp only [Act.put, List.setIfInBounds_toArray, List.set_cons_zero, List.set_cons_succ, List.getElem_toArray, List.getElem_cons_succ, List.getElem_cons_zero]
        refine wpAnyH_take (i := 5) (oi := _) (v := .slice (some ⟨g, o, none⟩) xs.length cap) rfl (by kernel_rfl) (by kernel_rfl) (by kernel_rfl) (fun _ _ _ h => h) (Or.inl ⟨by rfl, fun w h => by go_simp⟩) hHeld ?_
        try simp only [Act.put, List.setIfInBounds_toArray, List.set_cons_zero, List.set_cons_succ, List.getElem_toArray, List.getElem_cons_succ, List.getElem_cons_zero]
        refine wpAnyH_take (i := 6) (oi := _) (v := .int .i64 k) rfl (by kernel_rfl) (by kernel_rfl) (by kernel_rfl) (fun _ _ _ h => h) (Or.inl ⟨by rfl, fun w h => by go_simp⟩) hHeld ?_
        try simp only [Act.put, List.setIfInBounds_toArray, List.set_cons_zero, List.set_cons_succ, List.getElem_toArray, List.getElem_cons_succ, List.getElem_cons_zero]
        refine wpAnyH_take (i := 7) (oi := _) (v := .int .i64 ((k : Int) + 1)) rfl (by kernel_rfl) (by kernel_rfl) (by kernel_rfl) (fun _ _ _ h => h) (Or.inl ⟨by rfl, fun w h => by go_simp⟩) hHeld ?_
        try simp only [Act.put, List.setIfInBounds_toArray, List.set_cons_zero, List.set_cons_succ, List.getElem_toArray, List.getElem_cons_succ, List.getElem_cons_zero]
        refine wpAnyH_take (i := 8) (oi := _) (v := .slice (some ⟨g, o, none⟩) xs.length cap) rfl (by kernel_rfl) (by kernel_rfl) (by kernel_rfl) (fun _ _ _ h => h) (Or.inl ⟨by rfl, fun w h => by go_simp⟩) hHeld ?_
        try simp only [Act.put, List.setIfInBounds_toArray, List.set_cons_zero, List.set_cons_succ, List.getElem_toArray, List.getElem_cons_succ, List.getElem_cons_zero]
        refine wpAnyH_take (i := 9) (oi := _) (v := .int .i64 xs.length) rfl (by kernel_rfl) (by kernel_rfl) (by kernel_rfl) (fun _ _ _ h => h) (Or.inl ⟨by rfl, fun w h => by go_simp⟩) hHeld ?_
        try simp only [Act.put, List.setIfInBounds_toArray, List.set_cons_zero, List.set_cons_succ, List.getElem_toArray, List.getElem_cons_succ, List.getElem_cons_zero]
        refine wpAnyH_take (i := 10) (oi := _) (v := .int .i64 r) rfl (by kernel_rfl) (by kernel_rfl) (by kernel_rfl) (fun _ _ _ h => h) (Or.inl ⟨by rfl, fun w h => by go_simp⟩) hHeld ?_
        try simp only [Act.put, List.setIfInBounds_toArray, List.set_cons_zero, List.set_cons_succ, List.getElem_toArray, List.getElem_cons_succ, List.getElem_cons_zero]
        refine wpAnyH_take (i := 11) (oi := _) (v := .pointer (some ⟨g, o + r * 8, none⟩)) rfl (by kernel_rfl) (by kernel_rfl) (by kernel_rfl) (fun _ _ _ h => h) (Or.inl ⟨by rfl, fun w h => by go_simp⟩) hHeld ?_
        try simp only [Act.put, List.setIfInBounds_toArray, List.set_cons_zero, List.set_cons_succ, List.getElem_toArray, List.getElem_cons_succ, List.getElem_cons_zero]
        refine wpAnyH_take (i := 12) (oi := _) (v := .agg (vec 8 y.up)) rfl (by kernel_rfl) (by kernel_rfl) (by kernel_rfl) (fun _ _ _ h => h) (yieldsIf_load_mid (by rfl) _ _ rfl _ _ rfl _ _ ((fun w h => range_kept8 HE2.out hg h.2)) Try.underlying32 rfl (size_cyc8 y.up)) hHeld ?_
        try simp only [Act.put, List.setIfInBounds_toArray, List.set_cons_zero, List.set_cons_succ, List.getElem_toArray, List.getElem_cons_succ, List.getElem_cons_zero]
        refine wpAnyH_ready (rs := [0, 13]) (by kernel_rfl) (by simp) ?_
        refine AllReadyH.cons (o := _) rfl (fun K hK => ?_) (AllReadyH.cons (o := _) rfl (fun K hK => ?_) AllReadyH.nil)
        · rw [if_pos (by rfl)]
          refine wp_load_mid 37 _ rfl (w.heap.size + 1) 0 rfl (lst 4 f1) _ hS1.range Try.underlying37 rfl (by rw [lst_length]; exact info_surd) ?_
          refine hK.out _ _ hHeld (fun hHeld => ?_)
          clear hK K
          try simp only [Act.put, List.setIfInBounds_toArray, List.set_cons_zero, List.set_cons_succ, List.getElem_toArray, List.getElem_cons_succ, List.getElem_cons_zero]
          refine wpAnyH_ready (rs := [13]) (by kernel_rfl) (by simp) ?_
          refine AllReadyH.cons (o := _) rfl (fun K hK => ?_) AllReadyH.nil
          go_simp
          refine (CR _).mono ?_; rintro e w5 ⟨rfl, hb5⟩
          go_wp2_with fail
          obtain ⟨⟨_, q1⟩, q2⟩ := hHeld
          have hw5S := hS1.below hb5
          have hw5R := hR1.below hb5
          refine hK.out _ _ ⟨⟨_, q1.below hb5⟩, below_next q2 hb5⟩ (fun hHeld => ?_)
          clear hK K
          try simp only [Act.put, List.setIfInBounds_toArray, List.set_cons_zero, List.set_cons_succ, List.getElem_toArray, List.getElem_cons_succ, List.getElem_cons_zero]
          clear q1 q2 hb5 CR hS1 hR1
          refine wpAnyH_ready (rs := [14]) (by kernel_rfl) (by simp) ?_
          refine AllReadyH.cons (o := _) rfl (fun K hK => ?_) AllReadyH.nil
          go_simp
          refine (PL _).mono ?_; rintro e w6 ⟨rfl, hb5⟩
          go_wp2_with fail
          obtain ⟨⟨_, q1⟩, q2⟩ := hHeld
          have hw6S := hw5S.below hb5
          have hw6R := hw5R.below hb5
          refine hK.out _ _ ⟨⟨_, q1.below hb5⟩, below_next q2 hb5⟩ (fun hHeld => ?_)
          clear hK K
          try simp only [Act.put, List.setIfInBounds_toArray, List.set_cons_zero, List.set_cons_succ, List.getElem_toArray, List.getElem_cons_succ, List.getElem_cons_zero]
          clear q1 q2 hb5 PL hw5S hw5R
          refine wpAnyH_ready (rs := [15]) (by kernel_rfl) (by simp) ?_
          refine AllReadyH.cons (o := _) rfl (fun K hK => ?_) AllReadyH.nil
          rw [if_pos (by rfl)]
          refine store_step (f' := f3) rfl rfl rfl hw6S info_surd ?_
          obtain ⟨-, q2⟩ := hHeld
          have hS7 := hw6S.setRow (f' := f3)
          have hR7 := hw6R.rowOther (w.heap.size + 1) (vec 4 f3) (by omega)
          have hB7 := below_setRow q2 (g := w.heap.size + 1) (by omega) (vec 4 f3)
          refine hK.out _ _ ⟨⟨_, hS7⟩, hB7⟩ (fun hHeld => ?_)
          clear hK K
          try simp only [Act.put, List.setIfInBounds_toArray, List.set_cons_zero, List.set_cons_succ, List.getElem_toArray, List.getElem_cons_succ, List.getElem_cons_zero]
          clear hHeld q2
          refine wpAnyH_done (by kernel_rfl) ?_ _
          go_wp2
          go_roundw
          case rel => exact ⟨k + 1, by omega, by go_num, by rw [HNX.out]; exact hS7, hR7, hB7⟩
          case measure => simp [intOf]; omega
        · go_simp
          refine (CR _).mono ?_; rintro e w5 ⟨rfl, hb5⟩
          go_wp2_with fail
          obtain ⟨⟨_, q1⟩, q2⟩ := hHeld
          have hw5S := hS1.below hb5
          have hw5R := hR1.below hb5
          refine hK.out _ _ ⟨⟨_, q1.below hb5⟩, below_next q2 hb5⟩ (fun hHeld => ?_)
          clear hK K
          try simp only [Act.put, List.setIfInBounds_toArray, List.set_cons_zero, List.set_cons_succ, List.getElem_toArray, List.getElem_cons_succ, List.getElem_cons_zero]
          clear q1 q2 hb5 CR hS1 hR1
          refine wpAnyH_ready (rs := [0]) (by kernel_rfl) (by simp) ?_
          refine AllReadyH.cons (o := _) rfl (fun K hK => ?_) AllReadyH.nil
          rw [if_pos (by rfl)]
          refine wp_load_mid 37 _ rfl (w.heap.size + 1) 0 rfl (lst 4 f1) _ hw5S.range Try.underlying37 rfl (by rw [lst_length]; exact info_surd) ?_
          refine hK.out _ _ hHeld (fun hHeld => ?_)
          clear hK K
          try simp only [Act.put, List.setIfInBounds_toArray, List.set_cons_zero, List.set_cons_succ, List.getElem_toArray, List.getElem_cons_succ, List.getElem_cons_zero]
          refine wpAnyH_ready (rs := [14]) (by kernel_rfl) (by simp) ?_
          refine AllReadyH.cons (o := _) rfl (fun K hK => ?_) AllReadyH.nil
          go_simp
          refine (PL _).mono ?_; rintro e w6 ⟨rfl, hb5⟩
          go_wp2_with fail
          obtain ⟨⟨_, q1⟩, q2⟩ := hHeld
          have hw6S := hw5S.below hb5
          have hw6R := hw5R.below hb5
          refine hK.out _ _ ⟨⟨_, q1.below hb5⟩, below_next q2 hb5⟩ (fun hHeld => ?_)
          clear hK K
          try simp only [Act.put, List.setIfInBounds_toArray, List.set_cons_zero, List.set_cons_succ, List.getElem_toArray, List.getElem_cons_succ, List.getElem_cons_zero]
          clear q1 q2 hb5 PL hw5S hw5R
          refine wpAnyH_ready (rs := [15]) (by kernel_rfl) (by simp) ?_
          refine AllReadyH.cons (o := _) rfl (fun K hK => ?_) AllReadyH.nil
          rw [if_pos (by rfl)]
          refine store_step (f' := f3) rfl rfl rfl hw6S info_surd ?_
          obtain ⟨-, q2⟩ := hHeld
          have hS7 := hw6S.setRow (f' := f3)
          have hR7 := hw6R.rowOther (w.heap.size + 1) (vec 4 f3) (by omega)
          have hB7 := below_setRow q2 (g := w.heap.size + 1) (by omega) (vec 4 f3)
          refine hK.out _ _ ⟨⟨_, hS7⟩, hB7⟩ (fun hHeld => ?_)
          clear hK K
          try simp only [Act.put, List.setIfInBounds_toArray, List.set_cons_zero, List.set_cons_succ, List.getElem_toArray, List.getElem_cons_succ, List.getElem_cons_zero]
          clear hHeld q2
          refine wpAnyH_done (by kernel_rfl) ?_ _
          go_wp2
          go_roundw
          case rel => exact ⟨k + 1, by omega, by go_num, by rw [HNX.out]; exact hS7, hR7, hB7⟩
          case measure => simp [intOf]; omega
      · obtain rfl : k = xs.length := by omega
        have HB6 := Lib.hid hbel
        clear hbel
        generalize areaK xs xs.length = f1 at *
        go_wp2_with (refine load_row (g := w.heap.size + 1) rfl rfl rfl hSk Try.underlying37 rfl info_surd ?_)
        refine (hT _).mono ?_; rintro e w5 ⟨rfl, hb5⟩
        have hR5 := hRk.below hb5
        have HB7 := Lib.hid (below_next HB6.out hb5)
        clear hT hb5 hSk hRk HB6
        go_wp2_with (refine store_row (g := w.heap.size) rfl rfl rfl rfl hR5 info_surd ?_)
        refine bodyPost_ret (results_row_tmp rfl rfl hR5.setRow Try.underlying37 rfl info_surd) rfl ?_
        exact ⟨rfl, below_setRow HB7.out (by omega) _⟩

end Go.Proofs.Ytdpakhggpgdgbaa
/- impl: the functions on polygons, but for the one on convex ones and the opposite order. -/
namespace Go.Proofs.Ytdpakhggpgdgbaa
set_option maxRecDepth 20000
open Go.ChangeShapes Go.WideShapes Go.ChangeAt Go.RowKit
set_option linter.unusedVariables false
set_option linter.unusedSimpArgs false

/-! Crosses. -/
def boxC3 (w : World) (a b : Nat → Int) : World := ((w.alloc (.cells (vec 8 a) 32)).alloc (.cells (vec 8 b) 32)).alloc (.cells (vec 4 nul) 37)
theorem boxC3_facts (w : World) (a b : Nat → Int) : RowAt (boxC3 w a b) w.heap.size 8 32 a ∧ RowAt (boxC3 w a b) (w.heap.size + 1) 8 32 b ∧ RowAt (boxC3 w a b) (w.heap.size + 1 + 1) 4 37 nul ∧ Below w.heap.size w (boxC3 w a b) :=
  ⟨((RowAt.newAt rfl rfl).alloc _).alloc _, (RowAt.newAt rfl (by simp)).alloc _, RowAt.newAt rfl (by simp), (((Below.refl _ _).alloc (Nat.le_refl _) _).alloc (by simp) _).alloc (by simp; omega) _⟩
set_option maxHeartbeats 2000000 in
theorem PolyCross_any (a b : Nat → Int) (w : World) : Calls Try.prog 26 #[pt a, pt b] w fun e w' => e = .returned (tls (smallF 1000 a && smallF 1000 b) (crs a b)) ∧ Below w.heap.size w w' := by
  have sa := vec_size 8 a
  have sb := vec_size 8 b
  have P1 := fun w => exactWithin_any a 1000 (by omega) w
  have P2 := fun w => exactWithin_any b 1000 (by omega) w
  obtain ⟨hA, hB, hO, hL⟩ := boxC3_facts w a b
  cases h : (smallF 1000 a && smallF 1000 b)
  · rw [ans_no4]
    unfold pt at *
    go_enter Try.func26, Try.ntmps26
    go_upto_region 1 with fail
    show Code.wp _ _ _ _ (boxC3 w a b)
    generalize boxC3 w a b = W at *
    obtain ⟨f1, hf1⟩ : ∃ f, (if smallF 1000 a = true then a else nul) = f := ⟨_, rfl⟩
    obtain ⟨f2, hf2⟩ : ∃ f, (if smallF 1000 b = true then b else nul) = f := ⟨_, rfl⟩
    rw [hf1] at P1
    rw [hf2] at P2
    generalize smallF 1000 a = p at *
    generalize smallF 1000 b = q at *
    clear hf1 hf2
    go_upto_region 2 with (refine load_row (g := w.heap.size) rfl rfl rfl hA Try.underlying32 rfl info_cyc ?_)
    refine (P1 _).mono ?_; rintro e w2 ⟨rfl, hb2⟩
    have hB2 := (hB.below hb2).alloc (.cells (vec 8 f1) 75)
    have hO2 := (hO.below hb2).alloc (.cells (vec 8 f1) 75)
    have hL2 := (below_next hL hb2).alloc (below_next hL hb2).size (.cells (vec 8 f1) 75)
    clear hA hB hO hL hb2 P1
    go_upto_region 2 with (refine store_new (ty := 75) (f' := f1) rfl rfl rfl rfl zero8 info_exact ?_)
    show Code.wp _ _ _ _ (w2.alloc (.cells (vec 8 f1) 75))
    generalize w2.alloc (.cells (vec 8 f1) 75) = W2 at *
    go_upto_region 3 with (refine load_row (g := w.heap.size + 1) rfl rfl rfl hB2 Try.underlying32 rfl info_cyc ?_)
    refine (P2 _).mono ?_; rintro e w3 ⟨rfl, hb3⟩
    have hO3 := (hO2.below hb3).alloc (.cells (vec 8 f2) 75)
    have hL3 := (below_next hL2 hb3).alloc (below_next hL2 hb3).size (.cells (vec 8 f2) 75)
    clear hB2 hO2 hL2 hb3 P2
    go_upto_region 3 with (refine store_new (ty := 75) (f' := f2) rfl rfl rfl rfl zero8 info_exact ?_)
    show Code.wp _ _ _ _ (w3.alloc (.cells (vec 8 f2) 75))
    generalize w3.alloc (.cells (vec 8 f2) 75) = W3 at *
    cases p <;> cases q
    · go_wp2_with (refine store_row rfl rfl rfl (show _ = Value.agg (vec 4 nul) from rfl) hO3 info_surd ?_)
      refine bodyPost_ret (results_row_tmp rfl rfl hO3.setRow Try.underlying37 rfl info_surd) rfl ?_
      exact ⟨rfl, below_setRow hL3 (by omega) _⟩
    · go_wp2_with (refine store_row rfl rfl rfl (show _ = Value.agg (vec 4 nul) from rfl) hO3 info_surd ?_)
      refine bodyPost_ret (results_row_tmp rfl rfl hO3.setRow Try.underlying37 rfl info_surd) rfl ?_
      exact ⟨rfl, below_setRow hL3 (by omega) _⟩
    · go_wp2_with (refine store_row rfl rfl rfl (show _ = Value.agg (vec 4 nul) from rfl) hO3 info_surd ?_)
      refine bodyPost_ret (results_row_tmp rfl rfl hO3.setRow Try.underlying37 rfl info_surd) rfl ?_
      exact ⟨rfl, below_setRow hL3 (by omega) _⟩
    · cases h
  · rw [Bool.and_eq_true] at h
    have C := fun w => cross_any a b (M := 1000) (Nat.le_refl _) (smallF_at h.1) (smallF_at h.2) w
    have T := fun w => rtold_at (crs a b) w
    rw [h.1] at P1
    rw [h.2] at P2
    simp only [if_true] at P1 P2
    obtain ⟨c', v', hT, hE⟩ := told_some4 (crs a b)
    rw [hE]
    clear hE T h
    generalize crs a b = r at *
    unfold pt at *
    go_enter Try.func26, Try.ntmps26
    go_upto_region 1 with fail
    show Code.wp _ _ _ _ (boxC3 w a b)
    generalize boxC3 w a b = W at *
    go_upto_region 2 with (refine load_row (g := w.heap.size) rfl rfl rfl hA Try.underlying32 rfl info_cyc ?_)
    refine (P1 _).mono ?_; rintro e w2 ⟨rfl, hb2⟩
    have hB2 := (hB.below hb2).alloc (.cells (vec 8 a) 75)
    have hO2 := (hO.below hb2).alloc (.cells (vec 8 a) 75)
    have hL2 := (below_next hL hb2).alloc (below_next hL hb2).size (.cells (vec 8 a) 75)
    have hX2 := RowAt.new w2 8 75 a
    clear hA hB hO hL hb2 P1
    go_upto_region 2 with (refine store_new (ty := 75) (f' := a) rfl rfl rfl rfl zero8 info_exact ?_)
    show Code.wp _ _ _ _ (w2.alloc (.cells (vec 8 a) 75))
    generalize w2.alloc (.cells (vec 8 a) 75) = W2 at *
    generalize w2.heap.size = gx at *
    go_upto_region 3 with (refine load_row (g := w.heap.size + 1) rfl rfl rfl hB2 Try.underlying32 rfl info_cyc ?_)
    refine (P2 _).mono ?_; rintro e w3 ⟨rfl, hb3⟩
    have hO3 := (hO2.below hb3).alloc (.cells (vec 8 b) 75)
    have hX3 := (hX2.below hb3).alloc (.cells (vec 8 b) 75)
    have hL3 := (below_next hL2 hb3).alloc (below_next hL2 hb3).size (.cells (vec 8 b) 75)
    have hY3 := RowAt.new w3 8 75 b
    clear hB2 hO2 hL2 hb3 P2 hX2
    go_upto_region 3 with (refine store_new (ty := 75) (f' := b) rfl rfl rfl rfl zero8 info_exact ?_)
    show Code.wp _ _ _ _ (w3.alloc (.cells (vec 8 b) 75))
    generalize w3.alloc (.cells (vec 8 b) 75) = W3 at *
    generalize w3.heap.size = gy at *
    go_wp2_with (first | (refine load_row (g := gx) rfl rfl rfl hX3 Try.underlying75 rfl info_exact ?_) | (refine load_row (g := gy) rfl rfl rfl hY3 Try.underlying75 rfl info_exact ?_))
    refine (C _).mono ?_; rintro e w4 ⟨rfl, hb4⟩
    have hO4 := hO3.below hb4
    have hL4 := below_next hL3 hb4
    clear hX3 hY3 hO3 hL3 hb4 C
    go_wp2_with fail
    refine (hT _).mono ?_; rintro e w5 ⟨rfl, hb5⟩
    have hO5 := hO4.below hb5
    have hL5 := below_next hL4 hb5
    clear hO4 hL4 hb5 hT
    go_wp2_with (refine store_row rfl rfl rfl rfl hO5 info_surd ?_)
    refine bodyPost_ret (results_row_tmp rfl rfl hO5.setRow Try.underlying37 rfl info_surd) rfl ?_
    exact ⟨rfl, below_setRow hL5 (by omega) _⟩

/-! Areas. -/
set_option maxHeartbeats 2000000 in
theorem PolyArea_any (v : Value) (xs : List V) (w : World) (hv : ReadsL encV w v xs) : Calls Try.prog 29 #[v] w fun e w' => e = .returned (tls (polyOk xs) (areaV xs)) ∧ Below w.heap.size w w' := by
  have hv1 := hv.below ((Below.refl w.heap.size w).alloc (Nat.le_refl _) (.cells (vec 4 nul) 37))
  have T := polygonOf_any v xs _ hv1
  have hO := RowAt.new w 4 37 nul
  have hL := (Below.refl w.heap.size w).alloc (Nat.le_refl _) (.cells (vec 4 nul) 37)
  clear hv hv1
  cases h : polyOk xs
  · rw [polyO_no h] at T
    rw [ans_no4]
    have T := Lib.hid T
    go_enter Try.func29, Try.ntmps29
    go_upto_region 1 with fail
    show Code.wp _ _ _ _ (w.alloc (.cells (vec 4 nul) 37))
    generalize w.alloc (.cells (vec 4 nul) 37) = W at *
    go_wp2_with fail
    refine T.out.mono ?_; rintro e w1 ⟨hb1, v1, rfl, -⟩
    have hO1 := hO.below hb1
    have hL1 := below_next hL hb1
    clear T hb1 hO hL
    go_wp2_with (refine store_row rfl rfl rfl (show _ = Value.agg (vec 4 nul) from rfl) hO1 info_surd ?_)
    refine bodyPost_ret (results_row_tmp rfl rfl hO1.setRow Try.underlying37 rfl info_surd) rfl ?_
    exact ⟨rfl, below_setRow hL1 (by omega) _⟩
  · rw [polyO_yes h] at T
    have hln := polyOk_len h
    have AR := fun (v' : Value) (w' : World) (hr : ReadsL encV w' v' xs) => area_any v' xs w' hr hln.1 hln.2 (polyOk_small h)
    rw [show accF (sidesL xs xs.length) = areaV xs from accF_is xs] at AR
    obtain ⟨c', v', hT, hE⟩ := told_some4 (areaV xs)
    rw [hE]
    clear hE
    generalize areaV xs = r at *
    have T := Lib.hid T
    go_enter Try.func29, Try.ntmps29
    go_upto_region 1 with fail
    show Code.wp _ _ _ _ (w.alloc (.cells (vec 4 nul) 37))
    generalize w.alloc (.cells (vec 4 nul) 37) = W at *
    go_wp2_with fail
    refine T.out.mono ?_; rintro e w1 ⟨hb1, v1, rfl, ho1⟩
    have hO1 := hO.below hb1
    have hL1 := below_next hL hb1
    have AR1 := AR v1 w1 (ownL_reads ho1)
    clear T hb1 hO hL ho1 AR
    go_wp2_with fail
    refine AR1.mono ?_; rintro e w2 ⟨rfl, hb2⟩
    have hO2 := hO1.below hb2
    have hL2 := below_next hL1 hb2
    clear hO1 hL1 hb2 AR1
    go_wp2_with fail
    refine (hT _).mono ?_; rintro e w3 ⟨rfl, hb3⟩
    have hO3 := hO2.below hb3
    have hL3 := below_next hL2 hb3
    clear hO2 hL2 hb3 hT
    go_wp2_with (refine store_row rfl rfl rfl rfl hO3 info_surd ?_)
    refine bodyPost_ret (results_row_tmp rfl rfl hO3.setRow Try.underlying37 rfl info_surd) rfl ?_
    exact ⟨rfl, below_setRow hL3 (by omega) _⟩

/-! Bends, turns. -/
set_option maxHeartbeats 2000000 in
theorem PolyBends_any (v : Value) (xs : List V) (w : World) (hv : ReadsL encV w v xs) : Calls Try.prog 32 #[v] w (ToldI w (bendsO xs)) := by
  have T := polygonOf_any v xs w hv
  clear hv
  cases h : polyOk xs
  · rw [polyO_no h] at T
    have hF : bendsO xs = none := by unfold bendsO; rw [h]; rfl
    rw [hF]
    have T := Lib.hid T
    go_enter Try.func32, Try.ntmps32
    go_wp2_with fail
    refine T.out.mono ?_; rintro e w1 ⟨hb1, v1, rfl, -⟩
    have HB := Lib.hid hb1
    clear T hb1
    go_wp2
    go_ret2
    exact ⟨HB.out, _, rfl, World.ownsRow_nil _ _ _ _⟩
  · rw [polyO_yes h] at T
    have hln := polyOk_len h
    have BE := fun (v' : Value) (w' : World) (hr : ReadsL encV w' v' xs) => Lib.hid (bends_any v' xs w' hr hln.1 hln.2 (polyOk_small h))
    rw [bends_way xs] at BE
    have hF : bendsO xs = some ((List.range xs.length).map (bnd (PQ xs) xs.length)) := by unfold bendsO; rw [h]; rfl
    rw [hF]
    clear hF
    generalize (List.range xs.length).map (bnd (PQ xs) xs.length) = L at *
    have T := Lib.hid T
    go_enter Try.func32, Try.ntmps32
    go_wp2_with fail
    refine T.out.mono ?_; rintro e w1 ⟨hb1, v1, rfl, ho1⟩
    have HB := Lib.hid hb1
    have BE1 := BE v1 w1 (ownL_reads ho1)
    clear T hb1 ho1 BE
    go_wp2_with fail
    refine BE1.out.mono ?_; rintro e w2 ⟨hb2, v2, rfl, ho2⟩
    have HB2 := Lib.hid (below_next HB.out hb2)
    have HO2 := Lib.hid (rows_mono ho2 HB.out.size)
    clear hb2 ho2 BE1
    go_wp2
    go_ret2
    exact ⟨HB2.out, _, rfl, HO2.out⟩
/-- The turns of a polygon to calculate with. -/
theorem turns_any (v : Value) (xs : List V) (w : World) (hv : ReadsL encV w v xs) (h : polyOk xs = true) :
    Calls Try.prog 76 #[v] w fun e w' => e = .returned (toldZ (turnsO xs)) ∧ Below w.heap.size w w' := by
  have hln := polyOk_len h
  have hl := stepsQ_len xs xs.length
  have ST := steps_any v xs w hv hln.1 hln.2 (fun x hx => small_R (polyOk_small h x hx))
  have WD := fun (v' : Value) (w' : World) (hr : ReadsL encV w' v' (stepsQ xs xs.length)) => winding_any v' (stepsQ xs xs.length) w' hr (by omega) (by omega) (stepsQ_small hln.1 (polyOk_small h))
  rw [turns_way h] at WD
  clear hl
  generalize stepsQ xs xs.length = ys at *
  obtain ⟨m, q, hq⟩ : ∃ (m : Int) (q : Bool), toldZ (turnsO xs) = .tuple #[.int .i64 m, .bool q] := ⟨_, _, rfl⟩
  rw [hq] at WD ⊢
  clear hq hv
  have ST := Lib.hid ST
  go_enter Try.func76, Try.ntmps76
  go_wp2_with fail
  refine ST.out.mono ?_; rintro e w1 ⟨hb1, v1, rfl, ho1⟩
  have WD1 := WD v1 w1 (ownL_reads ho1)
  have HB := Lib.hid hb1
  clear ST hb1 ho1 WD
  go_wp2_with fail
  refine WD1.mono ?_; rintro e w2 ⟨rfl, hb2⟩
  have HB2 := Lib.hid (below_next HB.out hb2)
  clear hb2 WD1
  go_wp2
  go_ret2
  exact ⟨rfl, HB2.out⟩
set_option maxHeartbeats 2000000 in
theorem PolyTurns_any (v : Value) (xs : List V) (w : World) (hv : ReadsL encV w v xs) : Calls Try.prog 36 #[v] w fun e w' => e = .returned (toldZ (turnsO xs)) ∧ Below w.heap.size w w' := by
  have T := polygonOf_any v xs w hv
  clear hv
  cases h : polyOk xs
  · rw [polyO_no h] at T
    have hF : turnsO xs = none := by unfold turnsO; rw [h]; rfl
    rw [hF]
    have T := Lib.hid T
    go_enter Try.func36, Try.ntmps36
    go_wp2_with fail
    refine T.out.mono ?_; rintro e w1 ⟨hb1, v1, rfl, -⟩
    have HB := Lib.hid hb1
    clear T hb1
    go_wp2
    go_ret2
    exact ⟨rfl, HB.out⟩
  · rw [polyO_yes h] at T
    have TU := fun (v' : Value) (w' : World) (hr : ReadsL encV w' v' xs) => turns_any v' xs w' hr h
    obtain ⟨m, q, hq⟩ : ∃ (m : Int) (q : Bool), toldZ (turnsO xs) = .tuple #[.int .i64 m, .bool q] := ⟨_, _, rfl⟩
    rw [hq] at TU ⊢
    clear hq h
    have T := Lib.hid T
    go_enter Try.func36, Try.ntmps36
    go_wp2_with fail
    refine T.out.mono ?_; rintro e w1 ⟨hb1, v1, rfl, ho1⟩
    have HB := Lib.hid hb1
    have TU1 := TU v1 w1 (ownL_reads ho1)
    clear T hb1 ho1 TU
    go_wp2_with fail
    refine TU1.mono ?_; rintro e w2 ⟨rfl, hb2⟩
    have HB2 := Lib.hid (below_next HB.out hb2)
    clear hb2 TU1
    go_wp2
    go_ret2
    exact ⟨rfl, HB2.out⟩

/-! A point and a polygon. -/
theorem seen_yes {xs : List V} {c : V} (h : (polyOk xs && smallF 100 c.up) = true) : seenO xs c = some (aroundL xs c) := by unfold seenO; rw [h]; rfl
theorem seen_no {xs : List V} {c : V} (h : (polyOk xs && smallF 100 c.up) = false) : seenO xs c = none := by unfold seenO; rw [h]; rfl
set_option maxHeartbeats 2000000 in
theorem PolyOn_any (v : Value) (xs : List V) (c : V) (w : World) (hv : ReadsL encV w v xs) : Calls Try.prog 24 #[v, pt c.up] w fun e w' => e = .returned (.bool (onB xs c)) ∧ Below w.heap.size w w' := by
  have sc := vec_size 8 c.up
  have hv1 := hv.below ((Below.refl w.heap.size w).alloc (Nat.le_refl _) (.cells (vec 8 c.up) 32))
  have T := Lib.hid (polygonAround_any v xs c _ hv1)
  have hC := RowAt.new w 8 32 c.up
  have hL := (Below.refl w.heap.size w).alloc (Nat.le_refl _) (.cells (vec 8 c.up) 32)
  clear hv hv1
  unfold pt at *
  cases h : (polyOk xs && smallF 100 c.up)
  · have hF : onB xs c = false := by unfold onB; rw [h]; rfl
    rw [hF]
    rw [seen_no h] at T
    clear hF h
    go_enter Try.func24, Try.ntmps24
    go_upto_region 1 with fail
    show Code.wp _ _ _ _ (w.alloc (.cells (vec 8 c.up) 32))
    generalize w.alloc (.cells (vec 8 c.up) 32) = W at *
    go_wp2_with (refine load_row (g := w.heap.size) rfl rfl rfl hC Try.underlying32 rfl info_cyc ?_)
    refine T.out.mono ?_; rintro e w1 ⟨hb1, v1, rfl, -⟩
    have HB := Lib.hid (below_next hL hb1)
    clear T hb1 hC hL
    go_wp2
    go_ret
    exact ⟨rfl, HB.out⟩
  · have hF : onB xs c = meetL (aroundL xs c) := by unfold onB; rw [h, on_way]; rfl
    rw [hF]
    rw [seen_yes h] at T
    rw [Bool.and_eq_true] at h
    have hln := polyOk_len h.1
    have hal := around_len xs c
    have MZ := fun (v' : Value) (w' : World) (hr : ReadsL encV w' v' (aroundL xs c)) => meetsZero_any v' (aroundL xs c) w' hr (by omega) (by omega) (aroundL_small (polyOk_small h.1) (smallF_iff.1 h.2))
    clear hF hal
    generalize meetL (aroundL xs c) = q at *
    go_enter Try.func24, Try.ntmps24
    go_upto_region 1 with fail
    show Code.wp _ _ _ _ (w.alloc (.cells (vec 8 c.up) 32))
    generalize w.alloc (.cells (vec 8 c.up) 32) = W at *
    go_wp2_with (refine load_row (g := w.heap.size) rfl rfl rfl hC Try.underlying32 rfl info_cyc ?_)
    refine T.out.mono ?_; rintro e w1 ⟨hb1, v1, rfl, ho1⟩
    have HB := Lib.hid (below_next hL hb1)
    have MZ1 := MZ v1 w1 (ownL_reads ho1)
    clear T hb1 hC hL ho1 MZ
    go_wp2_with fail
    refine MZ1.mono ?_; rintro e w2 ⟨rfl, hb2⟩
    have HB2 := Lib.hid (below_next HB.out hb2)
    clear hb2 MZ1
    go_wp2
    go_ret
    exact ⟨ret_bool (by simp), HB2.out⟩
set_option maxHeartbeats 2000000 in
theorem PolyWinding_any (v : Value) (xs : List V) (c : V) (w : World) (hv : ReadsL encV w v xs) : Calls Try.prog 40 #[v, pt c.up] w fun e w' => e = .returned (toldZ (windO xs c)) ∧ Below w.heap.size w w' := by
  have sc := vec_size 8 c.up
  have hv1 := hv.below ((Below.refl w.heap.size w).alloc (Nat.le_refl _) (.cells (vec 8 c.up) 32))
  have T := Lib.hid (polygonAround_any v xs c _ hv1)
  have hC := RowAt.new w 8 32 c.up
  have hL := (Below.refl w.heap.size w).alloc (Nat.le_refl _) (.cells (vec 8 c.up) 32)
  clear hv hv1
  unfold pt at *
  cases h : (polyOk xs && smallF 100 c.up)
  · have hF : windO xs c = none := by unfold windO; rw [h]; rfl
    rw [hF]
    rw [seen_no h] at T
    clear hF h
    go_enter Try.func40, Try.ntmps40
    go_upto_region 1 with fail
    show Code.wp _ _ _ _ (w.alloc (.cells (vec 8 c.up) 32))
    generalize w.alloc (.cells (vec 8 c.up) 32) = W at *
    go_wp2_with (refine load_row (g := w.heap.size) rfl rfl rfl hC Try.underlying32 rfl info_cyc ?_)
    refine T.out.mono ?_; rintro e w1 ⟨hb1, v1, rfl, -⟩
    have HB := Lib.hid (below_next hL hb1)
    clear T hb1 hC hL
    go_wp2
    go_ret2
    exact ⟨rfl, HB.out⟩
  · have hF : windO xs c = windL (aroundL xs c) := by
      unfold windO windL
      rw [h, on_way, wind_way]
      cases onP (PQ xs) (qv c.up) xs.length <;> rfl
    rw [hF]
    rw [seen_yes h] at T
    rw [Bool.and_eq_true] at h
    have hln := polyOk_len h.1
    have hal := around_len xs c
    have WD := fun (v' : Value) (w' : World) (hr : ReadsL encV w' v' (aroundL xs c)) => winding_any v' (aroundL xs c) w' hr (by omega) (by omega) (aroundL_small (polyOk_small h.1) (smallF_iff.1 h.2))
    clear hF hal
    obtain ⟨m, q, hq⟩ : ∃ (m : Int) (q : Bool), toldZ (windL (aroundL xs c)) = .tuple #[.int .i64 m, .bool q] := ⟨_, _, rfl⟩
    rw [hq] at WD ⊢
    clear hq
    go_enter Try.func40, Try.ntmps40
    go_upto_region 1 with fail
    show Code.wp _ _ _ _ (w.alloc (.cells (vec 8 c.up) 32))
    generalize w.alloc (.cells (vec 8 c.up) 32) = W at *
    go_wp2_with (refine load_row (g := w.heap.size) rfl rfl rfl hC Try.underlying32 rfl info_cyc ?_)
    refine T.out.mono ?_; rintro e w1 ⟨hb1, v1, rfl, ho1⟩
    have HB := Lib.hid (below_next hL hb1)
    have WD1 := WD v1 w1 (ownL_reads ho1)
    clear T hb1 hC hL ho1 WD
    go_wp2_with fail
    refine WD1.mono ?_; rintro e w2 ⟨rfl, hb2⟩
    have HB2 := Lib.hid (below_next HB.out hb2)
    clear hb2 WD1
    go_wp2
    go_ret2
    exact ⟨rfl, HB2.out⟩

end Go.Proofs.Ytdpakhggpgdgbaa
/- impl: the opposite order. -/
namespace Go.Proofs.Ytdpakhggpgdgbaa
set_option maxRecDepth 20000
open Go.ChangeShapes Go.WideShapes Go.ChangeAt Go.RowKit
set_option linter.unusedVariables false
set_option linter.unusedSimpArgs false

/-- The first k and the last k elements have changed places. -/
def rvL (xs : List V) (k : Nat) : List V := (List.range xs.length).map fun p => if p < k ∨ xs.length ≤ p + k then at' xs (xs.length - 1 - p) else at' xs p
theorem rvL_len (xs : List V) (k : Nat) : (rvL xs k).length = xs.length := by simp [rvL]
theorem rvL_at {xs : List V} {k p : Nat} (hp : p < xs.length) : (rvL xs k)[p]? = some (if p < k ∨ xs.length ≤ p + k then at' xs (xs.length - 1 - p) else at' xs p) := by
  unfold rvL
  rw [List.getElem?_map, List.getElem?_range hp]; rfl
theorem rvL_none (xs : List V) : rvL xs 0 = xs := by
  refine List.ext_getElem? fun p => ?_
  by_cases hp : p < xs.length
  · rw [rvL_at hp, if_neg (by omega), at_get hp]
  · rw [List.getElem?_eq_none (by rw [rvL_len]; omega), List.getElem?_eq_none (by omega)]
theorem rvL_all {xs : List V} {k : Nat} (h : xs.length ≤ 2 * k + 1) : rvL xs k = xs.reverse := by
  rw [← backV_all]
  unfold rvL backV
  refine List.map_congr_left fun p hp => ?_
  have hp := List.mem_range.1 hp
  by_cases hc : p < k ∨ xs.length ≤ p + k
  · rw [if_pos hc]
  · rw [if_neg hc, show xs.length - 1 - p = p by omega]
theorem rvL_step {xs : List V} {k r : Nat} (hr : xs.length - 1 - k = r) (h : k < r) : ((rvL xs k).set k (at' xs r)).set r (at' xs k) = rvL xs (k + 1) := by
  refine List.ext_getElem? fun p => ?_
  by_cases hp : p < xs.length
  · rw [rvL_at hp]
    by_cases e1 : p = r
    · subst e1
      rw [List.getElem?_set_self (by rw [List.length_set, rvL_len]; exact hp), if_pos (by omega), show xs.length - 1 - p = k by omega]
    · rw [List.getElem?_set_ne (Ne.symm e1)]
      by_cases e2 : p = k
      · subst e2
        rw [List.getElem?_set_self (by rw [rvL_len]; exact hp), if_pos (by omega), hr]
      · rw [List.getElem?_set_ne (Ne.symm e2), rvL_at hp]
        by_cases hc : p < k ∨ xs.length ≤ p + k
        · rw [if_pos hc, if_pos (by omega)]
        · rw [if_neg hc, if_neg (by omega)]
  · rw [List.getElem?_eq_none (by rw [List.length_set, List.length_set, rvL_len]; omega), List.getElem?_eq_none (by rw [rvL_len]; omega)]
set_option maxHeartbeats 4000000 in
theorem reverse_any (g cap B : Nat) (xs : List V) (w : World) (ho : OwnL encV 8 w B 32 (.slice (some ⟨g, 0, none⟩) xs.length cap) xs) (h1 : 1 ≤ xs.length) (h48 : xs.length ≤ 48) :
    Calls Try.prog 62 #[.slice (some ⟨g, 0, none⟩) xs.length cap] w fun e w' => (∃ v, e = .returned v) ∧ OwnL encV 8 w' B 32 (.slice (some ⟨g, 0, none⟩) xs.length cap) xs.reverse ∧ Below B w w' := by
  have hgB := (ho.lt g rfl).1
  have HO := Lib.hid ho
  clear ho
  go_enter Try.func62, Try.ntmps62
  go_wp2
  go_loopw [2, 3] (fun i j wr => ∃ k : Nat, k ≤ xs.length ∧ i = .int .i64 k ∧ j = .int .i64 ((xs.length : Int) - 1 - k) ∧ wr.ownsRow B 32 8 (.slice (some ⟨g, 0, none⟩) xs.length cap) xs.length (flt encV (rvL xs k)) ∧ Below B w wr) (fun i _ _ => xs.length - (intOf i).toNat)
  case atStart => exact ⟨0, Nat.zero_le _, rfl, by go_num, by rw [rvL_none]; exact HO.out, Below.refl _ _⟩
  case round =>
    obtain ⟨k, hk, rfl, rfl, hO, hB⟩ := hrel
    by_cases hlt : (k : Int) < (xs.length : Int) - 1 - k
    · obtain ⟨r, hr⟩ : ∃ r, xs.length - 1 - k = r := ⟨_, rfl⟩
      have hrz : (xs.length : Int) - 1 - k = (r : Int) := by omega
      have hkr : k < r := by omega
      have hrl : r < xs.length := by omega
      have hkl : k < xs.length := by omega
      have q1 : (k : Int) < (xs.length : Int) := by omega
      have q2 : (r : Int) < (xs.length : Int) := by omega
      have q3 : (0 : Int) ≤ (k : Int) := by omega
      have q4 : (0 : Int) ≤ (r : Int) := by omega
      have q5 : (k : Int) < (r : Int) := by omega
      have HST := Lib.hid (rvL_step hr hkr)
      have hek : (rvL xs k)[k]? = some (at' xs k) := by rw [rvL_at hkl, if_neg (by omega)]
      have her : (rvL xs k)[r]? = some (at' xs r) := by rw [rvL_at hrl, if_neg (by omega)]
      have hek2 : ((rvL xs k).set k (at' xs r))[r]? = some (at' xs r) := by rw [List.getElem?_set_ne (by omega)]; exact her
      have hln := rvL_len xs k
      have hzr : (r : Int) - 1 = (xs.length : Int) - 1 - ((k + 1 : Nat) : Int) := by omega
      have HZR := Lib.hid hzr
      rw [hrz] at hlt ⊢
      obtain ⟨hg, hrg, -, -⟩ := ownL_parts (en := encV) hO hln
      have hP1 := cells_part encV_ok hrg hek
      have hP2 := cells_part encV_ok hrg her
      rw [Nat.zero_add] at hP1 hP2
      generalize rvL xs k = zs at *
      generalize at' xs k = c at *
      generalize at' xs r = d at *
      have hOd : wr.drew.ownsRow B 32 8 (.slice (some ⟨g, 0, none⟩) xs.length cap) xs.length (flt encV zs) := World.ownsRow.drew hO
      have hBd : Below B w wr.drew := hB.drew
      clear hO hB hrg hrz hzr hr
      go_upto_region 3 with fail
      refine wp_region_held_drew (S := fun w' => True) (by kernel_rfl) trivial (fun hHeld => ?_)
      refine wpAnyH_take (i := 0) (oi := _) (v := .slice (some ⟨g, 0, none⟩) xs.length cap) rfl (by kernel_rfl) (by kernel_rfl) (by kernel_rfl) (fun _ _ _ h => h) (Or.inl ⟨by rfl, fun w h => by go_simp⟩) hHeld ?_
      try simp only [Act.put, List.setIfInBounds_toArray, List.set_cons_zero, List.set_cons_succ, List.getElem_toArray, List.getElem_cons_succ, List.getElem_cons_zero]
      refine wpAnyH_take (i := 1) (oi := _) (v := .int .i64 k) rfl (by kernel_rfl) (by kernel_rfl) (by kernel_rfl) (fun _ _ _ h => h) (Or.inl ⟨by rfl, fun w h => by go_simp⟩) hHeld ?_
      try simp only [Act.put, List.setIfInBounds_toArray, List.set_cons_zero, List.set_cons_succ, List.getElem_toArray, List.getElem_cons_succ, List.getElem_cons_zero]
      refine wpAnyH_take (i := 2) (oi := _) (v := .slice (some ⟨g, 0, none⟩) xs.length cap) rfl (by kernel_rfl) (by kernel_rfl) (by kernel_rfl) (fun _ _ _ h => h) (Or.inl ⟨by rfl, fun w h => by go_simp⟩) hHeld ?_
      try simp only [Act.put, List.setIfInBounds_toArray, List.set_cons_zero, List.set_cons_succ, List.getElem_toArray, List.getElem_cons_succ, List.getElem_cons_zero]
      refine wpAnyH_take (i := 3) (oi := _) (v := .int .i64 r) rfl (by kernel_rfl) (by kernel_rfl) (by kernel_rfl) (fun _ _ _ h => h) (Or.inl ⟨by rfl, fun w h => by go_simp⟩) hHeld ?_
      try simp only [Act.put, List.setIfInBounds_toArray, List.set_cons_zero, List.set_cons_succ, List.getElem_toArray, List.getElem_cons_succ, List.getElem_cons_zero]
      refine wpAnyH_take (i := 4) (oi := _) (v := .slice (some ⟨g, 0, none⟩) xs.length cap) rfl (by kernel_rfl) (by kernel_rfl) (by kernel_rfl) (fun _ _ _ h => h) (Or.inl ⟨by rfl, fun w h => by go_simp⟩) hHeld ?_
      try simp only [Act.put, List.setIfInBounds_toArray, List.set_cons_zero, List.set_cons_succ, List.getElem_toArray, List.getElem_cons_succ, List.getElem_cons_zero]
      refine wpAnyH_take (i := 5) (oi := _) (v := .int .i64 r) rfl (by kernel_rfl) (by kernel_rfl) (by kernel_rfl) (fun _ _ _ h => h) (Or.inl ⟨by rfl, fun w h => by go_simp⟩) hHeld ?_
      try simp only [Act.put, List.setIfInBounds_toArray, List.set_cons_zero, List.set_cons_succ, List.getElem_toArray, List.getElem_cons_succ, List.getElem_cons_zero]
      refine wpAnyH_take (i := 6) (oi := _) (v := .pointer (some ⟨g, r * 8, none⟩)) rfl (by kernel_rfl) (by kernel_rfl) (by kernel_rfl) (fun _ _ _ h => h) (Or.inl ⟨by rfl, fun w h => by go_simp⟩) hHeld ?_
      try simp only [Act.put, List.setIfInBounds_toArray, List.set_cons_zero, List.set_cons_succ, List.getElem_toArray, List.getElem_cons_succ, List.getElem_cons_zero]
      refine wpAnyH_take (i := 8) (oi := _) (v := .slice (some ⟨g, 0, none⟩) xs.length cap) rfl (by kernel_rfl) (by kernel_rfl) (by kernel_rfl) (fun _ _ _ h => h) (Or.inl ⟨by rfl, fun w h => by go_simp⟩) hHeld ?_
      try simp only [Act.put, List.setIfInBounds_toArray, List.set_cons_zero, List.set_cons_succ, List.getElem_toArray, List.getElem_cons_succ, List.getElem_cons_zero]
      refine wpAnyH_take (i := 9) (oi := _) (v := .int .i64 k) rfl (by kernel_rfl) (by kernel_rfl) (by kernel_rfl) (fun _ _ _ h => h) (Or.inl ⟨by rfl, fun w h => by go_simp⟩) hHeld ?_
      try simp only [Act.put, List.setIfInBounds_toArray, List.set_cons_zero, List.set_cons_succ, List.getElem_toArray, List.getElem_cons_succ, List.getElem_cons_zero]
      refine wpAnyH_take (i := 10) (oi := _) (v := .pointer (some ⟨g, k * 8, none⟩)) rfl (by kernel_rfl) (by kernel_rfl) (by kernel_rfl) (fun _ _ _ h => h) (Or.inl ⟨by rfl, fun w h => by go_simp⟩) hHeld ?_
      try simp only [Act.put, List.setIfInBounds_toArray, List.set_cons_zero, List.set_cons_succ, List.getElem_toArray, List.getElem_cons_succ, List.getElem_cons_zero]
      refine wpAnyH_ready (rs := [7, 11]) (by kernel_rfl) (by simp) ?_
      refine AllReadyH.cons (o := _) rfl (fun K hK => ?_) (AllReadyH.cons (o := _) rfl (fun K hK => ?_) AllReadyH.nil)
      · rw [if_pos (by rfl)]
        refine wp_load_mid 32 _ rfl g (r * 8) rfl (lst 8 d.up) _ hP2 Try.underlying32 rfl (by rw [lst_length]; exact info_cyc) ?_
        refine hK.out _ _ trivial (fun hHeld => ?_)
        clear hK K
        try simp only [Act.put, List.setIfInBounds_toArray, List.set_cons_zero, List.set_cons_succ, List.getElem_toArray, List.getElem_cons_succ, List.getElem_cons_zero]
        refine wpAnyH_ready (rs := [11]) (by kernel_rfl) (by simp) ?_
        refine AllReadyH.cons (o := _) rfl (fun K hK => ?_) AllReadyH.nil
        rw [if_pos (by rfl)]
        refine wp_load_mid 32 _ rfl g (k * 8) rfl (lst 8 c.up) _ hP1 Try.underlying32 rfl (by rw [lst_length]; exact info_cyc) ?_
        refine hK.out _ _ trivial (fun hHeld => ?_)
        clear hK K
        try simp only [Act.put, List.setIfInBounds_toArray, List.set_cons_zero, List.set_cons_succ, List.getElem_toArray, List.getElem_cons_succ, List.getElem_cons_zero]
        refine wpAnyH_take (i := 12) (oi := _) (v := .pointer (some ⟨g, k * 8, none⟩)) rfl (by kernel_rfl) (by kernel_rfl) (by kernel_rfl) (fun _ _ _ h => h) (Or.inl ⟨by rfl, fun w h => by go_simp⟩) hHeld ?_
        try simp only [Act.put, List.setIfInBounds_toArray, List.set_cons_zero, List.set_cons_succ, List.getElem_toArray, List.getElem_cons_succ, List.getElem_cons_zero]
        refine wpAnyH_ready (rs := [13]) (by kernel_rfl) (by simp) ?_
        refine AllReadyH.cons (o := _) rfl (fun K hK => ?_) AllReadyH.nil
        rw [if_pos (by rfl)]
        refine wp_store_mid 32 _ _ rfl g (k * 8) (vec 8 d.up) rfl rfl (by rw [vec_size]; exact rows_there (K := 8) (o := 0) (m := 8) hOd hkl (Nat.le_refl _)) (by rw [vec_size]; exact info_cyc) (vec_one 8 _) ?_
        have hO3 : (wr.drew.setCells g (k * 8) (vec 8 d.up).toList).ownsRow B 32 8 (.slice (some ⟨g, 0, none⟩) xs.length cap) xs.length (flt encV (zs.set k d)) := ownL_set encV_ok d hOd hek
        have hB3 := below_setCells (G := g) hgB (vec 8 d.up).toList (k * 8) _ hBd
        generalize wr.drew.setCells g (k * 8) (vec 8 d.up).toList = W5 at *
        refine hK.out _ _ trivial (fun hHeld => ?_)
        clear hK K
        try simp only [Act.put, List.setIfInBounds_toArray, List.set_cons_zero, List.set_cons_succ, List.getElem_toArray, List.getElem_cons_succ, List.getElem_cons_zero]
        refine wpAnyH_take (i := 14) (oi := _) (v := .pointer (some ⟨g, r * 8, none⟩)) rfl (by kernel_rfl) (by kernel_rfl) (by kernel_rfl) (fun _ _ _ h => h) (Or.inl ⟨by rfl, fun w h => by go_simp⟩) hHeld ?_
        try simp only [Act.put, List.setIfInBounds_toArray, List.set_cons_zero, List.set_cons_succ, List.getElem_toArray, List.getElem_cons_succ, List.getElem_cons_zero]
        refine wpAnyH_ready (rs := [15]) (by kernel_rfl) (by simp) ?_
        refine AllReadyH.cons (o := _) rfl (fun K hK => ?_) AllReadyH.nil
        rw [if_pos (by rfl)]
        refine wp_store_mid 32 _ _ rfl g (r * 8) (vec 8 c.up) rfl rfl (by rw [vec_size]; exact rows_there (K := 8) (o := 0) (m := 8) hO3 hrl (Nat.le_refl _)) (by rw [vec_size]; exact info_cyc) (vec_one 8 _) ?_
        have hO4 : (W5.setCells g (r * 8) (vec 8 c.up).toList).ownsRow B 32 8 (.slice (some ⟨g, 0, none⟩) xs.length cap) xs.length (flt encV ((zs.set k d).set r c)) := ownL_set encV_ok c hO3 hek2
        have hB4 := below_setCells (G := g) hgB (vec 8 c.up).toList (r * 8) _ hB3
        generalize W5.setCells g (r * 8) (vec 8 c.up).toList = W6 at *
        refine hK.out _ _ trivial (fun hHeld => ?_)
        clear hK K
        try simp only [Act.put, List.setIfInBounds_toArray, List.set_cons_zero, List.set_cons_succ, List.getElem_toArray, List.getElem_cons_succ, List.getElem_cons_zero]
        refine wpAnyH_done (by kernel_rfl) ?_ _
        rw [HST.out] at hO4
        go_wp2
        go_roundw
        case rel => exact ⟨k + 1, by omega, by go_num, by rw [← HZR.out], hO4, hB4⟩
        case measure => simp [intOf]; omega
      · rw [if_pos (by rfl)]
        refine wp_load_mid 32 _ rfl g (k * 8) rfl (lst 8 c.up) _ hP1 Try.underlying32 rfl (by rw [lst_length]; exact info_cyc) ?_
        refine hK.out _ _ trivial (fun hHeld => ?_)
        clear hK K
        try simp only [Act.put, List.setIfInBounds_toArray, List.set_cons_zero, List.set_cons_succ, List.getElem_toArray, List.getElem_cons_succ, List.getElem_cons_zero]
        refine wpAnyH_ready (rs := [7]) (by kernel_rfl) (by simp) ?_
        refine AllReadyH.cons (o := _) rfl (fun K hK => ?_) AllReadyH.nil
        rw [if_pos (by rfl)]
        refine wp_load_mid 32 _ rfl g (r * 8) rfl (lst 8 d.up) _ hP2 Try.underlying32 rfl (by rw [lst_length]; exact info_cyc) ?_
        refine hK.out _ _ trivial (fun hHeld => ?_)
        clear hK K
        try simp only [Act.put, List.setIfInBounds_toArray, List.set_cons_zero, List.set_cons_succ, List.getElem_toArray, List.getElem_cons_succ, List.getElem_cons_zero]
        refine wpAnyH_take (i := 12) (oi := _) (v := .pointer (some ⟨g, k * 8, none⟩)) rfl (by kernel_rfl) (by kernel_rfl) (by kernel_rfl) (fun _ _ _ h => h) (Or.inl ⟨by rfl, fun w h => by go_simp⟩) hHeld ?_
        try simp only [Act.put, List.setIfInBounds_toArray, List.set_cons_zero, List.set_cons_succ, List.getElem_toArray, List.getElem_cons_succ, List.getElem_cons_zero]
        refine wpAnyH_ready (rs := [13]) (by kernel_rfl) (by simp) ?_
        refine AllReadyH.cons (o := _) rfl (fun K hK => ?_) AllReadyH.nil
        rw [if_pos (by rfl)]
        refine wp_store_mid 32 _ _ rfl g (k * 8) (vec 8 d.up) rfl rfl (by rw [vec_size]; exact rows_there (K := 8) (o := 0) (m := 8) hOd hkl (Nat.le_refl _)) (by rw [vec_size]; exact info_cyc) (vec_one 8 _) ?_
        have hO3 : (wr.drew.setCells g (k * 8) (vec 8 d.up).toList).ownsRow B 32 8 (.slice (some ⟨g, 0, none⟩) xs.length cap) xs.length (flt encV (zs.set k d)) := ownL_set encV_ok d hOd hek
        have hB3 := below_setCells (G := g) hgB (vec 8 d.up).toList (k * 8) _ hBd
        generalize wr.drew.setCells g (k * 8) (vec 8 d.up).toList = W5 at *
        refine hK.out _ _ trivial (fun hHeld => ?_)
        clear hK K
        try simp only [Act.put, List.setIfInBounds_toArray, List.set_cons_zero, List.set_cons_succ, List.getElem_toArray, List.getElem_cons_succ, List.getElem_cons_zero]
        refine wpAnyH_take (i := 14) (oi := _) (v := .pointer (some ⟨g, r * 8, none⟩)) rfl (by kernel_rfl) (by kernel_rfl) (by kernel_rfl) (fun _ _ _ h => h) (Or.inl ⟨by rfl, fun w h => by go_simp⟩) hHeld ?_
        try simp only [Act.put, List.setIfInBounds_toArray, List.set_cons_zero, List.set_cons_succ, List.getElem_toArray, List.getElem_cons_succ, List.getElem_cons_zero]
        refine wpAnyH_ready (rs := [15]) (by kernel_rfl) (by simp) ?_
        refine AllReadyH.cons (o := _) rfl (fun K hK => ?_) AllReadyH.nil
        rw [if_pos (by rfl)]
        refine wp_store_mid 32 _ _ rfl g (r * 8) (vec 8 c.up) rfl rfl (by rw [vec_size]; exact rows_there (K := 8) (o := 0) (m := 8) hO3 hrl (Nat.le_refl _)) (by rw [vec_size]; exact info_cyc) (vec_one 8 _) ?_
        have hO4 : (W5.setCells g (r * 8) (vec 8 c.up).toList).ownsRow B 32 8 (.slice (some ⟨g, 0, none⟩) xs.length cap) xs.length (flt encV ((zs.set k d).set r c)) := ownL_set encV_ok c hO3 hek2
        have hB4 := below_setCells (G := g) hgB (vec 8 c.up).toList (r * 8) _ hB3
        generalize W5.setCells g (r * 8) (vec 8 c.up).toList = W6 at *
        refine hK.out _ _ trivial (fun hHeld => ?_)
        clear hK K
        try simp only [Act.put, List.setIfInBounds_toArray, List.set_cons_zero, List.set_cons_succ, List.getElem_toArray, List.getElem_cons_succ, List.getElem_cons_zero]
        refine wpAnyH_done (by kernel_rfl) ?_ _
        rw [HST.out] at hO4
        go_wp2
        go_roundw
        case rel => exact ⟨k + 1, by omega, by go_num, by rw [← HZR.out], hO4, hB4⟩
        case measure => simp [intOf]; omega
    · have hend := rvL_all (xs := xs) (k := k) (by omega)
      have HO2 := Lib.hid hO
      have HB := Lib.hid hB
      clear hO hB
      go_wp2
      go_end0
      refine ⟨⟨_, rfl⟩, ?_, HB.out⟩
      have := HO2.out
      rw [hend] at this
      show World.ownsRow _ _ _ _ _ xs.reverse.length _
      rw [List.length_reverse]; exact this

theorem cloneY_any (v : Value) (xs : List V) (w : World) (hv : ReadsL encV w v xs) (h1 : 1 ≤ xs.length) (h48 : xs.length ≤ 48) :
    Calls Try.prog 61 #[v] w fun e w' => Below w.heap.size w w' ∧ ∃ v', e = .returned v' ∧ OwnL encV 8 w' w.heap.size 32 v' xs := by
  have HR := Lib.hid hv
  obtain ⟨g, o, cap, rfl, hc1, hc2, hg, hr⟩ := reads_ptr8 hv (by rintro rfl; simp at h1)
  have E : ∀ w, (binOp .eql 23 (.slice (some ⟨g, o, none⟩) xs.length cap) (.slice none 0 0)).run Try.prog w = .ok (.bool false) w := fun w => by rfl
  have HA := Lib.hid (show OwnL encV 8 (w.alloc (.cells #[] 32)) w.heap.size 32 (.slice (some ⟨w.heap.size, 0, none⟩) 0 0) [] from World.ownsRow_made w #[] 0 (Nat.le_refl _) (by simp [maxLen]) (by simp))
  clear hv hr hc1 hc2
  go_enter Try.func61, Try.ntmps61
  go_wp2_with (first | (refine appendL tyY encV_ok rfl rfl rfl rfl (xs := []) HA.out (HR.out.below ((Below.refl _ _).alloc (Nat.le_refl _) _)) (by simp; omega) ((Below.refl w.heap.size w).alloc (Nat.le_refl _) _) (by simp) ?_; intro v2 w2 ho2 hb2 hB2 hgr2))
  go_ret
  exact ⟨hb2, _, rfl, ho2⟩
set_option maxHeartbeats 1000000 in
theorem PolyBack_any (v : Value) (xs : List V) (w : World) (hv : ReadsL encV w v xs) : Calls Try.prog 22 #[v] w (ToldL 32 w (backO xs)) := by
  have PV := PolyValid_any v xs w hv
  cases h : polyOk xs
  · rw [h] at PV
    have hF : backO xs = none := by unfold backO; rw [h]; rfl
    rw [hF]
    clear hv hF
    go_enter Try.func22, Try.ntmps22
    go_wp2_with fail
    refine PV.mono ?_; rintro e w1 ⟨rfl, hb1⟩
    have HB := Lib.hid hb1
    clear PV hb1
    go_wp2
    go_ret2
    exact ⟨HB.out, _, rfl, ownL_none _ _ _⟩
  · rw [h] at PV
    have hln := polyOk_len h
    have hF : backO xs = some xs.reverse := by unfold backO; rw [h]; rfl
    rw [hF]
    have CL := fun (w' : World) (hr : ReadsL encV w' v xs) => Lib.hid (cloneY_any v xs w' hr hln.1 hln.2)
    have HV := Lib.hid hv
    clear hv hF
    go_enter Try.func22, Try.ntmps22
    go_wp2_with fail
    refine PV.mono ?_; rintro e w1 ⟨rfl, hb1⟩
    have CL1 := CL w1 (HV.out.below hb1)
    have HB := Lib.hid hb1
    clear PV hb1 CL HV
    go_wp2_with fail
    refine CL1.out.mono ?_; rintro e w2 ⟨hb2, v2, rfl, ho2⟩
    have hv2 : ∃ g cap, v2 = .slice (some ⟨g, 0, none⟩) xs.length cap := by
      rcases ho2.2 with ⟨_, h0⟩ | ⟨g, cap, cur, rfl, _⟩
      · omega
      · exact ⟨g, cap, rfl⟩
    obtain ⟨g, cap, rfl⟩ := hv2
    have RV := Lib.hid (reverse_any g cap _ xs w2 ho2 hln.1 hln.2)
    have HB2 := Lib.hid (below_next HB.out hb2)
    have HS := Lib.hid HB.out.size
    clear CL1 hb2 ho2
    go_wp2_with fail
    refine RV.out.mono ?_; rintro e w3 ⟨⟨u, rfl⟩, ho3, hb3⟩
    have HO3 := Lib.hid (show OwnL encV 8 w3 w.heap.size 32 (.slice (some ⟨g, 0, none⟩) xs.length cap) xs.reverse from rows_mono ho3 HS.out)
    have HB3 := Lib.hid (HB2.out.trans (hb3.mono HS.out))
    clear RV ho3 hb3
    go_wp2
    go_ret2
    exact ⟨HB3.out, _, rfl, HO3.out⟩

end Go.Proofs.Ytdpakhggpgdgbaa
/- spec: the bends and the turns of a polygon. -/
namespace Go.Proofs.Ytdpakhggpgdgbaa
set_option maxRecDepth 20000
open Go.ChangeShapes Go.WideShapes Go.ChangeAt Go.RowKit
set_option linter.unusedVariables false
set_option linter.unusedSimpArgs false

theorem at_stepsV (xs : List V) {k n : Nat} (h : k < n) : at' (stepsV xs n) k = subV (at' xs ((k + 1) % xs.length)) (at' xs k) := by
  unfold at' stepsV
  rw [List.getElem?_map, List.getElem?_range h]
  rfl
theorem qv_stepsV (xs : List V) {k : Nat} (h : k < xs.length) : qv (at' (stepsV xs xs.length) k).up = stp' (PQ xs) xs.length k := by
  rw [at_stepsV xs h, qv_subV]; rfl
theorem stepsV_small {xs : List V} (hs : ∀ x ∈ xs, ∀ j, j < 8 → -((100 : Nat) : Int) ≤ x.up j ∧ x.up j ≤ ((100 : Nat) : Int)) {k : Nat} (h : k < xs.length) : ∀ j, j < 8 → -((200 : Nat) : Int) ≤ (at' (stepsV xs xs.length) k).up j ∧ (at' (stepsV xs xs.length) k).up j ≤ ((200 : Nat) : Int) := by
  rw [at_stepsV xs h]
  exact sub_small (M := 100) (hs _ (List.mem_of_getElem? (at_get (Nat.mod_lt _ (by omega))))) (hs _ (List.mem_of_getElem? (at_get h)))
theorem own_part {w : World} {B T g n cap : Nat} {ys : List V} {i : Nat} {a : V} (h : w.ownsRow B T 8 (.slice (some ⟨g, 0, none⟩) n cap) n (flt encV ys)) (hn : ys.length = n) (hi : ys[i]? = some a) : w.rangeAt g (i * 8) (lst 8 a.up) := by
  have := cells_part encV_ok (ownL_parts h hn).2.1 hi
  rwa [Nat.zero_add] at this
/-- Lists of other elements lie apart. -/
theorem own_apart {w : World} {B1 B2 T1 T2 K1 K2 n m : Nat} {v u : Value} {cs ds : List Value} (h1 : w.ownsRow B1 T1 K1 v n cs) (h2 : w.ownsRow B2 T2 K2 u m ds) (hT : T1 ≠ T2) : ∀ k, v.ownBlock = some k → u.ownBlock ≠ some k := fun k hv hu => by
  rcases h1.2 with ⟨rfl, _⟩ | ⟨g, cap, cur, rfl, _, hg, _⟩
  · cases hv
  · rcases h2.2 with ⟨rfl, _⟩ | ⟨g', cap', cur', rfl, _, hg', _⟩
    · cases hu
    · cases hv; cases hu
      rw [hg] at hg'
      cases hg'
      exact hT rfl
theorem own_shape {w : World} {B T K n : Nat} {v : Value} {cs : List Value} (h : w.ownsRow B T K v n cs) (hn : 1 ≤ n) : ∃ g cap, v = .slice (some ⟨g, 0, none⟩) n cap := by
  rcases h.2 with ⟨_, h0⟩ | ⟨g, cap, cur, rfl, _⟩
  · omega
  · exact ⟨g, cap, rfl⟩
theorem rows_apart {w w' : World} {B T K n : Nat} {v u : Value} {cs : List Value} (h : w.ownsRow B T K v n cs) (hg : w.grownBy w' u.ownBlock) (ha : ∀ k, v.ownBlock = some k → u.ownBlock ≠ some k) : w'.ownsRow B T K v n cs := by
  refine World.ownsRow.kept h hg ?_
  cases hv : v.ownBlock with
  | none => exact .inl rfl
  | some k => exact .inr fun e => ha k hv e.symm

/-! Bends. -/
def bendK (xs : List V) (k : Nat) : List Int := (List.range k).map (bnd (PQ xs) xs.length)
theorem bendK_next (xs : List V) (k : Nat) : bendK xs (k + 1) = bendK xs k ++ [bnd (PQ xs) xs.length k] := by simp [bendK, List.range_succ]
theorem bendK_len (xs : List V) (k : Nat) : (bendK xs k).length = k := by simp [bendK]
theorem bendsO_yes {xs : List V} (h : polyOk xs = true) : bendsO xs = some (bendK xs xs.length) := by unfold bendsO; rw [h]; rfl
theorem bendsO_no {xs : List V} (h : polyOk xs = false) : bendsO xs = none := by unfold bendsO; rw [h]; rfl
theorem ty_apart : 32 ≠ 3 := by decide
set_option maxHeartbeats 4000000 in
theorem specPolyBends_any (v : Value) (xs : List V) (w : World) (hv : ReadsL encV w v xs) : Calls Try.prog 33 #[v] w (ToldI w (bendsO xs)) := by
  have HB0 := Lib.hid ((Below.refl w.heap.size w).alloc (Nat.le_refl _) (.cells #[] 3))
  have HO0 := Lib.hid (show OwnL encI 1 (w.alloc (.cells #[] 3)) w.heap.size 3 (.slice (some ⟨w.heap.size, 0, none⟩) 0 0) [] from World.ownsRow_made w #[] 0 (Nat.le_refl _) (by simp [maxLen]) (by simp))
  have RV := specPolyValid_any v xs (w.alloc (.cells #[] 3)) (hv.below HB0.out)
  cases hr : polyOk xs
  · rw [hr] at RV
    have HF := Lib.hid (bendsO_no hr)
    have RV := Lib.hid RV
    clear hr hv
    go_enter Try.func33, Try.ntmps33
    go_wp2_with fail
    refine RV.out.mono ?_; rintro e w1 ⟨rfl, hb1⟩
    have HL1 := Lib.hid (below_next HB0.out hb1)
    have HO1 := Lib.hid (rows_below HO0.out hb1)
    clear RV hb1 HB0 HO0
    go_wp2
    go_ret2
    rw [HF.out]
    exact ⟨HL1.out, _, rfl, HO1.out⟩
  · rw [hr] at RV
    have hln := polyOk_len hr
    have HX := Lib.hid (polyOk_small hr)
    have HF := Lib.hid (bendsO_yes hr)
    obtain ⟨g0, o0, c0, rfl, hc0, hm0, hg0, hrg0⟩ := reads_ptr8 hv (by rintro rfl; simp at hln)
    have ST := fun (w' : World) (h1 : g0 < w'.heap.size) (h2 : w'.rangeAt g0 o0 (flt encV xs)) => l8Steps_any g0 o0 c0 xs w' h1 h2 hc0 hm0 hln.2 hln.1 (fun k hk j hj => by have := HX.out _ (List.mem_of_getElem? (at_get hk)) j hj; omega)
    have HR0 := Lib.hid hrg0
    have RV := Lib.hid RV
    have hcap : xs.length ≤ 48 := hln.2
    clear hr hv hrg0 hm0
    go_enter Try.func33, Try.ntmps33
    go_wp2_with fail
    refine RV.out.mono ?_; rintro e w1 ⟨rfl, hb1⟩
    have HL1 := Lib.hid (below_next HB0.out hb1)
    have HO1 := Lib.hid (rows_below HO0.out hb1)
    have ST1 := Lib.hid (ST w1 (Nat.lt_of_lt_of_le hg0 HL1.out.size) (cells_below HR0.out hg0 HL1.out))
    clear RV hb1 HB0 HO0 ST HR0
    go_wp2_with fail
    refine ST1.out.mono ?_; rintro e w2 ⟨hb2, v1, rfl, ho2⟩
    have hlv := stepsV_len xs xs.length
    have ho3 : w2.ownsRow w.heap.size 32 8 v1 xs.length (flt encV (stepsV xs xs.length)) := by
      have := rows_mono ho2 HL1.out.size
      rwa [hlv] at this
    obtain ⟨g1, cap1, rfl⟩ := own_shape ho3 hln.1
    have hc1 : xs.length ≤ cap1 ∧ cap1 ≤ 9223372036854775807 := by
      have := (ownL_parts ho3 hlv).2.2
      simp only [maxLen] at this
      omega
    have HO2 := Lib.hid (rows_below HO1.out hb2)
    have HL2 := Lib.hid (below_next HL1.out hb2)
    have HS2 := Lib.hid ho3
    clear ST1 hb2 ho2 ho3 HO1 HL1
    go_wp2
    go_loopw [4, 7] (fun s4 i wr => ∃ k : Nat, k ≤ xs.length ∧ i = .int .i64 k ∧ OwnL encI 1 wr w.heap.size 3 s4 (bendK xs k) ∧ wr.ownsRow w.heap.size 32 8 (.slice (some ⟨g1, 0, none⟩) xs.length cap1) xs.length (flt encV (stepsV xs xs.length)) ∧ Below w.heap.size w wr) (fun _ i _ => xs.length - (intOf i).toNat)
    case atStart => exact ⟨0, Nat.zero_le _, rfl, HO2.out, HS2.out, HL2.out⟩
    case round =>
      clear HO2 HL2 HS2
      obtain ⟨k, hk, rfl, hO, hS, hbel⟩ := hrel
      by_cases hlt : k < xs.length
      · have hkz : (k : Int) < (xs.length : Int) := by omega
        have hk0 : (0 : Int) ≤ (k : Int) := by omega
        obtain ⟨r, hrr⟩ : ∃ r, (k + xs.length - 1) % xs.length = r := ⟨_, rfl⟩
        have hrl : r < xs.length := by rw [← hrr]; exact Nat.mod_lt _ (by omega)
        obtain ⟨m1, hm1⟩ : ∃ m1 : Int, (k : Int) + (xs.length : Int) = m1 := ⟨_, rfl⟩
        have q0 : IntKind.i64.wrap m1 = m1 := by rw [IntKind.wrap_i64]; omega
        have q0b : IntKind.i64.wrap (m1 - 1) = m1 - 1 := by rw [IntKind.wrap_i64]; omega
        have q2 : (m1 - 1).tmod (xs.length : Int) = (r : Int) := by
          rw [Int.tmod_eq_emod_of_nonneg (by omega), ← hrr, ← hm1]
          have e : (k : Int) + (xs.length : Int) - 1 = ((k + xs.length - 1 : Nat) : Int) := by omega
          rw [e]; simp
        have q3 : IntKind.i64.wrap (r : Int) = (r : Int) := by rw [IntKind.wrap_i64]; omega
        have q4 : ¬ (xs.length : Int) = 0 := by omega
        have q4c : ¬ xs = [] := by rintro rfl; simp at hln
        have q4b : ((xs.length : Int) == 0) = false := by simpa using q4c
        have q5 : (r : Int) < (xs.length : Int) := by omega
        have q6 : (0 : Int) ≤ (r : Int) := by omega
        have hek := at_get (xs := stepsV xs xs.length) (k := k) (by rw [hlv]; exact hlt)
        have her := at_get (xs := stepsV xs xs.length) (k := r) (by rw [hlv]; exact hrl)
        have bx := stepsV_small HX.out hrl
        have bY := stepsV_small HX.out hlt
        have CR := fun w => l8Cross_any (at' (stepsV xs xs.length) r).up (at' (stepsV xs xs.length) k).up (M := 200) (by omega) bx bY w
        have hcs := crs_small (M := 200) (by omega) bx bY
        have S1 := fun w => l3Sign_at (crs (at' (stepsV xs xs.length) r).up (at' (stepsV xs xs.length) k).up) (fun j hj => by have := hcs j hj; omega) w
        have hval : sgf (crs (at' (stepsV xs xs.length) r).up (at' (stepsV xs xs.length) k).up) = bnd (PQ xs) xs.length k := by
          rw [sgf_crs, qv_stepsV xs hrl, qv_stepsV xs hlt, ← hrr]; rfl
        rw [hval] at S1
        have HNX := Lib.hid (bendK_next xs k)
        have hsl := bendK_len xs k
        clear bx bY hcs hval hrr
        generalize crs (at' (stepsV xs xs.length) r).up (at' (stepsV xs xs.length) k).up = f1 at *
        generalize bnd (PQ xs) xs.length k = s at *
        generalize at' (stepsV xs xs.length) r = x at *
        generalize at' (stepsV xs xs.length) k = y at *
        generalize stepsV xs xs.length = ys at *
        generalize bendK xs k = L at *
        unfold pt at CR
        go_upto_region 9 with fail
        have hO1 : OwnL encI 1 wr.drew w.heap.size 3 u4 L := World.ownsRow.drew hO
        refine wp_region_held_drew (S := fun w' => w'.ownsRow w.heap.size 32 8 (.slice (some ⟨g1, 0, none⟩) xs.length cap1) xs.length (flt encV ys) ∧ Below w.heap.size w w') (by kernel_rfl) ⟨World.ownsRow.drew hS, hbel.drew⟩ (fun hHeld => ?_)
        clear hO hS hbel
        have hHek := Lib.hid hek
        have hHer := Lib.hid her
        have hHlv := Lib.hid hlv
        clear hek her hlv
        refine wpAnyH_take (i := 0) (oi := _) (v := u4) rfl (by kernel_rfl) (by kernel_rfl) (by kernel_rfl) (fun _ _ _ h => h) (Or.inl ⟨by rfl, fun w h => by go_simp⟩) hHeld ?_
        try simp only [Act.put, List.setIfInBounds_toArray, List.set_cons_zero, List.set_cons_succ, List.getElem_toArray, List.getElem_cons_succ, List.getElem_cons_zero]
        refine wpAnyH_take (i := 1) (oi := _) (v := .slice (some ⟨g1, 0, none⟩) xs.length cap1) rfl (by kernel_rfl) (by kernel_rfl) (by kernel_rfl) (fun _ _ _ h => h) (Or.inl ⟨by rfl, fun w h => by go_simp⟩) hHeld ?_
        try simp only [Act.put, List.setIfInBounds_toArray, List.set_cons_zero, List.set_cons_succ, List.getElem_toArray, List.getElem_cons_succ, List.getElem_cons_zero]
        refine wpAnyH_take (i := 2) (oi := _) (v := .int .i64 k) rfl (by kernel_rfl) (by kernel_rfl) (by kernel_rfl) (fun _ _ _ h => h) (Or.inl ⟨by rfl, fun w h => by go_simp⟩) hHeld ?_
        try simp only [Act.put, List.setIfInBounds_toArray, List.set_cons_zero, List.set_cons_succ, List.getElem_toArray, List.getElem_cons_succ, List.getElem_cons_zero]
        refine wpAnyH_take (i := 3) (oi := _) (v := .int .i64 xs.length) rfl (by kernel_rfl) (by kernel_rfl) (by kernel_rfl) (fun _ _ _ h => h) (Or.inl ⟨by rfl, fun w h => by go_simp⟩) hHeld ?_
        try simp only [Act.put, List.setIfInBounds_toArray, List.set_cons_zero, List.set_cons_succ, List.getElem_toArray, List.getElem_cons_succ, List.getElem_cons_zero]
        refine wpAnyH_take (i := 4) (oi := _) (v := .int .i64 m1) rfl (by kernel_rfl) (by kernel_rfl) (by kernel_rfl) (fun _ _ _ h => h) (Or.inl ⟨by rfl, fun w h => by go_simp⟩) hHeld ?_
        try simp only [Act.put, List.setIfInBounds_toArray, List.set_cons_zero, List.set_cons_succ, List.getElem_toArray, List.getElem_cons_succ, List.getElem_cons_zero]
        refine wpAnyH_take (i := 5) (oi := _) (v := .int .i64 (m1 - 1)) rfl (by kernel_rfl) (by kernel_rfl) (by kernel_rfl) (fun _ _ _ h => h) (Or.inl ⟨by rfl, fun w h => by go_simp⟩) hHeld ?_
        try simp only [Act.put, List.setIfInBounds_toArray, List.set_cons_zero, List.set_cons_succ, List.getElem_toArray, List.getElem_cons_succ, List.getElem_cons_zero]
        refine wpAnyH_take (i := 6) (oi := _) (v := .int .i64 xs.length) rfl (by kernel_rfl) (by kernel_rfl) (by kernel_rfl) (fun _ _ _ h => h) (Or.inl ⟨by rfl, fun w h => by go_simp⟩) hHeld ?_
        try simp only [Act.put, List.setIfInBounds_toArray, List.set_cons_zero, List.set_cons_succ, List.getElem_toArray, List.getElem_cons_succ, List.getElem_cons_zero]
        refine wpAnyH_take (i := 7) (oi := _) (v := .int .i64 r) rfl (by kernel_rfl) (by kernel_rfl) (by kernel_rfl) (fun _ _ _ h => h) (Or.inl ⟨by rfl, fun w h => by go_simp⟩) hHeld ?_
        try simp only [Act.put, List.setIfInBounds_toArray, List.set_cons_zero, List.set_cons_succ, List.getElem_toArray, List.getElem_cons_succ, List.getElem_cons_zero]
        refine wpAnyH_take (i := 8) (oi := _) (v := .pointer (some ⟨g1, r * 8, none⟩)) rfl (by kernel_rfl) (by kernel_rfl) (by kernel_rfl) (fun _ _ _ h => h) (Or.inl ⟨by rfl, fun w h => by go_simp⟩) hHeld ?_
        try simp only [Act.put, List.setIfInBounds_toArray, List.set_cons_zero, List.set_cons_succ, List.getElem_toArray, List.getElem_cons_succ, List.getElem_cons_zero]
        refine wpAnyH_take (i := 9) (oi := _) (v := .agg (vec 8 x.up)) rfl (by kernel_rfl) (by kernel_rfl) (by kernel_rfl) (fun _ _ _ h => h) (yieldsIf_load_mid (by rfl) _ _ rfl _ _ rfl _ _ ((fun w h => own_part h.1 hHlv.out hHer.out)) Try.underlying32 rfl (size_cyc8 x.up)) hHeld ?_
        try simp only [Act.put, List.setIfInBounds_toArray, List.set_cons_zero, List.set_cons_succ, List.getElem_toArray, List.getElem_cons_succ, List.getElem_cons_zero]
        refine wpAnyH_take (i := 10) (oi := _) (v := .slice (some ⟨g1, 0, none⟩) xs.length cap1) rfl (by kernel_rfl) (by kernel_rfl) (by kernel_rfl) (fun _ _ _ h => h) (Or.inl ⟨by rfl, fun w h => by go_simp⟩) hHeld ?_
        try simp only [Act.put, List.setIfInBounds_toArray, List.set_cons_zero, List.set_cons_succ, List.getElem_toArray, List.getElem_cons_succ, List.getElem_cons_zero]
        refine wpAnyH_take (i := 11) (oi := _) (v := .int .i64 k) rfl (by kernel_rfl) (by kernel_rfl) (by kernel_rfl) (fun _ _ _ h => h) (Or.inl ⟨by rfl, fun w h => by go_simp⟩) hHeld ?_
        try simp only [Act.put, List.setIfInBounds_toArray, List.set_cons_zero, List.set_cons_succ, List.getElem_toArray, List.getElem_cons_succ, List.getElem_cons_zero]
        refine wpAnyH_take (i := 12) (oi := _) (v := .pointer (some ⟨g1, k * 8, none⟩)) rfl (by kernel_rfl) (by kernel_rfl) (by kernel_rfl) (fun _ _ _ h => h) (Or.inl ⟨by rfl, fun w h => by go_simp⟩) hHeld ?_
        try simp only [Act.put, List.setIfInBounds_toArray, List.set_cons_zero, List.set_cons_succ, List.getElem_toArray, List.getElem_cons_succ, List.getElem_cons_zero]
        refine wpAnyH_take (i := 13) (oi := _) (v := .agg (vec 8 y.up)) rfl (by kernel_rfl) (by kernel_rfl) (by kernel_rfl) (fun _ _ _ h => h) (yieldsIf_load_mid (by rfl) _ _ rfl _ _ rfl _ _ ((fun w h => own_part h.1 hHlv.out hHek.out)) Try.underlying32 rfl (size_cyc8 y.up)) hHeld ?_
        try simp only [Act.put, List.setIfInBounds_toArray, List.set_cons_zero, List.set_cons_succ, List.getElem_toArray, List.getElem_cons_succ, List.getElem_cons_zero]
        refine wpAnyH_ready (rs := [14]) (by kernel_rfl) (by simp) ?_
        refine AllReadyH.cons (o := _) rfl (fun K hK => ?_) AllReadyH.nil
        go_simp
        refine (CR _).mono ?_; rintro e w5 ⟨rfl, hb5⟩
        go_wp2_with fail
        have hO5 := rows_below hO1 hb5
        refine hK.out _ _ ⟨rows_below hHeld.1 hb5, below_next hHeld.2 hb5⟩ (fun hHeld => ?_)
        clear hK K
        try simp only [Act.put, List.setIfInBounds_toArray, List.set_cons_zero, List.set_cons_succ, List.getElem_toArray, List.getElem_cons_succ, List.getElem_cons_zero]
        clear hb5 CR hO1
        refine wpAnyH_ready (rs := [15]) (by kernel_rfl) (by simp) ?_
        refine AllReadyH.cons (o := _) rfl (fun K hK => ?_) AllReadyH.nil
        go_simp
        refine (S1 _).mono ?_; rintro e w6 ⟨rfl, hb5⟩
        go_wp2_with fail
        have hO6 := rows_below hO5 hb5
        refine hK.out _ _ ⟨rows_below hHeld.1 hb5, below_next hHeld.2 hb5⟩ (fun hHeld => ?_)
        clear hK K
        try simp only [Act.put, List.setIfInBounds_toArray, List.set_cons_zero, List.set_cons_succ, List.getElem_toArray, List.getElem_cons_succ, List.getElem_cons_zero]
        clear hb5 S1 hO5
        refine wpAnyH_ready (rs := [16]) (by kernel_rfl) (by simp) ?_
        refine AllReadyH.cons (o := _) rfl (fun K hK => ?_) AllReadyH.nil
        go_simp
        have hlit := lit1 w6 s 3
        have hO7 : OwnL encI 1 (w6.alloc (.cells #[.int .i64 s] 3)) w.heap.size 3 u4 L := (show World.ownsRow _ _ _ _ _ _ _ from World.ownsRow.alloc hO6 _)
        refine hK.out _ _ ⟨(show World.ownsRow _ _ _ _ _ _ _ from World.ownsRow.alloc hHeld.1 _), hHeld.2.alloc hHeld.2.size _⟩ (fun hHeld => ?_)
        clear hK K
        try simp only [Act.put, List.setIfInBounds_toArray, List.set_cons_zero, List.set_cons_succ, List.getElem_toArray, List.getElem_cons_succ, List.getElem_cons_zero]
        clear hO6
        refine wpAnyH_ready (rs := [17]) (by kernel_rfl) (by simp) ?_
        refine AllReadyH.cons (o := _) rfl (fun K hK => ?_) AllReadyH.nil
        refine wp_appendL tyI encI_ok rfl rfl rfl (xs := L) hO7 hlit (by rw [hsl]; simp; omega) hHeld.2 hHeld.2.size ?_; intro v2 w7 ho7 hb7 hB7 hgr
        have hS7 := rows_apart hHeld.1 hgr (own_apart hHeld.1 hO7 ty_apart)
        refine hK.out _ _ ⟨hS7, hb7⟩ (fun hHeld => ?_)
        clear hK K
        try simp only [Act.put, List.setIfInBounds_toArray, List.set_cons_zero, List.set_cons_succ, List.getElem_toArray, List.getElem_cons_succ, List.getElem_cons_zero]
        clear hlit hO7 hgr hS7
        refine wpAnyH_take (i := 18) (oi := _) (v := v2) rfl (by kernel_rfl) (by kernel_rfl) (by kernel_rfl) (fun _ _ _ h => h) (Or.inl ⟨by rfl, fun w h => by go_simp⟩) hHeld ?_
        try simp only [Act.put, List.setIfInBounds_toArray, List.set_cons_zero, List.set_cons_succ, List.getElem_toArray, List.getElem_cons_succ, List.getElem_cons_zero]
        refine wpAnyH_done (by kernel_rfl) ?_ _
        obtain ⟨hS8, hB8⟩ := hHeld
        have HO8 := Lib.hid ho7
        have HS8 := Lib.hid hS8
        have HB8 := Lib.hid hB8
        clear ho7 hS8 hB8 hb7 hB7
        go_wp2
        go_roundw
        case rel => exact ⟨k + 1, by omega, by go_num, by rw [HNX.out]; exact HO8.out, HS8.out, HB8.out⟩
        case measure => simp [intOf]; omega
      · obtain rfl : k = xs.length := by omega
        have HO8 := Lib.hid hO
        have HB8 := Lib.hid hbel
        clear hO hbel hS
        go_wp2
        go_ret2
        rw [HF.out]
        exact ⟨HB8.out, _, rfl, HO8.out⟩

end Go.Proofs.Ytdpakhggpgdgbaa
