/-
  impl: TrainRatio, TrainTurns; the first pair with a ratio, TrainFind.
-/
import Derived.Test.YtbdhbkedeglagaaDoorGearC
namespace Go.Proofs.YtbdhbkedeglagaaDoor
set_option maxRecDepth 20000
open Go.ChangeShapes Go.WideShapes Go.ChangeAt Go.RowKit
set_option linter.unusedVariables false
set_option linter.unusedSimpArgs false

/-- What the two listed errors hold: something that is not nil. -/
def LenAt (W : World) : Prop := 1 < W.heap.size ∧ ∃ T x, W.cell? ⟨1, 0, none⟩ = some (.iface T x)
def FarAt (W : World) : Prop := 0 < W.heap.size ∧ ∃ T x, W.cell? ⟨0, 0, none⟩ = some (.iface T x)
def TypeAt (W : World) : Prop := 2 < W.heap.size ∧ W.cell? ⟨2, 0, none⟩ = some errT
theorem LenAt.below {w w' : World} (h : LenAt w) (hb : Below w.heap.size w w') : LenAt w' := by
  obtain ⟨h1, T, x, h2⟩ := h
  exact ⟨Nat.lt_of_lt_of_le h1 hb.size, T, x, (hb.cell (p := ⟨1, 0, none⟩) h1).trans h2⟩
theorem FarAt.below {w w' : World} (h : FarAt w) (hb : Below w.heap.size w w') : FarAt w' := by
  obtain ⟨h1, T, x, h2⟩ := h
  exact ⟨Nat.lt_of_lt_of_le h1 hb.size, T, x, (hb.cell (p := ⟨0, 0, none⟩) h1).trans h2⟩
theorem TypeAt.below {w w' : World} (h : TypeAt w) (hb : Below w.heap.size w w') : TypeAt w' :=
  ⟨Nat.lt_of_lt_of_le h.1 hb.size, (hb.cell (p := ⟨2, 0, none⟩) h.1).trans h.2⟩

theorem misO_iface {xs : List Int} {x : Int} (hx : x ∈ xs) (hn : gearB x = false) : ∃ T v, misO xs = .iface T v := by
  unfold misO
  cases h : xs.find? (fun x => !gearB x) with
  | none =>
    have := List.find?_eq_none.1 h x hx
    simp [hn] at this
  | some y => exact ⟨_, _, rfl⟩
/-- Where the list is no train, trainFits answers an error, whatever the world. -/
theorem fits_none {v : Value} {xs : List Int} {w : World} (hv : ReadsL encI w v xs) (hT : trainB xs = false) (hE : LenAt w) :
    ∃ T x, ∀ w', Below w.heap.size w w' → Calls Tryd.prog 32 #[v] w' fun e w'' => e = .returned (.iface T x) ∧ w' = w'' := by
  by_cases hl : 2 ≤ xs.length ∧ xs.length ≤ 10 ∧ xs.length % 2 = 0
  · have : ∃ x ∈ xs, gearB x = false := by
      refine Classical.byContradiction fun hn => ?_
      have h3 : trainB xs = true := trainB_true.2 ⟨hl.1, hl.2.1, hl.2.2, fun x hx => by
        cases h : gearB x with
        | true => rfl
        | false => exact absurd ⟨x, hx, h⟩ hn⟩
      rw [h3] at hT; cases hT
    obtain ⟨x, hx, hn⟩ := this
    obtain ⟨T, y, e⟩ := misO_iface hx hn
    refine ⟨T, y, fun w' hb => ?_⟩
    have := fits_list v xs w' (hv.below hb) hl.1 hl.2.1 hl.2.2
    rwa [e] at this
  · obtain ⟨h1, T, x, h2⟩ := hE
    exact ⟨T, x, fun w' hb => fits_len v xs w' (hv.below hb) (by omega) T x ((hb.cell (p := ⟨1, 0, none⟩) h1).trans h2)⟩
theorem trainR_any (v : Value) (xs : List Int) (w : World) (hv : ReadsL encI w v xs) (hE : LenAt w) (hF : FarAt w) : Calls Tryd.prog 25 #[v] w (TrainTold w (trainO xs)) := by
  cases hT : trainB xs with
  | true =>
    obtain ⟨h1, T, x, h2⟩ := hF
    exact trainR_yes v xs w hv hT T x h2 h1
  | false =>
    obtain ⟨T, x, F⟩ := fits_none hv hT hE
    have e : trainO xs = none := by unfold trainO; rw [hT]; rfl
    rw [e]
    exact trainR_no v w T x F

def trainT (o : Option (Int × Nat)) : Value := match o with
  | none => .tuple #[.int .i64 0, .int .i64 0, .bool false]
  | some p => .tuple #[.int .i64 p.1, .int .i64 p.2, .bool true]
def turnT (o : Option (Int × Nat)) : Value := match o with
  | none => .tuple #[.int .i64 0, .bool false]
  | some p => .tuple #[.int .i64 p.2, .bool true]
theorem box_lies (w : World) (a b : Int) (T : TypeId) : LieAt (w.alloc (.cells #[.int .i64 a, .int .i64 b] T)) w.heap.size [.int .i64 a, .int .i64 b] := LieAt.new w [.int .i64 a, .int .i64 b] T

set_option maxHeartbeats 1000000 in
theorem TrainRatio_any (v : Value) (xs : List Int) (w : World) (hv : ReadsL encI w v xs) (hE : LenAt w) (hF : FarAt w) : Calls Tryd.prog 10 #[v] w fun e w' => e = .returned (trainT (trainO xs)) ∧ Below w.heap.size w w' := by
  have R := trainR_any v xs w hv hE hF
  clear hv hE hF
  cases h : trainO xs with
  | none =>
    rw [h] at R
    clear h
    go_enter Tryd.func10, Tryd.ntmps10
    go_wp2_with fail
    refine R.mono ?_; rintro e w1 ⟨er, rfl, hor, hb⟩
    obtain ⟨T, x, rfl⟩ : ∃ T x, er = .iface T x := by
      rcases hor with ⟨h, -⟩ | ⟨-, h⟩
      · cases h
      · exact h
    unfold trainV
    simp only
    go_upto_region 2 with fail
    have hR := box_lies w1 0 0 43
    have hL := hb.alloc hb.size (.cells #[.int .i64 0, .int .i64 0] 43)
    show Code.wp _ _ _ _ (w1.alloc (.cells #[.int .i64 0, .int .i64 0] 43))
    generalize (w1.alloc (.cells #[.int .i64 0, .int .i64 0] 43)) = W at *
    generalize w1.heap.size = gx at *
    refine wp_region_held_drew (S := fun w' => LieAt w' gx [.int .i64 0, .int .i64 0] ∧ Below w.heap.size w w') (by kernel_rfl) ⟨hR, hL.drew⟩ (fun hHeld => ?_)
    clear hR hL hb
    refine wpAnyH_take (i := 0) (oi := _) (v := .pointer (some ⟨gx, 0, none⟩)) rfl (by kernel_rfl) (by kernel_rfl) (by kernel_rfl) (fun _ _ _ h => h) (Or.inl ⟨by rfl, fun w h => by go_simp⟩) hHeld ?_
    try simp only [Act.put, List.setIfInBounds_toArray, List.set_cons_zero, List.set_cons_succ, List.getElem_toArray, List.getElem_cons_succ, List.getElem_cons_zero]
    refine wpAnyH_take (i := 1) (oi := _) (v := .int .i64 0) rfl (by kernel_rfl) (by kernel_rfl) (by kernel_rfl) (fun _ _ _ h => h) (Or.inl ⟨by rfl, fun w h => by have hcell := h.1.cell 0 rfl; go_simp⟩) hHeld ?_
    try simp only [Act.put, List.setIfInBounds_toArray, List.set_cons_zero, List.set_cons_succ, List.getElem_toArray, List.getElem_cons_succ, List.getElem_cons_zero]
    refine wpAnyH_take (i := 2) (oi := _) (v := .pointer (some ⟨gx, 1, none⟩)) rfl (by kernel_rfl) (by kernel_rfl) (by kernel_rfl) (fun _ _ _ h => h) (Or.inl ⟨by rfl, fun w h => by go_simp⟩) hHeld ?_
    try simp only [Act.put, List.setIfInBounds_toArray, List.set_cons_zero, List.set_cons_succ, List.getElem_toArray, List.getElem_cons_succ, List.getElem_cons_zero]
    refine wpAnyH_take (i := 3) (oi := _) (v := .int .i64 0) rfl (by kernel_rfl) (by kernel_rfl) (by kernel_rfl) (fun _ _ _ h => h) (Or.inl ⟨by rfl, fun w h => by have hcell := h.1.cell 1 rfl; go_simp⟩) hHeld ?_
    try simp only [Act.put, List.setIfInBounds_toArray, List.set_cons_zero, List.set_cons_succ, List.getElem_toArray, List.getElem_cons_succ, List.getElem_cons_zero]
    refine wpAnyH_take (i := 4) (oi := _) (v := .iface T x) rfl (by kernel_rfl) (by kernel_rfl) (by kernel_rfl) (fun _ _ _ h => h) (Or.inl ⟨by rfl, fun w h => by go_simp⟩) hHeld ?_
    try simp only [Act.put, List.setIfInBounds_toArray, List.set_cons_zero, List.set_cons_succ, List.getElem_toArray, List.getElem_cons_succ, List.getElem_cons_zero]
    refine wpAnyH_take (i := 5) (oi := _) (v := .bool false) rfl (by kernel_rfl) (by kernel_rfl) (by kernel_rfl) (fun _ _ _ h => h) (Or.inl ⟨by rfl, fun w h => by go_simp⟩) hHeld ?_
    try simp only [Act.put, List.setIfInBounds_toArray, List.set_cons_zero, List.set_cons_succ, List.getElem_toArray, List.getElem_cons_succ, List.getElem_cons_zero]
    refine wpAnyH_take (i := 6) (oi := _) (v := .int .i64 0) rfl (by kernel_rfl) (by kernel_rfl) (by kernel_rfl) (fun _ _ _ h => h) (Or.inl ⟨by rfl, fun w h => by go_simp⟩) hHeld ?_
    try simp only [Act.put, List.setIfInBounds_toArray, List.set_cons_zero, List.set_cons_succ, List.getElem_toArray, List.getElem_cons_succ, List.getElem_cons_zero]
    refine wpAnyH_take (i := 7) (oi := _) (v := .int .i64 0) rfl (by kernel_rfl) (by kernel_rfl) (by kernel_rfl) (fun _ _ _ h => h) (Or.inl ⟨by rfl, fun w h => by go_simp⟩) hHeld ?_
    try simp only [Act.put, List.setIfInBounds_toArray, List.set_cons_zero, List.set_cons_succ, List.getElem_toArray, List.getElem_cons_succ, List.getElem_cons_zero]
    refine wpAnyH_take (i := 8) (oi := _) (v := .bool false) rfl (by kernel_rfl) (by kernel_rfl) (by kernel_rfl) (fun _ _ _ h => h) (Or.inl ⟨by rfl, fun w h => by go_simp⟩) hHeld ?_
    try simp only [Act.put, List.setIfInBounds_toArray, List.set_cons_zero, List.set_cons_succ, List.getElem_toArray, List.getElem_cons_succ, List.getElem_cons_zero]
    refine wpAnyH_done (by kernel_rfl) ?_ _
    obtain ⟨-, hB⟩ := hHeld
    go_wp2
    go_ret3
    exact ⟨rfl, hB⟩
  | some p =>
    rw [h] at R
    clear h
    go_enter Tryd.func10, Tryd.ntmps10
    go_wp2_with fail
    refine R.mono ?_; rintro e w1 ⟨er, rfl, hor, hb⟩
    obtain rfl : er = .nilIface := by
      rcases hor with ⟨-, h⟩ | ⟨h, -⟩
      · exact h
      · cases h
    clear hor
    unfold trainV
    simp only
    go_upto_region 2 with fail
    have hR := box_lies w1 p.1 (p.2 : Nat) 43
    have hL := hb.alloc hb.size (.cells #[.int .i64 p.1, .int .i64 (p.2 : Nat)] 43)
    show Code.wp _ _ _ _ (w1.alloc (.cells #[.int .i64 p.1, .int .i64 (p.2 : Nat)] 43))
    generalize (w1.alloc (.cells #[.int .i64 p.1, .int .i64 (p.2 : Nat)] 43)) = W at *
    generalize w1.heap.size = gx at *
    refine wp_region_held_drew (S := fun w' => LieAt w' gx [.int .i64 p.1, .int .i64 (p.2 : Nat)] ∧ Below w.heap.size w w') (by kernel_rfl) ⟨hR, hL.drew⟩ (fun hHeld => ?_)
    clear hR hL hb
    refine wpAnyH_take (i := 0) (oi := _) (v := .pointer (some ⟨gx, 0, none⟩)) rfl (by kernel_rfl) (by kernel_rfl) (by kernel_rfl) (fun _ _ _ h => h) (Or.inl ⟨by rfl, fun w h => by go_simp⟩) hHeld ?_
    try simp only [Act.put, List.setIfInBounds_toArray, List.set_cons_zero, List.set_cons_succ, List.getElem_toArray, List.getElem_cons_succ, List.getElem_cons_zero]
    refine wpAnyH_take (i := 1) (oi := _) (v := .int .i64 p.1) rfl (by kernel_rfl) (by kernel_rfl) (by kernel_rfl) (fun _ _ _ h => h) (Or.inl ⟨by rfl, fun w h => by have hcell := h.1.cell 0 rfl; go_simp⟩) hHeld ?_
    try simp only [Act.put, List.setIfInBounds_toArray, List.set_cons_zero, List.set_cons_succ, List.getElem_toArray, List.getElem_cons_succ, List.getElem_cons_zero]
    refine wpAnyH_take (i := 2) (oi := _) (v := .pointer (some ⟨gx, 1, none⟩)) rfl (by kernel_rfl) (by kernel_rfl) (by kernel_rfl) (fun _ _ _ h => h) (Or.inl ⟨by rfl, fun w h => by go_simp⟩) hHeld ?_
    try simp only [Act.put, List.setIfInBounds_toArray, List.set_cons_zero, List.set_cons_succ, List.getElem_toArray, List.getElem_cons_succ, List.getElem_cons_zero]
    refine wpAnyH_take (i := 3) (oi := _) (v := .int .i64 (p.2 : Nat)) rfl (by kernel_rfl) (by kernel_rfl) (by kernel_rfl) (fun _ _ _ h => h) (Or.inl ⟨by rfl, fun w h => by have hcell := h.1.cell 1 rfl; go_simp⟩) hHeld ?_
    try simp only [Act.put, List.setIfInBounds_toArray, List.set_cons_zero, List.set_cons_succ, List.getElem_toArray, List.getElem_cons_succ, List.getElem_cons_zero]
    refine wpAnyH_take (i := 4) (oi := _) (v := .nilIface) rfl (by kernel_rfl) (by kernel_rfl) (by kernel_rfl) (fun _ _ _ h => h) (Or.inl ⟨by rfl, fun w h => by go_simp⟩) hHeld ?_
    try simp only [Act.put, List.setIfInBounds_toArray, List.set_cons_zero, List.set_cons_succ, List.getElem_toArray, List.getElem_cons_succ, List.getElem_cons_zero]
    refine wpAnyH_take (i := 5) (oi := _) (v := .bool true) rfl (by kernel_rfl) (by kernel_rfl) (by kernel_rfl) (fun _ _ _ h => h) (Or.inl ⟨by rfl, fun w h => by go_simp⟩) hHeld ?_
    try simp only [Act.put, List.setIfInBounds_toArray, List.set_cons_zero, List.set_cons_succ, List.getElem_toArray, List.getElem_cons_succ, List.getElem_cons_zero]
    refine wpAnyH_take (i := 6) (oi := _) (v := .int .i64 p.1) rfl (by kernel_rfl) (by kernel_rfl) (by kernel_rfl) (fun _ _ _ h => h) (Or.inl ⟨by rfl, fun w h => by go_simp⟩) hHeld ?_
    try simp only [Act.put, List.setIfInBounds_toArray, List.set_cons_zero, List.set_cons_succ, List.getElem_toArray, List.getElem_cons_succ, List.getElem_cons_zero]
    refine wpAnyH_take (i := 7) (oi := _) (v := .int .i64 (p.2 : Nat)) rfl (by kernel_rfl) (by kernel_rfl) (by kernel_rfl) (fun _ _ _ h => h) (Or.inl ⟨by rfl, fun w h => by go_simp⟩) hHeld ?_
    try simp only [Act.put, List.setIfInBounds_toArray, List.set_cons_zero, List.set_cons_succ, List.getElem_toArray, List.getElem_cons_succ, List.getElem_cons_zero]
    refine wpAnyH_take (i := 8) (oi := _) (v := .bool true) rfl (by kernel_rfl) (by kernel_rfl) (by kernel_rfl) (fun _ _ _ h => h) (Or.inl ⟨by rfl, fun w h => by go_simp⟩) hHeld ?_
    try simp only [Act.put, List.setIfInBounds_toArray, List.set_cons_zero, List.set_cons_succ, List.getElem_toArray, List.getElem_cons_succ, List.getElem_cons_zero]
    refine wpAnyH_done (by kernel_rfl) ?_ _
    obtain ⟨-, hB⟩ := hHeld
    go_wp2
    go_ret3
    exact ⟨rfl, hB⟩

set_option maxHeartbeats 1000000 in
theorem TrainTurns_any (v : Value) (xs : List Int) (w : World) (hv : ReadsL encI w v xs) (hE : LenAt w) (hF : FarAt w) : Calls Tryd.prog 13 #[v] w fun e w' => e = .returned (turnT (trainO xs)) ∧ Below w.heap.size w w' := by
  have R := trainR_any v xs w hv hE hF
  clear hv hE hF
  cases h : trainO xs with
  | none =>
    rw [h] at R
    clear h
    go_enter Tryd.func13, Tryd.ntmps13
    go_wp2_with fail
    refine R.mono ?_; rintro e w1 ⟨er, rfl, hor, hb⟩
    obtain ⟨T, x, rfl⟩ : ∃ T x, er = .iface T x := by
      rcases hor with ⟨h, -⟩ | ⟨-, h⟩
      · cases h
      · exact h
    unfold trainV
    simp only
    go_upto_region 2 with fail
    have hR := box_lies w1 0 0 43
    have hL := hb.alloc hb.size (.cells #[.int .i64 0, .int .i64 0] 43)
    show Code.wp _ _ _ _ (w1.alloc (.cells #[.int .i64 0, .int .i64 0] 43))
    generalize (w1.alloc (.cells #[.int .i64 0, .int .i64 0] 43)) = W at *
    generalize w1.heap.size = gx at *
    refine wp_region_held_drew (S := fun w' => LieAt w' gx [.int .i64 0, .int .i64 0] ∧ Below w.heap.size w w') (by kernel_rfl) ⟨hR, hL.drew⟩ (fun hHeld => ?_)
    clear hR hL hb
    refine wpAnyH_take (i := 0) (oi := _) (v := .pointer (some ⟨gx, 1, none⟩)) rfl (by kernel_rfl) (by kernel_rfl) (by kernel_rfl) (fun _ _ _ h => h) (Or.inl ⟨by rfl, fun w h => by go_simp⟩) hHeld ?_
    try simp only [Act.put, List.setIfInBounds_toArray, List.set_cons_zero, List.set_cons_succ, List.getElem_toArray, List.getElem_cons_succ, List.getElem_cons_zero]
    refine wpAnyH_take (i := 1) (oi := _) (v := .int .i64 0) rfl (by kernel_rfl) (by kernel_rfl) (by kernel_rfl) (fun _ _ _ h => h) (Or.inl ⟨by rfl, fun w h => by have hcell := h.1.cell 1 rfl; go_simp⟩) hHeld ?_
    try simp only [Act.put, List.setIfInBounds_toArray, List.set_cons_zero, List.set_cons_succ, List.getElem_toArray, List.getElem_cons_succ, List.getElem_cons_zero]
    refine wpAnyH_take (i := 2) (oi := _) (v := .iface T x) rfl (by kernel_rfl) (by kernel_rfl) (by kernel_rfl) (fun _ _ _ h => h) (Or.inl ⟨by rfl, fun w h => by go_simp⟩) hHeld ?_
    try simp only [Act.put, List.setIfInBounds_toArray, List.set_cons_zero, List.set_cons_succ, List.getElem_toArray, List.getElem_cons_succ, List.getElem_cons_zero]
    refine wpAnyH_take (i := 3) (oi := _) (v := .bool false) rfl (by kernel_rfl) (by kernel_rfl) (by kernel_rfl) (fun _ _ _ h => h) (Or.inl ⟨by rfl, fun w h => by go_simp⟩) hHeld ?_
    try simp only [Act.put, List.setIfInBounds_toArray, List.set_cons_zero, List.set_cons_succ, List.getElem_toArray, List.getElem_cons_succ, List.getElem_cons_zero]
    refine wpAnyH_take (i := 4) (oi := _) (v := .int .i64 0) rfl (by kernel_rfl) (by kernel_rfl) (by kernel_rfl) (fun _ _ _ h => h) (Or.inl ⟨by rfl, fun w h => by go_simp⟩) hHeld ?_
    try simp only [Act.put, List.setIfInBounds_toArray, List.set_cons_zero, List.set_cons_succ, List.getElem_toArray, List.getElem_cons_succ, List.getElem_cons_zero]
    refine wpAnyH_take (i := 5) (oi := _) (v := .bool false) rfl (by kernel_rfl) (by kernel_rfl) (by kernel_rfl) (fun _ _ _ h => h) (Or.inl ⟨by rfl, fun w h => by go_simp⟩) hHeld ?_
    try simp only [Act.put, List.setIfInBounds_toArray, List.set_cons_zero, List.set_cons_succ, List.getElem_toArray, List.getElem_cons_succ, List.getElem_cons_zero]
    refine wpAnyH_done (by kernel_rfl) ?_ _
    obtain ⟨-, hB⟩ := hHeld
    go_wp2
    go_ret2
    exact ⟨rfl, hB⟩
  | some p =>
    rw [h] at R
    clear h
    go_enter Tryd.func13, Tryd.ntmps13
    go_wp2_with fail
    refine R.mono ?_; rintro e w1 ⟨er, rfl, hor, hb⟩
    obtain rfl : er = .nilIface := by
      rcases hor with ⟨-, h⟩ | ⟨h, -⟩
      · exact h
      · cases h
    clear hor
    unfold trainV
    simp only
    go_upto_region 2 with fail
    have hR := box_lies w1 p.1 (p.2 : Nat) 43
    have hL := hb.alloc hb.size (.cells #[.int .i64 p.1, .int .i64 (p.2 : Nat)] 43)
    show Code.wp _ _ _ _ (w1.alloc (.cells #[.int .i64 p.1, .int .i64 (p.2 : Nat)] 43))
    generalize (w1.alloc (.cells #[.int .i64 p.1, .int .i64 (p.2 : Nat)] 43)) = W at *
    generalize w1.heap.size = gx at *
    refine wp_region_held_drew (S := fun w' => LieAt w' gx [.int .i64 p.1, .int .i64 (p.2 : Nat)] ∧ Below w.heap.size w w') (by kernel_rfl) ⟨hR, hL.drew⟩ (fun hHeld => ?_)
    clear hR hL hb
    refine wpAnyH_take (i := 0) (oi := _) (v := .pointer (some ⟨gx, 1, none⟩)) rfl (by kernel_rfl) (by kernel_rfl) (by kernel_rfl) (fun _ _ _ h => h) (Or.inl ⟨by rfl, fun w h => by go_simp⟩) hHeld ?_
    try simp only [Act.put, List.setIfInBounds_toArray, List.set_cons_zero, List.set_cons_succ, List.getElem_toArray, List.getElem_cons_succ, List.getElem_cons_zero]
    refine wpAnyH_take (i := 1) (oi := _) (v := .int .i64 (p.2 : Nat)) rfl (by kernel_rfl) (by kernel_rfl) (by kernel_rfl) (fun _ _ _ h => h) (Or.inl ⟨by rfl, fun w h => by have hcell := h.1.cell 1 rfl; go_simp⟩) hHeld ?_
    try simp only [Act.put, List.setIfInBounds_toArray, List.set_cons_zero, List.set_cons_succ, List.getElem_toArray, List.getElem_cons_succ, List.getElem_cons_zero]
    refine wpAnyH_take (i := 2) (oi := _) (v := .nilIface) rfl (by kernel_rfl) (by kernel_rfl) (by kernel_rfl) (fun _ _ _ h => h) (Or.inl ⟨by rfl, fun w h => by go_simp⟩) hHeld ?_
    try simp only [Act.put, List.setIfInBounds_toArray, List.set_cons_zero, List.set_cons_succ, List.getElem_toArray, List.getElem_cons_succ, List.getElem_cons_zero]
    refine wpAnyH_take (i := 3) (oi := _) (v := .bool true) rfl (by kernel_rfl) (by kernel_rfl) (by kernel_rfl) (fun _ _ _ h => h) (Or.inl ⟨by rfl, fun w h => by go_simp⟩) hHeld ?_
    try simp only [Act.put, List.setIfInBounds_toArray, List.set_cons_zero, List.set_cons_succ, List.getElem_toArray, List.getElem_cons_succ, List.getElem_cons_zero]
    refine wpAnyH_take (i := 4) (oi := _) (v := .int .i64 (p.2 : Nat)) rfl (by kernel_rfl) (by kernel_rfl) (by kernel_rfl) (fun _ _ _ h => h) (Or.inl ⟨by rfl, fun w h => by go_simp⟩) hHeld ?_
    try simp only [Act.put, List.setIfInBounds_toArray, List.set_cons_zero, List.set_cons_succ, List.getElem_toArray, List.getElem_cons_succ, List.getElem_cons_zero]
    refine wpAnyH_take (i := 5) (oi := _) (v := .bool true) rfl (by kernel_rfl) (by kernel_rfl) (by kernel_rfl) (fun _ _ _ h => h) (Or.inl ⟨by rfl, fun w h => by go_simp⟩) hHeld ?_
    try simp only [Act.put, List.setIfInBounds_toArray, List.set_cons_zero, List.set_cons_succ, List.getElem_toArray, List.getElem_cons_succ, List.getElem_cons_zero]
    refine wpAnyH_done (by kernel_rfl) ?_ _
    obtain ⟨-, hB⟩ := hHeld
    go_wp2
    go_ret2
    exact ⟨rfl, hB⟩
end Go.Proofs.YtbdhbkedeglagaaDoor
