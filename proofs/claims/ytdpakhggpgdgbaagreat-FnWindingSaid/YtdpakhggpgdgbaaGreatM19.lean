/-
  Out of the text PolyG: what the draws of polygons need.
  Out of the text Ints: what the draws of polygons need.
  Out of the text PolyH: what the draws of polygons need.
  Out of the text PolySay: what the draws of polygons need.
-/
import Derived.Test.YtdpakhggpgdgbaaGreatM18
import Derived.Test.YtdpakhggpgdgbaaGreatM09
/- Out of the text PolyG: what the draws of polygons need. -/
namespace Go.Proofs.YtdpakhggpgdgbaaGreat
set_option maxRecDepth 20000
open Go.ChangeShapes Go.WideShapes Go.ChangeAt Go.RowKit
set_option linter.unusedVariables false
set_option linter.unusedSimpArgs false
attribute [local go_sem] Oper.semAt_some
theorem rplus_wide (a b : Nat → Int) (ha : ∀ j, j < 4 → -1000000000000 ≤ a j ∧ a j ≤ 1000000000000) (hb : ∀ j, j < 4 → -1000000000000 ≤ b j ∧ b j ≤ 1000000000000) (w : World) :
    Calls Tryz.prog 58 #[.agg (vec 4 a), .agg (vec 4 b)] w fun e w' => e = .returned (.agg (vec 4 (add a b))) ∧ Below w.heap.size w w' := by
  have a0 := ha 0 (by omega); have a1 := ha 1 (by omega); have a2 := ha 2 (by omega); have a3 := ha 3 (by omega)
  have b0 := hb 0 (by omega); have b1 := hb 1 (by omega); have b2 := hb 2 (by omega); have b3 := hb 3 (by omega)
  clear ha hb
  change Calls Tryz.prog 58 #[.agg #[.int .i64 (a 0), .int .i64 (a 1), .int .i64 (a 2), .int .i64 (a 3)], .agg #[.int .i64 (b 0), .int .i64 (b 1), .int .i64 (b 2), .int .i64 (b 3)]] w fun e w' => e = .returned (.agg #[.int .i64 (a 0 + b 0), .int .i64 (a 1 + b 1), .int .i64 (a 2 + b 2), .int .i64 (a 3 + b 3)]) ∧ Below w.heap.size w w'
  go_enter Tryz.func58, Tryz.ntmps58
  go_wp2
  simp [bodyPost, results, Tryz.results58, go_sem]
  exact below_three _ _ _ _

theorem keeps_setRow {W : World} {g n : Nat} {T : TypeId} {f : Nat → Int} {cs : Array Value} (h : RowAt W g n T f) : KeepsOthers W (W.setRow g cs) :=
  ⟨by simp [World.setRow], fun k o hk ho => by
    by_cases e : k = g
    · subst e
      have : W.heap[k]? = _ := h
      rw [hk] at this
      cases this
      cases ho
    · exact (setRow_other _ _ _ _ e).trans hk⟩
def accF (pre : List (V × V)) : Nat → Int := fun j => (pre.map fun s => crs s.1.up s.2.up j).sum
theorem accF_next (pre : List (V × V)) (x : V × V) : accF (pre ++ [x]) = add (accF pre) (crs x.1.up x.2.up) := by
  funext j
  simp [accF, add]
theorem accF_small {M : Nat} (hM : M ≤ 200) {pre : List (V × V)} (h : ∀ s ∈ pre, (∀ j, j < 8 → -(M : Int) ≤ s.1.up j ∧ s.1.up j ≤ (M : Int)) ∧ (∀ j, j < 8 → -(M : Int) ≤ s.2.up j ∧ s.2.up j ≤ (M : Int))) (j : Nat) (hj : j < 4) : -(15360000 * (pre.length : Int)) ≤ accF pre j ∧ accF pre j ≤ 15360000 * (pre.length : Int) := by
  induction pre with
  | nil => simp [accF]
  | cons s pre ih =>
    have h1 := ih fun t ht => h t (List.mem_cons_of_mem _ ht)
    have h2 := crs_small (by omega) (h s (by simp)).1 (h s (by simp)).2 j hj
    have h3 : M * M ≤ 200 * 200 := Nat.mul_le_mul hM hM
    have h4 : -15360000 ≤ crs s.1.up s.2.up j ∧ crs s.1.up s.2.up j ≤ 15360000 := by
      generalize M * M = q at *
      omega
    have e : accF (s :: pre) j = crs s.1.up s.2.up j + accF pre j := by simp [accF]
    have el : ((s :: pre).length : Int) = (pre.length : Int) + 1 := by simp
    rw [e, el]
    generalize accF pre j = x at *
    generalize crs s.1.up s.2.up j = y at *
    generalize (pre.length : Int) = z at *
    clear h ih h2 h3 e el
    omega
theorem pre_bound {xs : List V} {M : Nat} (h1 : 1 ≤ xs.length) (hs : ∀ x ∈ xs, ∀ j, j < 8 → -(M : Int) ≤ x.up j ∧ x.up j ≤ (M : Int)) {pre rest : List (V × V)} (hx : sidesL xs xs.length = pre ++ rest) :
    ∀ s ∈ pre, (∀ j, j < 8 → -(M : Int) ≤ s.1.up j ∧ s.1.up j ≤ (M : Int)) ∧ (∀ j, j < 8 → -(M : Int) ≤ s.2.up j ∧ s.2.up j ≤ (M : Int)) := fun s hsp => by
  obtain ⟨q, r, e⟩ := List.append_of_mem hsp
  exact sides_bound h1 hs (pre := q) ⟨r ++ rest, by rw [hx, e]; simp⟩
set_option maxHeartbeats 4000000 in
theorem area_any (v : Value) (xs : List V) (w : World) (hv : ReadsL encV w v xs) (h1 : 1 ≤ xs.length) (h48 : xs.length ≤ 48) (hs : ∀ x ∈ xs, ∀ j, j < 8 → -((100 : Nat) : Int) ≤ x.up j ∧ x.up j ≤ ((100 : Nat) : Int)) :
    Calls Tryz.prog 28 #[v] w fun e w' => e = .returned (.agg (vec 4 (accF (sidesL xs xs.length)))) ∧ Below w.heap.size w w' := by
  obtain ⟨g, o, cap, rfl, hc1, hc2, hg, hr⟩ := reads_ptr8 hv (by rintro rfl; simp at h1)
  have G := sides_gives g o cap xs (3 - 1) (by omega) w hg hr hc1 hc2 h1 h48
  clear hv hr hc2
  have HS := Lib.hid hs
  clear hs
  refine (callsIn_wide (n := 3)).1 (callsIn_of_wp_marks Tryz.func28 rfl trivial ?_ rfl)
  refine (wpIn_wide (n := 3)).2 ?_
  simp only [Tryz.ntmps28, List.size_toArray, List.length_cons, List.length_nil, Nat.reduceAdd, Nat.reduceSub, Array.replicate_succ, Array.replicate_zero, List.push_toArray, List.append_toArray, List.nil_append, List.cons_append]
  go_wp2
  show Code.wp _ _ _ _ ((w.alloc (.cells (vec 4 nul) 60)).alloc (.cells (vec 4 nul) 60))
  have hR0 := (RowAt.new w 4 60 nul).alloc (.cells (vec 4 nul) 60)
  have hC0 : RowAt ((w.alloc (.cells (vec 4 nul) 60)).alloc (.cells (vec 4 nul) 60)) (w.heap.size + 1) 4 60 (accF []) := RowAt.newAt rfl (by simp)
  have hB0 := ((Below.refl w.heap.size w).alloc (Nat.le_refl _) (.cells (vec 4 nul) 60)).alloc (by simp) (.cells (vec 4 nul) 60)
  have hsz : ((w.alloc (.cells (vec 4 nul) 60)).alloc (.cells (vec 4 nul) 60)).heap.size = w.heap.size + 2 := by simp
  generalize (w.alloc (.cells (vec 4 nul) 60)).alloc (.cells (vec 4 nul) 60) = W0 at *
  refine (wpIn_wide (n := 3)).1 ?_
  refine range_bound (by omega) rfl (enters_of Tryz.func51 (by kernel_rfl) rfl) G hB0 (by omega) (fun _ => rfl)
    (fun pre W => RowAt W (w.heap.size + 1) 4 60 (accF pre) ∧ RowAt W w.heap.size 4 60 nul ∧ Below w.heap.size w W)
    (fun c pre W => False)
    (fun pre A C h hb => ⟨(hb.block _ (by omega)).trans h.1, (hb.block _ (by omega)).trans h.2.1, h.2.2.trans (hb.mono (by omega))⟩)
    (fun c pre A C h hb => h)
    ⟨hC0, hR0, hB0⟩
    (fun x a' W => ∃ Bx, W0.heap.size + 1 < Bx ∧ RowAt W Bx 16 89 (sd x.1.up x.2.up) ∧ a' = { tmps := #[.slice (some ⟨g, o, none⟩) xs.length cap, undef, .pointer (some ⟨w.heap.size, 0, none⟩), .pointer (some ⟨w.heap.size + 1, 0, none⟩), .pointer (some ⟨Bx, 0, none⟩), .slice (some ⟨g, o, none⟩) xs.length cap, .func (.func 51) #[.slice (some ⟨g, o, none⟩) xs.length cap] #[], st x.1.up x.2.up, undef, undef, undef, undef, undef], defers := [] })
    (fun x a' A C h hb => by obtain ⟨Bx, h2, h3, h4⟩ := h; exact ⟨Bx, h2, h3.below hb, h4⟩)
    (fun x a' A r o h hl => by
      obtain ⟨Bx, h2, h3, h4⟩ := h
      exact ⟨Bx, h2, (World.putObj_heap_other (by omega)).trans h3, h4⟩)
    ?assign ?body ?done ?stop
  case assign =>
    intro l x A K hlt hK
    dsimp only [encS]
    have ss := vec_size 16 (sd x.1.up x.2.up)
    gi_upto_region 3 with fail
    refine region_in not_lets rfl ?_
    go_wp2_with (refine store_new (ty := 89) (f' := sd x.1.up x.2.up) rfl rfl rfl rfl zero16 info_side ?_)
    exact hK _ _ ((Below.refl _ _).alloc (Nat.le_refl _) _) ⟨A.heap.size, hlt, RowAt.new A 16 89 _, rfl⟩
  case body =>
    rintro l pre x a' A hx hlt ⟨hC, hR, hB⟩ ⟨Bx, hBx, hX, rfl⟩
    obtain ⟨b1, b2⟩ := sides_bound h1 HS.out hx
    have M := fun w => sideCross_any x.1.up x.2.up (by omega) b1 b2 w
    have hlen : pre.length ≤ 48 := by
      obtain ⟨rest, e⟩ := hx
      have := congrArg List.length e
      rw [sidesL_len] at this
      simp at this
      omega
    have hn1 : ∀ j, j < 4 → -1000000000000 ≤ accF pre j ∧ accF pre j ≤ 1000000000000 := fun j hj => by
      obtain ⟨rest, e⟩ := hx
      have := accF_small (M := 100) (by omega) (pre_bound h1 HS.out e) j hj
      omega
    have hn2 : ∀ j, j < 4 → -1000000000000 ≤ crs x.1.up x.2.up j ∧ crs x.1.up x.2.up j ≤ 1000000000000 := fun j hj => by
      have := crs_small (by omega) b1 b2 j hj
      omega
    have PL := fun w => rplus_wide (accF pre) (crs x.1.up x.2.up) hn1 hn2 w
    have HN := Lib.hid (accF_next pre x)
    have HB := Lib.hid hB
    clear hB b1 b2 hx hlen hn1 hn2
    generalize accF pre = f1 at *
    generalize crs x.1.up x.2.up = f2 at *
    generalize add f1 f2 = f3 at *
    gi_upto_region 4 with fail
    have hC1 : RowAt A.drew (w.heap.size + 1) 4 60 f1 := hC
    refine drawn_in (S := fun W => RowAt W Bx 16 89 (sd x.1.up x.2.up) ∧ ∃ f, RowAt W (w.heap.size + 1) 4 60 f) (by rintro ⟨_, _, h⟩; exact h) (by rfl) (by kernel_rfl) ⟨hX.drew1, f1, hC1⟩ (fun hHeld => ?_)
    clear hX hC
    refine wpAnyH_take (i := 1) (oi := _) (v := .agg (vec 16 (sd x.1.up x.2.up))) rfl (by kernel_rfl) (by kernel_rfl) (by kernel_rfl) (fun _ _ _ h => h) (yieldsIf_load_mid (by rfl) _ _ rfl _ _ rfl _ _ ((fun w h => h.1.range)) Tryz.underlying89 rfl (size_side (sd x.1.up x.2.up))) hHeld ?_
    try simp only [Act.put, List.setIfInBounds_toArray, List.set_cons_zero, List.set_cons_succ, List.getElem_toArray, List.getElem_cons_succ, List.getElem_cons_zero]
    refine wpAnyH_ready (rs := [0, 2]) (by kernel_rfl) (by simp) ?_
    refine AllReadyH.cons (o := _) rfl (fun K hK => ?_) (AllReadyH.cons (o := _) rfl (fun K hK => ?_) AllReadyH.nil)
    · rw [if_pos (by rfl)]
      refine wp_load_mid 60 _ rfl (w.heap.size + 1) 0 rfl (lst 4 f1) _ hC1.range Tryz.underlying60 rfl (by rw [lst_length]; exact info_radical) ?_
      refine hK.out _ _ hHeld (fun hHeld => ?_)
      clear hK K
      try simp only [Act.put, List.setIfInBounds_toArray, List.set_cons_zero, List.set_cons_succ, List.getElem_toArray, List.getElem_cons_succ, List.getElem_cons_zero]
      refine wpAnyH_ready (rs := [2]) (by kernel_rfl) (by simp) ?_
      refine AllReadyH.cons (o := _) rfl (fun K hK => ?_) AllReadyH.nil
      go_simp
      refine (M _).mono ?_; rintro e w2 ⟨rfl, hb2⟩
      go_wp2_with fail
      obtain ⟨q1, m, q2⟩ := hHeld
      have hC2 := hC1.below hb2
      refine hK.out _ _ ⟨q1.below hb2, m, q2.below hb2⟩ (fun hHeld => ?_)
      clear hK K
      try simp only [Act.put, List.setIfInBounds_toArray, List.set_cons_zero, List.set_cons_succ, List.getElem_toArray, List.getElem_cons_succ, List.getElem_cons_zero]
      clear q1 q2 M hC1
      refine wpAnyH_ready (rs := [3]) (by kernel_rfl) (by simp) ?_
      refine AllReadyH.cons (o := _) rfl (fun K hK => ?_) AllReadyH.nil
      go_simp
      refine (PL _).mono ?_; rintro e w3 ⟨rfl, hb3⟩
      go_wp2_with fail
      obtain ⟨q1, m, q2⟩ := hHeld
      have hC3 := hC2.below hb3
      refine hK.out _ _ ⟨q1.below hb3, m, q2.below hb3⟩ (fun hHeld => ?_)
      clear hK K
      try simp only [Act.put, List.setIfInBounds_toArray, List.set_cons_zero, List.set_cons_succ, List.getElem_toArray, List.getElem_cons_succ, List.getElem_cons_zero]
      clear q1 q2 PL hC2
      refine wpAnyH_ready (rs := [4]) (by kernel_rfl) (by simp) ?_
      refine AllReadyH.cons (o := _) rfl (fun K hK => ?_) AllReadyH.nil
      rw [if_pos (by rfl)]
      refine store_step (f' := f3) rfl rfl rfl hC3 info_radical ?_
      refine hK.out _ _ ⟨hHeld.1.rowOther _ _ (by omega), f3, hC3.setRow⟩ (fun hHeld => ?_)
      clear hK K
      try simp only [Act.put, List.setIfInBounds_toArray, List.set_cons_zero, List.set_cons_succ, List.getElem_toArray, List.getElem_cons_succ, List.getElem_cons_zero]
      refine wpAnyH_done (by kernel_rfl) ?_ _
      have hb4 : Below A.heap.size A w3 := below_next ((Below.refl _ _).drew.trans hb2) hb3
      have hR4 := hR.below hb4
      gi_wp2
      exact ⟨((keeps_below hb4).trans (keeps_setRow hC3)).from _, (setRow_other _ _ _ _ (by omega)).trans (hb4.block g (by omega)), by rw [HN.out]; exact hC3.setRow, hR4.rowOther _ _ (by omega), below_setRow (HB.out.trans (hb4.mono (show w.heap.size ≤ A.heap.size by omega))) (by omega) _⟩
    · go_simp
      refine (M _).mono ?_; rintro e w2 ⟨rfl, hb2⟩
      go_wp2_with fail
      obtain ⟨q1, m, q2⟩ := hHeld
      have hC2 := hC1.below hb2
      refine hK.out _ _ ⟨q1.below hb2, m, q2.below hb2⟩ (fun hHeld => ?_)
      clear hK K
      try simp only [Act.put, List.setIfInBounds_toArray, List.set_cons_zero, List.set_cons_succ, List.getElem_toArray, List.getElem_cons_succ, List.getElem_cons_zero]
      clear q1 q2 M hC1
      refine wpAnyH_ready (rs := [0]) (by kernel_rfl) (by simp) ?_
      refine AllReadyH.cons (o := _) rfl (fun K hK => ?_) AllReadyH.nil
      rw [if_pos (by rfl)]
      refine wp_load_mid 60 _ rfl (w.heap.size + 1) 0 rfl (lst 4 f1) _ hC2.range Tryz.underlying60 rfl (by rw [lst_length]; exact info_radical) ?_
      refine hK.out _ _ hHeld (fun hHeld => ?_)
      clear hK K
      try simp only [Act.put, List.setIfInBounds_toArray, List.set_cons_zero, List.set_cons_succ, List.getElem_toArray, List.getElem_cons_succ, List.getElem_cons_zero]
      refine wpAnyH_ready (rs := [3]) (by kernel_rfl) (by simp) ?_
      refine AllReadyH.cons (o := _) rfl (fun K hK => ?_) AllReadyH.nil
      go_simp
      refine (PL _).mono ?_; rintro e w3 ⟨rfl, hb3⟩
      go_wp2_with fail
      obtain ⟨q1, m, q2⟩ := hHeld
      have hC3 := hC2.below hb3
      refine hK.out _ _ ⟨q1.below hb3, m, q2.below hb3⟩ (fun hHeld => ?_)
      clear hK K
      try simp only [Act.put, List.setIfInBounds_toArray, List.set_cons_zero, List.set_cons_succ, List.getElem_toArray, List.getElem_cons_succ, List.getElem_cons_zero]
      clear q1 q2 PL hC2
      refine wpAnyH_ready (rs := [4]) (by kernel_rfl) (by simp) ?_
      refine AllReadyH.cons (o := _) rfl (fun K hK => ?_) AllReadyH.nil
      rw [if_pos (by rfl)]
      refine store_step (f' := f3) rfl rfl rfl hC3 info_radical ?_
      refine hK.out _ _ ⟨hHeld.1.rowOther _ _ (by omega), f3, hC3.setRow⟩ (fun hHeld => ?_)
      clear hK K
      try simp only [Act.put, List.setIfInBounds_toArray, List.set_cons_zero, List.set_cons_succ, List.getElem_toArray, List.getElem_cons_succ, List.getElem_cons_zero]
      refine wpAnyH_done (by kernel_rfl) ?_ _
      have hb4 : Below A.heap.size A w3 := below_next ((Below.refl _ _).drew.trans hb2) hb3
      have hR4 := hR.below hb4
      gi_wp2
      exact ⟨((keeps_below hb4).trans (keeps_setRow hC3)).from _, (setRow_other _ _ _ _ (by omega)).trans (hb4.block g (by omega)), by rw [HN.out]; exact hC3.setRow, hR4.rowOther _ _ (by omega), below_setRow (HB.out.trans (hb4.mono (show w.heap.size ≤ A.heap.size by omega))) (by omega) _⟩
  case done =>
    rintro D W hD ⟨hC, hR, hB⟩ hK
    have HB := Lib.hid hB
    clear hB
    obtain ⟨f1, hf1⟩ : ∃ f1, accF (sidesL xs xs.length) = f1 := ⟨_, rfl⟩
    rw [hf1] at hC
    have HF := Lib.hid hf1
    clear hf1
    go_wp2_with (first | (refine load_row (g := w.heap.size + 1) rfl rfl rfl hC Tryz.underlying60 rfl info_radical ?_) | (refine store_row (g := w.heap.size) (f' := f1) rfl rfl rfl rfl hR info_radical ?_))
    have hK2 := (keeps_setRow (cs := vec 4 f1) hR).same D _ hK rfl
    refine ⟨by simp, .inl ⟨_, _, rfl, run_takeDeferred hK2, ?_⟩⟩
    exact ⟨_, results_row rfl rfl ((World.putObj_heap_other (by omega)).trans hR.setRow) Tryz.underlying60 rfl info_radical, by rw [HF.out], (below_setRow HB.out (Nat.le_refl _) _).trans (below_put (by omega) hK2)⟩
  case stop =>
    rintro D c pre x W hD hx h hK
    exact h.elim

end Go.Proofs.YtdpakhggpgdgbaaGreat
/- Out of the text Ints: what the draws of polygons need. -/
namespace Go.Proofs.YtdpakhggpgdgbaaGreat
set_option maxRecDepth 20000
open Go.ChangeShapes Go.WideShapes Go.ChangeAt Go.RowKit
set_option linter.unusedVariables false
set_option linter.unusedSimpArgs false
def encI (n : Int) : List Value := [.int .i64 n]
theorem encI_ok : Enc encI 1 := ⟨fun a => rfl, fun a v h => by rw [encI, List.mem_singleton] at h; subst h; rfl, by omega⟩
theorem tyI : TyL Tryz.prog 28 3 1 := tyL_of (z := .int .i64 0) (b := 8) Tryz.underlying28 (by kernel_rfl) (by omega) rfl
theorem flt_ints : ∀ xs : List Int, flt encI xs = xs.map (Value.int .i64)
  | [] => rfl
  | x :: xs => by rw [flt_cons, flt_ints xs]; rfl
theorem own_ints {w : World} {B T : Nat} {v : Value} {xs : List Int} (h : OwnL encI 1 w B T v xs) : w.ownsRow B T 1 v xs.length (xs.map (Value.int .i64)) := by
  rw [← flt_ints]; exact h
theorem lit1 (w : World) (x : Int) (T : Nat) : ReadsL encI (w.alloc (.cells #[.int .i64 x] T)) (.slice (some ⟨w.heap.size, 0, none⟩) 1 1) [x] := litL_reads (en := encI) w x T
theorem int_cell {w : World} {g o k : Nat} {xs : List Int} {x : Int} (h : w.rangeAt g o (flt encI xs)) (hx : xs[k]? = some x) : w.cell? ⟨g, o + k, none⟩ = some (.int .i64 x) := by
  have := cells_part encI_ok h hx 0 (.int .i64 x) rfl
  rwa [Nat.mul_one, Nat.add_zero] at this
def ToldI (w : World) (o : Option (List Int)) (e : Ending) (w' : World) : Prop :=
  Below w.heap.size w w' ∧ ∃ v', e = .returned (.tuple #[v', .bool o.isSome]) ∧ OwnL encI 1 w' w.heap.size 3 v' (o.getD [])
end Go.Proofs.YtdpakhggpgdgbaaGreat
/- Out of the text PolyH: what the draws of polygons need. -/
namespace Go.Proofs.YtdpakhggpgdgbaaGreat
set_option maxRecDepth 20000
open Go.ChangeShapes Go.WideShapes Go.ChangeAt Go.RowKit
set_option linter.unusedVariables false
set_option linter.unusedSimpArgs false
attribute [local go_sem] Oper.semAt_some
section
variable {α : Type} {en : α → List Value} {K : Nat} {P : Program} {t e : TypeId} {o : Oper} {a : Act} {Q : Exit → Act → World → Prop} {w : World} {B : Nat}
/-- Appending where there is room, as one operation. -/
theorem wp_append_fitL {k : Act → World → Prop} (ty : TyL P t e K) (E : Enc en K) {s x : Operand} (hop : o.op = .call { callee := .builtin .append, args := #[s, x], argTypes := #[t, t] })
    {g cap g2 o2 c : Nat} {xs ys : List α} (hs : a.eval s = .slice (some ⟨g, 0, none⟩) xs.length cap) (hx : a.eval x = .slice (some ⟨g2, o2, none⟩) ys.length c) (hown : OwnL en K w B e (.slice (some ⟨g, 0, none⟩) xs.length cap) xs)
    (hr : w.rangeAt g2 o2 (flt en ys)) (hroom : xs.length + ys.length ≤ cap)
    (h : ∀ w', OwnL en K w' B e (.slice (some ⟨g, 0, none⟩) (xs ++ ys).length cap) (xs ++ ys) → w.grownBy w' (some g) → k (a.put o.dst (.slice (some ⟨g, 0, none⟩) (xs ++ ys).length cap)) w') : o.wp P a w k Q := by
  obtain ⟨i, z, hi, hz, hsz, hby, hzs⟩ := ty.inf
  obtain ⟨w', hr1, ho, hg⟩ := run_append_fits (P := P) w B t o.type e i K ty.sl hi hsz g xs.length cap (flt en xs) hown ⟨g2, o2, none⟩ ys.length c (flt en ys) (flt_length E ys) (fun j u hu => by rw [Addr.add_mid]; exact hr j u hu) (flt_oneCell E ys) hroom
  unfold Oper.wp execOp
  simp only [hop, resolve, invoke, builtin, Sem.run_bind, Sem.run_pure, Result.andThen_ok, List.map_toArray, List.map_cons, List.map_nil, hs, hx, hr1]
  rw [← flt_append] at ho
  rw [← List.length_append] at ho ⊢
  exact h w' ho hg
end
theorem cell_grown {w w' : World} {g r : Nat} {v : Value} (h : CellAt w g v) (hg : w.grownBy w' (some r)) (hne : g ≠ r) : CellAt w' g v := by
  have hb : w'.heap[g]? = w.heap[g]? := hg.block g (World.block_lt_of_cell? _ _ h.1) (fun e => hne (Option.some.inj e))
  exact ⟨(World.cell?_of_block (a := ⟨g, 0, none⟩) hb).trans h.1, (World.frozen?_of_block (a := ⟨g, 0, none⟩) hb).trans h.2⟩
theorem keeps_grown {W W' : World} {g n cap B T K : Nat} {cs : List Value} (hg : W.grownBy W' (some g)) (h : W.ownsRow B T K (.slice (some ⟨g, 0, none⟩) n cap) n cs) : KeepsOthers W W' :=
  KeepsOthers.of_grownBy hg (fun j o e hj => by
    cases e
    rcases h.2 with ⟨h0, _⟩ | ⟨g', cap', cur, h0, hB, hg', rest⟩
    · cases h0
    · simp only [Value.slice.injEq, Option.some.injEq, Addr.mk.injEq] at h0
      obtain ⟨⟨rfl, _⟩, -, -⟩ := h0
      rw [hg'] at hj
      cases hj
      rfl)
def bendW (s : V × V) : Int := sgR (cr (qv s.1.up) (qv s.2.up))
def bendS (pre : List (V × V)) : List Int := pre.map bendW
theorem bendS_next (pre : List (V × V)) (x : V × V) : bendS (pre ++ [x]) = bendS pre ++ [bendW x] := by simp [bendS]
theorem bendS_len (pre : List (V × V)) : (bendS pre).length = pre.length := by simp [bendS]
theorem at_stepsQ (xs : List V) {k n : Nat} (h : k < n) : at' (stepsQ xs n) k = subV (at' xs k) (prevV xs k) := by
  unfold at' stepsQ
  rw [List.getElem?_map, List.getElem?_range h]
  rfl
theorem sub_small {a b : V} {M : Nat} (ha : ∀ j, j < 8 → -(M : Int) ≤ a.up j ∧ a.up j ≤ (M : Int)) (hb : ∀ j, j < 8 → -(M : Int) ≤ b.up j ∧ b.up j ≤ (M : Int)) : ∀ j, j < 8 → -((2 * M : Nat) : Int) ≤ (subV a b).up j ∧ (subV a b).up j ≤ ((2 * M : Nat) : Int) := fun j hj => by
  have e : (subV a b).up j = a.up j + (-1) * b.up j := by unfold subV; rw [up_dn _ j hj]; rfl
  have h1 := ha j hj
  have h2 := hb j hj
  rw [e]; omega
theorem stepsQ_small {xs : List V} (h1 : 1 ≤ xs.length) (hs : ∀ x ∈ xs, ∀ j, j < 8 → -((100 : Nat) : Int) ≤ x.up j ∧ x.up j ≤ ((100 : Nat) : Int)) : ∀ y ∈ stepsQ xs xs.length, ∀ j, j < 8 → -((200 : Nat) : Int) ≤ y.up j ∧ y.up j ≤ ((200 : Nat) : Int) := fun y hy => by
  unfold stepsQ at hy
  obtain ⟨i, hi, rfl⟩ := List.mem_map.1 hy
  have hi := List.mem_range.1 hi
  exact sub_small (M := 100) (hs _ (List.mem_of_getElem? (at_get hi))) (hs _ (List.mem_of_getElem? (at_get (Nat.mod_lt _ (by omega)))))
set_option maxHeartbeats 4000000 in
theorem bends_any (v : Value) (xs : List V) (w : World) (hv : ReadsL encV w v xs) (h1 : 1 ≤ xs.length) (h48 : xs.length ≤ 48) (hs : ∀ x ∈ xs, ∀ j, j < 8 → -((100 : Nat) : Int) ≤ x.up j ∧ x.up j ≤ ((100 : Nat) : Int)) :
    Calls Tryz.prog 21 #[v] w fun e w' => Below w.heap.size w w' ∧ ∃ v', e = .returned v' ∧ OwnL encI 1 w' w.heap.size 3 v' (bendS (sidesL (stepsQ xs xs.length) xs.length)) := by
  have ST := fun (w' : World) (h : ReadsL encV w' v xs) => steps_any v xs w' h h1 h48 (fun x hx => small_R (hs x hx))
  have HSS := Lib.hid (stepsQ_small h1 hs)
  have HLL := Lib.hid (stepsQ_len xs xs.length)
  have HV := Lib.hid hv
  clear hv hs
  generalize stepsQ xs xs.length = ys at *
  have hvs : ∃ p cap, v = .slice p xs.length cap := by
    obtain ⟨p, cap, rfl, _⟩ := HV.out
    exact ⟨p, cap, rfl⟩
  obtain ⟨p, cap, rfl⟩ := hvs
  refine (callsIn_wide (n := 3)).1 (callsIn_of_wp_marks Tryz.func21 rfl trivial ?_ rfl)
  refine (wpIn_wide (n := 3)).2 ?_
  simp only [Tryz.ntmps21, List.size_toArray, List.length_cons, List.length_nil, Nat.reduceAdd, Nat.reduceSub, Array.replicate_succ, Array.replicate_zero, List.push_toArray, List.append_toArray, List.nil_append, List.cons_append]
  go_upto_region 2 with (refine makeL (en := encI) tyI rfl rfl xs.length rfl rfl (by omega) (Below.refl _ w) (Nat.le_refl _) ?_; intro w2 ho1 hb1 hB1)
  have hC0 := CellAt.new w2 (.slice (some ⟨w.heap.size, 0, none⟩) 0 xs.length) 28
  have ho2 : OwnL encI 1 (w2.alloc (.cells #[.slice (some ⟨w.heap.size, 0, none⟩) 0 xs.length] 28)) w.heap.size 3 (.slice (some ⟨w.heap.size, 0, none⟩) 0 xs.length) [] := World.ownsRow.alloc ho1 _
  have hb2 := hb1.alloc hB1 (.cells #[.slice (some ⟨w.heap.size, 0, none⟩) 0 xs.length] 28)
  have hgL : w.heap.size < w2.heap.size := (ho1.lt w.heap.size rfl).2
  have hgB : w2.heap.size < (w2.alloc (.cells #[.slice (some ⟨w.heap.size, 0, none⟩) 0 xs.length] 28)).heap.size := by simp
  clear ho1 hb1 hB1
  generalize w2.alloc (.cells #[.slice (some ⟨w.heap.size, 0, none⟩) 0 xs.length] 28) = w3 at *
  generalize w2.heap.size = gB at *
  have S := Lib.hid (ST w3 (HV.out.below hb2))
  clear ST
  go_wp2_with fail
  refine S.out.mono ?_; rintro e w4 ⟨hb4, v4, rfl, ho4⟩
  obtain ⟨g, o, cap4, rfl, hc1, hc2, hg, hr⟩ := reads_ptr8 (ownL_reads ho4) (by rintro rfl; have := HLL.out; simp at this; omega)
  have hgg : w3.heap.size ≤ g := (ho4.lt g rfl).1
  have G := sides_gives g o cap4 ys (3 - 1) (by omega) w4 hg hr hc1 hc2 (by have := HLL.out; omega) (by have := HLL.out; omega)
  have hC4 := hC0.below hgB hb4
  have hO4 := rows_below ho2 hb4
  have hB4 := below_next hb2 hb4
  have hz4 := hb4.size
  have HLL2 := HLL.out
  rw [HLL2] at G ⊢
  clear S ho4 hr hc1 hc2 hC0 ho2 hb2 hb4 HV
  go_wp2
  refine (wpIn_wide (n := 3)).1 ?_
  refine range_bound (by omega) rfl (enters_of Tryz.func51 (by kernel_rfl) rfl) G (Below.refl _ _) hg (fun _ => rfl)
    (fun pre W => CellAt W gB (.slice (some ⟨w.heap.size, 0, none⟩) pre.length xs.length) ∧ OwnL encI 1 W w.heap.size 3 (.slice (some ⟨w.heap.size, 0, none⟩) pre.length xs.length) (bendS pre) ∧ Below w.heap.size w W)
    (fun c pre W => False)
    (fun pre A C h hb => ⟨h.1.below (by omega) hb, rows_heap h.2.1 (hb.block _ (by omega)), h.2.2.trans (hb.mono (by omega))⟩)
    (fun c pre A C h hb => h)
    ⟨hC4, hO4, hB4⟩
    (fun x a' W => ∃ Bx, w4.heap.size + 1 < Bx ∧ RowAt W Bx 16 89 (sd x.1.up x.2.up) ∧ a' = { tmps := #[.slice p xs.length cap, undef, .slice none 0 0, .pointer (some ⟨gB, 0, none⟩), .pointer (some ⟨Bx, 0, none⟩), .slice p xs.length cap, .int .i64 xs.length, .slice (some ⟨w.heap.size, 0, none⟩) 0 xs.length, .slice p xs.length cap, .slice (some ⟨g, o, none⟩) xs.length cap4, .func (.func 51) #[.slice (some ⟨g, o, none⟩) xs.length cap4] #[], st x.1.up x.2.up, undef, undef, undef, undef, undef, undef], defers := [] })
    (fun x a' A C h hb => by obtain ⟨Bx, h2, h3, h4⟩ := h; exact ⟨Bx, h2, h3.below hb, h4⟩)
    (fun x a' A r o h hl => by
      obtain ⟨Bx, h2, h3, h4⟩ := h
      exact ⟨Bx, h2, (World.putObj_heap_other (by omega)).trans h3, h4⟩)
    ?assign ?body ?done ?stop
  case assign =>
    intro l x A K hlt hK
    dsimp only [encS]
    have ss := vec_size 16 (sd x.1.up x.2.up)
    gi_upto_region 3 with fail
    refine region_in not_lets rfl ?_
    go_wp2_with (refine store_new (ty := 89) (f' := sd x.1.up x.2.up) rfl rfl rfl rfl zero16 info_side ?_)
    exact hK _ _ ((Below.refl _ _).alloc (Nat.le_refl _) _) ⟨A.heap.size, hlt, RowAt.new A 16 89 _, rfl⟩
  case body =>
    rintro l pre x a' A hx hlt ⟨hC, hO, hB⟩ ⟨Bx, hBx, hX, rfl⟩
    have hlen : pre.length < xs.length := by
      obtain ⟨rest, e⟩ := hx
      have := congrArg List.length e
      rw [sidesL_len] at this
      simp at this
      omega
    obtain ⟨b1, b2⟩ := sides_bound (xs := ys) (by omega) HSS.out (pre := pre) (x := x) (by rw [HLL2]; exact hx)
    have M := fun w => sideBend_any x.1.up x.2.up b1 b2 w
    have hq2 : sgR (cr (qv x.1.up) (qv x.2.up)) = bendW x := rfl
    rw [hq2] at M
    have HN := Lib.hid (bendS_next pre x)
    have hbl := bendS_len pre
    have HLN : Aside ((pre ++ [x]).length = pre.length + 1) := (show _ = _ from by simp)
    have HB := Lib.hid hB
    clear hB b1 b2 hx
    generalize bendS pre = L at *
    generalize bendW x = m at *
    generalize pre.length = k at *
    gi_upto_region 4 with fail
    have hC1 : CellAt A.drew gB (.slice (some ⟨w.heap.size, 0, none⟩) k xs.length) := hC
    have hO1 : OwnL encI 1 A.drew w.heap.size 3 (.slice (some ⟨w.heap.size, 0, none⟩) L.length xs.length) L := by rw [hbl]; exact World.ownsRow.drew hO
    have hbA : Below A.heap.size A A.drew := (Below.refl _ _).drew
    have hAs : A.drew.heap.size = A.heap.size := rfl
    have hgBA : gB < A.drew.heap.size := World.block_lt_of_cell? _ _ hC1.1
    refine drawn_in (S := fun W => RowAt W Bx 16 89 (sd x.1.up x.2.up)) (by rintro ⟨_, _, h⟩; exact h) (by rfl) (by kernel_rfl) hX.drew1 (fun hHeld => ?_)
    clear hX hC hO
    generalize hAd : A.drew = A1 at *
    refine wpAnyH_take (i := 1) (oi := _) (v := .agg (vec 16 (sd x.1.up x.2.up))) rfl (by kernel_rfl) (by kernel_rfl) (by kernel_rfl) (fun _ _ _ h => h) (yieldsIf_load_mid (by rfl) _ _ rfl _ _ rfl _ _ ((fun w h => h.range)) Tryz.underlying89 rfl (size_side (sd x.1.up x.2.up))) hHeld ?_
    try simp only [Act.put, List.setIfInBounds_toArray, List.set_cons_zero, List.set_cons_succ, List.getElem_toArray, List.getElem_cons_succ, List.getElem_cons_zero]
    refine wpAnyH_ready (rs := [0, 2]) (by kernel_rfl) (by simp) ?_
    refine AllReadyH.cons (o := _) rfl (fun K hK => ?_) (AllReadyH.cons (o := _) rfl (fun K hK => ?_) AllReadyH.nil)
    · have hcell := hC1.1
      go_simp
      refine hK.out _ _ hHeld (fun hHeld => ?_)
      clear hK K
      try simp only [Act.put, List.setIfInBounds_toArray, List.set_cons_zero, List.set_cons_succ, List.getElem_toArray, List.getElem_cons_succ, List.getElem_cons_zero]
      clear hcell
      refine wpAnyH_ready (rs := [2]) (by kernel_rfl) (by simp) ?_
      refine AllReadyH.cons (o := _) rfl (fun K hK => ?_) AllReadyH.nil
      go_simp
      refine (M _).mono ?_; rintro e w5 ⟨rfl, hb5⟩
      go_wp2_with fail
      have hC2 := hC1.below hgBA hb5
      have hO2 := rows_below hO1 hb5
      have hb2 : Below A.heap.size A w5 := hbA.trans (hb5.mono (by omega))
      have hgB5 : gB < w5.heap.size := World.block_lt_of_cell? _ _ hC2.1
      have hz5 := hb2.size
      refine hK.out _ _ (hHeld.below hb5) (fun hHeld => ?_)
      clear hK K
      try simp only [Act.put, List.setIfInBounds_toArray, List.set_cons_zero, List.set_cons_succ, List.getElem_toArray, List.getElem_cons_succ, List.getElem_cons_zero]
      clear M hC1 hO1 hb5
      refine wpAnyH_ready (rs := [3]) (by kernel_rfl) (by simp) ?_
      refine AllReadyH.cons (o := _) rfl (fun K hK => ?_) AllReadyH.nil
      go_simp
      have hC3 := hC2.below hgB5 ((Below.refl w5.heap.size w5).alloc (Nat.le_refl _) (.cells #[.int .i64 m] 3))
      have hO3 : OwnL encI 1 (w5.alloc (.cells #[.int .i64 m] 3)) w.heap.size 3 (.slice (some ⟨w.heap.size, 0, none⟩) L.length xs.length) L := World.ownsRow.alloc hO2 _
      have hb3 := hb2.alloc hb2.size (.cells #[.int .i64 m] 3)
      refine hK.out _ _ (hHeld.alloc _) (fun hHeld => ?_)
      clear hK K
      try simp only [Act.put, List.setIfInBounds_toArray, List.set_cons_zero, List.set_cons_succ, List.getElem_toArray, List.getElem_cons_succ, List.getElem_cons_zero]
      clear hC2 hO2 hb2
      refine wpAnyH_ready (rs := [4]) (by kernel_rfl) (by simp) ?_
      refine AllReadyH.cons (o := _) rfl (fun K hK => ?_) AllReadyH.nil
      rw [if_pos (by rfl)]
      refine wp_append_fitL tyI encI_ok rfl (xs := L) (ys := [m]) (by rw [hbl]; rfl) rfl hO3 (litL_range (en := encI) w5 m _) (by rw [hbl]; simp; omega) ?_; intro w6 ho6 hgr6
      have hX6 := row_grown hHeld hgr6 (by omega)
      have hC6 := cell_grown hC3 hgr6 (by omega)
      have hB6 := hb3.mono (show w.heap.size ≤ A.heap.size by omega)
      have hL6 : (L ++ [m]).length = k + 1 := by simp [hbl]
      rw [hL6] at ho6 ⊢
      refine hK.out _ _ hX6 (fun hHeld => ?_)
      clear hK K
      try simp only [Act.put, List.setIfInBounds_toArray, List.set_cons_zero, List.set_cons_succ, List.getElem_toArray, List.getElem_cons_succ, List.getElem_cons_zero]
      refine wpAnyH_ready (rs := [5]) (by kernel_rfl) (by simp) ?_
      refine AllReadyH.cons (o := _) rfl (fun K hK => ?_) AllReadyH.nil
      have hcell := hC6.1
      have hfree := hC6.2
      go_simp
      refine hK.out _ _ (hHeld.other _ _ (by simp; omega)) (fun hHeld => ?_)
      clear hK K
      try simp only [Act.put, List.setIfInBounds_toArray, List.set_cons_zero, List.set_cons_succ, List.getElem_toArray, List.getElem_cons_succ, List.getElem_cons_zero]
      refine wpAnyH_done (by kernel_rfl) ?_ _
      gi_wp2
      have hK6 : KeepsOthers A w6 := (keeps_below hb3).trans (keeps_grown hgr6 hO3)
      have hg6 : w6.heap[g]? = A.heap[g]? := (hgr6.block g (by simp; omega) (fun e => by have := Option.some.inj e; omega)).trans (hb3.block g (by omega))
      have hBl6 : Below w.heap.size w w6 := (HB.out.trans hB6).grown hgr6 (by simp; omega) (fun k e => by cases e; exact Nat.le_refl _)
      refine ⟨(hK6.trans (KeepsOthers.setCell _ _ _)).from _, (Below.heap_setCell _ _ _ g (by simp; omega)).trans hg6, ?_, ?_, hBl6.setCell (p := ⟨gB, 0, none⟩) (by simp; omega) _⟩
      · rw [HLN.out]; exact hC6.set _
      · rw [HLN.out, HN.out]; exact rows_heap ho6 (Below.heap_setCell _ _ _ _ (by simp; omega))
    · go_simp
      refine (M _).mono ?_; rintro e w5 ⟨rfl, hb5⟩
      go_wp2_with fail
      have hC2 := hC1.below hgBA hb5
      have hO2 := rows_below hO1 hb5
      have hb2 : Below A.heap.size A w5 := hbA.trans (hb5.mono (by omega))
      have hgB5 : gB < w5.heap.size := World.block_lt_of_cell? _ _ hC2.1
      have hz5 := hb2.size
      refine hK.out _ _ (hHeld.below hb5) (fun hHeld => ?_)
      clear hK K
      try simp only [Act.put, List.setIfInBounds_toArray, List.set_cons_zero, List.set_cons_succ, List.getElem_toArray, List.getElem_cons_succ, List.getElem_cons_zero]
      clear M hC1 hO1 hb5
      refine wpAnyH_ready (rs := [0, 3]) (by kernel_rfl) (by simp) ?_
      refine AllReadyH.cons (o := _) rfl (fun K hK => ?_) (AllReadyH.cons (o := _) rfl (fun K hK => ?_) AllReadyH.nil)
      · have hcell := hC2.1
        go_simp
        refine hK.out _ _ hHeld (fun hHeld => ?_)
        clear hK K
        try simp only [Act.put, List.setIfInBounds_toArray, List.set_cons_zero, List.set_cons_succ, List.getElem_toArray, List.getElem_cons_succ, List.getElem_cons_zero]
        clear hcell
        refine wpAnyH_ready (rs := [3]) (by kernel_rfl) (by simp) ?_
        refine AllReadyH.cons (o := _) rfl (fun K hK => ?_) AllReadyH.nil
        go_simp
        have hC3 := hC2.below hgB5 ((Below.refl w5.heap.size w5).alloc (Nat.le_refl _) (.cells #[.int .i64 m] 3))
        have hO3 : OwnL encI 1 (w5.alloc (.cells #[.int .i64 m] 3)) w.heap.size 3 (.slice (some ⟨w.heap.size, 0, none⟩) L.length xs.length) L := World.ownsRow.alloc hO2 _
        have hb3 := hb2.alloc hb2.size (.cells #[.int .i64 m] 3)
        refine hK.out _ _ (hHeld.alloc _) (fun hHeld => ?_)
        clear hK K
        try simp only [Act.put, List.setIfInBounds_toArray, List.set_cons_zero, List.set_cons_succ, List.getElem_toArray, List.getElem_cons_succ, List.getElem_cons_zero]
        clear hC2 hO2 hb2
        refine wpAnyH_ready (rs := [4]) (by kernel_rfl) (by simp) ?_
        refine AllReadyH.cons (o := _) rfl (fun K hK => ?_) AllReadyH.nil
        rw [if_pos (by rfl)]
        refine wp_append_fitL tyI encI_ok rfl (xs := L) (ys := [m]) (by rw [hbl]; rfl) rfl hO3 (litL_range (en := encI) w5 m _) (by rw [hbl]; simp; omega) ?_; intro w6 ho6 hgr6
        have hX6 := row_grown hHeld hgr6 (by omega)
        have hC6 := cell_grown hC3 hgr6 (by omega)
        have hB6 := hb3.mono (show w.heap.size ≤ A.heap.size by omega)
        have hL6 : (L ++ [m]).length = k + 1 := by simp [hbl]
        rw [hL6] at ho6 ⊢
        refine hK.out _ _ hX6 (fun hHeld => ?_)
        clear hK K
        try simp only [Act.put, List.setIfInBounds_toArray, List.set_cons_zero, List.set_cons_succ, List.getElem_toArray, List.getElem_cons_succ, List.getElem_cons_zero]
        refine wpAnyH_ready (rs := [5]) (by kernel_rfl) (by simp) ?_
        refine AllReadyH.cons (o := _) rfl (fun K hK => ?_) AllReadyH.nil
        have hcell := hC6.1
        have hfree := hC6.2
        go_simp
        refine hK.out _ _ (hHeld.other _ _ (by simp; omega)) (fun hHeld => ?_)
        clear hK K
        try simp only [Act.put, List.setIfInBounds_toArray, List.set_cons_zero, List.set_cons_succ, List.getElem_toArray, List.getElem_cons_succ, List.getElem_cons_zero]
        refine wpAnyH_done (by kernel_rfl) ?_ _
        gi_wp2
        have hK6 : KeepsOthers A w6 := (keeps_below hb3).trans (keeps_grown hgr6 hO3)
        have hg6 : w6.heap[g]? = A.heap[g]? := (hgr6.block g (by simp; omega) (fun e => by have := Option.some.inj e; omega)).trans (hb3.block g (by omega))
        have hBl6 : Below w.heap.size w w6 := (HB.out.trans hB6).grown hgr6 (by simp; omega) (fun k e => by cases e; exact Nat.le_refl _)
        refine ⟨(hK6.trans (KeepsOthers.setCell _ _ _)).from _, (Below.heap_setCell _ _ _ g (by simp; omega)).trans hg6, ?_, ?_, hBl6.setCell (p := ⟨gB, 0, none⟩) (by simp; omega) _⟩
        · rw [HLN.out]; exact hC6.set _
        · rw [HLN.out, HN.out]; exact rows_heap ho6 (Below.heap_setCell _ _ _ _ (by simp; omega))
      · go_simp
        have hC3 := hC2.below hgB5 ((Below.refl w5.heap.size w5).alloc (Nat.le_refl _) (.cells #[.int .i64 m] 3))
        have hO3 : OwnL encI 1 (w5.alloc (.cells #[.int .i64 m] 3)) w.heap.size 3 (.slice (some ⟨w.heap.size, 0, none⟩) L.length xs.length) L := World.ownsRow.alloc hO2 _
        have hb3 := hb2.alloc hb2.size (.cells #[.int .i64 m] 3)
        refine hK.out _ _ (hHeld.alloc _) (fun hHeld => ?_)
        clear hK K
        try simp only [Act.put, List.setIfInBounds_toArray, List.set_cons_zero, List.set_cons_succ, List.getElem_toArray, List.getElem_cons_succ, List.getElem_cons_zero]
        clear hC2 hO2 hb2
        refine wpAnyH_ready (rs := [0]) (by kernel_rfl) (by simp) ?_
        refine AllReadyH.cons (o := _) rfl (fun K hK => ?_) AllReadyH.nil
        have hcell := hC3.1
        go_simp
        refine hK.out _ _ hHeld (fun hHeld => ?_)
        clear hK K
        try simp only [Act.put, List.setIfInBounds_toArray, List.set_cons_zero, List.set_cons_succ, List.getElem_toArray, List.getElem_cons_succ, List.getElem_cons_zero]
        clear hcell
        refine wpAnyH_ready (rs := [4]) (by kernel_rfl) (by simp) ?_
        refine AllReadyH.cons (o := _) rfl (fun K hK => ?_) AllReadyH.nil
        rw [if_pos (by rfl)]
        refine wp_append_fitL tyI encI_ok rfl (xs := L) (ys := [m]) (by rw [hbl]; rfl) rfl hO3 (litL_range (en := encI) w5 m _) (by rw [hbl]; simp; omega) ?_; intro w6 ho6 hgr6
        have hX6 := row_grown hHeld hgr6 (by omega)
        have hC6 := cell_grown hC3 hgr6 (by omega)
        have hB6 := hb3.mono (show w.heap.size ≤ A.heap.size by omega)
        have hL6 : (L ++ [m]).length = k + 1 := by simp [hbl]
        rw [hL6] at ho6 ⊢
        refine hK.out _ _ hX6 (fun hHeld => ?_)
        clear hK K
        try simp only [Act.put, List.setIfInBounds_toArray, List.set_cons_zero, List.set_cons_succ, List.getElem_toArray, List.getElem_cons_succ, List.getElem_cons_zero]
        refine wpAnyH_ready (rs := [5]) (by kernel_rfl) (by simp) ?_
        refine AllReadyH.cons (o := _) rfl (fun K hK => ?_) AllReadyH.nil
        have hcell := hC6.1
        have hfree := hC6.2
        go_simp
        refine hK.out _ _ (hHeld.other _ _ (by simp; omega)) (fun hHeld => ?_)
        clear hK K
        try simp only [Act.put, List.setIfInBounds_toArray, List.set_cons_zero, List.set_cons_succ, List.getElem_toArray, List.getElem_cons_succ, List.getElem_cons_zero]
        refine wpAnyH_done (by kernel_rfl) ?_ _
        gi_wp2
        have hK6 : KeepsOthers A w6 := (keeps_below hb3).trans (keeps_grown hgr6 hO3)
        have hg6 : w6.heap[g]? = A.heap[g]? := (hgr6.block g (by simp; omega) (fun e => by have := Option.some.inj e; omega)).trans (hb3.block g (by omega))
        have hBl6 : Below w.heap.size w w6 := (HB.out.trans hB6).grown hgr6 (by simp; omega) (fun k e => by cases e; exact Nat.le_refl _)
        refine ⟨(hK6.trans (KeepsOthers.setCell _ _ _)).from _, (Below.heap_setCell _ _ _ g (by simp; omega)).trans hg6, ?_, ?_, hBl6.setCell (p := ⟨gB, 0, none⟩) (by simp; omega) _⟩
        · rw [HLN.out]; exact hC6.set _
        · rw [HLN.out, HN.out]; exact rows_heap ho6 (Below.heap_setCell _ _ _ _ (by simp; omega))
  case done =>
    rintro D W hD ⟨hC, hO, hB⟩ hK
    have hcell := hC.1
    have HB := Lib.hid hB
    have HO := Lib.hid hO
    have HSL := Lib.hid (sidesL_len ys xs.length)
    clear hB hO
    go_wp2
    refine ⟨by simp, .inl ⟨_, _, rfl, run_takeDeferred hK, ?_⟩⟩
    exact ⟨_, results_tmp rfl _ _ _, HB.out.trans (below_put (by omega) hK), _, rfl, rows_heap HO.out (World.putObj_heap_other (by omega))⟩
  case stop =>
    rintro D c pre x W hD hx h hK
    exact h.elim

end Go.Proofs.YtdpakhggpgdgbaaGreat
/- Out of the text PolySay: what the draws of polygons need. -/
namespace Go.Proofs.YtdpakhggpgdgbaaGreat
set_option maxRecDepth 20000
open Go.ChangeShapes Go.WideShapes Go.ChangeAt Go.RowKit
set_option linter.unusedVariables false
set_option linter.unusedSimpArgs false
/-- The corners as vectors. -/
def PQ (xs : List V) : Nat → Q2 := fun i => qv (at' xs i).up
theorem qv_same {a b : Nat → Int} (h : ∀ j, j < 8 → a j = b j) : qv a = qv b := by
  have h0 := h 0 (by omega); have h1 := h 1 (by omega); have h2 := h 2 (by omega); have h3 := h 3 (by omega)
  have h4 := h 4 (by omega); have h5 := h 5 (by omega); have h6 := h 6 (by omega); have h7 := h 7 (by omega)
  unfold qv rea ima
  rw [h0, h1, h2, h3, h4, h5, h6, h7]
theorem qv_subV (a b : V) : qv (subV a b).up = qv a.up - qv b.up := by
  rw [← qv_sub]
  refine qv_same fun j hj => ?_
  have h := pt_sub a b
  simp only [pt, Value.agg.injEq] at h
  exact vec_inj h j hj
theorem sum_range (f : Nat → Int) : ∀ n, ((List.range n).map f).sum = sumI f n
  | 0 => rfl
  | n + 1 => by
    rw [List.range_succ, List.map_append, List.sum_append, sum_range f n]
    show sumI f n + (f n + 0) = sumI f n + f n
    omega
theorem windS_is (xs : List V) : windS (sidesL xs xs.length) = wind0 (PQ xs) xs.length := by
  unfold windS sidesL wind0
  rw [List.map_map, sum_range]
  rfl
theorem meetL_is (xs : List V) : meetL xs = meet0 (PQ xs) xs.length := by
  unfold meetL sidesL meet0
  rw [List.any_map]
  rfl
theorem accF_is (xs : List V) : accF (sidesL xs xs.length) = areaF (fun i => (at' xs i).up) xs.length := by
  funext j
  unfold accF sidesL areaF sumF
  rw [List.map_map, sum_range]
  rfl
theorem any_same {n : Nat} {f g : Nat → Bool} (h : ∀ i, i < n → f i = g i) : (List.range n).any f = (List.range n).any g := by
  refine Bool.eq_iff_iff.2 ?_
  rw [List.any_eq_true, List.any_eq_true]
  constructor
  · rintro ⟨i, hi, e⟩; exact ⟨i, hi, by rw [← h i (List.mem_range.1 hi)]; exact e⟩
  · rintro ⟨i, hi, e⟩; exact ⟨i, hi, by rw [h i (List.mem_range.1 hi)]; exact e⟩
theorem meet0_same {P Q : Nat → Q2} {n : Nat} (h : ∀ i, i < n → P i = Q i) : meet0 P n = meet0 Q n :=
  any_same fun i hi => by rw [h i hi, h _ (Nat.mod_lt _ (by omega))]
theorem wind0_same {P Q : Nat → Q2} {n : Nat} (h : ∀ i, i < n → P i = Q i) : wind0 P n = wind0 Q n :=
  sm_same fun i hi => by rw [h i hi, h _ (Nat.mod_lt _ (by omega))]
theorem PQ_steps (xs : List V) {i : Nat} (h : i < xs.length) : PQ (stepsQ xs xs.length) i = stq (PQ xs) xs.length i := by
  unfold PQ stq
  rw [at_stepsQ xs h, qv_subV]
  rfl
theorem at_around (xs : List V) (c : V) {i : Nat} (h : i < xs.length) : at' (aroundL xs c) i = subV (at' xs i) c := by
  unfold at' aroundL
  rw [List.getElem?_map, List.getElem?_eq_getElem h]
  rfl
theorem PQ_around (xs : List V) (c : V) {i : Nat} (h : i < xs.length) : PQ (aroundL xs c) i = PQ xs i - qv c.up := by
  unfold PQ
  rw [at_around xs c h, qv_subV]

def okB (P : Nat → Q2) (n : Nat) : Bool := (List.range n).all fun i => !onS (stp' P n ((i + n - 1) % n)) (stp' P n i)
theorem okB_iff {P : Nat → Q2} {n : Nat} : okB P n = true ↔ okP P n := by
  unfold okB okP
  rw [List.all_eq_true]
  constructor
  · intro h i hi
    have := h i (List.mem_range.2 hi)
    exact okS_on.2 (by simpa using this)
  · intro h i hi
    rw [okS_on.1 (h i (List.mem_range.1 hi))]; rfl
theorem okB_meet (P : Nat → Q2) (n : Nat) : okB P n = !meet0 (stq P n) n := by
  refine Bool.eq_iff_iff.2 ?_
  rw [okB_iff, okP_meet]
  cases meet0 (stq P n) n <;> simp
def turnsO (xs : List V) : Option Int := if polyOk xs && okB (PQ xs) xs.length then some (turnZ (PQ xs) xs.length) else none
def bendsO (xs : List V) : Option (List Int) := if polyOk xs then some ((List.range xs.length).map (bnd (PQ xs) xs.length)) else none
def convB (xs : List V) : Bool := polyOk xs && okB (PQ xs) xs.length && (List.range xs.length).all fun k => decide (bnd (PQ xs) xs.length k = turnZ (PQ xs) xs.length)
def onB (xs : List V) (c : V) : Bool := polyOk xs && smallF 100 c.up && onP (PQ xs) (qv c.up) xs.length
def windO (xs : List V) (c : V) : Option Int := if polyOk xs && smallF 100 c.up && !onP (PQ xs) (qv c.up) xs.length then some (windZ (PQ xs) (qv c.up) xs.length) else none
def areaV (xs : List V) : Nat → Int := areaF (fun i => (at' xs i).up) xs.length
/-- The program's turns. -/
theorem turns_way {xs : List V} (h : polyOk xs = true) : windL (stepsQ xs xs.length) = turnsO xs := by
  have hl := stepsQ_len xs xs.length
  have hm : meet0 (PQ (stepsQ xs xs.length)) xs.length = meet0 (stq (PQ xs) xs.length) xs.length := meet0_same fun i hi => PQ_steps xs hi
  have hw : wind0 (PQ (stepsQ xs xs.length)) xs.length = wind0 (stq (PQ xs) xs.length) xs.length := wind0_same fun i hi => PQ_steps xs hi
  unfold windL turnsO
  rw [windS_is, meetL_is, hl, hm, hw, h, okB_meet]
  cases hc : meet0 (stq (PQ xs) xs.length) xs.length
  · have := okP_meet.2 hc
    rw [← turn_wind0 this]; rfl
  · rfl
theorem bends_way (xs : List V) : bendS (sidesL (stepsQ xs xs.length) xs.length) = (List.range xs.length).map (bnd (PQ xs) xs.length) := by
  have hl := stepsQ_len xs xs.length
  unfold bendS sidesL
  rw [List.map_map]
  refine List.map_congr_left fun k hk => ?_
  have hk := List.mem_range.1 hk
  show sgR (cr (PQ (stepsQ xs xs.length) k) (PQ (stepsQ xs xs.length) ((k + 1) % (stepsQ xs xs.length).length))) = _
  rw [hl, bnd_stq _ hk, PQ_steps xs hk, PQ_steps xs (Nat.mod_lt _ (by omega))]
theorem on_way (xs : List V) (c : V) : meetL (aroundL xs c) = onP (PQ xs) (qv c.up) xs.length := by
  rw [meetL_is, around_len]
  unfold meet0 onP
  exact any_same fun i hi => by rw [PQ_around xs c hi, PQ_around xs c (Nat.mod_lt _ (by omega))]
theorem wind_way (xs : List V) (c : V) : windS (sidesL (aroundL xs c) (aroundL xs c).length) = windZ (PQ xs) (qv c.up) xs.length := by
  rw [windS_is, around_len]
  unfold wind0 windZ
  exact sm_same fun i hi => by rw [PQ_around xs c hi, PQ_around xs c (Nat.mod_lt _ (by omega))]
theorem aroundL_small {xs : List V} {c : V} (hs : ∀ x ∈ xs, ∀ j, j < 8 → -((100 : Nat) : Int) ≤ x.up j ∧ x.up j ≤ ((100 : Nat) : Int)) (hc : ∀ j, j < 8 → -((100 : Nat) : Int) ≤ c.up j ∧ c.up j ≤ ((100 : Nat) : Int)) : ∀ y ∈ aroundL xs c, ∀ j, j < 8 → -((200 : Nat) : Int) ≤ y.up j ∧ y.up j ≤ ((200 : Nat) : Int) := fun y hy => by
  unfold aroundL at hy
  obtain ⟨x, hx, rfl⟩ := List.mem_map.1 hy
  exact sub_small (M := 100) (hs x hx) hc
/-- What is asked of a convex polygon. -/
theorem convB_asked (xs : List V) : convB xs = (polyOk xs && okB (PQ xs) xs.length && decide (3 ≤ xs.length) && (List.range xs.length).all (fun k => decide (bnd (PQ xs) xs.length k = bnd (PQ xs) xs.length 0)) && decide (bnd (PQ xs) xs.length 0 = turnZ (PQ xs) xs.length) && decide (turnZ (PQ xs) xs.length * turnZ (PQ xs) xs.length = 1)) := by
  unfold convB
  cases h : polyOk xs
  · rfl
  · cases hk : okB (PQ xs) xs.length
    · rfl
    · have hs := convex_same (P := PQ xs) (polyOk_len h).1 (okB_iff.1 hk)
      refine Bool.eq_iff_iff.2 ?_
      simp only [Bool.and_eq_true, List.all_eq_true, List.mem_range, decide_eq_true_iff, true_and]
      constructor
      · intro h1
        obtain ⟨a, b, c, d⟩ := hs.1 h1
        exact ⟨⟨⟨a, b⟩, c⟩, d⟩
      · rintro ⟨⟨⟨a, b⟩, c⟩, d⟩
        exact hs.2 ⟨a, b, c, d⟩

end Go.Proofs.YtdpakhggpgdgbaaGreat
