/-
  Contracts of impl's single circles.
  The library's insertion sort lies in this program, at circles; what it is asked.
-/
import Derived.Test.YtdgbpdeimckbfaaM03
import Derived.Test.YtdgbpdeimckbfaaM01
import Derived.Deep.RegionHeld
import Derived.Deep.RegionWith
import Derived.Shelf.SlSortCmp.KitK
import Derived.Shelf.SlLaysF0
import Derived.Sort.WalkB2
import Derived.Sort.WalkB12
import Derived.Deep.LoopGhost
/- Contracts of impl's single circles. -/
namespace Go.Proofs.Ytdgbpdeimckbfaa
set_option maxRecDepth 20000
open Go.ChangeShapes Go.WideShapes Go.ChangeAt Go.RowKit
set_option linter.unusedVariables false
set_option linter.unusedSimpArgs false

theorem size_wheel (c : Wh) : (Try.prog.info? 125).map (·.size) = some (enc c).length := by rw [enc_length]; exact info_wheel
theorem size_circle (c : Wh) : (Try.prog.info? 94).map (·.size) = some (enc c).length := by rw [enc_length]; exact info_circle
theorem size_exact8 (f : Nat → Int) : (Try.prog.info? 92).map (·.size) = some (lst 8 f).length := by rw [lst_length]; exact info_exact
theorem size_cyc8 (f : Nat → Int) : (Try.prog.info? 36).map (·.size) = some (lst 8 f).length := by rw [lst_length]; exact info_cyc
/-- One circle in a box, and a row of zeros. -/
def boxC (w : World) (c : Wh) (n : Nat) (O : TypeId) : World := (w.alloc (.cells (vec 9 (wf c)) 94)).alloc (.cells (vec n nul) O)
theorem boxC_facts (w : World) (c : Wh) (n : Nat) (O : TypeId) : RowAt (boxC w c n O) w.heap.size 9 94 (wf c) ∧ RowAt (boxC w c n O) (w.heap.size + 1) n O nul ∧ Below w.heap.size w (boxC w c n O) :=
  ⟨(RowAt.newAt rfl rfl).alloc _, RowAt.newAt rfl (by simp), ((Below.refl _ _).alloc (Nat.le_refl _) _).alloc (by simp) _⟩

/-! The calculations, in radii. -/
theorem pt_tV (a : V) {t : Nat} (ht : t ≤ 23) : pt (trn a.up t) = pt (tV t a).up := pt_same fun j hj => by rw [← tV_trn a ht, up_dn _ j hj]
theorem inR_bound {a : V} (h : okv a = true) : InR a.up := okc_inR h
theorem turnedV (a : V) (t : Nat) (ht : t ≤ 23) (ha : okv a = true) (w : World) :
    Calls Try.prog 98 #[pt a.up, .int .i64 t] w fun e w' => e = .returned (pt (tV t a).up) ∧ Below w.heap.size w w' := by
  rw [← pt_tV a ht]; exact turned_any a.up t ht (inR_bound ha) w
theorem timesV (a b : V) (ha : okv a = true) (hb : okv b = true) (w : World) :
    Calls Try.prog 166 #[pt a.up, pt b.up] w fun e w' => e = .returned (pt (prV a b).up) ∧ Below w.heap.size w w' := by
  have e : pt (prd a.up b.up) = pt (prV a b).up := pt_same fun j hj => (up_dn _ j hj).symm
  rw [← e]; exact times_any a.up b.up (inR_bound ha) (inR_bound hb) w
def Big (a : V) (B : Int) : Prop := ∀ j, j < 8 → -B ≤ a.up j ∧ a.up j ≤ B
theorem big_ok {a : V} (h : okv a = true) : Big a 1000000 := fun j hj => inR_bound h j hj
theorem Big.mono {a : V} {B C : Int} (h : Big a B) (hBC : B ≤ C) : Big a C := fun j hj => by have := h j hj; omega
theorem Big.add {a b : V} {B C : Int} (h : Big a B) (k : Big b C) : Big (V.add a b) (B + C) := fun j hj => by
  have h1 := h j hj
  have h2 := k j hj
  rw [add_up]
  show -(B + C) ≤ a.up j + b.up j ∧ a.up j + b.up j ≤ B + C
  omega
theorem big_zero : Big V.zero 0 := fun j hj => by rw [zero_up]; exact ⟨Int.le_refl _, Int.le_refl _⟩
theorem trn_big {a : Nat → Int} (h : InR a) (t : Nat) (j : Nat) (hj : j < 8) : -4000000 ≤ trn a t j ∧ trn a t j ≤ 4000000 := by
  have hp : ∀ k, -1000000 ≤ tpow a t 8 k ∧ tpow a t 8 k ≤ 1000000 := fun k => by
    unfold tpow
    split
    · rename_i hk; exact h _ hk
    · omega
  unfold trn red
  have h1 := hp j; have h2 := hp (j + 4); have h3 := hp (j + 8); have h4 := hp (j + 12); have h5 := hp (j + 16); have h6 := hp (j + 20)
  split <;> omega
theorem big_tV {a : V} (h : okv a = true) {t : Nat} (ht : t ≤ 23) : Big (tV t a) 4000000 := fun j hj => by
  rw [← tV_trn a ht, up_dn _ j hj]; exact trn_big (inR_bound h) t j hj

theorem plus_big (a b : Nat → Int) (ha : ∀ j, j < 8 → -1000000000000 ≤ a j ∧ a j ≤ 1000000000000) (hb : ∀ j, j < 8 → -1000000000000 ≤ b j ∧ b j ≤ 1000000000000) (w : World) :
    Calls Try.prog 82 #[pt a, pt b] w fun e w' => e = .returned (pt (add a b)) ∧ Below w.heap.size w w' := by
  unfold pt
  have sa := vec_size 8 a
  have sb := vec_size 8 b
  go_enter Try.func82, Try.ntmps82
  go_wp2_with fail
  go_loopw [5, 6] (fun _ i wr => ∃ k : Nat, k ≤ 8 ∧ i = .int .i64 k ∧ RowAt wr w.heap.size 8 92 (mix k (add a b) a) ∧ RowAt wr (w.heap.size + 1) 8 92 b ∧ RowAt wr (w.heap.size + 1 + 1) 8 92 (fun _ => 0) ∧ Below w.heap.size w wr) (fun _ i _ => 8 - (intOf i).toNat)
  case atStart => exact ⟨0, Nat.zero_le _, rfl, by rw [mix_zero]; exact ((RowAt.newAt rfl rfl).alloc _).alloc _, (RowAt.newAt rfl (by simp)).alloc _, RowAt.newAt zero8 (by simp), (((Below.refl _ _).alloc (Nat.le_refl _) _).alloc (by simp) _).alloc (by simp; omega) _⟩
  case round =>
    obtain ⟨k, hk, rfl, hA, hB, hO, hbel⟩ := hrel
    by_cases hlt : k < 8
    · have cA := hA.cell hlt
      have fA := hA.free k
      have cB := hB.cell hlt
      rw [mix_at] at cA
      have hlt' : (k : Int) < 8 := by omega
      have hk0 : (0 : Int) ≤ (k : Int) := by omega
      have b1 := ha k hlt
      have b2 := hb k hlt
      have hA2 := hA.set hlt (add a b k)
      rw [mix_step] at hA2
      have HA := Lib.hid hA2
      have HB := Lib.hid (hB.other ⟨w.heap.size, k, none⟩ (.int .i64 (a k + b k)) (by simp))
      have HO := Lib.hid (hO.other ⟨w.heap.size, k, none⟩ (.int .i64 (a k + b k)) (by simp; try omega))
      have HL := Lib.hid ((hbel.setCell (p := ⟨w.heap.size, k, none⟩) (Nat.le_refl _) (.int .i64 (a k + b k))))
      clear hA hA2 hB hO hbel
      go_wp2_with fail
      go_still_tail 8, (by kernel_rfl)
      go_wp2_with fail
      go_roundw
      case rel => exact ⟨k + 1, by omega, by go_num, HA.out, HB.out, HO.out, HL.out.drew⟩
      case measure => simp [intOf]; omega
    · obtain rfl : k = 8 := by omega
      have HA := Lib.hid hA; have HO := Lib.hid hO; have HL := Lib.hid hbel
      clear hA hB hO hbel
      go_wp2_with (first | (refine load_row rfl rfl rfl HA.out Try.underlying92 rfl info_exact ?_) | (refine store_row rfl rfl rfl rfl HO.out info_exact ?_))
      refine bodyPost_ret (results_row rfl rfl HO.out.setRow Try.underlying92 rfl info_exact) rfl ?_
      exact ⟨by rw [vec_mix], below_setRow HL.out (by omega) _⟩
theorem plusV (a b : V) (ha : Big a 1000000000000) (hb : Big b 1000000000000) (w : World) :
    Calls Try.prog 82 #[pt a.up, pt b.up] w fun e w' => e = .returned (pt (V.add a b).up) ∧ Below w.heap.size w w' := by
  rw [add_up]; exact plus_big a.up b.up ha hb w
theorem toldV (a : V) (w : World) :
    Calls Try.prog 84 #[pt a.up] w fun e w' => e = .returned (.tuple #[pt (if okv a then a else V.zero).up, .bool (okv a)]) ∧ Below w.heap.size w w' := by
  refine (told_two a.up w).mono ?_
  rintro e w' ⟨rfl, h⟩
  refine ⟨?_, h⟩
  have : okc a.up = okv a := rfl
  rw [this]
  by_cases h : okv a = true
  · rw [h]; rfl
  · have h : okv a = false := by simpa using h
    rw [h]; simp only [Bool.false_eq_true, if_false, zero_up]

/-! A turn, so many times. -/
theorem turnTimes_any (t : Nat) (n : Int) (ht : t ≤ 23) (hn : -1000000 ≤ n ∧ n ≤ 1000000) (w : World) :
    Calls Try.prog 123 #[.int .i64 t, .int .i64 n] w fun e w' => e = .returned (.int .i64 (tm t n)) ∧ w = w' := by
  have hb : -1000000000 ≤ (t : Int) * n ∧ (t : Int) * n ≤ 1000000000 := by
    have h1 : (t : Int) ≤ 23 := by omega
    have h0 : (0 : Int) ≤ (t : Int) := by omega
    constructor
    · have := Int.mul_le_mul_of_nonneg_left hn.1 h0
      omega
    · have := Int.mul_le_mul_of_nonneg_left hn.2 h0
      omega
  have C := fun w => within_any ((t : Int) * n) (by omega) (by omega) w
  have e : ((t : Int) * n) % 24 = ((tm t n : Nat) : Int) := by unfold tm; omega
  rw [e] at C
  clear e
  have e2 : IntKind.i64.wrap ((t : Int) * n) = (t : Int) * n := by rw [IntKind.wrap_i64]; omega
  generalize tm t n = q at *
  clear hb ht hn
  go_enter Try.func123, Try.ntmps123
  go_wp2_with fail
  refine (C _).mono ?_; rintro e w' ⟨rfl, rfl⟩
  go_wp2_with fail
  go_ret
  exact ⟨rfl, rfl⟩

/-- A speed of a design. -/
theorem inS_bound {s : Int} (h : inS s = true) : -1000 ≤ s ∧ s ≤ 1000 := by
  unfold inS at h
  simpa using h

set_option maxHeartbeats 1000000 in
theorem at_any (c : Wh) (t : Nat) (ht : t ≤ 23) (hs : inS c.s = true) (hr : okv c.r = true) (w : World) :
    Calls Try.prog 83 #[wh c, .int .i64 t] w fun e w' => e = .returned (pt (tV (tm t c.s) c.r).up) ∧ Below w.heap.size w w' := by
  have sb := inS_bound hs
  have T := fun w => turnTimes_any t c.s ht (by omega) w
  have hq := tm_lt t c.s
  have C := fun w => turnedV c.r (tm t c.s) hq hr w
  generalize tm t c.s = q at *
  generalize tV q c.r = r at *
  clear sb hs hr
  go_enter Try.func83, Try.ntmps83
  go_upto_region 1 with fail
  show Code.wp _ _ _ _ (boxC w c 8 92)
  obtain ⟨hA, hO, hL⟩ := boxC_facts w c 8 92
  generalize boxC w c 8 92 = W at *
  refine wp_region_held_drew (S := fun w' => RowAt w' w.heap.size 9 94 (wf c) ∧ (∃ f, RowAt w' (w.heap.size + 1) 8 92 f) ∧ Below w.heap.size w w') (by kernel_rfl) ⟨hA.drew1, ⟨_, hO.drew1⟩, hL.drew⟩ (fun hHeld => ?_)
  clear hA hO hL
  refine wpAnyH_take (i := 0) (oi := _) (v := .pointer (some ⟨w.heap.size, 1, none⟩)) rfl (by kernel_rfl) (by kernel_rfl) (by kernel_rfl) (fun _ _ _ h => h) (Or.inl ⟨by rfl, fun w h => by go_simp⟩) hHeld ?_
  try simp only [Act.put, List.setIfInBounds_toArray, List.set_cons_zero, List.set_cons_succ, List.getElem_toArray, List.getElem_cons_succ, List.getElem_cons_zero]
  refine wpAnyH_take (i := 1) (oi := _) (v := .agg (vec 8 c.r.up)) rfl (by kernel_rfl) (by kernel_rfl) (by kernel_rfl) (fun _ _ _ h => h) (yieldsIf_load_mid (by rfl) _ _ rfl _ _ rfl _ _ ((fun w h => row_radius h.1)) Try.underlying92 rfl (size_exact8 _)) hHeld ?_
  try simp only [Act.put, List.setIfInBounds_toArray, List.set_cons_zero, List.set_cons_succ, List.getElem_toArray, List.getElem_cons_succ, List.getElem_cons_zero]
  refine wpAnyH_take (i := 2) (oi := _) (v := .int .i64 t) rfl (by kernel_rfl) (by kernel_rfl) (by kernel_rfl) (fun _ _ _ h => h) (Or.inl ⟨by rfl, fun w h => by go_simp⟩) hHeld ?_
  try simp only [Act.put, List.setIfInBounds_toArray, List.set_cons_zero, List.set_cons_succ, List.getElem_toArray, List.getElem_cons_succ, List.getElem_cons_zero]
  refine wpAnyH_take (i := 3) (oi := _) (v := .pointer (some ⟨w.heap.size, 0, none⟩)) rfl (by kernel_rfl) (by kernel_rfl) (by kernel_rfl) (fun _ _ _ h => h) (Or.inl ⟨by rfl, fun w h => by go_simp⟩) hHeld ?_
  try simp only [Act.put, List.setIfInBounds_toArray, List.set_cons_zero, List.set_cons_succ, List.getElem_toArray, List.getElem_cons_succ, List.getElem_cons_zero]
  refine wpAnyH_take (i := 4) (oi := _) (v := .int .i64 c.s) rfl (by kernel_rfl) (by kernel_rfl) (by kernel_rfl) (fun _ _ _ h => h) (Or.inl ⟨by rfl, fun w h => by have hcell := row_speed h.1; go_simp⟩) hHeld ?_
  try simp only [Act.put, List.setIfInBounds_toArray, List.set_cons_zero, List.set_cons_succ, List.getElem_toArray, List.getElem_cons_succ, List.getElem_cons_zero]
  refine wpAnyH_ready (rs := [5]) (by kernel_rfl) (by simp) ?_
  refine AllReadyH.cons (o := _) rfl (fun K hK => ?_) AllReadyH.nil
  go_simp
  refine (T _).mono ?_; rintro e w1 ⟨rfl, rfl⟩
  go_wp2_with fail
  refine hK.out _ _ hHeld (fun hHeld => ?_)
  clear hK K
  try simp only [Act.put, List.setIfInBounds_toArray, List.set_cons_zero, List.set_cons_succ, List.getElem_toArray, List.getElem_cons_succ, List.getElem_cons_zero]
  refine wpAnyH_ready (rs := [6]) (by kernel_rfl) (by simp) ?_
  refine AllReadyH.cons (o := _) rfl (fun K hK => ?_) AllReadyH.nil
  go_simp
  refine (C _).mono ?_; rintro e w1 ⟨rfl, hb1⟩
  go_wp2_with fail
  obtain ⟨h1, ⟨_, h2⟩, h3⟩ := hHeld
  refine hK.out _ _ ⟨h1.below hb1, ⟨_, h2.below hb1⟩, below_next h3 hb1⟩ (fun hHeld => ?_)
  clear hK K
  try simp only [Act.put, List.setIfInBounds_toArray, List.set_cons_zero, List.set_cons_succ, List.getElem_toArray, List.getElem_cons_succ, List.getElem_cons_zero]
  clear h1 h2 h3 hb1
  refine wpAnyH_ready (rs := [7]) (by kernel_rfl) (by simp) ?_
  refine AllReadyH.cons (o := _) rfl (fun K hK => ?_) AllReadyH.nil
  rw [if_pos (by rfl)]
  obtain ⟨h1, ⟨_, h2⟩, h3⟩ := hHeld
  refine store_step (f' := r.up) rfl rfl rfl h2 info_exact ?_
  have hG := h2.setRow (f' := r.up)
  have hF := below_setRow h3 (g := w.heap.size + 1) (by omega) (vec 8 r.up)
  refine hK.out _ _ ⟨h1.rowOther _ _ (by omega), ⟨_, hG⟩, hF⟩ (fun hHeld => ?_)
  clear hK K
  try simp only [Act.put, List.setIfInBounds_toArray, List.set_cons_zero, List.set_cons_succ, List.getElem_toArray, List.getElem_cons_succ, List.getElem_cons_zero]
  clear h1 h2 h3 hHeld
  refine wpAnyH_done (by kernel_rfl) ?_ _
  go_wp2_with fail
  refine bodyPost_ret (results_row rfl rfl hG Try.underlying92 rfl info_exact) rfl ?_
  exact ⟨rfl, hF⟩

set_option maxHeartbeats 1000000 in
theorem cturned_any (c : Wh) (t : Nat) (ht : t ≤ 23) (hr : okv c.r = true) (w : World) :
    Calls Try.prog 206 #[wh c, .int .i64 t] w fun e w' => e = .returned (wh (turnW t c)) ∧ Below w.heap.size w w' := by
  have C := fun w => turnedV c.r t ht hr w
  have e1 : wh (turnW t c) = wh ⟨c.s, dn (tV t c.r).up⟩ := by rw [dn_up]; rfl
  rw [e1]
  generalize tV t c.r = r at *
  go_enter Try.func206, Try.ntmps206
  go_upto_region 1 with fail
  show Code.wp _ _ _ _ (boxC w c 9 94)
  obtain ⟨hA, hO, hL⟩ := boxC_facts w c 9 94
  generalize boxC w c 9 94 = W at *
  refine wp_region_held_drew (S := fun w' => RowAt w' w.heap.size 9 94 (wf c) ∧ (∃ f, RowAt w' (w.heap.size + 1) 9 94 f) ∧ Below w.heap.size w w') (by kernel_rfl) ⟨hA.drew1, ⟨_, hO.drew1⟩, hL.drew⟩ (fun hHeld => ?_)
  clear hA hO hL
  refine wpAnyH_take (i := 0) (oi := _) (v := .pointer (some ⟨w.heap.size, 0, none⟩)) rfl (by kernel_rfl) (by kernel_rfl) (by kernel_rfl) (fun _ _ _ h => h) (Or.inl ⟨by rfl, fun w h => by go_simp⟩) hHeld ?_
  try simp only [Act.put, List.setIfInBounds_toArray, List.set_cons_zero, List.set_cons_succ, List.getElem_toArray, List.getElem_cons_succ, List.getElem_cons_zero]
  refine wpAnyH_take (i := 1) (oi := _) (v := .int .i64 c.s) rfl (by kernel_rfl) (by kernel_rfl) (by kernel_rfl) (fun _ _ _ h => h) (Or.inl ⟨by rfl, fun w h => by have hcell := row_speed h.1; go_simp⟩) hHeld ?_
  try simp only [Act.put, List.setIfInBounds_toArray, List.set_cons_zero, List.set_cons_succ, List.getElem_toArray, List.getElem_cons_succ, List.getElem_cons_zero]
  refine wpAnyH_take (i := 2) (oi := _) (v := .pointer (some ⟨w.heap.size, 1, none⟩)) rfl (by kernel_rfl) (by kernel_rfl) (by kernel_rfl) (fun _ _ _ h => h) (Or.inl ⟨by rfl, fun w h => by go_simp⟩) hHeld ?_
  try simp only [Act.put, List.setIfInBounds_toArray, List.set_cons_zero, List.set_cons_succ, List.getElem_toArray, List.getElem_cons_succ, List.getElem_cons_zero]
  refine wpAnyH_take (i := 3) (oi := _) (v := .agg (vec 8 c.r.up)) rfl (by kernel_rfl) (by kernel_rfl) (by kernel_rfl) (fun _ _ _ h => h) (yieldsIf_load_mid (by rfl) _ _ rfl _ _ rfl _ _ ((fun w h => row_radius h.1)) Try.underlying92 rfl (size_exact8 _)) hHeld ?_
  try simp only [Act.put, List.setIfInBounds_toArray, List.set_cons_zero, List.set_cons_succ, List.getElem_toArray, List.getElem_cons_succ, List.getElem_cons_zero]
  refine wpAnyH_take (i := 4) (oi := _) (v := .int .i64 t) rfl (by kernel_rfl) (by kernel_rfl) (by kernel_rfl) (fun _ _ _ h => h) (Or.inl ⟨by rfl, fun w h => by go_simp⟩) hHeld ?_
  try simp only [Act.put, List.setIfInBounds_toArray, List.set_cons_zero, List.set_cons_succ, List.getElem_toArray, List.getElem_cons_succ, List.getElem_cons_zero]
  refine wpAnyH_ready (rs := [5]) (by kernel_rfl) (by simp) ?_
  refine AllReadyH.cons (o := _) rfl (fun K hK => ?_) AllReadyH.nil
  go_simp
  refine (C _).mono ?_; rintro e w1 ⟨rfl, hb1⟩
  go_wp2_with fail
  obtain ⟨h1, ⟨_, h2⟩, h3⟩ := hHeld
  refine hK.out _ _ ⟨h1.below hb1, ⟨_, h2.below hb1⟩, below_next h3 hb1⟩ (fun hHeld => ?_)
  clear hK K
  try simp only [Act.put, List.setIfInBounds_toArray, List.set_cons_zero, List.set_cons_succ, List.getElem_toArray, List.getElem_cons_succ, List.getElem_cons_zero]
  clear h1 h2 h3 hb1
  refine wpAnyH_take (i := 6) (oi := _) (v := wh ⟨c.s, dn r.up⟩) rfl (by kernel_rfl) (by kernel_rfl) (by kernel_rfl) (fun _ _ _ h => h) (Or.inl ⟨by rfl, fun w h => yields_build built_circle rfl rfl rfl⟩) hHeld ?_
  try simp only [Act.put, List.setIfInBounds_toArray, List.set_cons_zero, List.set_cons_succ, List.getElem_toArray, List.getElem_cons_succ, List.getElem_cons_zero]
  refine wpAnyH_ready (rs := [7]) (by kernel_rfl) (by simp) ?_
  refine AllReadyH.cons (o := _) rfl (fun K hK => ?_) AllReadyH.nil
  rw [if_pos (by rfl)]
  obtain ⟨h1, ⟨_, h2⟩, h3⟩ := hHeld
  refine store_step (f' := wf ⟨c.s, dn r.up⟩) rfl rfl rfl h2 info_circle ?_
  have hG := h2.setRow (f' := wf ⟨c.s, dn r.up⟩)
  have hF := below_setRow h3 (g := w.heap.size + 1) (by omega) (vec 9 (wf ⟨c.s, dn r.up⟩))
  refine hK.out _ _ ⟨h1.rowOther _ _ (by omega), ⟨_, hG⟩, hF⟩ (fun hHeld => ?_)
  clear hK K
  try simp only [Act.put, List.setIfInBounds_toArray, List.set_cons_zero, List.set_cons_succ, List.getElem_toArray, List.getElem_cons_succ, List.getElem_cons_zero]
  clear h1 h2 h3 hHeld
  refine wpAnyH_done (by kernel_rfl) ?_ _
  go_wp2_with fail
  refine bodyPost_ret (results_row rfl rfl hG Try.underlying94 rfl info_circle) rfl ?_
  exact ⟨rfl, hF⟩

theorem isNothing_any (c : Wh) (w : World) :
    Calls Try.prog 154 #[wh c] w fun e w' => e = .returned (.bool (!nz c)) ∧ ∃ o, w' = w.alloc o := by
  have HA := Lib.hid (RowAt.new w 9 94 (wf c))
  have E : ∀ w, (Op.equalIn 10000 92 (.agg (vec 8 c.r.up)) (.agg #[.int .i64 0, .int .i64 0, .int .i64 0, .int .i64 0, .int .i64 0, .int .i64 0, .int .i64 0, .int .i64 0])).run Try.prog w = .ok (eqv 8 c.r.up nul) w := fun w => by
    rw [zero8]; exact equal_exact c.r.up nul w
  have hz : (eqv 8 c.r.up nul) = !nz c := by unfold nz; rw [Bool.not_not]
  rw [hz] at E
  generalize nz c = z at *
  clear hz
  go_enter Try.func154, Try.ntmps154
  go_wp2_with (first | (refine load_part (T := 92) rfl rfl rfl (row_radius HA.out) Try.underlying92 rfl info_exact ?_))
  go_ret
  exact ⟨rfl, _, rfl⟩

theorem nan_of (a : Int) (w : World) : Calls Try.prog 180 #[.int .i64 a] w fun e w' => e = .returned (.bool false) ∧ w = w' := by
  go_enter Try.func180, Try.ntmps180
  go_wp2
  go_ret
  exact ⟨by simp, rfl⟩
/-- How two speeds compare. -/
def cfS (a b : Int) : Int := if a < b then -1 else if b < a then 1 else 0
theorem cmp_of (a b : Int) (w : World) : Calls Try.prog 170 #[.int .i64 a, .int .i64 b] w fun e w' => e = .returned (.int .i64 (cfS a b)) ∧ w = w' := by
  have N1 := fun w => nan_of a w
  have N2 := fun w => nan_of b w
  by_cases h1 : a < b
  · go_enter Try.func170, Try.ntmps170
    go_wp2_with (first | (refine (N1 _).mono ?_; rintro e w' ⟨rfl, rfl⟩) | (refine (N2 _).mono ?_; rintro e w' ⟨rfl, rfl⟩))
    go_ret
    exact ⟨ret_int (by unfold cfS; rw [if_pos (by omega)]), rfl⟩
  · by_cases h2 : b < a
    · go_enter Try.func170, Try.ntmps170
      go_wp2_with (first | (refine (N1 _).mono ?_; rintro e w' ⟨rfl, rfl⟩) | (refine (N2 _).mono ?_; rintro e w' ⟨rfl, rfl⟩))
      go_ret
      exact ⟨ret_int (by unfold cfS; rw [if_neg (by omega), if_pos (by omega)]), rfl⟩
    · obtain rfl : a = b := by omega
      clear h1 h2
      go_enter Try.func170, Try.ntmps170
      go_wp2_with (first | (refine (N1 _).mono ?_; rintro e w' ⟨rfl, rfl⟩))
      go_ret
      exact ⟨ret_int (by unfold cfS; rw [if_neg (by omega), if_neg (by omega)]), rfl⟩
theorem bySpeed_any (c d : Wh) (w : World) :
    Calls Try.prog 151 #[wh c, wh d] w fun e w' => e = .returned (.int .i64 (cfS c.s d.s)) ∧ w' = (w.alloc (.cells (vec 9 (wf c)) 94)).alloc (.cells (vec 9 (wf d)) 94) := by
  have c1 := row_speed ((RowAt.new w 9 94 (wf c)).alloc (.cells (vec 9 (wf d)) 94))
  have c2 : (vec 9 (wf d))[0]? = some (.int .i64 d.s) := vec_at (wf d) (by omega)
  have C := fun w => cmp_of c.s d.s w
  generalize cfS c.s d.s = q at *
  go_enter Try.func151, Try.ntmps151
  go_wp2_with (first | (refine (C _).mono ?_; rintro e w1 ⟨rfl, rfl⟩))
  go_ret
  exact ⟨rfl, rfl⟩

end Go.Proofs.Ytdgbpdeimckbfaa
/- The library's insertion sort lies in this program, at circles; what it is asked. -/
namespace Go.Proofs.Ytdgbpdeimckbfaa
set_option maxRecDepth 20000
open Go.Shelf Go.RowKit Go.Lib Go.Sort
set_option linter.unusedVariables false
set_option linter.unusedSimpArgs false

def renC : Ren := { f := fun _ => 184, t := fun n => if n = 22 then 85 else if n = 24 then 94 else if n = 25 then 170 else n, g := fun n => n }
theorem laysIns : SlLaysF0.n20 Try.prog renC where
  mixed := by kernel_rfl
  f20 := ⟨Try.f184.name, by kernel_rfl, by kernel_rfl⟩
  t0 := by kernel_rfl
  a0 := fun w => by rfl
  z0 := fun w => by rfl
  v0 := fun w => by rfl
  t3 := by kernel_rfl
  a3 := fun w => by rfl
  z3 := fun w => by rfl
  v3 := fun w => by rfl
  t4 := by kernel_rfl
  a4 := fun w => by rfl
  z4 := fun w => by rfl
  v4 := fun w => by rfl
  t22 := by kernel_rfl
  a22 := fun w => by rfl
  z22 := fun w => by rfl
  v22 := fun w => by rfl
  t25 := by kernel_rfl
  a25 := fun w => by rfl
  z25 := fun w => by rfl
  v25 := fun w => by rfl

theorem mixed_any : Try.prog.follows .mixedOrders = true := by kernel_rfl
theorem agg_circle : ∀ w, (isAgg 94).run Try.prog w = .ok true w := fun w => by rfl
theorem size_of_circle : ∀ w, (Go.sizeOf 94).run Try.prog w = .ok 9 w := fun w => by rfl
/-- bySpeed as an order. -/
def cfW (x y : Wh) : Int := cfS x.s y.s
theorem ltOf_cfW : ltOf cfW = ltW := by
  funext x y
  unfold ltOf cfW cfS ltW
  by_cases h : x.s < y.s
  · simp [h]
  · by_cases h2 : y.s < x.s
    · simp [h, h2]
    · simp [h, h2]
theorem cmpLays_any (kk blk off size : Nat) (w : World) : CmpLays Try.prog 151 #[] enc kk cfW blk off size w := by
  intro m os dk hdk x y
  refine (bySpeed_any x y _).mono ?_
  rintro e w' ⟨rfl, rfl⟩
  refine ⟨rfl, 0, #[.cells (vec 9 (wf x)) 94, .cells (vec 9 (wf y)) 94], ?_⟩
  rw [alloc_eq_grow, alloc_eq_grow, grow_grow]; rfl
theorem enters_bySpeed : ∀ args w, (callFunc 151 args).run Try.prog w = .ok (.enter 151 args) w := enters_of Try.func151 (by kernel_rfl) rfl
theorem cmp_step {kk blk off : Nat} {w0 W : World} {dk : Array Wh} (h : SWK enc kk w0 blk off dk W) (x y : Wh) (n : Nat) (os : Array Obj) :
    Calls Try.prog 151 #[.agg (enc x).toArray, .agg (enc y).toArray] (grow (W.drewN n) os) fun e w' => e = .returned (.int .i64 (cfW x y)) ∧ ∃ q os', w' = grow ((grow (W.drewN n) os).drewN q) os' := by
  have := h.cmp (cmpLays_any kk blk off dk.size w0) rfl x y n os
  rwa [Array.append_empty] at this
/-- The slice that is sorted, and the comparison. -/
abbrev rowV (blk off n cap : Nat) : Value := .slice (some ⟨blk, off, none⟩) n cap
abbrev byV : Value := .func (.func 151) #[] #[]

theorem insertion_any (blk off cap a b : Nat) (d0 d : Array Wh) (w0 w : World) (R : RowK enc 9 w0 blk off d0) (hs : d0.size = d.size) (S : SWK enc 9 w0 blk off d w) (hab : a ≤ b) (hb : b ≤ d.size) (hsz : d.size ≤ 1000000) :
    Calls Try.prog 184 #[rowV blk off d.size cap, .int .i64 a, .int .i64 b, byV] w fun e w' => e = .returned (.tuple #[]) ∧ ∃ d', Merged d d' a b ∧ SWK enc 9 w0 blk off d' w' := by
  have h := AnyQ.insertionSortCmpFunc laysIns 9 agg_circle size_of_circle enc R.hk R.h1 cfW 151 #[] blk off cap a b d w enters_bySpeed (cmpLays_any 9 blk off d.size w) (S.holds R.hblk R.hH hs.symm) (S.lt R.hblk) hab hb (by omega)
  rw [ltOf_cfW] at h
  refine h.mono ?_
  rintro e w' ⟨rfl, n, os, rfl⟩
  have hM := insertion_merged hab hb
  exact ⟨rfl, _, hM, S.on R.hblk n _ os hM.keeps.1⟩

set_option maxHeartbeats 4000000 in
theorem swapRange_any (kk : Nat) (zE : ∀ w, (Go.sizeOf 94).run Try.prog w = .ok kk w) (blk off cap a b n : Nat) (d0 d : Array Wh) (w0 w : World) (R : RowK enc kk w0 blk off d0) (hs : d0.size = d.size) (S : SWK enc kk w0 blk off d w) (hab : a + n ≤ b) (hb : b + n ≤ d.size) (hsz : d.size ≤ 1000000) :
    Calls Try.prog 187 #[rowV blk off d.size cap, .int .i64 a, .int .i64 b, .int .i64 n, byV] w fun e w' => e = .returned (.tuple #[]) ∧ ∃ d', SwapR d d' a b n ∧ SWK enc kk w0 blk off d' w' := by
  have mixed := mixed_any
  have aE := agg_circle
  have S0 : Aside (SWK enc kk w0 blk off d w) := S
  clear S
  go_enter Try.func187, Try.ntmps187
  go_wp2
  go_loopg [10] n (fun kx s10 wr => ∃ (k : Nat) (dk : Array Wh), s10 = .int .i64 k ∧ k ≤ n ∧ n - k ≤ kx ∧ dk.size = d.size ∧ Aside (SWK enc kk w0 blk off dk wr) ∧ Aside (SwapR d dk a b k))
  case atStart => exact ⟨0, d, rfl, by omega, by omega, rfl, S0, SwapR.none d a b⟩
  case round =>
    clear S0
    obtain ⟨k, dk, rfl, hk, hkx, hds, S1, H1⟩ := hrel
    by_cases hlt : k < n
    · have hltz : (k : Int) < (n : Int) := by omega
      have ea : ((a : Int) + (k : Int)).toNat = a + k := by omega
      have pa : (0 : Int) ≤ (a : Int) + (k : Int) := by omega
      have ba : (a : Int) + (k : Int) < (d.size : Int) := by omega
      have ra : IntKind.i64.wrap ((a : Int) + (k : Int)) = (a : Int) + (k : Int) := by rw [IntKind.wrap_i64]; omega
      have ec : ((b : Int) + (k : Int)).toNat = b + k := by omega
      have pc : (0 : Int) ≤ (b : Int) + (k : Int) := by omega
      have bc : (b : Int) + (k : Int) < (d.size : Int) := by omega
      have rc : IntKind.i64.wrap ((b : Int) + (k : Int)) = (b : Int) + (k : Int) := by rw [IntKind.wrap_i64]; omega
      have S2 : Aside (SWK enc kk w0 blk off (swp dk (a + k) (b + k)) ((wr.drew.setCells blk (off + (a + k) * kk) (enc dk[b + k]!)).setCells blk (off + (b + k) * kk) (enc dk[a + k]!))) := S1.out.swapped R (a + k) (b + k) (by omega) (by omega)
      have H2 : Aside (SwapR d (swp dk (a + k) (b + k)) a b (k + 1)) := H1.out.step hlt hab hb
      have la := S1.out.ld1 R (by omega) Try.prog (a + k) (by omega)
      have lb := S1.out.ld1 R (by omega) Try.prog (b + k) (by omega)
      have sa := S1.out.st1 R (by omega) Try.prog (a + k) (by omega) dk[b + k]!
      have sb := S1.out.st2 R (by omega) Try.prog (a + k) (b + k) (by omega) (by omega) dk[b + k]! dk[a + k]!
      have na : (enc dk[a + k]!).length = kk := R.hk _
      have nb : (enc dk[b + k]!).length = kk := R.hk _
      generalize enc dk[a + k]! = cI at S2 la sb na
      generalize enc dk[b + k]! = cJ at S2 lb sa sb nb
      clear S1 H1
      go_wp2_with fail
      go_big_region_o
      clear la lb sa sb
      generalize (wr.drew.setCells blk (off + (a + k) * kk) cJ).setCells blk (off + (b + k) * kk) cI = w2 at S2 ⊢
      go_wp2
      go_roundg (n - (k + 1))
      case measure => omega
      case rel => exact ⟨k + 1, swp dk (a + k) (b + k), by go_num, by omega, Nat.le_refl _, by rw [size_swp]; exact hds, S2, H2⟩
    · obtain rfl : k = n := by omega
      go_wp2
      go_end0
      exact ⟨rfl, dk, H1.out, S1.out⟩

end Go.Proofs.Ytdgbpdeimckbfaa
