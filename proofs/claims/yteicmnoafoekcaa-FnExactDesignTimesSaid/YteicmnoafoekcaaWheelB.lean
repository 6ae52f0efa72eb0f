/-
  Contracts of impl's single circles.
-/
import Derived.Test.YteicmnoafoekcaaWheelA
import Derived.Test.YteicmnoafoekcaaCycC
import Derived.Deep.RegionHeld
import Derived.Deep.RegionWith
namespace Go.Proofs.Yteicmnoafoekcaa
set_option maxRecDepth 20000
open Go.ChangeShapes Go.WideShapes Go.ChangeAt Go.RowKit
set_option linter.unusedVariables false
set_option linter.unusedSimpArgs false

theorem size_wheel (c : Wh) : (Try.prog.info? 34).map (·.size) = some (enc c).length := by rw [enc_length]; exact info_wheel
theorem size_circle (c : Wh) : (Try.prog.info? 68).map (·.size) = some (enc c).length := by rw [enc_length]; exact info_circle
theorem size_exact8 (f : Nat → Int) : (Try.prog.info? 66).map (·.size) = some (lst 8 f).length := by rw [lst_length]; exact info_exact
theorem size_cyc8 (f : Nat → Int) : (Try.prog.info? 32).map (·.size) = some (lst 8 f).length := by rw [lst_length]; exact info_cyc
/-- One circle in a box, and a row of zeros. -/
def boxC (w : World) (c : Wh) (n : Nat) (O : TypeId) : World := (w.alloc (.cells (vec 9 (wf c)) 68)).alloc (.cells (vec n nul) O)
theorem boxC_facts (w : World) (c : Wh) (n : Nat) (O : TypeId) : RowAt (boxC w c n O) w.heap.size 9 68 (wf c) ∧ RowAt (boxC w c n O) (w.heap.size + 1) n O nul ∧ Below w.heap.size w (boxC w c n O) :=
  ⟨(RowAt.newAt rfl rfl).alloc _, RowAt.newAt rfl (by simp), ((Below.refl _ _).alloc (Nat.le_refl _) _).alloc (by simp) _⟩

/-! The calculations, in radii. -/
theorem pt_tV (a : V) {t : Nat} (ht : t ≤ 23) : pt (trn a.up t) = pt (tV t a).up := pt_same fun j hj => by rw [← tV_trn a ht, up_dn _ j hj]
theorem inR_bound {a : V} (h : okv a = true) : InR a.up := okc_inR h
theorem turnedV (a : V) (t : Nat) (ht : t ≤ 23) (ha : okv a = true) (w : World) :
    Calls Try.prog 73 #[pt a.up, .int .i64 t] w fun e w' => e = .returned (pt (tV t a).up) ∧ Below w.heap.size w w' := by
  rw [← pt_tV a ht]; exact turned_any a.up t ht (inR_bound ha) w
theorem timesV (a b : V) (ha : okv a = true) (hb : okv b = true) (w : World) :
    Calls Try.prog 80 #[pt a.up, pt b.up] w fun e w' => e = .returned (pt (prV a b).up) ∧ Below w.heap.size w w' := by
  have e : pt (prd a.up b.up) = pt (prV a b).up := pt_same fun j hj => (up_dn _ j hj).symm
  rw [← e]; exact times_any a.up b.up (inR_bound ha) (inR_bound hb) w
def Big (a : V) (B : Int) : Prop := ∀ j, j < 8 → -B ≤ a.up j ∧ a.up j ≤ B
theorem big_ok {a : V} (h : okv a = true) : Big a 1000000 := fun j hj => inR_bound h j hj
theorem Big.mono {a : V} {B C : Int} (h : Big a B) (hBC : B ≤ C) : Big a C := fun j hj => by have := h j hj; omega
theorem Big.add {a b : V} {B C : Int} (h : Big a B) (k : Big b C) : Big (V.add a b) (B + C) := fun j hj => by
  have h1 := h j hj
  have h2 := k j hj
  rw [add_up]
  show -(B + C) ≤ a.up j + b.up j ∧ a.up j + b.up j ≤ B + C
  omega
theorem big_zero : Big V.zero 0 := fun j hj => by rw [zero_up]; exact ⟨Int.le_refl _, Int.le_refl _⟩
theorem trn_big {a : Nat → Int} (h : InR a) (t : Nat) (j : Nat) (hj : j < 8) : -4000000 ≤ trn a t j ∧ trn a t j ≤ 4000000 := by
  have hp : ∀ k, -1000000 ≤ tpow a t 8 k ∧ tpow a t 8 k ≤ 1000000 := fun k => by
    unfold tpow
    split
    · rename_i hk; exact h _ hk
    · omega
  unfold trn red
  have h1 := hp j; have h2 := hp (j + 4); have h3 := hp (j + 8); have h4 := hp (j + 12); have h5 := hp (j + 16); have h6 := hp (j + 20)
  split <;> omega
theorem big_tV {a : V} (h : okv a = true) {t : Nat} (ht : t ≤ 23) : Big (tV t a) 4000000 := fun j hj => by
  rw [← tV_trn a ht, up_dn _ j hj]; exact trn_big (inR_bound h) t j hj

theorem plus_big (a b : Nat → Int) (ha : ∀ j, j < 8 → -1000000000000 ≤ a j ∧ a j ≤ 1000000000000) (hb : ∀ j, j < 8 → -1000000000000 ≤ b j ∧ b j ≤ 1000000000000) (w : World) :
    Calls Try.prog 62 #[pt a, pt b] w fun e w' => e = .returned (pt (add a b)) ∧ Below w.heap.size w w' := by
  unfold pt
  have sa := vec_size 8 a
  have sb := vec_size 8 b
  go_enter Try.func62, Try.ntmps62
  go_wp2_with fail
  go_loopw [5, 6] (fun _ i wr => ∃ k : Nat, k ≤ 8 ∧ i = .int .i64 k ∧ RowAt wr w.heap.size 8 66 (mix k (add a b) a) ∧ RowAt wr (w.heap.size + 1) 8 66 b ∧ RowAt wr (w.heap.size + 1 + 1) 8 66 (fun _ => 0) ∧ Below w.heap.size w wr) (fun _ i _ => 8 - (intOf i).toNat)
  case atStart => exact ⟨0, Nat.zero_le _, rfl, by rw [mix_zero]; exact ((RowAt.newAt rfl rfl).alloc _).alloc _, (RowAt.newAt rfl (by simp)).alloc _, RowAt.newAt zero8 (by simp), (((Below.refl _ _).alloc (Nat.le_refl _) _).alloc (by simp) _).alloc (by simp; omega) _⟩
  case round =>
    obtain ⟨k, hk, rfl, hA, hB, hO, hbel⟩ := hrel
    by_cases hlt : k < 8
    · have cA := hA.cell hlt
      have fA := hA.free k
      have cB := hB.cell hlt
      rw [mix_at] at cA
      have hlt' : (k : Int) < 8 := by omega
      have hk0 : (0 : Int) ≤ (k : Int) := by omega
      have b1 := ha k hlt
      have b2 := hb k hlt
      have hA2 := hA.set hlt (add a b k)
      rw [mix_step] at hA2
      have HA := Lib.hid hA2
      have HB := Lib.hid (hB.other ⟨w.heap.size, k, none⟩ (.int .i64 (a k + b k)) (by simp))
      have HO := Lib.hid (hO.other ⟨w.heap.size, k, none⟩ (.int .i64 (a k + b k)) (by simp; try omega))
      have HL := Lib.hid ((hbel.setCell (p := ⟨w.heap.size, k, none⟩) (Nat.le_refl _) (.int .i64 (a k + b k))))
      clear hA hA2 hB hO hbel
      go_wp2_with fail
      go_still_tail 8, (by kernel_rfl)
      go_wp2_with fail
      go_roundw
      case rel => exact ⟨k + 1, by omega, by go_num, HA.out, HB.out, HO.out, HL.out.drew⟩
      case measure => simp [intOf]; omega
    · obtain rfl : k = 8 := by omega
      have HA := Lib.hid hA; have HO := Lib.hid hO; have HL := Lib.hid hbel
      clear hA hB hO hbel
      go_wp2_with (first | (refine load_row rfl rfl rfl HA.out Try.underlying66 rfl info_exact ?_) | (refine store_row rfl rfl rfl rfl HO.out info_exact ?_))
      refine bodyPost_ret (results_row rfl rfl HO.out.setRow Try.underlying66 rfl info_exact) rfl ?_
      exact ⟨by rw [vec_mix], below_setRow HL.out (by omega) _⟩
theorem plusV (a b : V) (ha : Big a 1000000000000) (hb : Big b 1000000000000) (w : World) :
    Calls Try.prog 62 #[pt a.up, pt b.up] w fun e w' => e = .returned (pt (V.add a b).up) ∧ Below w.heap.size w w' := by
  rw [add_up]; exact plus_big a.up b.up ha hb w
theorem toldV (a : V) (w : World) :
    Calls Try.prog 64 #[pt a.up] w fun e w' => e = .returned (.tuple #[pt (if okv a then a else V.zero).up, .bool (okv a)]) ∧ Below w.heap.size w w' := by
  refine (told_two a.up w).mono ?_
  rintro e w' ⟨rfl, h⟩
  refine ⟨?_, h⟩
  have : okc a.up = okv a := rfl
  rw [this]
  by_cases h : okv a = true
  · rw [h]; rfl
  · have h : okv a = false := by simpa using h
    rw [h]; simp only [Bool.false_eq_true, if_false, zero_up]

/-! A turn, so many times. -/
theorem turnTimes_any (t : Nat) (n : Int) (ht : t ≤ 23) (hn : -1000000 ≤ n ∧ n ≤ 1000000) (w : World) :
    Calls Try.prog 101 #[.int .i64 t, .int .i64 n] w fun e w' => e = .returned (.int .i64 (tm t n)) ∧ w = w' := by
  have hb : -1000000000 ≤ (t : Int) * n ∧ (t : Int) * n ≤ 1000000000 := by
    have h1 : (t : Int) ≤ 23 := by omega
    have h0 : (0 : Int) ≤ (t : Int) := by omega
    constructor
    · have := Int.mul_le_mul_of_nonneg_left hn.1 h0
      omega
    · have := Int.mul_le_mul_of_nonneg_left hn.2 h0
      omega
  have C := fun w => within_any ((t : Int) * n) (by omega) (by omega) w
  have e : ((t : Int) * n) % 24 = ((tm t n : Nat) : Int) := by unfold tm; omega
  rw [e] at C
  clear e
  have e2 : IntKind.i64.wrap ((t : Int) * n) = (t : Int) * n := by rw [IntKind.wrap_i64]; omega
  generalize tm t n = q at *
  clear hb ht hn
  go_enter Try.func101, Try.ntmps101
  go_wp2_with fail
  refine (C _).mono ?_; rintro e w' ⟨rfl, rfl⟩
  go_wp2_with fail
  go_ret
  exact ⟨rfl, rfl⟩

/-- A speed of a design. -/
theorem inS_bound {s : Int} (h : inS s = true) : -1000 ≤ s ∧ s ≤ 1000 := by
  unfold inS at h
  simpa using h

set_option maxHeartbeats 1000000 in
theorem at_any (c : Wh) (t : Nat) (ht : t ≤ 23) (hs : inS c.s = true) (hr : okv c.r = true) (w : World) :
    Calls Try.prog 63 #[wh c, .int .i64 t] w fun e w' => e = .returned (pt (tV (tm t c.s) c.r).up) ∧ Below w.heap.size w w' := by
  have sb := inS_bound hs
  have T := fun w => turnTimes_any t c.s ht (by omega) w
  have hq := tm_lt t c.s
  have C := fun w => turnedV c.r (tm t c.s) hq hr w
  generalize tm t c.s = q at *
  generalize tV q c.r = r at *
  clear sb hs hr
  go_enter Try.func63, Try.ntmps63
  go_upto_region 1 with fail
  show Code.wp _ _ _ _ (boxC w c 8 66)
  obtain ⟨hA, hO, hL⟩ := boxC_facts w c 8 66
  generalize boxC w c 8 66 = W at *
  refine wp_region_held_drew (S := fun w' => RowAt w' w.heap.size 9 68 (wf c) ∧ (∃ f, RowAt w' (w.heap.size + 1) 8 66 f) ∧ Below w.heap.size w w') (by kernel_rfl) ⟨hA.drew1, ⟨_, hO.drew1⟩, hL.drew⟩ (fun hHeld => ?_)
  clear hA hO hL
  refine wpAnyH_take (i := 0) (oi := _) (v := .pointer (some ⟨w.heap.size, 1, none⟩)) rfl (by kernel_rfl) (by kernel_rfl) (by kernel_rfl) (fun _ _ _ h => h) (Or.inl ⟨by rfl, fun w h => by go_simp⟩) hHeld ?_
  try simp only [Act.put, List.setIfInBounds_toArray, List.set_cons_zero, List.set_cons_succ, List.getElem_toArray, List.getElem_cons_succ, List.getElem_cons_zero]
  refine wpAnyH_take (i := 1) (oi := _) (v := .agg (vec 8 c.r.up)) rfl (by kernel_rfl) (by kernel_rfl) (by kernel_rfl) (fun _ _ _ h => h) (yieldsIf_load_mid (by rfl) _ _ rfl _ _ rfl _ _ ((fun w h => row_radius h.1)) Try.underlying66 rfl (size_exact8 _)) hHeld ?_
  try simp only [Act.put, List.setIfInBounds_toArray, List.set_cons_zero, List.set_cons_succ, List.getElem_toArray, List.getElem_cons_succ, List.getElem_cons_zero]
  refine wpAnyH_take (i := 2) (oi := _) (v := .int .i64 t) rfl (by kernel_rfl) (by kernel_rfl) (by kernel_rfl) (fun _ _ _ h => h) (Or.inl ⟨by rfl, fun w h => by go_simp⟩) hHeld ?_
  try simp only [Act.put, List.setIfInBounds_toArray, List.set_cons_zero, List.set_cons_succ, List.getElem_toArray, List.getElem_cons_succ, List.getElem_cons_zero]
  refine wpAnyH_take (i := 3) (oi := _) (v := .pointer (some ⟨w.heap.size, 0, none⟩)) rfl (by kernel_rfl) (by kernel_rfl) (by kernel_rfl) (fun _ _ _ h => h) (Or.inl ⟨by rfl, fun w h => by go_simp⟩) hHeld ?_
  try simp only [Act.put, List.setIfInBounds_toArray, List.set_cons_zero, List.set_cons_succ, List.getElem_toArray, List.getElem_cons_succ, List.getElem_cons_zero]
  refine wpAnyH_take (i := 4) (oi := _) (v := .int .i64 c.s) rfl (by kernel_rfl) (by kernel_rfl) (by kernel_rfl) (fun _ _ _ h => h) (Or.inl ⟨by rfl, fun w h => by have hcell := row_speed h.1; go_simp⟩) hHeld ?_
  try simp only [Act.put, List.setIfInBounds_toArray, List.set_cons_zero, List.set_cons_succ, List.getElem_toArray, List.getElem_cons_succ, List.getElem_cons_zero]
  refine wpAnyH_ready (rs := [5]) (by kernel_rfl) (by simp) ?_
  refine AllReadyH.cons (o := _) rfl (fun K hK => ?_) AllReadyH.nil
  go_simp
  refine (T _).mono ?_; rintro e w1 ⟨rfl, rfl⟩
  go_wp2_with fail
  refine hK.out _ _ hHeld (fun hHeld => ?_)
  clear hK K
  try simp only [Act.put, List.setIfInBounds_toArray, List.set_cons_zero, List.set_cons_succ, List.getElem_toArray, List.getElem_cons_succ, List.getElem_cons_zero]
  refine wpAnyH_ready (rs := [6]) (by kernel_rfl) (by simp) ?_
  refine AllReadyH.cons (o := _) rfl (fun K hK => ?_) AllReadyH.nil
  go_simp
  refine (C _).mono ?_; rintro e w1 ⟨rfl, hb1⟩
  go_wp2_with fail
  obtain ⟨h1, ⟨_, h2⟩, h3⟩ := hHeld
  refine hK.out _ _ ⟨h1.below hb1, ⟨_, h2.below hb1⟩, below_next h3 hb1⟩ (fun hHeld => ?_)
  clear hK K
  try simp only [Act.put, List.setIfInBounds_toArray, List.set_cons_zero, List.set_cons_succ, List.getElem_toArray, List.getElem_cons_succ, List.getElem_cons_zero]
  clear h1 h2 h3 hb1
  refine wpAnyH_ready (rs := [7]) (by kernel_rfl) (by simp) ?_
  refine AllReadyH.cons (o := _) rfl (fun K hK => ?_) AllReadyH.nil
  rw [if_pos (by rfl)]
  obtain ⟨h1, ⟨_, h2⟩, h3⟩ := hHeld
  refine store_step (f' := r.up) rfl rfl rfl h2 info_exact ?_
  have hG := h2.setRow (f' := r.up)
  have hF := below_setRow h3 (g := w.heap.size + 1) (by omega) (vec 8 r.up)
  refine hK.out _ _ ⟨h1.rowOther _ _ (by omega), ⟨_, hG⟩, hF⟩ (fun hHeld => ?_)
  clear hK K
  try simp only [Act.put, List.setIfInBounds_toArray, List.set_cons_zero, List.set_cons_succ, List.getElem_toArray, List.getElem_cons_succ, List.getElem_cons_zero]
  clear h1 h2 h3 hHeld
  refine wpAnyH_done (by kernel_rfl) ?_ _
  go_wp2_with fail
  refine bodyPost_ret (results_row rfl rfl hG Try.underlying66 rfl info_exact) rfl ?_
  exact ⟨rfl, hF⟩

set_option maxHeartbeats 1000000 in
theorem cturned_any (c : Wh) (t : Nat) (ht : t ≤ 23) (hr : okv c.r = true) (w : World) :
    Calls Try.prog 71 #[wh c, .int .i64 t] w fun e w' => e = .returned (wh (turnW t c)) ∧ Below w.heap.size w w' := by
  have C := fun w => turnedV c.r t ht hr w
  have e1 : wh (turnW t c) = wh ⟨c.s, dn (tV t c.r).up⟩ := by rw [dn_up]; rfl
  rw [e1]
  generalize tV t c.r = r at *
  go_enter Try.func71, Try.ntmps71
  go_upto_region 1 with fail
  show Code.wp _ _ _ _ (boxC w c 9 68)
  obtain ⟨hA, hO, hL⟩ := boxC_facts w c 9 68
  generalize boxC w c 9 68 = W at *
  refine wp_region_held_drew (S := fun w' => RowAt w' w.heap.size 9 68 (wf c) ∧ (∃ f, RowAt w' (w.heap.size + 1) 9 68 f) ∧ Below w.heap.size w w') (by kernel_rfl) ⟨hA.drew1, ⟨_, hO.drew1⟩, hL.drew⟩ (fun hHeld => ?_)
  clear hA hO hL
  refine wpAnyH_take (i := 0) (oi := _) (v := .pointer (some ⟨w.heap.size, 0, none⟩)) rfl (by kernel_rfl) (by kernel_rfl) (by kernel_rfl) (fun _ _ _ h => h) (Or.inl ⟨by rfl, fun w h => by go_simp⟩) hHeld ?_
  try simp only [Act.put, List.setIfInBounds_toArray, List.set_cons_zero, List.set_cons_succ, List.getElem_toArray, List.getElem_cons_succ, List.getElem_cons_zero]
  refine wpAnyH_take (i := 1) (oi := _) (v := .int .i64 c.s) rfl (by kernel_rfl) (by kernel_rfl) (by kernel_rfl) (fun _ _ _ h => h) (Or.inl ⟨by rfl, fun w h => by have hcell := row_speed h.1; go_simp⟩) hHeld ?_
  try simp only [Act.put, List.setIfInBounds_toArray, List.set_cons_zero, List.set_cons_succ, List.getElem_toArray, List.getElem_cons_succ, List.getElem_cons_zero]
  refine wpAnyH_take (i := 2) (oi := _) (v := .pointer (some ⟨w.heap.size, 1, none⟩)) rfl (by kernel_rfl) (by kernel_rfl) (by kernel_rfl) (fun _ _ _ h => h) (Or.inl ⟨by rfl, fun w h => by go_simp⟩) hHeld ?_
  try simp only [Act.put, List.setIfInBounds_toArray, List.set_cons_zero, List.set_cons_succ, List.getElem_toArray, List.getElem_cons_succ, List.getElem_cons_zero]
  refine wpAnyH_take (i := 3) (oi := _) (v := .agg (vec 8 c.r.up)) rfl (by kernel_rfl) (by kernel_rfl) (by kernel_rfl) (fun _ _ _ h => h) (yieldsIf_load_mid (by rfl) _ _ rfl _ _ rfl _ _ ((fun w h => row_radius h.1)) Try.underlying66 rfl (size_exact8 _)) hHeld ?_
  try simp only [Act.put, List.setIfInBounds_toArray, List.set_cons_zero, List.set_cons_succ, List.getElem_toArray, List.getElem_cons_succ, List.getElem_cons_zero]
  refine wpAnyH_take (i := 4) (oi := _) (v := .int .i64 t) rfl (by kernel_rfl) (by kernel_rfl) (by kernel_rfl) (fun _ _ _ h => h) (Or.inl ⟨by rfl, fun w h => by go_simp⟩) hHeld ?_
  try simp only [Act.put, List.setIfInBounds_toArray, List.set_cons_zero, List.set_cons_succ, List.getElem_toArray, List.getElem_cons_succ, List.getElem_cons_zero]
  refine wpAnyH_ready (rs := [5]) (by kernel_rfl) (by simp) ?_
  refine AllReadyH.cons (o := _) rfl (fun K hK => ?_) AllReadyH.nil
  go_simp
  refine (C _).mono ?_; rintro e w1 ⟨rfl, hb1⟩
  go_wp2_with fail
  obtain ⟨h1, ⟨_, h2⟩, h3⟩ := hHeld
  refine hK.out _ _ ⟨h1.below hb1, ⟨_, h2.below hb1⟩, below_next h3 hb1⟩ (fun hHeld => ?_)
  clear hK K
  try simp only [Act.put, List.setIfInBounds_toArray, List.set_cons_zero, List.set_cons_succ, List.getElem_toArray, List.getElem_cons_succ, List.getElem_cons_zero]
  clear h1 h2 h3 hb1
  refine wpAnyH_take (i := 6) (oi := _) (v := wh ⟨c.s, dn r.up⟩) rfl (by kernel_rfl) (by kernel_rfl) (by kernel_rfl) (fun _ _ _ h => h) (Or.inl ⟨by rfl, fun w h => yields_build built_circle rfl rfl rfl⟩) hHeld ?_
  try simp only [Act.put, List.setIfInBounds_toArray, List.set_cons_zero, List.set_cons_succ, List.getElem_toArray, List.getElem_cons_succ, List.getElem_cons_zero]
  refine wpAnyH_ready (rs := [7]) (by kernel_rfl) (by simp) ?_
  refine AllReadyH.cons (o := _) rfl (fun K hK => ?_) AllReadyH.nil
  rw [if_pos (by rfl)]
  obtain ⟨h1, ⟨_, h2⟩, h3⟩ := hHeld
  refine store_step (f' := wf ⟨c.s, dn r.up⟩) rfl rfl rfl h2 info_circle ?_
  have hG := h2.setRow (f' := wf ⟨c.s, dn r.up⟩)
  have hF := below_setRow h3 (g := w.heap.size + 1) (by omega) (vec 9 (wf ⟨c.s, dn r.up⟩))
  refine hK.out _ _ ⟨h1.rowOther _ _ (by omega), ⟨_, hG⟩, hF⟩ (fun hHeld => ?_)
  clear hK K
  try simp only [Act.put, List.setIfInBounds_toArray, List.set_cons_zero, List.set_cons_succ, List.getElem_toArray, List.getElem_cons_succ, List.getElem_cons_zero]
  clear h1 h2 h3 hHeld
  refine wpAnyH_done (by kernel_rfl) ?_ _
  go_wp2_with fail
  refine bodyPost_ret (results_row rfl rfl hG Try.underlying68 rfl info_circle) rfl ?_
  exact ⟨rfl, hF⟩

set_option maxHeartbeats 1000000 in
theorem faster_any (c : Wh) (n : Int) (hn : -1000000 ≤ n ∧ n ≤ 1000000) (hs : inS c.s = true) (w : World) :
    Calls Try.prog 85 #[wh c, .int .i64 n] w fun e w' => e = .returned (wh (fastW n c)) ∧ Below w.heap.size w w' := by
  have e1 : wh (fastW n c) = wh ⟨c.s * n, dn c.r.up⟩ := by rw [dn_up]; rfl
  rw [e1]
  have sb := inS_bound hs
  have hb : -1000000000 ≤ c.s * n ∧ c.s * n ≤ 1000000000 := by
    have h1 : c.s * n = n * c.s := Int.mul_comm _ _
    have key : ∀ x y : Int, -1000 ≤ x → x ≤ 1000 → -1000000 ≤ y → y ≤ 1000000 → x * y ≤ 1000000000 := fun x y h1 h2 h3 h4 => by
      rcases Int.le_total 0 x with hx | hx
      · have := Int.mul_le_mul_of_nonneg_left h4 hx; omega
      · have h := Int.mul_le_mul_of_nonneg_left h3 (show 0 ≤ -x by omega)
        have e : -x * y = -(x * y) := Int.neg_mul _ _
        omega
    have k1 := key c.s n sb.1 sb.2 hn.1 hn.2
    have k2 := key (-c.s) n (by omega) (by omega) hn.1 hn.2
    have e : -c.s * n = -(c.s * n) := Int.neg_mul _ _
    omega
  have e2 : IntKind.i64.wrap (c.s * n) = c.s * n := by rw [IntKind.wrap_i64]; omega
  have hA : RowAt (boxC w c 9 68) w.heap.size 9 68 (wf c) := (boxC_facts w c 9 _).1
  have hO : RowAt (boxC w c 9 68) (w.heap.size + 1) 9 68 nul := (boxC_facts w c 9 _).2.1
  have hL := (boxC_facts w c 9 68).2.2
  clear hb sb hn
  go_enter Try.func85, Try.ntmps85
  go_upto_region 1 with fail
  show Code.wp _ _ _ _ (boxC w c 9 68)
  generalize boxC w c 9 68 = W at *
  have hc := row_speed hA
  have HA := Lib.hid hA
  have HO := Lib.hid hO
  have HL := Lib.hid hL
  clear hA hO hL
  go_wp2_with (first | (refine load_part (T := 66) rfl rfl rfl (row_radius HA.out) Try.underlying66 rfl info_exact ?_) | (refine build_wheel (T := 68) rfl rfl rfl rfl built_circle ?_) | (refine store_row (ty := 68) rfl rfl rfl rfl HO.out info_circle ?_))
  refine bodyPost_ret (results_row rfl rfl HO.out.setRow Try.underlying68 rfl info_circle) rfl ?_
  exact ⟨rfl, below_setRow HL.out (by omega) _⟩

theorem back_any (c : Wh) (hs : inS c.s = true) (w : World) :
    Calls Try.prog 81 #[wh c] w fun e w' => e = .returned (wh (fastW (-1) c)) ∧ Below w.heap.size w w' := by
  have C := fun w => faster_any c (-1) (by omega) hs w
  generalize fastW (-1) c = d at *
  obtain ⟨hA, hO, hL⟩ := boxC_facts w c 9 68
  go_enter Try.func81, Try.ntmps81
  go_upto_region 1 with fail
  show Code.wp _ _ _ _ (boxC w c 9 68)
  generalize boxC w c 9 68 = W at *
  have HA := Lib.hid hA
  have HO := Lib.hid hO
  have HL := Lib.hid hL
  clear hA hO hL
  go_wp2_with (first | (refine load_row (ty := 68) rfl rfl rfl HA.out Try.underlying68 rfl info_circle ?_))
  refine (C _).mono ?_; rintro e w1 ⟨rfl, hb1⟩
  have HO1 := Lib.hid (HO.out.below hb1)
  have HL1 := Lib.hid (below_next HL.out hb1)
  clear hb1 C
  go_wp2_with (first | (refine store_row (ty := 68) rfl rfl rfl rfl HO1.out info_circle ?_))
  refine bodyPost_ret (results_row rfl rfl HO1.out.setRow Try.underlying68 rfl info_circle) rfl ?_
  exact ⟨rfl, below_setRow HL1.out (by omega) _⟩

theorem isNothing_any (c : Wh) (w : World) :
    Calls Try.prog 97 #[wh c] w fun e w' => e = .returned (.bool (!nz c)) ∧ ∃ o, w' = w.alloc o := by
  have HA := Lib.hid (RowAt.new w 9 68 (wf c))
  have E : ∀ w, (Op.equalIn 10000 66 (.agg (vec 8 c.r.up)) (.agg #[.int .i64 0, .int .i64 0, .int .i64 0, .int .i64 0, .int .i64 0, .int .i64 0, .int .i64 0, .int .i64 0])).run Try.prog w = .ok (eqv 8 c.r.up nul) w := fun w => by
    rw [zero8]; exact equal_exact c.r.up nul w
  have hz : (eqv 8 c.r.up nul) = !nz c := by unfold nz; rw [Bool.not_not]
  rw [hz] at E
  generalize nz c = z at *
  clear hz
  go_enter Try.func97, Try.ntmps97
  go_wp2_with (first | (refine load_part (T := 66) rfl rfl rfl (row_radius HA.out) Try.underlying66 rfl info_exact ?_))
  go_ret
  exact ⟨rfl, _, rfl⟩

theorem nan_of (a : Int) (w : World) : Calls Try.prog 125 #[.int .i64 a] w fun e w' => e = .returned (.bool false) ∧ w = w' := by
  go_enter Try.func125, Try.ntmps125
  go_wp2
  go_ret
  exact ⟨by simp, rfl⟩
/-- How two speeds compare. -/
def cfS (a b : Int) : Int := if a < b then -1 else if b < a then 1 else 0
theorem cmp_of (a b : Int) (w : World) : Calls Try.prog 118 #[.int .i64 a, .int .i64 b] w fun e w' => e = .returned (.int .i64 (cfS a b)) ∧ w = w' := by
  have N1 := fun w => nan_of a w
  have N2 := fun w => nan_of b w
  by_cases h1 : a < b
  · go_enter Try.func118, Try.ntmps118
    go_wp2_with (first | (refine (N1 _).mono ?_; rintro e w' ⟨rfl, rfl⟩) | (refine (N2 _).mono ?_; rintro e w' ⟨rfl, rfl⟩))
    go_ret
    exact ⟨ret_int (by unfold cfS; rw [if_pos (by omega)]), rfl⟩
  · by_cases h2 : b < a
    · go_enter Try.func118, Try.ntmps118
      go_wp2_with (first | (refine (N1 _).mono ?_; rintro e w' ⟨rfl, rfl⟩) | (refine (N2 _).mono ?_; rintro e w' ⟨rfl, rfl⟩))
      go_ret
      exact ⟨ret_int (by unfold cfS; rw [if_neg (by omega), if_pos (by omega)]), rfl⟩
    · obtain rfl : a = b := by omega
      clear h1 h2
      go_enter Try.func118, Try.ntmps118
      go_wp2_with (first | (refine (N1 _).mono ?_; rintro e w' ⟨rfl, rfl⟩))
      go_ret
      exact ⟨ret_int (by unfold cfS; rw [if_neg (by omega), if_neg (by omega)]), rfl⟩
theorem bySpeed_any (c d : Wh) (w : World) :
    Calls Try.prog 94 #[wh c, wh d] w fun e w' => e = .returned (.int .i64 (cfS c.s d.s)) ∧ w' = (w.alloc (.cells (vec 9 (wf c)) 68)).alloc (.cells (vec 9 (wf d)) 68) := by
  have c1 := row_speed ((RowAt.new w 9 68 (wf c)).alloc (.cells (vec 9 (wf d)) 68))
  have c2 : (vec 9 (wf d))[0]? = some (.int .i64 d.s) := vec_at (wf d) (by omega)
  have C := fun w => cmp_of c.s d.s w
  generalize cfS c.s d.s = q at *
  go_enter Try.func94, Try.ntmps94
  go_wp2_with (first | (refine (C _).mono ?_; rintro e w1 ⟨rfl, rfl⟩))
  go_ret
  exact ⟨rfl, rfl⟩

end Go.Proofs.Yteicmnoafoekcaa
