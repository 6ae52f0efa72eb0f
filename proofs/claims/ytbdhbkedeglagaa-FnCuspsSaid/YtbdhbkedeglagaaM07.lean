/-
  Contracts of impl's single circles.
  The library's insertion sort lies in this program, at circles; what it is asked.
  The library's rotation and merge, at circles.
  The library's merge, at circles: whole.
-/
import Derived.Test.YtbdhbkedeglagaaM06
import Derived.Test.YtbdhbkedeglagaaM03
import Derived.Deep.RegionHeld
import Derived.Deep.RegionWith
import Derived.Shelf.SlSortCmp.KitK
import Derived.Shelf.SlLaysF0
import Derived.Sort.WalkB2
import Derived.Sort.WalkB12
import Derived.Deep.LoopGhost
/- Contracts of impl's single circles. -/
namespace Go.Proofs.Ytbdhbkedeglagaa
set_option maxRecDepth 20000
open Go.ChangeShapes Go.WideShapes Go.ChangeAt Go.RowKit
set_option linter.unusedVariables false
set_option linter.unusedSimpArgs false

theorem size_wheel (c : Wh) : (Try.prog.info? 67).map (·.size) = some (enc c).length := by rw [enc_length]; exact info_wheel
theorem size_circle (c : Wh) : (Try.prog.info? 76).map (·.size) = some (enc c).length := by rw [enc_length]; exact info_circle
theorem size_exact8 (f : Nat → Int) : (Try.prog.info? 74).map (·.size) = some (lst 8 f).length := by rw [lst_length]; exact info_exact
theorem size_cyc8 (f : Nat → Int) : (Try.prog.info? 36).map (·.size) = some (lst 8 f).length := by rw [lst_length]; exact info_cyc
/-- One circle in a box, and a row of zeros. -/
def boxC (w : World) (c : Wh) (n : Nat) (O : TypeId) : World := (w.alloc (.cells (vec 9 (wf c)) 76)).alloc (.cells (vec n nul) O)
theorem boxC_facts (w : World) (c : Wh) (n : Nat) (O : TypeId) : RowAt (boxC w c n O) w.heap.size 9 76 (wf c) ∧ RowAt (boxC w c n O) (w.heap.size + 1) n O nul ∧ Below w.heap.size w (boxC w c n O) :=
  ⟨(RowAt.newAt rfl rfl).alloc _, RowAt.newAt rfl (by simp), ((Below.refl _ _).alloc (Nat.le_refl _) _).alloc (by simp) _⟩

/-! The calculations, in radii. -/
theorem pt_tV (a : V) {t : Nat} (ht : t ≤ 23) : pt (trn a.up t) = pt (tV t a).up := pt_same fun j hj => by rw [← tV_trn a ht, up_dn _ j hj]
theorem inR_bound {a : V} (h : okv a = true) : InR a.up := okc_inR h
theorem turnedV (a : V) (t : Nat) (ht : t ≤ 23) (ha : okv a = true) (w : World) :
    Calls Try.prog 70 #[pt a.up, .int .i64 t] w fun e w' => e = .returned (pt (tV t a).up) ∧ Below w.heap.size w w' := by
  rw [← pt_tV a ht]; exact turned_any a.up t ht (inR_bound ha) w
def Big (a : V) (B : Int) : Prop := ∀ j, j < 8 → -B ≤ a.up j ∧ a.up j ≤ B
theorem big_ok {a : V} (h : okv a = true) : Big a 1000000 := fun j hj => inR_bound h j hj
theorem Big.mono {a : V} {B C : Int} (h : Big a B) (hBC : B ≤ C) : Big a C := fun j hj => by have := h j hj; omega
theorem Big.add {a b : V} {B C : Int} (h : Big a B) (k : Big b C) : Big (V.add a b) (B + C) := fun j hj => by
  have h1 := h j hj
  have h2 := k j hj
  rw [add_up]
  show -(B + C) ≤ a.up j + b.up j ∧ a.up j + b.up j ≤ B + C
  omega
theorem big_zero : Big V.zero 0 := fun j hj => by rw [zero_up]; exact ⟨Int.le_refl _, Int.le_refl _⟩
theorem trn_big {a : Nat → Int} (h : InR a) (t : Nat) (j : Nat) (hj : j < 8) : -4000000 ≤ trn a t j ∧ trn a t j ≤ 4000000 := by
  have hp : ∀ k, -1000000 ≤ tpow a t 8 k ∧ tpow a t 8 k ≤ 1000000 := fun k => by
    unfold tpow
    split
    · rename_i hk; exact h _ hk
    · omega
  unfold trn red
  have h1 := hp j; have h2 := hp (j + 4); have h3 := hp (j + 8); have h4 := hp (j + 12); have h5 := hp (j + 16); have h6 := hp (j + 20)
  split <;> omega
theorem big_tV {a : V} (h : okv a = true) {t : Nat} (ht : t ≤ 23) : Big (tV t a) 4000000 := fun j hj => by
  rw [← tV_trn a ht, up_dn _ j hj]; exact trn_big (inR_bound h) t j hj

theorem plus_big (a b : Nat → Int) (ha : ∀ j, j < 8 → -1000000000000 ≤ a j ∧ a j ≤ 1000000000000) (hb : ∀ j, j < 8 → -1000000000000 ≤ b j ∧ b j ≤ 1000000000000) (w : World) :
    Calls Try.prog 46 #[pt a, pt b] w fun e w' => e = .returned (pt (add a b)) ∧ Below w.heap.size w w' := by
  unfold pt
  have sa := vec_size 8 a
  have sb := vec_size 8 b
  go_enter Try.func46, Try.ntmps46
  go_wp2_with fail
  go_loopw [5, 6] (fun _ i wr => ∃ k : Nat, k ≤ 8 ∧ i = .int .i64 k ∧ RowAt wr w.heap.size 8 74 (mix k (add a b) a) ∧ RowAt wr (w.heap.size + 1) 8 74 b ∧ RowAt wr (w.heap.size + 1 + 1) 8 74 (fun _ => 0) ∧ Below w.heap.size w wr) (fun _ i _ => 8 - (intOf i).toNat)
  case atStart => exact ⟨0, Nat.zero_le _, rfl, by rw [mix_zero]; exact ((RowAt.newAt rfl rfl).alloc _).alloc _, (RowAt.newAt rfl (by simp)).alloc _, RowAt.newAt zero8 (by simp), (((Below.refl _ _).alloc (Nat.le_refl _) _).alloc (by simp) _).alloc (by simp; omega) _⟩
  case round =>
    obtain ⟨k, hk, rfl, hA, hB, hO, hbel⟩ := hrel
    by_cases hlt : k < 8
    · have cA := hA.cell hlt
      have fA := hA.free k
      have cB := hB.cell hlt
      rw [mix_at] at cA
      have hlt' : (k : Int) < 8 := by omega
      have hk0 : (0 : Int) ≤ (k : Int) := by omega
      have b1 := ha k hlt
      have b2 := hb k hlt
      have hA2 := hA.set hlt (add a b k)
      rw [mix_step] at hA2
      have HA := Lib.hid hA2
      have HB := Lib.hid (hB.other ⟨w.heap.size, k, none⟩ (.int .i64 (a k + b k)) (by simp))
      have HO := Lib.hid (hO.other ⟨w.heap.size, k, none⟩ (.int .i64 (a k + b k)) (by simp; try omega))
      have HL := Lib.hid ((hbel.setCell (p := ⟨w.heap.size, k, none⟩) (Nat.le_refl _) (.int .i64 (a k + b k))))
      clear hA hA2 hB hO hbel
      go_wp2_with fail
      go_still_tail 8, (by kernel_rfl)
      go_wp2_with fail
      go_roundw
      case rel => exact ⟨k + 1, by omega, by go_num, HA.out, HB.out, HO.out, HL.out.drew⟩
      case measure => simp [intOf]; omega
    · obtain rfl : k = 8 := by omega
      have HA := Lib.hid hA; have HO := Lib.hid hO; have HL := Lib.hid hbel
      clear hA hB hO hbel
      go_wp2_with (first | (refine load_row rfl rfl rfl HA.out Try.underlying74 rfl info_exact ?_) | (refine store_row rfl rfl rfl rfl HO.out info_exact ?_))
      refine bodyPost_ret (results_row rfl rfl HO.out.setRow Try.underlying74 rfl info_exact) rfl ?_
      exact ⟨by rw [vec_mix], below_setRow HL.out (by omega) _⟩
theorem plusV (a b : V) (ha : Big a 1000000000000) (hb : Big b 1000000000000) (w : World) :
    Calls Try.prog 46 #[pt a.up, pt b.up] w fun e w' => e = .returned (pt (V.add a b).up) ∧ Below w.heap.size w w' := by
  rw [add_up]; exact plus_big a.up b.up ha hb w
theorem toldV (a : V) (w : World) :
    Calls Try.prog 48 #[pt a.up] w fun e w' => e = .returned (.tuple #[pt (if okv a then a else V.zero).up, .bool (okv a)]) ∧ Below w.heap.size w w' := by
  refine (told_two a.up w).mono ?_
  rintro e w' ⟨rfl, h⟩
  refine ⟨?_, h⟩
  have : okc a.up = okv a := rfl
  rw [this]
  by_cases h : okv a = true
  · rw [h]; rfl
  · have h : okv a = false := by simpa using h
    rw [h]; simp only [Bool.false_eq_true, if_false, zero_up]

/-! A turn, so many times. -/
theorem turnTimes_any (t : Nat) (n : Int) (ht : t ≤ 23) (hn : -1000000 ≤ n ∧ n ≤ 1000000) (w : World) :
    Calls Try.prog 71 #[.int .i64 t, .int .i64 n] w fun e w' => e = .returned (.int .i64 (tm t n)) ∧ w = w' := by
  have hb : -1000000000 ≤ (t : Int) * n ∧ (t : Int) * n ≤ 1000000000 := by
    have h1 : (t : Int) ≤ 23 := by omega
    have h0 : (0 : Int) ≤ (t : Int) := by omega
    constructor
    · have := Int.mul_le_mul_of_nonneg_left hn.1 h0
      omega
    · have := Int.mul_le_mul_of_nonneg_left hn.2 h0
      omega
  have C := fun w => within_any ((t : Int) * n) (by omega) (by omega) w
  have e : ((t : Int) * n) % 24 = ((tm t n : Nat) : Int) := by unfold tm; omega
  rw [e] at C
  clear e
  have e2 : IntKind.i64.wrap ((t : Int) * n) = (t : Int) * n := by rw [IntKind.wrap_i64]; omega
  generalize tm t n = q at *
  clear hb ht hn
  go_enter Try.func71, Try.ntmps71
  go_wp2_with fail
  refine (C _).mono ?_; rintro e w' ⟨rfl, rfl⟩
  go_wp2_with fail
  go_ret
  exact ⟨rfl, rfl⟩

/-- A speed of a design. -/
theorem inS_bound {s : Int} (h : inS s = true) : -1000 ≤ s ∧ s ≤ 1000 := by
  unfold inS at h
  simpa using h

set_option maxHeartbeats 1000000 in
theorem at_any (c : Wh) (t : Nat) (ht : t ≤ 23) (hs : inS c.s = true) (hr : okv c.r = true) (w : World) :
    Calls Try.prog 47 #[wh c, .int .i64 t] w fun e w' => e = .returned (pt (tV (tm t c.s) c.r).up) ∧ Below w.heap.size w w' := by
  have sb := inS_bound hs
  have T := fun w => turnTimes_any t c.s ht (by omega) w
  have hq := tm_lt t c.s
  have C := fun w => turnedV c.r (tm t c.s) hq hr w
  generalize tm t c.s = q at *
  generalize tV q c.r = r at *
  clear sb hs hr
  go_enter Try.func47, Try.ntmps47
  go_upto_region 1 with fail
  show Code.wp _ _ _ _ (boxC w c 8 74)
  obtain ⟨hA, hO, hL⟩ := boxC_facts w c 8 74
  generalize boxC w c 8 74 = W at *
  refine wp_region_held_drew (S := fun w' => RowAt w' w.heap.size 9 76 (wf c) ∧ (∃ f, RowAt w' (w.heap.size + 1) 8 74 f) ∧ Below w.heap.size w w') (by kernel_rfl) ⟨hA.drew1, ⟨_, hO.drew1⟩, hL.drew⟩ (fun hHeld => ?_)
  clear hA hO hL
  refine wpAnyH_take (i := 0) (oi := _) (v := .pointer (some ⟨w.heap.size, 1, none⟩)) rfl (by kernel_rfl) (by kernel_rfl) (by kernel_rfl) (fun _ _ _ h => h) (Or.inl ⟨by rfl, fun w h => by go_simp⟩) hHeld ?_
  try simp only [Act.put, List.setIfInBounds_toArray, List.set_cons_zero, List.set_cons_succ, List.getElem_toArray, List.getElem_cons_succ, List.getElem_cons_zero]
  refine wpAnyH_take (i := 1) (oi := _) (v := .agg (vec 8 c.r.up)) rfl (by kernel_rfl) (by kernel_rfl) (by kernel_rfl) (fun _ _ _ h => h) (yieldsIf_load_mid (by rfl) _ _ rfl _ _ rfl _ _ ((fun w h => row_radius h.1)) Try.underlying74 rfl (size_exact8 _)) hHeld ?_
  try simp only [Act.put, List.setIfInBounds_toArray, List.set_cons_zero, List.set_cons_succ, List.getElem_toArray, List.getElem_cons_succ, List.getElem_cons_zero]
  refine wpAnyH_take (i := 2) (oi := _) (v := .int .i64 t) rfl (by kernel_rfl) (by kernel_rfl) (by kernel_rfl) (fun _ _ _ h => h) (Or.inl ⟨by rfl, fun w h => by go_simp⟩) hHeld ?_
  try simp only [Act.put, List.setIfInBounds_toArray, List.set_cons_zero, List.set_cons_succ, List.getElem_toArray, List.getElem_cons_succ, List.getElem_cons_zero]
  refine wpAnyH_take (i := 3) (oi := _) (v := .pointer (some ⟨w.heap.size, 0, none⟩)) rfl (by kernel_rfl) (by kernel_rfl) (by kernel_rfl) (fun _ _ _ h => h) (Or.inl ⟨by rfl, fun w h => by go_simp⟩) hHeld ?_
  try simp only [Act.put, List.setIfInBounds_toArray, List.set_cons_zero, List.set_cons_succ, List.getElem_toArray, List.getElem_cons_succ, List.getElem_cons_zero]
  refine wpAnyH_take (i := 4) (oi := _) (v := .int .i64 c.s) rfl (by kernel_rfl) (by kernel_rfl) (by kernel_rfl) (fun _ _ _ h => h) (Or.inl ⟨by rfl, fun w h => by have hcell := row_speed h.1; go_simp⟩) hHeld ?_
  try simp only [Act.put, List.setIfInBounds_toArray, List.set_cons_zero, List.set_cons_succ, List.getElem_toArray, List.getElem_cons_succ, List.getElem_cons_zero]
  refine wpAnyH_ready (rs := [5]) (by kernel_rfl) (by simp) ?_
  refine AllReadyH.cons (o := _) rfl (fun K hK => ?_) AllReadyH.nil
  go_simp
  refine (T _).mono ?_; rintro e w1 ⟨rfl, rfl⟩
  go_wp2_with fail
  refine hK.out _ _ hHeld (fun hHeld => ?_)
  clear hK K
  try simp only [Act.put, List.setIfInBounds_toArray, List.set_cons_zero, List.set_cons_succ, List.getElem_toArray, List.getElem_cons_succ, List.getElem_cons_zero]
  refine wpAnyH_ready (rs := [6]) (by kernel_rfl) (by simp) ?_
  refine AllReadyH.cons (o := _) rfl (fun K hK => ?_) AllReadyH.nil
  go_simp
  refine (C _).mono ?_; rintro e w1 ⟨rfl, hb1⟩
  go_wp2_with fail
  obtain ⟨h1, ⟨_, h2⟩, h3⟩ := hHeld
  refine hK.out _ _ ⟨h1.below hb1, ⟨_, h2.below hb1⟩, below_next h3 hb1⟩ (fun hHeld => ?_)
  clear hK K
  try simp only [Act.put, List.setIfInBounds_toArray, List.set_cons_zero, List.set_cons_succ, List.getElem_toArray, List.getElem_cons_succ, List.getElem_cons_zero]
  clear h1 h2 h3 hb1
  refine wpAnyH_ready (rs := [7]) (by kernel_rfl) (by simp) ?_
  refine AllReadyH.cons (o := _) rfl (fun K hK => ?_) AllReadyH.nil
  rw [if_pos (by rfl)]
  obtain ⟨h1, ⟨_, h2⟩, h3⟩ := hHeld
  refine store_step (f' := r.up) rfl rfl rfl h2 info_exact ?_
  have hG := h2.setRow (f' := r.up)
  have hF := below_setRow h3 (g := w.heap.size + 1) (by omega) (vec 8 r.up)
  refine hK.out _ _ ⟨h1.rowOther _ _ (by omega), ⟨_, hG⟩, hF⟩ (fun hHeld => ?_)
  clear hK K
  try simp only [Act.put, List.setIfInBounds_toArray, List.set_cons_zero, List.set_cons_succ, List.getElem_toArray, List.getElem_cons_succ, List.getElem_cons_zero]
  clear h1 h2 h3 hHeld
  refine wpAnyH_done (by kernel_rfl) ?_ _
  go_wp2_with fail
  refine bodyPost_ret (results_row rfl rfl hG Try.underlying74 rfl info_exact) rfl ?_
  exact ⟨rfl, hF⟩

set_option maxHeartbeats 1000000 in
theorem faster_any (c : Wh) (n : Int) (hn : -1000000 ≤ n ∧ n ≤ 1000000) (hs : inS c.s = true) (w : World) :
    Calls Try.prog 92 #[wh c, .int .i64 n] w fun e w' => e = .returned (wh (fastW n c)) ∧ Below w.heap.size w w' := by
  have e1 : wh (fastW n c) = wh ⟨c.s * n, dn c.r.up⟩ := by rw [dn_up]; rfl
  rw [e1]
  have sb := inS_bound hs
  have hb : -1000000000 ≤ c.s * n ∧ c.s * n ≤ 1000000000 := by
    have h1 : c.s * n = n * c.s := Int.mul_comm _ _
    have key : ∀ x y : Int, -1000 ≤ x → x ≤ 1000 → -1000000 ≤ y → y ≤ 1000000 → x * y ≤ 1000000000 := fun x y h1 h2 h3 h4 => by
      rcases Int.le_total 0 x with hx | hx
      · have := Int.mul_le_mul_of_nonneg_left h4 hx; omega
      · have h := Int.mul_le_mul_of_nonneg_left h3 (show 0 ≤ -x by omega)
        have e : -x * y = -(x * y) := Int.neg_mul _ _
        omega
    have k1 := key c.s n sb.1 sb.2 hn.1 hn.2
    have k2 := key (-c.s) n (by omega) (by omega) hn.1 hn.2
    have e : -c.s * n = -(c.s * n) := Int.neg_mul _ _
    omega
  have e2 : IntKind.i64.wrap (c.s * n) = c.s * n := by rw [IntKind.wrap_i64]; omega
  have hA : RowAt (boxC w c 9 76) w.heap.size 9 76 (wf c) := (boxC_facts w c 9 _).1
  have hO : RowAt (boxC w c 9 76) (w.heap.size + 1) 9 76 nul := (boxC_facts w c 9 _).2.1
  have hL := (boxC_facts w c 9 76).2.2
  clear hb sb hn
  go_enter Try.func92, Try.ntmps92
  go_upto_region 1 with fail
  show Code.wp _ _ _ _ (boxC w c 9 76)
  generalize boxC w c 9 76 = W at *
  have hc := row_speed hA
  have HA := Lib.hid hA
  have HO := Lib.hid hO
  have HL := Lib.hid hL
  clear hA hO hL
  go_wp2_with (first | (refine load_part (T := 74) rfl rfl rfl (row_radius HA.out) Try.underlying74 rfl info_exact ?_) | (refine build_wheel (T := 76) rfl rfl rfl rfl built_circle ?_) | (refine store_row (ty := 76) rfl rfl rfl rfl HO.out info_circle ?_))
  refine bodyPost_ret (results_row rfl rfl HO.out.setRow Try.underlying76 rfl info_circle) rfl ?_
  exact ⟨rfl, below_setRow HL.out (by omega) _⟩

theorem back_any (c : Wh) (hs : inS c.s = true) (w : World) :
    Calls Try.prog 75 #[wh c] w fun e w' => e = .returned (wh (fastW (-1) c)) ∧ Below w.heap.size w w' := by
  have C := fun w => faster_any c (-1) (by omega) hs w
  generalize fastW (-1) c = d at *
  obtain ⟨hA, hO, hL⟩ := boxC_facts w c 9 76
  go_enter Try.func75, Try.ntmps75
  go_upto_region 1 with fail
  show Code.wp _ _ _ _ (boxC w c 9 76)
  generalize boxC w c 9 76 = W at *
  have HA := Lib.hid hA
  have HO := Lib.hid hO
  have HL := Lib.hid hL
  clear hA hO hL
  go_wp2_with (first | (refine load_row (ty := 76) rfl rfl rfl HA.out Try.underlying76 rfl info_circle ?_))
  refine (C _).mono ?_; rintro e w1 ⟨rfl, hb1⟩
  have HO1 := Lib.hid (HO.out.below hb1)
  have HL1 := Lib.hid (below_next HL.out hb1)
  clear hb1 C
  go_wp2_with (first | (refine store_row (ty := 76) rfl rfl rfl rfl HO1.out info_circle ?_))
  refine bodyPost_ret (results_row rfl rfl HO1.out.setRow Try.underlying76 rfl info_circle) rfl ?_
  exact ⟨rfl, below_setRow HL1.out (by omega) _⟩

theorem isNothing_any (c : Wh) (w : World) :
    Calls Try.prog 63 #[wh c] w fun e w' => e = .returned (.bool (!nz c)) ∧ ∃ o, w' = w.alloc o := by
  have HA := Lib.hid (RowAt.new w 9 76 (wf c))
  have E : ∀ w, (Op.equalIn 10000 74 (.agg (vec 8 c.r.up)) (.agg #[.int .i64 0, .int .i64 0, .int .i64 0, .int .i64 0, .int .i64 0, .int .i64 0, .int .i64 0, .int .i64 0])).run Try.prog w = .ok (eqv 8 c.r.up nul) w := fun w => by
    rw [zero8]; exact equal_exact c.r.up nul w
  have hz : (eqv 8 c.r.up nul) = !nz c := by unfold nz; rw [Bool.not_not]
  rw [hz] at E
  generalize nz c = z at *
  clear hz
  go_enter Try.func63, Try.ntmps63
  go_wp2_with (first | (refine load_part (T := 74) rfl rfl rfl (row_radius HA.out) Try.underlying74 rfl info_exact ?_))
  go_ret
  exact ⟨rfl, _, rfl⟩

theorem nan_of (a : Int) (w : World) : Calls Try.prog 99 #[.int .i64 a] w fun e w' => e = .returned (.bool false) ∧ w = w' := by
  go_enter Try.func99, Try.ntmps99
  go_wp2
  go_ret
  exact ⟨by simp, rfl⟩
/-- How two speeds compare. -/
def cfS (a b : Int) : Int := if a < b then -1 else if b < a then 1 else 0
theorem cmp_of (a b : Int) (w : World) : Calls Try.prog 81 #[.int .i64 a, .int .i64 b] w fun e w' => e = .returned (.int .i64 (cfS a b)) ∧ w = w' := by
  have N1 := fun w => nan_of a w
  have N2 := fun w => nan_of b w
  by_cases h1 : a < b
  · go_enter Try.func81, Try.ntmps81
    go_wp2_with (first | (refine (N1 _).mono ?_; rintro e w' ⟨rfl, rfl⟩) | (refine (N2 _).mono ?_; rintro e w' ⟨rfl, rfl⟩))
    go_ret
    exact ⟨ret_int (by unfold cfS; rw [if_pos (by omega)]), rfl⟩
  · by_cases h2 : b < a
    · go_enter Try.func81, Try.ntmps81
      go_wp2_with (first | (refine (N1 _).mono ?_; rintro e w' ⟨rfl, rfl⟩) | (refine (N2 _).mono ?_; rintro e w' ⟨rfl, rfl⟩))
      go_ret
      exact ⟨ret_int (by unfold cfS; rw [if_neg (by omega), if_pos (by omega)]), rfl⟩
    · obtain rfl : a = b := by omega
      clear h1 h2
      go_enter Try.func81, Try.ntmps81
      go_wp2_with (first | (refine (N1 _).mono ?_; rintro e w' ⟨rfl, rfl⟩))
      go_ret
      exact ⟨ret_int (by unfold cfS; rw [if_neg (by omega), if_neg (by omega)]), rfl⟩
theorem bySpeed_any (c d : Wh) (w : World) :
    Calls Try.prog 60 #[wh c, wh d] w fun e w' => e = .returned (.int .i64 (cfS c.s d.s)) ∧ w' = (w.alloc (.cells (vec 9 (wf c)) 76)).alloc (.cells (vec 9 (wf d)) 76) := by
  have c1 := row_speed ((RowAt.new w 9 76 (wf c)).alloc (.cells (vec 9 (wf d)) 76))
  have c2 : (vec 9 (wf d))[0]? = some (.int .i64 d.s) := vec_at (wf d) (by omega)
  have C := fun w => cmp_of c.s d.s w
  generalize cfS c.s d.s = q at *
  go_enter Try.func60, Try.ntmps60
  go_wp2_with (first | (refine (C _).mono ?_; rintro e w1 ⟨rfl, rfl⟩))
  go_ret
  exact ⟨rfl, rfl⟩

end Go.Proofs.Ytbdhbkedeglagaa
/- The library's insertion sort lies in this program, at circles; what it is asked. -/
namespace Go.Proofs.Ytbdhbkedeglagaa
set_option maxRecDepth 20000
open Go.Shelf Go.RowKit Go.Lib Go.Sort
set_option linter.unusedVariables false
set_option linter.unusedSimpArgs false

def renC : Ren := { f := fun _ => 102, t := fun n => if n = 22 then 60 else if n = 24 then 76 else if n = 25 then 89 else n, g := fun n => n }
theorem laysIns : SlLaysF0.n20 Try.prog renC where
  mixed := by kernel_rfl
  f20 := ⟨Try.f102.name, by kernel_rfl, by kernel_rfl⟩
  t0 := by kernel_rfl
  a0 := fun w => by rfl
  z0 := fun w => by rfl
  v0 := fun w => by rfl
  t3 := by kernel_rfl
  a3 := fun w => by rfl
  z3 := fun w => by rfl
  v3 := fun w => by rfl
  t4 := by kernel_rfl
  a4 := fun w => by rfl
  z4 := fun w => by rfl
  v4 := fun w => by rfl
  t22 := by kernel_rfl
  a22 := fun w => by rfl
  z22 := fun w => by rfl
  v22 := fun w => by rfl
  t25 := by kernel_rfl
  a25 := fun w => by rfl
  z25 := fun w => by rfl
  v25 := fun w => by rfl

theorem mixed_any : Try.prog.follows .mixedOrders = true := by kernel_rfl
theorem agg_circle : ∀ w, (isAgg 76).run Try.prog w = .ok true w := fun w => by rfl
theorem size_of_circle : ∀ w, (Go.sizeOf 76).run Try.prog w = .ok 9 w := fun w => by rfl
/-- bySpeed as an order. -/
def cfW (x y : Wh) : Int := cfS x.s y.s
theorem ltOf_cfW : ltOf cfW = ltW := by
  funext x y
  unfold ltOf cfW cfS ltW
  by_cases h : x.s < y.s
  · simp [h]
  · by_cases h2 : y.s < x.s
    · simp [h, h2]
    · simp [h, h2]
theorem cmpLays_any (kk blk off size : Nat) (w : World) : CmpLays Try.prog 60 #[] enc kk cfW blk off size w := by
  intro m os dk hdk x y
  refine (bySpeed_any x y _).mono ?_
  rintro e w' ⟨rfl, rfl⟩
  refine ⟨rfl, 0, #[.cells (vec 9 (wf x)) 76, .cells (vec 9 (wf y)) 76], ?_⟩
  rw [alloc_eq_grow, alloc_eq_grow, grow_grow]; rfl
theorem enters_bySpeed : ∀ args w, (callFunc 60 args).run Try.prog w = .ok (.enter 60 args) w := enters_of Try.func60 (by kernel_rfl) rfl
theorem cmp_step {kk blk off : Nat} {w0 W : World} {dk : Array Wh} (h : SWK enc kk w0 blk off dk W) (x y : Wh) (n : Nat) (os : Array Obj) :
    Calls Try.prog 60 #[.agg (enc x).toArray, .agg (enc y).toArray] (grow (W.drewN n) os) fun e w' => e = .returned (.int .i64 (cfW x y)) ∧ ∃ q os', w' = grow ((grow (W.drewN n) os).drewN q) os' := by
  have := h.cmp (cmpLays_any kk blk off dk.size w0) rfl x y n os
  rwa [Array.append_empty] at this
/-- The slice that is sorted, and the comparison. -/
abbrev rowV (blk off n cap : Nat) : Value := .slice (some ⟨blk, off, none⟩) n cap
abbrev byV : Value := .func (.func 60) #[] #[]

theorem insertion_any (blk off cap a b : Nat) (d0 d : Array Wh) (w0 w : World) (R : RowK enc 9 w0 blk off d0) (hs : d0.size = d.size) (S : SWK enc 9 w0 blk off d w) (hab : a ≤ b) (hb : b ≤ d.size) (hsz : d.size ≤ 1000000) :
    Calls Try.prog 102 #[rowV blk off d.size cap, .int .i64 a, .int .i64 b, byV] w fun e w' => e = .returned (.tuple #[]) ∧ ∃ d', Merged d d' a b ∧ SWK enc 9 w0 blk off d' w' := by
  have h := AnyQ.insertionSortCmpFunc laysIns 9 agg_circle size_of_circle enc R.hk R.h1 cfW 60 #[] blk off cap a b d w enters_bySpeed (cmpLays_any 9 blk off d.size w) (S.holds R.hblk R.hH hs.symm) (S.lt R.hblk) hab hb (by omega)
  rw [ltOf_cfW] at h
  refine h.mono ?_
  rintro e w' ⟨rfl, n, os, rfl⟩
  have hM := insertion_merged hab hb
  exact ⟨rfl, _, hM, S.on R.hblk n _ os hM.keeps.1⟩

set_option maxHeartbeats 4000000 in
theorem swapRange_any (kk : Nat) (zE : ∀ w, (Go.sizeOf 76).run Try.prog w = .ok kk w) (blk off cap a b n : Nat) (d0 d : Array Wh) (w0 w : World) (R : RowK enc kk w0 blk off d0) (hs : d0.size = d.size) (S : SWK enc kk w0 blk off d w) (hab : a + n ≤ b) (hb : b + n ≤ d.size) (hsz : d.size ≤ 1000000) :
    Calls Try.prog 105 #[rowV blk off d.size cap, .int .i64 a, .int .i64 b, .int .i64 n, byV] w fun e w' => e = .returned (.tuple #[]) ∧ ∃ d', SwapR d d' a b n ∧ SWK enc kk w0 blk off d' w' := by
  have mixed := mixed_any
  have aE := agg_circle
  have S0 : Aside (SWK enc kk w0 blk off d w) := S
  clear S
  go_enter Try.func105, Try.ntmps105
  go_wp2
  go_loopg [10] n (fun kx s10 wr => ∃ (k : Nat) (dk : Array Wh), s10 = .int .i64 k ∧ k ≤ n ∧ n - k ≤ kx ∧ dk.size = d.size ∧ Aside (SWK enc kk w0 blk off dk wr) ∧ Aside (SwapR d dk a b k))
  case atStart => exact ⟨0, d, rfl, by omega, by omega, rfl, S0, SwapR.none d a b⟩
  case round =>
    clear S0
    obtain ⟨k, dk, rfl, hk, hkx, hds, S1, H1⟩ := hrel
    by_cases hlt : k < n
    · have hltz : (k : Int) < (n : Int) := by omega
      have ea : ((a : Int) + (k : Int)).toNat = a + k := by omega
      have pa : (0 : Int) ≤ (a : Int) + (k : Int) := by omega
      have ba : (a : Int) + (k : Int) < (d.size : Int) := by omega
      have ra : IntKind.i64.wrap ((a : Int) + (k : Int)) = (a : Int) + (k : Int) := by rw [IntKind.wrap_i64]; omega
      have ec : ((b : Int) + (k : Int)).toNat = b + k := by omega
      have pc : (0 : Int) ≤ (b : Int) + (k : Int) := by omega
      have bc : (b : Int) + (k : Int) < (d.size : Int) := by omega
      have rc : IntKind.i64.wrap ((b : Int) + (k : Int)) = (b : Int) + (k : Int) := by rw [IntKind.wrap_i64]; omega
      have S2 : Aside (SWK enc kk w0 blk off (swp dk (a + k) (b + k)) ((wr.drew.setCells blk (off + (a + k) * kk) (enc dk[b + k]!)).setCells blk (off + (b + k) * kk) (enc dk[a + k]!))) := S1.out.swapped R (a + k) (b + k) (by omega) (by omega)
      have H2 : Aside (SwapR d (swp dk (a + k) (b + k)) a b (k + 1)) := H1.out.step hlt hab hb
      have la := S1.out.ld1 R (by omega) Try.prog (a + k) (by omega)
      have lb := S1.out.ld1 R (by omega) Try.prog (b + k) (by omega)
      have sa := S1.out.st1 R (by omega) Try.prog (a + k) (by omega) dk[b + k]!
      have sb := S1.out.st2 R (by omega) Try.prog (a + k) (b + k) (by omega) (by omega) dk[b + k]! dk[a + k]!
      have na : (enc dk[a + k]!).length = kk := R.hk _
      have nb : (enc dk[b + k]!).length = kk := R.hk _
      generalize enc dk[a + k]! = cI at S2 la sb na
      generalize enc dk[b + k]! = cJ at S2 lb sa sb nb
      clear S1 H1
      go_wp2_with fail
      go_big_region_o
      clear la lb sa sb
      generalize (wr.drew.setCells blk (off + (a + k) * kk) cJ).setCells blk (off + (b + k) * kk) cI = w2 at S2 ⊢
      go_wp2
      go_roundg (n - (k + 1))
      case measure => omega
      case rel => exact ⟨k + 1, swp dk (a + k) (b + k), by go_num, by omega, Nat.le_refl _, by rw [size_swp]; exact hds, S2, H2⟩
    · obtain rfl : k = n := by omega
      go_wp2
      go_end0
      exact ⟨rfl, dk, H1.out, S1.out⟩

end Go.Proofs.Ytbdhbkedeglagaa
/- The library's rotation and merge, at circles. -/
namespace Go.Proofs.Ytbdhbkedeglagaa
set_option maxRecDepth 100000
open Go.Shelf Go.RowKit Go.Lib Go.Sort
set_option linter.unusedVariables false
set_option linter.unusedSimpArgs false

set_option maxHeartbeats 4000000 in
theorem rotate_any (kk : Nat) (zE : ∀ w, (Go.sizeOf 76).run Try.prog w = .ok kk w) (blk off cap a m b : Nat) (d0 d : Array Wh) (w0 w : World) (R : RowK enc kk w0 blk off d0) (hs : d0.size = d.size) (S : SWK enc kk w0 blk off d w) (ham : a < m) (hmb : m < b) (hb : b ≤ d.size) (hsz : d.size ≤ 1000000) :
    Calls Try.prog 104 #[rowV blk off d.size cap, .int .i64 a, .int .i64 m, .int .i64 b, byV] w fun e w' => e = .returned (.tuple #[]) ∧ ∃ d', Rot d d' a m b ∧ SWK enc kk w0 blk off d' w' := by
  have r1 : IntKind.i64.wrap ((m : Int) - (a : Int)) = ((m - a : Nat) : Int) := by rw [IntKind.wrap_i64]; omega
  have r2 : IntKind.i64.wrap ((b : Int) - (m : Int)) = ((b - m : Nat) : Int) := by rw [IntKind.wrap_i64]; omega
  have S0 : Aside (SWK enc kk w0 blk off d w) := S
  clear S
  go_enter Try.func104, Try.ntmps104
  go_wp2
  go_loopg [10, 11] (b - a) (fun kx s10 s11 wr => ∃ (i j : Nat) (dk : Array Wh), s10 = .int .i64 i ∧ s11 = .int .i64 j ∧ 1 ≤ i ∧ 1 ≤ j ∧ i ≤ m - a ∧ j ≤ b - m ∧ i + j ≤ kx ∧ dk.size = d.size ∧ Aside (SWK enc kk w0 blk off dk wr) ∧ Aside (∀ e, Rot dk e (m - i) m (m + j) → Rot d e a m b))
  case atStart => exact ⟨m - a, b - m, d, rfl, rfl, by omega, by omega, Nat.le_refl _, Nat.le_refl _, by omega, rfl, S0, (show ∀ e, _ from fun e he => by rwa [show m - (m - a) = a from by omega, show m + (b - m) = b from by omega] at he)⟩
  case round =>
    clear S0 r1 r2
    obtain ⟨i, j, dk, rfl, rfl, hi1, hj1, hia, hjb, hkx, hds, S1, H1⟩ := hrel
    have q1 : IntKind.i64.wrap ((m : Int) - (i : Int)) = ((m - i : Nat) : Int) := by rw [IntKind.wrap_i64]; omega
    by_cases hij : i = j
    · subst hij
      have C := swapRange_any kk zE blk off cap (m - i) m i d0 dk w0 wr R (by omega) S1.out (by omega) (by omega) (by omega)
      rw [hds] at C
      have hc := Lib.hid C
      clear C S1
      go_wp2_with fail
      refine hc.out.mono ?_; rintro e w2 ⟨rfl, d2, h2, S2⟩
      go_wp2
      go_end0
      exact ⟨rfl, d2, H1.out _ (Rot.ofBoth h2 (by omega)), S2⟩
    · have hijz : ¬ (i : Int) = (j : Int) := by omega
      by_cases hlt : j < i
      · have hltz : (j : Int) < (i : Int) := by omega
        have q2 : IntKind.i64.wrap ((i : Int) - (j : Int)) = ((i - j : Nat) : Int) := by rw [IntKind.wrap_i64]; omega
        have C := swapRange_any kk zE blk off cap (m - i) m j d0 dk w0 wr R (by omega) S1.out (by omega) (by omega) (by omega)
        rw [hds] at C
        have hc := Lib.hid C
        clear C S1
        go_wp2_with fail
        refine hc.out.mono ?_; rintro e w2 ⟨rfl, d2, h2, S2⟩; have S3 : Aside _ := S2; have h3 : Aside _ := h2; clear S2 h2
        go_wp2
        go_roundg (i - j + j)
        case measure => omega
        case rel => exact ⟨i - j, j, d2, rfl, rfl, by omega, hj1, by omega, hjb, Nat.le_refl _, h3.out.size.trans hds, S3, (show ∀ e, _ from fun e he => H1.out _ (Rot.ofLeft h3.out hlt (by omega) he))⟩
      · have hltz : ¬ (j : Int) < (i : Int) := by omega
        have q2 : IntKind.i64.wrap ((j : Int) - (i : Int)) = ((j - i : Nat) : Int) := by rw [IntKind.wrap_i64]; omega
        have q3 : IntKind.i64.wrap ((m : Int) + (j : Int)) = ((m + j : Nat) : Int) := by rw [IntKind.wrap_i64]; omega
        have q4 : IntKind.i64.wrap (((m + j : Nat) : Int) - (i : Int)) = ((m + j - i : Nat) : Int) := by rw [IntKind.wrap_i64]; omega
        have q5 : IntKind.i64.wrap ((m : Int) + (j : Int) - (i : Int)) = ((m + j - i : Nat) : Int) := by rw [IntKind.wrap_i64]; omega
        have C := swapRange_any kk zE blk off cap (m - i) (m + j - i) i d0 dk w0 wr R (by omega) S1.out (by omega) (by omega) (by omega)
        rw [hds] at C
        have hc := Lib.hid C
        clear C S1
        go_wp2_with fail
        refine hc.out.mono ?_; rintro e w2 ⟨rfl, d2, h2, S2⟩; have S3 : Aside _ := S2; have h3 : Aside _ := h2; clear S2 h2
        go_wp2
        go_roundg (i + (j - i))
        case measure => omega
        case rel => exact ⟨i, j - i, d2, rfl, rfl, hi1, by omega, hia, by omega, Nat.le_refl _, h3.out.size.trans hds, S3, (show ∀ e, _ from fun e he => H1.out _ (Rot.ofRight h3.out (by omega) (by omega) he))⟩

/-- What a merge is asked, and answers. -/
def MergeSaid (kk blk off cap : Nat) (d0 : Array Wh) (w0 : World) (a m b : Nat) (d : Array Wh) (w : World) : Prop :=
  Calls Try.prog 103 #[rowV blk off d.size cap, .int .i64 a, .int .i64 m, .int .i64 b, byV] w fun e w' => e = .returned (.tuple #[]) ∧ ∃ d', Merged d d' a b ∧ SWK enc kk w0 blk off d' w'
theorem half_of (i j : Nat) : ((i : Int) + (j : Int)) / 2 = (((i + j) / 2 : Nat) : Int) := by omega
theorem cf_lt {x y : Wh} (h : x.s < y.s) : cfW x y < 0 := by unfold cfW cfS; rw [if_pos h]; omega
theorem cf_ge {x y : Wh} (h : ¬ x.s < y.s) : ¬ cfW x y < 0 := by unfold cfW cfS; rw [if_neg h]; split <;> omega

set_option maxHeartbeats 1000000 in
theorem merge_one (kk : Nat) (zE : ∀ w, (Go.sizeOf 76).run Try.prog w = .ok kk w) (blk off cap : Nat) (d0 : Array Wh) (w0 : World) (R : RowK enc kk w0 blk off d0) (a b : Nat) (d : Array Wh) (w : World) (hs : d0.size = d.size) (S : SWK enc kk w0 blk off d w)
    (hmb : a + 1 < b) (hb : b ≤ d.size) (hsz : d.size ≤ 1000000) (U2 : Up d (a + 1) b) : MergeSaid kk blk off cap d0 w0 a (a + 1) b d w := by
  unfold MergeSaid
  have mixed := mixed_any
  have aE := agg_circle
  have eg := enters_bySpeed
  have S0 : Aside (SWK enc kk w0 blk off d w) := S
  have HU : Aside (Up d (a + 1) b) := U2
  clear S U2
  have r1 : IntKind.i64.wrap (((a + 1 : Nat) : Int) - (a : Int)) = 1 := by rw [IntKind.wrap_i64]; omega
  have r2 : IntKind.i64.wrap ((a : Int) + 1 - (a : Int)) = 1 := by rw [IntKind.wrap_i64]; omega
  go_enter Try.func103, Try.ntmps103
  go_wp2
  go_loopg [10, 11, 12] (b - a) (fun kx s10 s11 _ wr => ∃ (i j : Nat), s10 = .int .i64 i ∧ s11 = .int .i64 j ∧ a + 1 ≤ i ∧ i ≤ j ∧ j ≤ b ∧ j - i ≤ kx ∧ Aside (SWK enc kk w0 blk off d wr) ∧ Aside ((∀ x, a + 1 ≤ x → x < i → d[x]!.s < d[a]!.s) ∧ ∀ x, j ≤ x → x < b → d[a]!.s ≤ d[x]!.s))
  case atStart => exact ⟨a + 1, b, by go_num, rfl, Nat.le_refl _, by omega, Nat.le_refl _, by omega, S0, (show _ ∧ _ from ⟨fun x h1 h2 => by omega, fun x h1 h2 => by omega⟩)⟩
  case round =>
    clear S0
    obtain ⟨i, j, rfl, rfl, hai, hij, hjb, hkx, S1, H1⟩ := hrel
    by_cases hlt : i < j
    · have hltz : (i : Int) < (j : Int) := by omega
      obtain ⟨h, hh⟩ : ∃ h, h = (i + j) / 2 := ⟨_, rfl⟩
      have he : ((i : Int) + (j : Int)) / 2 = (h : Int) := by omega
      have hz : (h : Int) < (d.size : Int) := by omega
      have hk1 : h < j := by omega
      have hk2 : i ≤ h := by omega
      clear hh
      have haz : (a : Int) < (d.size : Int) := by omega
      have l1 := fun n os => S1.out.ld R (by omega) Try.prog h (by omega) n os
      have l2 := fun n os => S1.out.ld R (by omega) Try.prog a (by omega) n os
      obtain ⟨vx, hvx⟩ : ∃ v, d[h]! = v := ⟨_, rfl⟩
      obtain ⟨vy, hvy⟩ : ∃ v, d[a]! = v := ⟨_, rfl⟩
      rw [hvx] at l1
      rw [hvy] at l2
      have hcg : ∀ n os, Calls Try.prog 60 #[.agg (enc vx).toArray, .agg (enc vy).toArray] (grow (wr.drewN n) os) fun e w' => e = .returned (.int .i64 (cfW vx vy)) ∧ ∃ q os', w' = grow ((grow (wr.drewN n) os).drewN q) os' := fun n os => cmp_step S1.out vx vy n os
      have HV : Aside (d[h]! = vx ∧ d[a]! = vy) := ⟨hvx, hvy⟩
      clear hvx hvy
      by_cases hl : cfW vx vy < 0
      · go_wp2_with fail
        go_quiet_grown (first | (go_at_fn 60; refine Calls.grown_of (hcg _ _)))
        go_wp2
        have hlv : vx.s < vy.s := Decidable.byContradiction fun hn => cf_ge hn hl
        go_roundg (j - (h + 1))
        case measure => omega
        case rel => exact ⟨h + 1, j, by go_num, rfl, by omega, by omega, hjb, Nat.le_refl _, S1.out.grown nq osq, (show _ ∧ _ from ⟨fun x h1 h2 => by
          have := HU.out x h h1 (by omega) (by omega)
          rw [HV.out.1] at this
          rw [HV.out.2]; omega, H1.out.2⟩)⟩
      · go_wp2_with fail
        go_quiet_grown (first | (go_at_fn 60; refine Calls.grown_of (hcg _ _)))
        go_wp2
        have hlv : ¬ vx.s < vy.s := fun hn => by have := cf_lt hn; omega
        go_roundg (h - i)
        case measure => omega
        case rel => exact ⟨i, h, rfl, rfl, hai, by omega, by omega, Nat.le_refl _, S1.out.grown nq osq, (show _ ∧ _ from ⟨H1.out.1, fun x h1 h2 => by
          have := HU.out h x (by omega) h1 h2
          rw [HV.out.1] at this
          rw [HV.out.2]; omega⟩)⟩
    · obtain rfl : i = j := by omega
      have q1 : IntKind.i64.wrap ((i : Int) - 1) = ((i - 1 : Nat) : Int) := by rw [IntKind.wrap_i64]; omega
      go_wp2
      go_loopg [13] (i - a) (fun kx s13 wr => ∃ (k : Nat) (dk : Array Wh), s13 = .int .i64 k ∧ a ≤ k ∧ k ≤ i - 1 ∧ i - k ≤ kx ∧ dk.size = d.size ∧ Aside (SWK enc kk w0 blk off dk wr) ∧ Aside (Rot d dk a (a + 1) (k + 1)))
      case atStart => exact ⟨a, d, rfl, Nat.le_refl _, by omega, Nat.le_refl _, rfl, S1, (show Rot _ _ _ _ _ from Rot.first d a)⟩
      case round =>
        clear S1
        have HH := H1
        clear H1
        obtain ⟨k, dk, rfl, hak, hki, hkx, hds, S1, H1⟩ := hrel
        by_cases hlt : k < i - 1
        · have hltz : (k : Int) < ((i - 1 : Nat) : Int) := by omega
          have q2 : IntKind.i64.wrap ((k : Int) + 1) = ((k + 1 : Nat) : Int) := by rw [IntKind.wrap_i64]; omega
          have b1 : (k : Int) < (d.size : Int) := by omega
          have b2 : ((k + 1 : Nat) : Int) < (d.size : Int) := by omega
          have b3 : (k : Int) + 1 < (d.size : Int) := by omega
          have H2 : Aside (Rot d (swp dk k (k + 1)) a (a + 1) (k + 2)) := H1.out.firstStep hak (by omega)
          have S2 : Aside (SWK enc kk w0 blk off (swp dk (k) (k + 1)) ((wr.drew.setCells blk (off + (k) * kk) (enc dk[k + 1]!)).setCells blk (off + (k + 1) * kk) (enc dk[k]!))) := S1.out.swapped R (k) (k + 1) (by omega) (by omega)
          have la := S1.out.ld1 R (by omega) Try.prog (k) (by omega)
          have lb := S1.out.ld1 R (by omega) Try.prog (k + 1) (by omega)
          have sa := S1.out.st1 R (by omega) Try.prog (k) (by omega) dk[k + 1]!
          have sb := S1.out.st2 R (by omega) Try.prog (k) (k + 1) (by omega) (by omega) dk[k + 1]! dk[k]!
          have na : (enc dk[k]!).length = kk := R.hk _
          have nb : (enc dk[k + 1]!).length = kk := R.hk _
          generalize enc dk[k]! = cI at S2 la sb na
          generalize enc dk[k + 1]! = cJ at S2 lb sa sb nb
          clear S1 H1
          go_wp2_with fail
          go_big_region_o
          clear la lb sa sb
          generalize (wr.drew.setCells blk (off + (k) * kk) cJ).setCells blk (off + (k + 1) * kk) cI = w2 at S2 ⊢
          go_wp2
          go_roundg (i - (k + 1))
          case measure => omega
          case rel => exact ⟨k + 1, swp dk k (k + 1), by go_num, by omega, by omega, Nat.le_refl _, by rw [size_swp]; exact hds, S2, H2⟩
        · obtain rfl : k = i - 1 := by omega
          go_wp2
          (try simp only [Exit.inBlock, Exit.then]); refine bodyPost_ret (results_none rfl _ _ _) rfl ?_
          have hr := H1.out
          rw [show i - 1 + 1 = i from by omega] at hr
          exact ⟨rfl, dk, merge_first (by omega) (by omega) hb HU.out HH.out.1 HH.out.2 hr, S1.out⟩

set_option maxHeartbeats 1000000 in
theorem merge_two (kk : Nat) (zE : ∀ w, (Go.sizeOf 76).run Try.prog w = .ok kk w) (blk off cap : Nat) (d0 : Array Wh) (w0 : World) (R : RowK enc kk w0 blk off d0) (a m b : Nat) (hbm : b = m + 1) (d : Array Wh) (w : World) (hs : d0.size = d.size) (S : SWK enc kk w0 blk off d w)
    (ham : a + 1 < m) (hb : m + 1 ≤ d.size) (hsz : d.size ≤ 1000000) (U1 : Up d a m) : MergeSaid kk blk off cap d0 w0 a m b d w := by
  unfold MergeSaid
  have mixed := mixed_any
  have aE := agg_circle
  have eg := enters_bySpeed
  have S0 : Aside (SWK enc kk w0 blk off d w) := S
  have HU : Aside (Up d a m) := U1
  clear S U1
  have r1 : IntKind.i64.wrap ((m : Int) - (a : Int)) = ((m - a : Nat) : Int) := by rw [IntKind.wrap_i64]; omega
  have r1n : ¬ ((m - a : Nat) : Int) = 1 := by omega
  have r1b : (((m - a : Nat) : Int) == 1) = false := by simpa using r1n
  have r2 : IntKind.i64.wrap ((b : Int) - (m : Int)) = 1 := by rw [IntKind.wrap_i64]; omega
  have HBM : Aside (b = m + 1) := hbm
  clear hbm
  go_enter Try.func103, Try.ntmps103
  go_wp2
  go_loopg [14, 15, 16] (m - a) (fun kx s10 s11 _ wr => ∃ (i j : Nat), s10 = .int .i64 i ∧ s11 = .int .i64 j ∧ a ≤ i ∧ i ≤ j ∧ j ≤ m ∧ j - i ≤ kx ∧ Aside (SWK enc kk w0 blk off d wr) ∧ Aside ((∀ x, a ≤ x → x < i → d[x]!.s ≤ d[m]!.s) ∧ ∀ x, j ≤ x → x < m → d[m]!.s < d[x]!.s))
  case atStart => exact ⟨a, m, rfl, rfl, Nat.le_refl _, by omega, Nat.le_refl _, Nat.le_refl _, S0, (show _ ∧ _ from ⟨fun x h1 h2 => by omega, fun x h1 h2 => by omega⟩)⟩
  case round =>
    clear S0 r1 r1n r1b r2
    obtain ⟨i, j, rfl, rfl, hai, hij, hjb, hkx, S1, H1⟩ := hrel
    by_cases hlt : i < j
    · have hltz : (i : Int) < (j : Int) := by omega
      obtain ⟨h, hh⟩ : ∃ h, h = (i + j) / 2 := ⟨_, rfl⟩
      have he : ((i : Int) + (j : Int)) / 2 = (h : Int) := by omega
      have hz : (h : Int) < (d.size : Int) := by omega
      have hk1 : h < j := by omega
      have hk2 : i ≤ h := by omega
      clear hh
      have haz : (m : Int) < (d.size : Int) := by omega
      have l1 := fun n os => S1.out.ld R (by omega) Try.prog (m) (by omega) n os
      have l2 := fun n os => S1.out.ld R (by omega) Try.prog (h) (by omega) n os
      obtain ⟨vx, hvx⟩ : ∃ v, d[m]! = v := ⟨_, rfl⟩
      obtain ⟨vy, hvy⟩ : ∃ v, d[h]! = v := ⟨_, rfl⟩
      rw [hvx] at l1
      rw [hvy] at l2
      have hcg : ∀ n os, Calls Try.prog 60 #[.agg (enc vx).toArray, .agg (enc vy).toArray] (grow (wr.drewN n) os) fun e w' => e = .returned (.int .i64 (cfW vx vy)) ∧ ∃ q os', w' = grow ((grow (wr.drewN n) os).drewN q) os' := fun n os => cmp_step S1.out vx vy n os
      have HV : Aside (d[m]! = vx ∧ d[h]! = vy) := ⟨hvx, hvy⟩
      clear hvx hvy
      by_cases hl : cfW vx vy < 0
      · have hlb : decide (cfW vx vy < 0) = true := decide_eq_true hl
        go_wp2_with fail
        go_quiet_grown (first | (go_at_fn 60; refine Calls.grown_of (hcg _ _)))
        go_wp2
        all_goals (first | (exfalso; omega) | skip)
        have hlv : vx.s < vy.s := Decidable.byContradiction fun hn => cf_ge hn hl
        go_roundg (h - i)
        case measure => omega
        case rel => exact ⟨i, h, rfl, rfl, hai, by omega, by omega, Nat.le_refl _, S1.out.grown nq osq, (show _ ∧ _ from ⟨H1.out.1, fun x h1 h2 => by
          have := HU.out h x (by omega) h1 h2
          rw [HV.out.2] at this
          rw [HV.out.1]; omega⟩)⟩
      · have hlb : decide (cfW vx vy < 0) = false := decide_eq_false hl
        go_wp2_with fail
        go_quiet_grown (first | (go_at_fn 60; refine Calls.grown_of (hcg _ _)))
        go_wp2
        all_goals (first | (exfalso; omega) | skip)
        have hlv : ¬ vx.s < vy.s := fun hn => by have := cf_lt hn; omega
        go_roundg (j - (h + 1))
        case measure => omega
        case rel => exact ⟨h + 1, j, by go_num, rfl, by omega, by omega, hjb, Nat.le_refl _, S1.out.grown nq osq, (show _ ∧ _ from ⟨fun x h1 h2 => by
          have := HU.out x h h1 (by omega) (by omega)
          rw [HV.out.2] at this
          rw [HV.out.1]; omega, H1.out.2⟩)⟩
    · obtain rfl : i = j := by omega
      go_wp2
      go_loopg [17] (m - i) (fun kx s13 wr => ∃ (k : Nat) (dk : Array Wh), s13 = .int .i64 k ∧ i ≤ k ∧ k ≤ m ∧ k - i ≤ kx ∧ dk.size = d.size ∧ Aside (SWK enc kk w0 blk off dk wr) ∧ Aside (Rot d dk k m (m + 1)))
      case atStart => exact ⟨m, d, rfl, hjb, Nat.le_refl _, Nat.le_refl _, rfl, S1, (show Rot _ _ _ _ _ from Rot.last d m)⟩
      case round =>
        clear S1
        have HH := H1
        clear H1
        obtain ⟨k, dk, rfl, hak, hki, hkx, hds, S1, H1⟩ := hrel
        by_cases hlt : i < k
        · obtain ⟨q, rfl⟩ : ∃ q, k = q + 1 := ⟨k - 1, by omega⟩
          have hltz : (i : Int) < ((q + 1 : Nat) : Int) := by omega
          have hltz2 : (i : Int) < (q : Int) + 1 := by omega
          have q2 : IntKind.i64.wrap (((q + 1 : Nat) : Int) - 1) = ((q : Nat) : Int) := by rw [IntKind.wrap_i64]; omega
          have q3 : IntKind.i64.wrap ((q : Int) + 1 - 1) = ((q : Nat) : Int) := by rw [IntKind.wrap_i64]; omega
          have b1 : (q : Int) < (d.size : Int) := by omega
          have b2 : ((q + 1 : Nat) : Int) < (d.size : Int) := by omega
          have b3 : (q : Int) + 1 < (d.size : Int) := by omega
          have e1 : ((q : Int) + 1).toNat = q + 1 := by omega
          have H2 : Aside (Rot d (swp dk (q + 1) q) q m (m + 1)) := H1.out.lastStep hki (by omega)
          have S2 : Aside (SWK enc kk w0 blk off (swp dk (q + 1) (q)) ((wr.drew.setCells blk (off + (q + 1) * kk) (enc dk[q]!)).setCells blk (off + (q) * kk) (enc dk[q + 1]!))) := S1.out.swapped R (q + 1) (q) (by omega) (by omega)
          have la := S1.out.ld1 R (by omega) Try.prog (q + 1) (by omega)
          have lb := S1.out.ld1 R (by omega) Try.prog (q) (by omega)
          have sa := S1.out.st1 R (by omega) Try.prog (q + 1) (by omega) dk[q]!
          have sb := S1.out.st2 R (by omega) Try.prog (q + 1) (q) (by omega) (by omega) dk[q]! dk[q + 1]!
          have na : (enc dk[q + 1]!).length = kk := R.hk _
          have nb : (enc dk[q]!).length = kk := R.hk _
          generalize enc dk[q + 1]! = cI at S2 la sb na
          generalize enc dk[q]! = cJ at S2 lb sa sb nb
          clear S1 H1
          go_wp2_with fail
          go_big_region_o
          clear la lb sa sb
          generalize (wr.drew.setCells blk (off + (q + 1) * kk) cJ).setCells blk (off + (q) * kk) cI = w2 at S2 ⊢
          go_wp2
          go_roundg (q - i)
          case measure => omega
          case rel => exact ⟨q, swp dk (q + 1) q, by go_num, by omega, by omega, Nat.le_refl _, by rw [size_swp]; exact hds, S2, H2⟩
        · obtain rfl : k = i := by omega
          go_wp2
          (try simp only [Exit.inBlock, Exit.then]); refine bodyPost_ret (results_none rfl _ _ _) rfl ?_
          rw [HBM.out]
          exact ⟨rfl, dk, merge_last hai hki hb HU.out HH.out.2 HH.out.1 H1.out, S1.out⟩

end Go.Proofs.Ytbdhbkedeglagaa
/- The library's merge, at circles: whole. -/
namespace Go.Proofs.Ytbdhbkedeglagaa
set_option maxRecDepth 100000
open Go.Shelf Go.RowKit Go.Lib Go.Sort
set_option linter.unusedVariables false
set_option linter.unusedSimpArgs false

set_option maxHeartbeats 8000000 in
theorem merge_more (kk : Nat) (zE : ∀ w, (Go.sizeOf 76).run Try.prog w = .ok kk w) (blk off cap : Nat) (d0 : Array Wh) (w0 : World) (R : RowK enc kk w0 blk off d0) (N : Nat)
    (ih : ∀ a m b d w, b - a ≤ N → d0.size = d.size → SWK enc kk w0 blk off d w → a < m → m < b → b ≤ d.size → Up d a m → Up d m b → MergeSaid kk blk off cap d0 w0 a m b d w)
    (a m b : Nat) (d : Array Wh) (w : World) (hN : b - a ≤ N + 1) (hs : d0.size = d.size) (S : SWK enc kk w0 blk off d w) (ham : a + 1 < m) (hmb : m + 1 < b) (hb : b ≤ d.size) (hsz : d.size ≤ 1000000) (U1 : Up d a m) (U2 : Up d m b) : MergeSaid kk blk off cap d0 w0 a m b d w := by
  unfold MergeSaid
  have mixed := mixed_any
  have aE := agg_circle
  have eg := enters_bySpeed
  obtain ⟨mid, hmid⟩ : ∃ mid, mid = (a + b) / 2 := ⟨_, rfl⟩
  obtain ⟨nn, hnn⟩ : ∃ nn, nn = mid + m := ⟨_, rfl⟩
  obtain ⟨p, hp⟩ : ∃ p, p + 1 = nn := ⟨nn - 1, by omega⟩
  obtain ⟨ma, hma⟩ : ∃ ma, ma + a = m := ⟨m - a, by omega⟩
  obtain ⟨mb, hmb2⟩ : ∃ mb, mb + m = b := ⟨b - m, by omega⟩
  obtain ⟨s0, r0, hsr⟩ : ∃ s0 r0, (mid < m ∧ s0 + b = nn ∧ r0 = mid) ∨ (m ≤ mid ∧ s0 = a ∧ r0 = m) := by
    by_cases h : mid < m
    · exact ⟨nn - b, mid, .inl ⟨h, by omega, rfl⟩⟩
    · exact ⟨a, m, .inr ⟨by omega, rfl, rfl⟩⟩
  have S0 : Aside (SWK enc kk w0 blk off d w) := S
  have HU : Aside (Up d a m ∧ Up d m b) := ⟨U1, U2⟩
  have HS : Aside ((mid < m ∧ s0 + b = nn ∧ r0 = mid) ∨ (m ≤ mid ∧ s0 = a ∧ r0 = m)) := hsr
  clear S U1 U2
  have r1 : IntKind.i64.wrap ((m : Int) - (a : Int)) = (ma : Int) := by rw [IntKind.wrap_i64]; omega
  have r1n : ¬ (ma : Int) = 1 := by omega
  have r1b : ((ma : Int) == 1) = false := by simpa using r1n
  have r2 : IntKind.i64.wrap ((b : Int) - (m : Int)) = (mb : Int) := by rw [IntKind.wrap_i64]; omega
  have r2n : ¬ (mb : Int) = 1 := by omega
  have r2b : ((mb : Int) == 1) = false := by simpa using r2n
  have r3 : ((a : Int) + (b : Int)) / 2 = (mid : Int) := by omega
  have r4 : IntKind.i64.wrap ((mid : Int) + (m : Int)) = (nn : Int) := by rw [IntKind.wrap_i64]; omega
  have r5 : IntKind.i64.wrap ((nn : Int) - 1) = (p : Int) := by rw [IntKind.wrap_i64]; omega
  have hs0r : s0 ≤ r0 := by omega
  have hfit : ∀ x y, s0 ≤ x → x < r0 → x + y = p → m ≤ y ∧ y < b ∧ a ≤ x ∧ x < m := fun x y h1 h2 h3 => by omega
  have hbd : a ≤ s0 ∧ r0 ≤ m ∧ r0 ≤ mid ∧ (s0 = a ∨ s0 + b = nn) ∧ (r0 = m ∨ r0 = mid) ∧ nn ≤ s0 + b := by omega
  have hm1 : a < mid := by omega
  have hm2 : mid < b := by omega
  have HN : Aside (nn = mid + m ∧ p + 1 = nn) := ⟨hnn, hp⟩
  have HF0 : Aside (∀ x y, s0 ≤ x → x < r0 → x + y = p → m ≤ y ∧ y < b ∧ a ≤ x ∧ x < m) := hfit
  have HBD : Aside (a ≤ s0 ∧ r0 ≤ m ∧ r0 ≤ mid ∧ (s0 = a ∨ s0 + b = nn) ∧ (r0 = m ∨ r0 = mid) ∧ nn ≤ s0 + b) := hbd
  clear hmid hma hmb2 hsr hnn hp hfit hbd
  go_enter Try.func103, Try.ntmps103
  go_upto_if 140 with fail
  go_cut [20, 21] (fun s20 s21 wx => s20 = .int .i64 s0 ∧ s21 = .int .i64 r0 ∧ wx = w)
  case first => as_aux_lemma =>
    rcases HS.out with ⟨h1, h2, h3⟩ | ⟨h1, h2, h3⟩
    · have hz : (mid : Int) < (m : Int) := by omega
      have q6 : IntKind.i64.wrap ((nn : Int) - (b : Int)) = (s0 : Int) := by rw [IntKind.wrap_i64]; omega
      have H3 : Aside (r0 = mid) := h3
      clear h2 h3
      go_wp2
      go_meet
      case rel => exact ⟨rfl, by rw [H3.out], rfl⟩
    · have hz : ¬ (mid : Int) < (m : Int) := by omega
      have H2 : Aside (s0 = a) := h2
      have H3 : Aside (r0 = m) := h3
      clear h2 h3
      go_wp2
      go_meet
      case rel => exact ⟨by rw [H2.out], by rw [H3.out], rfl⟩
  case rest =>
  obtain ⟨rfl, rfl, rfl⟩ := hcut
  go_wp2
  go_loopg [20, 21, 23] (b - a) (fun kx s20 s21 _ wr => ∃ (s r : Nat), s20 = .int .i64 s ∧ s21 = .int .i64 r ∧ s0 ≤ s ∧ s ≤ r ∧ r ≤ r0 ∧ r - s ≤ kx ∧ Aside (SWK enc kk w0 blk off d wr) ∧ Aside ((∀ x y, s0 ≤ x → x < s → x + y = p → d[x]!.s ≤ d[y]!.s) ∧ ∀ x y, r ≤ x → x < r0 → x + y = p → d[y]!.s < d[x]!.s))
  case atStart => exact ⟨s0, r0, rfl, rfl, Nat.le_refl _, hs0r, Nat.le_refl _, by have := HBD.out; omega, S0, (show _ ∧ _ from ⟨fun x y h1 h2 => by omega, fun x y h1 h2 => by omega⟩)⟩
  case round =>
    clear S0 r1 r1n r1b r2 r2n r2b r3 r4 r5
    obtain ⟨s, r, rfl, rfl, hs0s, hsr, hrr, hkx, S1, H1⟩ := hrel
    by_cases hlt : s < r
    · have hltz : (s : Int) < (r : Int) := by omega
      obtain ⟨h, hh⟩ : ∃ h, h = (s + r) / 2 := ⟨_, rfl⟩
      have he : ((s : Int) + (r : Int)) / 2 = (h : Int) := by omega
      have hk1 : h < r := by omega
      have hk2 : s ≤ h := by omega
      clear hh
      obtain ⟨y, hy⟩ : ∃ y, h + y = p := ⟨p - h, by have := HBD.out; have := HN.out; omega⟩
      have hfh := HF0.out h y (by omega) (by omega) hy
      have hz : (h : Int) < (d.size : Int) := by omega
      have hz2 : (y : Int) < (d.size : Int) := by omega
      have q6 : IntKind.i64.wrap ((p : Int) - (h : Int)) = (y : Int) := by rw [IntKind.wrap_i64]; omega
      have HY : Aside (h + y = p) := hy
      clear hy
      have l1 := fun n os => S1.out.ld R (by omega) Try.prog y (by omega) n os
      have l2 := fun n os => S1.out.ld R (by omega) Try.prog h (by omega) n os
      obtain ⟨vx, hvx⟩ : ∃ v, d[y]! = v := ⟨_, rfl⟩
      obtain ⟨vy, hvy⟩ : ∃ v, d[h]! = v := ⟨_, rfl⟩
      rw [hvx] at l1
      rw [hvy] at l2
      have hcg : ∀ n os, Calls Try.prog 60 #[.agg (enc vx).toArray, .agg (enc vy).toArray] (grow (wr.drewN n) os) fun e w' => e = .returned (.int .i64 (cfW vx vy)) ∧ ∃ q os', w' = grow ((grow (wr.drewN n) os).drewN q) os' := fun n os => cmp_step S1.out vx vy n os
      have HV : Aside (d[y]! = vx ∧ d[h]! = vy) := ⟨hvx, hvy⟩
      clear hvx hvy
      by_cases hl : cfW vx vy < 0
      · as_aux_lemma =>
          have hlb : decide (cfW vx vy < 0) = true := decide_eq_true hl
          go_wp2_with fail
          go_quiet_grown (first | (go_at_fn 60; refine Calls.grown_of (hcg _ _)))
          go_wp2
          all_goals (first | (exfalso; omega) | skip)
          have hlv : vx.s < vy.s := Decidable.byContradiction fun hn => cf_ge hn hl
          go_roundg (h - s)
          case measure => omega
          case rel => exact ⟨s, h, rfl, rfl, hs0s, by omega, by omega, Nat.le_refl _, S1.out.grown nq osq, (show _ ∧ _ from ⟨H1.out.1, fun x z h1 h2 h3 => by
            have t1 := HU.out.1 h x (by omega) h1 (by have := HBD.out; omega)
            have hfx := HF0.out x z (by omega) h2 h3
            have t2 := HU.out.2 z y (by omega) (by have := HY.out; omega) (by omega)
            rw [HV.out.1] at t2
            rw [HV.out.2] at t1
            omega⟩)⟩
      · as_aux_lemma =>
          have hlb : decide (cfW vx vy < 0) = false := decide_eq_false hl
          go_wp2_with fail
          go_quiet_grown (first | (go_at_fn 60; refine Calls.grown_of (hcg _ _)))
          go_wp2
          all_goals (first | (exfalso; omega) | skip)
          have hlv : ¬ vx.s < vy.s := fun hn => by have := cf_lt hn; omega
          go_roundg (r - (h + 1))
          case measure => omega
          case rel => exact ⟨h + 1, r, by go_num, rfl, by omega, by omega, hrr, Nat.le_refl _, S1.out.grown nq osq, (show _ ∧ _ from ⟨fun x z h1 h2 h3 => by
            have t1 := HU.out.1 x h (by have := HBD.out; omega) (by omega) (by omega)
            have hfx := HF0.out x z h1 (by omega) h3
            have t2 := HU.out.2 y z (by omega) (by have := HY.out; omega) (by omega)
            rw [HV.out.1] at t2
            rw [HV.out.2] at t1
            omega, H1.out.2⟩)⟩
    · obtain rfl : s = r := by omega
      clear hlt hsr
      obtain ⟨en, hen⟩ : ∃ en, en + s = nn := ⟨nn - s, by have := HBD.out; have := HN.out; omega⟩
      have hbe : a ≤ s ∧ s ≤ m ∧ s ≤ mid ∧ en ≤ b ∧ m ≤ en ∧ mid ≤ en := by have := HBD.out; have := HN.out; omega
      have F1 : ∀ i j, s ≤ i → i < m → m ≤ j → j < en → d[j]!.s < d[i]!.s := fun i j h1 h2 h3 h4 => by
        have hb1 := HBD.out
        have hn1 := HN.out
        have hlt : s < r0 := by omega
        have t := H1.out.2 s (p - s) (Nat.le_refl _) hlt (by omega)
        have t1 := HU.out.1 s i (by omega) h1 h2
        have hfx := HF0.out s (p - s) hs0s hlt (by omega)
        have t2 := HU.out.2 j (p - s) h3 (by omega) (by omega)
        omega
      have F2 : ∀ i j, a ≤ i → i < s → en ≤ j → j < b → d[i]!.s ≤ d[j]!.s := fun i j h1 h2 h3 h4 => by
        have hb1 := HBD.out
        have hn1 := HN.out
        have hlt : s0 < s := by omega
        have t := H1.out.1 (s - 1) (p - (s - 1)) (by omega) (by omega) (by omega)
        have t1 := HU.out.1 i (s - 1) h1 (by omega) (by omega)
        have t2 := HU.out.2 (p - (s - 1)) j (by omega) (by omega) h4
        omega
      have B : Aside (∀ d1 d2 d3, Rot d d1 s m en → (Up d1 a s ∧ Up d1 s mid ∧ Up d1 mid en ∧ Up d1 en b ∧
          (Merged d1 d2 a mid → (Up d2 mid en ∧ Up d2 en b ∧ ((s ≤ a ∨ mid ≤ s) → Up d1 a mid) ∧ ((en ≤ mid ∨ b ≤ en) → Up d2 mid b) ∧ (Merged d2 d3 mid b → Merged d d3 a b))))) := (show ∀ d1 d2 d3, _ from fun d1 d2 d3 hR => by
        have hn1 := HN.out
        have e : mid + m - s = en := by omega
        have := merge_mid (d := d) (d1 := d1) (d2 := d2) (d3 := d3) (a := a) (m := m) (b := b) (mid := mid) (s := s) (by omega) (by omega) hb (by omega) HU.out.1 HU.out.2 (by omega) (by rw [e]; exact F1) (by rw [e]; exact F2) (by rw [e]; exact hR)
        rw [e] at this
        exact this)
      have q7 : IntKind.i64.wrap ((nn : Int) - (s : Int)) = (en : Int) := by rw [IntKind.wrap_i64]; omega
      clear H1 F1 F2 hen HN HBD HF0 hs0s hrr hkx hs0r
      obtain ⟨c1, hc1⟩ : ∃ c1 : Bool, c1 = decide (s < m ∧ m < en) := ⟨_, rfl⟩
      obtain ⟨c2, hc2⟩ : ∃ c2 : Bool, c2 = decide (a < s ∧ s < mid) := ⟨_, rfl⟩
      have HC1 : Aside (c1 = decide (s < m ∧ m < en)) := hc1
      have HC2 : Aside (c2 = decide (a < s ∧ s < mid)) := hc2
      clear hc1 hc2
      go_upto_region 39 with fail
      go_cut [185] (fun c wx => c = .bool c1 ∧ wx = wr)
      case first => as_aux_lemma =>
        by_cases g1 : s < m
        · have z1 : (s : Int) < (m : Int) := by omega
          by_cases g2 : m < en
          · have z2 : (m : Int) < (en : Int) := by omega
            go_wp2_with fail
            go_meet
            case rel => exact ⟨congrArg Value.bool (HC1.out.trans (decide_eq_true (p := s < m ∧ m < en) ⟨g1, g2⟩)).symm, rfl⟩
          · have z2 : ¬ (m : Int) < (en : Int) := by omega
            go_wp2_with fail
            go_meet
            case rel => exact ⟨congrArg Value.bool (HC1.out.trans (decide_eq_false (p := s < m ∧ m < en) fun h => g2 h.2)).symm, rfl⟩
        · have z1 : ¬ (s : Int) < (m : Int) := by omega
          go_wp2_with fail
          go_meet
          case rel => exact ⟨congrArg Value.bool (HC1.out.trans (decide_eq_false (p := s < m ∧ m < en) fun h => g1 h.1)).symm, rfl⟩
      case rest =>
      obtain ⟨rfl, rfl⟩ := hcut
      go_upto_if 185 with fail
      go_cut [] (fun wx => ∃ d1, d1.size = d.size ∧ Aside (SWK enc kk w0 blk off d1 wx) ∧ Aside (Rot d d1 s m en))
      case first => as_aux_lemma =>
        cases hcc : c1
        · have hn : ¬ (s < m ∧ m < en) := of_decide_eq_false (HC1.out.symm.trans hcc)
          have S2 := S1
          clear hcc
          go_wp2_with fail
          go_meet
          case rel => exact ⟨d, rfl, S2, (show Rot _ _ _ _ _ from by
            by_cases e : s = m
            · exact Rot.noLeft d e
            · exact Rot.noRight d (by omega))⟩
        · have hn : s < m ∧ m < en := of_decide_eq_true (HC1.out.symm.trans hcc)
          have C1 := rotate_any kk zE blk off cap s m en d0 d w0 _ R hs S1.out hn.1 hn.2 (by omega) hsz
          have hc := Lib.hid C1
          clear C1 S1 hcc
          go_wp2_with fail
          refine hc.out.mono ?_; rintro e w1 ⟨rfl, d1, hR, T1⟩
          have hz1 : d1.size = d.size := hR.size
          have T1 : Aside (SWK enc kk w0 blk off d1 w1) := T1
          have HR : Aside (Rot d d1 s m en) := hR
          clear hR hc
          go_wp2
          go_meet
          case rel => exact ⟨d1, hz1, T1, HR⟩
      case rest =>
      clear S1
      obtain ⟨d1, hz1, T1, HR⟩ := hcut
      go_upto_region 41 with fail
      go_cut [199] (fun c wx => c = .bool c2 ∧ wx = wc)
      case first => as_aux_lemma =>
        by_cases g1 : a < s
        · have z1 : (a : Int) < (s : Int) := by omega
          by_cases g2 : s < mid
          · have z2 : (s : Int) < (mid : Int) := by omega
            go_wp2_with fail
            go_meet
            case rel => exact ⟨congrArg Value.bool (HC2.out.trans (decide_eq_true (p := a < s ∧ s < mid) ⟨g1, g2⟩)).symm, rfl⟩
          · have z2 : ¬ (s : Int) < (mid : Int) := by omega
            go_wp2_with fail
            go_meet
            case rel => exact ⟨congrArg Value.bool (HC2.out.trans (decide_eq_false (p := a < s ∧ s < mid) fun h => g2 h.2)).symm, rfl⟩
        · have z1 : ¬ (a : Int) < (s : Int) := by omega
          go_wp2_with fail
          go_meet
          case rel => exact ⟨congrArg Value.bool (HC2.out.trans (decide_eq_false (p := a < s ∧ s < mid) fun h => g1 h.1)).symm, rfl⟩
      case rest =>
      obtain ⟨rfl, rfl⟩ := hcut
      go_upto_if 199 with fail
      go_cut [] (fun wx => ∃ d2, d2.size = d.size ∧ Aside (SWK enc kk w0 blk off d2 wx) ∧ Aside (Merged d1 d2 a mid))
      case first => as_aux_lemma =>
        cases hcc : c2
        · have hn : ¬ (a < s ∧ s < mid) := of_decide_eq_false (HC2.out.symm.trans hcc)
          have hx1 : Aside (Merged d1 d1 a mid) := (show Merged _ _ _ _ from by
            have A1 := (B.out d1 d1 d1 HR.out).1
            have A2 := (B.out d1 d1 d1 HR.out).2.1
            refine Merged.same fun i j h1 h2 h3 => ?_
            by_cases e : s ≤ a
            · exact A2 i j (by omega) h2 h3
            · exact A1 i j h1 h2 (by omega))
          have S2 := T1
          clear hcc
          go_wp2_with fail
          go_meet
          case rel => exact ⟨d1, hz1, S2, hx1⟩
        · have hn : a < s ∧ s < mid := of_decide_eq_true (HC2.out.symm.trans hcc)
          have C2 := ih a s mid d1 _ (by omega) (by omega) T1.out hn.1 hn.2 (by omega) (B.out d1 d1 d1 HR.out).1 (B.out d1 d1 d1 HR.out).2.1
          unfold MergeSaid at C2
          rw [hz1] at C2
          have hc := Lib.hid C2
          have HZ1 : Aside (_ = _) := hz1
          clear C2 T1 hcc hz1
          go_wp2_with fail
          refine hc.out.mono ?_; rintro e w2 ⟨rfl, d2, M, T2⟩
          have hz2 : d2.size = d.size := M.keeps.1.trans HZ1.out
          have T2 : Aside (SWK enc kk w0 blk off d2 w2) := T2
          have HM : Aside (Merged d1 d2 a mid) := M
          clear M hc
          go_wp2
          go_meet
          case rel => exact ⟨d2, hz2, T2, HM⟩
      case rest =>
      clear T1
      obtain ⟨d2, hz2, T2, HM⟩ := hcut
      have B2 : Aside (Up d2 mid en ∧ Up d2 en b ∧ ((en ≤ mid ∨ b ≤ en) → Up d2 mid b) ∧ ∀ d3, Merged d2 d3 mid b → Merged d d3 a b) := (show _ ∧ _ ∧ _ ∧ _ from by
        have t := (B.out d1 d2 d2 HR.out).2.2.2.2 HM.out
        exact ⟨t.1, t.2.1, t.2.2.2.1, fun d3 => ((B.out d1 d2 d3 HR.out).2.2.2.2 HM.out).2.2.2.2⟩)
      clear B HM HR hz1
      by_cases g3 : mid < en ∧ en < b
      · have z1 : (mid : Int) < (en : Int) := by omega
        have z2 : (en : Int) < (b : Int) := by omega
        have C3 := ih mid en b d2 _ (by omega) (by omega) T2.out g3.1 g3.2 (by omega) B2.out.1 B2.out.2.1
        unfold MergeSaid at C3
        rw [hz2] at C3
        have hc3 := Lib.hid C3
        clear C3 T2 hz2
        go_wp2_with fail
        refine hc3.out.mono ?_; rintro e w3 ⟨rfl, d3, M3, T3⟩
        have HT : Aside (SWK enc kk w0 blk off d3 w3) := T3
        have HM3 : Aside (Merged d2 d3 mid b) := M3
        clear T3 M3 hc3
        go_wp2
        go_end0
        exact ⟨rfl, d3, B2.out.2.2.2 d3 HM3.out, HT.out⟩
      · have HM3 : Aside (Merged d2 d2 mid b) := Merged.same (B2.out.2.2.1 (by omega))
        by_cases g4 : mid < en
        · have z1 : (mid : Int) < (en : Int) := by omega
          have z2 : ¬ (en : Int) < (b : Int) := by omega
          go_wp2_with fail
          go_end0
          exact ⟨rfl, d2, B2.out.2.2.2 d2 HM3.out, T2.out⟩
        · have z1 : ¬ (mid : Int) < (en : Int) := by omega
          go_wp2_with fail
          go_end0
          exact ⟨rfl, d2, B2.out.2.2.2 d2 HM3.out, T2.out⟩

/-- slices.symMergeCmpFunc at circles: two ascending pieces become one; those of one speed stay in order. -/
theorem symMerge_any (kk : Nat) (zE : ∀ w, (Go.sizeOf 76).run Try.prog w = .ok kk w) (blk off cap : Nat) (d0 : Array Wh) (w0 : World) (R : RowK enc kk w0 blk off d0) (hsz : d0.size ≤ 1000000) : ∀ (N a m b : Nat) (d : Array Wh) (w : World), b - a ≤ N → d0.size = d.size → SWK enc kk w0 blk off d w → a < m → m < b → b ≤ d.size → Up d a m → Up d m b → MergeSaid kk blk off cap d0 w0 a m b d w
  | 0, a, m, b, d, w, hN, hs, S, ham, hmb, hb, U1, U2 => by omega
  | N + 1, a, m, b, d, w, hN, hs, S, ham, hmb, hb, U1, U2 => by
    by_cases h1 : m = a + 1
    · subst h1
      exact merge_one kk zE blk off cap d0 w0 R a b d w hs S (by omega) hb (by omega) U2
    · by_cases h2 : b = m + 1
      · exact merge_two kk zE blk off cap d0 w0 R a m b h2 d w hs S (by omega) (by omega) (by omega) U1
      · exact merge_more kk zE blk off cap d0 w0 R N (symMerge_any kk zE blk off cap d0 w0 R hsz N) a m b d w hN hs S (by omega) (by omega) hb (by omega) U1 U2

end Go.Proofs.Ytbdhbkedeglagaa
