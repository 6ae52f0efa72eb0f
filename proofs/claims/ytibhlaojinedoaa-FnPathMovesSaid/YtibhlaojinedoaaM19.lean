/-
  Out of the text WheelW: what the draws of polygons need.
  Out of the text RowS: what the draws of polygons need.
  Out of the text WheelX: what the draws of polygons need.
  Out of the text DrawWheel: what the draws of polygons need.
-/
import Derived.Test.YtibhlaojinedoaaM18
import Derived.Test.YtibhlaojinedoaaM16
import Derived.Test.YtibhlaojinedoaaM03
import Derived.Test.YtibhlaojinedoaaM11
/- Out of the text WheelW: what the draws of polygons need. -/
namespace Go.Proofs.Ytibhlaojinedoaa
set_option maxRecDepth 20000
open Go.ChangeShapes Go.WideShapes Go.ChangeAt Go.RowKit
set_option linter.unusedVariables false
set_option linter.unusedSimpArgs false
/-- Whether a number is a turn. -/
def isT (t : Int) : Bool := decide (0 ≤ t) && decide (t ≤ 23)
theorem isT_yes {t : Int} (h : isT t = true) : 0 ≤ t ∧ t ≤ 23 := by unfold isT at h; simpa using h
theorem isT_no {t : Int} (h : isT t = false) : t < 0 ∨ 23 < t := by
  unfold isT at h
  simp at h
  omega
/-- The point of a design at a turn. -/
def atD (ws : List Wh) (t : Int) : Option V := if valid ws && isT t then (if okv (pAt t ws) then some (pAt t ws) else none) else none
/-- What a function hands back that answers with a point, and true. -/
def pointOf (o : Option V) : Value := .tuple #[pt (o.getD V.zero).up, .bool o.isSome]
theorem pAt_next {t : Int} {ws : List Wh} {k : Nat} {c : Wh} (hc : ws[k]? = some c) : pAt t (ws.take (k + 1)) = V.add (pAt t (ws.take k)) (tV (tm t c.s) c.r) := by
  rw [take_next hc, pAt_append]
  show V.add _ (V.add _ V.zero) = _
  rw [V.add_zero]
theorem big_pAt (t : Int) : ∀ ws : List Wh, (∀ c ∈ ws, okv c.r = true) → Big (pAt t ws) (4000000 * (ws.length : Int))
  | [], _ => big_zero.mono (by simp)
  | c :: ws, h => by
    have h1 := big_tV (h c (by simp)) (tm_lt t c.s)
    have h2 := big_pAt t ws fun d hd => h d (by simp [hd])
    exact (h1.add h2).mono (by simp only [List.length_cons]; omega)
theorem big_part {t : Int} {ws : List Wh} (hv : valid ws = true) (k : Nat) : Big (pAt t (ws.take k)) 100000000 := by
  have h1 := big_pAt t (ws.take k) fun c hc => (valid_ok hv c (List.mem_of_mem_take hc)).2
  have h2 := valid_len hv
  exact h1.mono (by rw [List.length_take]; omega)
theorem speed_times {t s : Int} (ht : 0 ≤ t ∧ t ≤ 23) (hs : -1000 ≤ s ∧ s ≤ 1000) : -23000 ≤ t * s ∧ t * s ≤ 23000 := by
  have h1 : t * s ≤ t * 1000 := Int.mul_le_mul_of_nonneg_left hs.2 ht.1
  have h2 : t * (-1000) ≤ t * s := Int.mul_le_mul_of_nonneg_left hs.1 ht.1
  omega
theorem range_kept {B : Nat} {w w' : World} {g o : Nat} {cs : List Value} (h : w.rangeAt g o cs) (hg : g < B) (hb : Below B w w') : w'.rangeAt g o cs := fun j v hv => (World.cell?_of_block (hb.block g hg)).trans (h j v hv)
theorem row_kept {B : Nat} {w w' : World} {g n : Nat} {T : TypeId} {f : Nat → Int} (h : RowAt w g n T f) (hg : g < B) (hb : Below B w w') : RowAt w' g n T f := (hb.block g hg).trans h
theorem below_on {s : Nat} {W c w : World} (h : Below s W c) (hs : s ≤ W.heap.size) (k : Below c.heap.size c w) : Below s W w := h.trans (k.mono (Nat.le_trans hs h.size))
theorem wp_load8 {P : Program} {o : Oper} {a : Act} {w : World} {K : Act → World → Prop} {Q : Exit → Act → World → Prop} {T : TypeId} {d : TypeDesc} {g p : Nat} {f : Nat → Int} {x : Operand} (ho : o.op = .load T x) (hx : a.eval x = .pointer (some ⟨g, p, none⟩)) (hr : w.rangeAt g p (lst 8 f))
    (hu : P.underlying T = some d) (hd : d.isRow = true) (hi : (P.info? T).map (·.size) = some 8) (h : K (a.put o.dst (pt f)) w) : o.wp P a w K Q :=
  wp_load_mid T x ho g p hx (lst 8 f) d hr hu hd (by rw [lst_length]; exact hi) h

/-- Two rows of zeros. -/
def twoO (w : World) : World := (w.alloc (.cells (vec 8 nul) 80)).alloc (.cells (vec 8 nul) 80)
theorem twoO_facts (w : World) : RowAt (twoO w) w.heap.size 8 80 nul ∧ RowAt (twoO w) (w.heap.size + 1) 8 80 nul ∧ Below w.heap.size w (twoO w) ∧ (twoO w).heap.size = w.heap.size + 2 :=
  ⟨(RowAt.new w 8 _ _).alloc _, RowAt.newAt rfl (by simp), ((Below.refl _ _).alloc (Nat.le_refl _) _).alloc (by simp) _, by simp [twoO]⟩

set_option maxHeartbeats 4000000 in
theorem l5At_any (v : Value) (ws : List Wh) (t : Int) (w : World) (hv : Reads w v ws) (hd : valid ws = true) (ht : 0 ≤ t ∧ t ≤ 23) :
    Calls Try.prog 55 #[v, .int .i64 t] w fun e w' => e = .returned (pt (pAt t ws).up) ∧ Below w.heap.size w w' := by
  obtain ⟨p, cap, rfl, hc1, hc2, hp0, hp⟩ := hv
  simp only [maxLen] at hc2
  obtain ⟨hR, hS, hL, hZ⟩ := twoO_facts w
  have HP := Lib.hid hp
  have HV := Lib.hid hd
  have HT := Lib.hid ht
  have HR := Lib.hid hR
  have HS := Lib.hid hS
  have HL := Lib.hid hL
  have HZ : Aside (w.heap.size + 1 < (twoO w).heap.size) := (show _ < _ by omega)
  clear hp hd ht hR hS hL hZ
  generalize hres : pAt t ws = res
  have HRES := Lib.hid hres
  clear hres
  go_enter Try.func55, Try.ntmps55
  go_upto_region 2 with (first | (refine store_new (ty := 80) rfl rfl rfl rfl zero8 info_cyc ?_))
  show Code.wp _ _ _ _ (twoO w)
  generalize twoO w = W at *
  generalize hbw : w.heap.size = b at *
  go_wp2
  go_loopw [6] (fun i wr => ∃ k : Nat, k ≤ ws.length ∧ i = .int .i64 k ∧ RowAt wr (b + 1) 8 80 (pAt t (ws.take k)).up ∧ Below (b + 1) W wr) (fun i _ => ws.length - (intOf i).toNat)
  case atStart => exact ⟨0, Nat.zero_le _, rfl, by rw [List.take_zero]; show RowAt _ _ _ _ V.zero.up; rw [zero_up]; exact HS.out, Below.refl _ _⟩
  case round =>
    obtain ⟨k, hk, rfl, hS, hbel⟩ := hrel
    by_cases hlt : k < ws.length
    · have hkz : (k : Int) < (ws.length : Int) := by omega
      have hk0 : (0 : Int) ≤ (k : Int) := by omega
      obtain ⟨c, hc⟩ : ∃ c, ws[k]? = some c := ⟨_, List.getElem?_eq_getElem hlt⟩
      obtain ⟨g, o, rfl, hg, hr⟩ := HP.out (by rintro rfl; have := hp0 rfl; omega)
      have hcv := valid_ok HV.out c (List.mem_of_getElem? hc)
      have sb := speed_times HT.out (inS_bound hcv.1)
      have q1 : IntKind.i64.wrap (t * c.s) = t * c.s := by rw [IntKind.wrap_i64]; omega
      have HE : Aside (W.rangeAt g (o + k * 9) (enc c)) := range_part (range_below hr (by rw [hbw]; exact hg) (by rw [hbw]; exact HL.out)) hc
      have HGB : Aside (g < b + 1) := (show g < b + 1 from by omega)
      have HB := Lib.hid hbel
      have HC := Lib.hid hc
      have M : ∀ w, Calls Try.prog 68 #[.int .i64 (t * c.s)] w fun e w' => e = .returned (.int .i64 (tm t c.s : Nat)) ∧ w = w' := fun w => by
        refine (mod_any (t * c.s) (by omega) (by omega) w).mono ?_
        rintro e w' ⟨rfl, h⟩
        refine ⟨?_, h⟩
        have e : ((tm t c.s : Nat) : Int) = t * c.s % 24 := by unfold tm; omega
        rw [e]
      have T : ∀ w, Calls Try.prog 67 #[pt c.r.up, .int .i64 (tm t c.s : Nat)] w fun e w' => e = .returned (pt (tV (tm t c.s) c.r).up) ∧ Below w.heap.size w w' := fun w => by
        rw [← pt_tV c.r (tm_lt t c.s)]
        exact specTurned_any c.r.up (tm t c.s) (tm_lt t c.s) (inR_bound hcv.2) w
      have PL : ∀ w, Calls Try.prog 66 #[pt (pAt t (ws.take k)).up, .int .i64 1, pt (tV (tm t c.s) c.r).up] w fun e w' => e = .returned (pt (pAt t (ws.take (k + 1))).up) ∧ Below w.heap.size w w' := fun w => by
        have b1 := big_part (t := t) HV.out k
        have b2 := big_tV hcv.2 (tm_lt t c.s)
        refine (specSum_any (pAt t (ws.take k)).up (tV (tm t c.s) c.r).up 1 (by omega) (fun j hj => by have := b1 j hj; omega) (fun j hj => by have := b2 j hj; omega) w).mono ?_
        rintro e w' ⟨rfl, h⟩
        refine ⟨?_, h⟩
        rw [pAt_next hc]
        have : pt (mul1 (pAt t (ws.take k)).up 1 (tV (tm t c.s) c.r).up) = pt (V.add (pAt t (ws.take k)) (tV (tm t c.s) c.r)).up := pt_same fun j hj => by
          rw [add_up]; unfold mul1 add; omega
        rw [this]
      generalize pAt t (ws.take k) = S0 at *
      have HNX : Aside (pAt t (ws.take (k + 1)) = pAt t (ws.take (k + 1))) := rfl
      generalize hS1 : pAt t (ws.take (k + 1)) = S1 at *
      generalize tm t c.s = q at *
      generalize tV q c.r = r at *
      have HS1 := Lib.hid hS1
      clear hr hc hcv sb hS1 HNX
      have HZ2 : Aside (b + 1 ≤ W.heap.size) := Nat.le_of_lt HZ.out
      go_upto_region 5 with fail
      have hG : RowAt wr.drew (b + 1) 8 80 S0.up := hS
      refine wp_region_held_drew (S := fun w' => Below (b + 1) W w') (by kernel_rfl) HB.out.drew (fun hHeld => ?_)
      refine wpAnyH_take (i := 1) (oi := _) (v := .slice (some ⟨g, o, none⟩) ws.length cap) rfl (by kernel_rfl) (by kernel_rfl) (by kernel_rfl) (fun _ _ _ h => h) (Or.inl ⟨by rfl, fun w h => by go_simp⟩) hHeld ?_
      try simp only [Act.put, List.setIfInBounds_toArray, List.set_cons_zero, List.set_cons_succ, List.getElem_toArray, List.getElem_cons_succ, List.getElem_cons_zero]
      refine wpAnyH_take (i := 2) (oi := _) (v := .int .i64 k) rfl (by kernel_rfl) (by kernel_rfl) (by kernel_rfl) (fun _ _ _ h => h) (Or.inl ⟨by rfl, fun w h => by go_simp⟩) hHeld ?_
      try simp only [Act.put, List.setIfInBounds_toArray, List.set_cons_zero, List.set_cons_succ, List.getElem_toArray, List.getElem_cons_succ, List.getElem_cons_zero]
      refine wpAnyH_take (i := 3) (oi := _) (v := .pointer (some ⟨g, o + k * 9, none⟩)) rfl (by kernel_rfl) (by kernel_rfl) (by kernel_rfl) (fun _ _ _ h => h) (Or.inl ⟨by rfl, fun w h => by go_simp⟩) hHeld ?_
      try simp only [Act.put, List.setIfInBounds_toArray, List.set_cons_zero, List.set_cons_succ, List.getElem_toArray, List.getElem_cons_succ, List.getElem_cons_zero]
      refine wpAnyH_take (i := 4) (oi := _) (v := .pointer (some ⟨g, o + k * 9 + 1, none⟩)) rfl (by kernel_rfl) (by kernel_rfl) (by kernel_rfl) (fun _ _ _ h => h) (Or.inl ⟨by rfl, fun w h => by go_simp⟩) hHeld ?_
      try simp only [Act.put, List.setIfInBounds_toArray, List.set_cons_zero, List.set_cons_succ, List.getElem_toArray, List.getElem_cons_succ, List.getElem_cons_zero]
      refine wpAnyH_take (i := 5) (oi := _) (v := .agg (vec 8 c.r.up)) rfl (by kernel_rfl) (by kernel_rfl) (by kernel_rfl) (fun _ _ _ h => h) (yieldsIf_load_mid (by rfl) _ _ rfl _ _ rfl _ _ ((fun w h => range_radius (range_kept HE.out HGB.out h))) Try.underlying80 rfl (size_cyc8 _)) hHeld ?_
      try simp only [Act.put, List.setIfInBounds_toArray, List.set_cons_zero, List.set_cons_succ, List.getElem_toArray, List.getElem_cons_succ, List.getElem_cons_zero]
      refine wpAnyH_take (i := 6) (oi := _) (v := .int .i64 t) rfl (by kernel_rfl) (by kernel_rfl) (by kernel_rfl) (fun _ _ _ h => h) (Or.inl ⟨by rfl, fun w h => by go_simp⟩) hHeld ?_
      try simp only [Act.put, List.setIfInBounds_toArray, List.set_cons_zero, List.set_cons_succ, List.getElem_toArray, List.getElem_cons_succ, List.getElem_cons_zero]
      refine wpAnyH_take (i := 7) (oi := _) (v := .slice (some ⟨g, o, none⟩) ws.length cap) rfl (by kernel_rfl) (by kernel_rfl) (by kernel_rfl) (fun _ _ _ h => h) (Or.inl ⟨by rfl, fun w h => by go_simp⟩) hHeld ?_
      try simp only [Act.put, List.setIfInBounds_toArray, List.set_cons_zero, List.set_cons_succ, List.getElem_toArray, List.getElem_cons_succ, List.getElem_cons_zero]
      refine wpAnyH_take (i := 8) (oi := _) (v := .int .i64 k) rfl (by kernel_rfl) (by kernel_rfl) (by kernel_rfl) (fun _ _ _ h => h) (Or.inl ⟨by rfl, fun w h => by go_simp⟩) hHeld ?_
      try simp only [Act.put, List.setIfInBounds_toArray, List.set_cons_zero, List.set_cons_succ, List.getElem_toArray, List.getElem_cons_succ, List.getElem_cons_zero]
      refine wpAnyH_take (i := 9) (oi := _) (v := .pointer (some ⟨g, o + k * 9, none⟩)) rfl (by kernel_rfl) (by kernel_rfl) (by kernel_rfl) (fun _ _ _ h => h) (Or.inl ⟨by rfl, fun w h => by go_simp⟩) hHeld ?_
      try simp only [Act.put, List.setIfInBounds_toArray, List.set_cons_zero, List.set_cons_succ, List.getElem_toArray, List.getElem_cons_succ, List.getElem_cons_zero]
      refine wpAnyH_take (i := 10) (oi := _) (v := .pointer (some ⟨g, o + k * 9, none⟩)) rfl (by kernel_rfl) (by kernel_rfl) (by kernel_rfl) (fun _ _ _ h => h) (Or.inl ⟨by rfl, fun w h => by go_simp⟩) hHeld ?_
      try simp only [Act.put, List.setIfInBounds_toArray, List.set_cons_zero, List.set_cons_succ, List.getElem_toArray, List.getElem_cons_succ, List.getElem_cons_zero]
      refine wpAnyH_take (i := 11) (oi := _) (v := .int .i64 c.s) rfl (by kernel_rfl) (by kernel_rfl) (by kernel_rfl) (fun _ _ _ h => h) (Or.inl ⟨by rfl, fun w h => by have hcell := (range_speed (range_kept HE.out HGB.out h)); go_simp⟩) hHeld ?_
      try simp only [Act.put, List.setIfInBounds_toArray, List.set_cons_zero, List.set_cons_succ, List.getElem_toArray, List.getElem_cons_succ, List.getElem_cons_zero]
      refine wpAnyH_take (i := 12) (oi := _) (v := .int .i64 (t * c.s)) rfl (by kernel_rfl) (by kernel_rfl) (by kernel_rfl) (fun _ _ _ h => h) (Or.inl ⟨by rfl, fun w h => by go_simp⟩) hHeld ?_
      try simp only [Act.put, List.setIfInBounds_toArray, List.set_cons_zero, List.set_cons_succ, List.getElem_toArray, List.getElem_cons_succ, List.getElem_cons_zero]
      refine wpAnyH_ready (rs := [0, 13]) (by kernel_rfl) (by simp) ?_
      refine AllReadyH.cons (o := _) rfl (fun K hK => ?_) (AllReadyH.cons (o := _) rfl (fun K hK => ?_) AllReadyH.nil)
      · rw [if_pos (by rfl)]
        refine wp_load8 (T := 80) rfl rfl hG.range Try.underlying80 rfl info_cyc ?_
        refine hK.out _ _ hHeld (fun hHeld => ?_)
        clear hK K
        try simp only [Act.put, List.setIfInBounds_toArray, List.set_cons_zero, List.set_cons_succ, List.getElem_toArray, List.getElem_cons_succ, List.getElem_cons_zero]
        refine wpAnyH_ready (rs := [13]) (by kernel_rfl) (by simp) ?_
        refine AllReadyH.cons (o := _) rfl (fun K hK => ?_) AllReadyH.nil
        go_simp
        refine (M _).mono ?_; rintro e w5 ⟨rfl, rfl⟩
        go_wp2_with fail
        refine hK.out _ _ hHeld (fun hHeld => ?_)
        clear hK K
        try simp only [Act.put, List.setIfInBounds_toArray, List.set_cons_zero, List.set_cons_succ, List.getElem_toArray, List.getElem_cons_succ, List.getElem_cons_zero]
        clear M
        refine wpAnyH_ready (rs := [14]) (by kernel_rfl) (by simp) ?_
        refine AllReadyH.cons (o := _) rfl (fun K hK => ?_) AllReadyH.nil
        go_simp
        refine (T _).mono ?_; rintro e w5 ⟨rfl, hb5⟩
        go_wp2_with fail
        replace hG := hG.below hb5
        refine hK.out _ _ (below_on hHeld HZ2.out hb5) (fun hHeld => ?_)
        clear hK K
        try simp only [Act.put, List.setIfInBounds_toArray, List.set_cons_zero, List.set_cons_succ, List.getElem_toArray, List.getElem_cons_succ, List.getElem_cons_zero]
        clear hb5 T
        refine wpAnyH_ready (rs := [15]) (by kernel_rfl) (by simp) ?_
        refine AllReadyH.cons (o := _) rfl (fun K hK => ?_) AllReadyH.nil
        go_simp
        refine (PL _).mono ?_; rintro e w6 ⟨rfl, hb6⟩
        go_wp2_with fail
        replace hG := hG.below hb6
        refine hK.out _ _ (below_on hHeld HZ2.out hb6) (fun hHeld => ?_)
        clear hK K
        try simp only [Act.put, List.setIfInBounds_toArray, List.set_cons_zero, List.set_cons_succ, List.getElem_toArray, List.getElem_cons_succ, List.getElem_cons_zero]
        clear hb6 PL
        refine wpAnyH_ready (rs := [16]) (by kernel_rfl) (by simp) ?_
        refine AllReadyH.cons (o := _) rfl (fun K hK => ?_) AllReadyH.nil
        rw [if_pos (by rfl)]
        refine store_step (f' := S1.up) rfl rfl rfl hG info_cyc ?_
        have hG2 := hG.setRow (f' := S1.up)
        refine hK.out _ _ (below_setRow hHeld (Nat.le_refl _) _) (fun hHeld => ?_)
        clear hK K
        try simp only [Act.put, List.setIfInBounds_toArray, List.set_cons_zero, List.set_cons_succ, List.getElem_toArray, List.getElem_cons_succ, List.getElem_cons_zero]
        clear hG
        refine wpAnyH_done (by kernel_rfl) ?_ _
        have HG2 := Lib.hid hG2
        have HB2 := Lib.hid hHeld
        clear hG2 hHeld
        go_wp2
        go_roundw
        case rel => exact ⟨k + 1, by omega, by go_num, by rw [HS1.out]; exact HG2.out, HB2.out⟩
        case measure => simp [intOf]; omega
      · go_simp
        refine (M _).mono ?_; rintro e w5 ⟨rfl, rfl⟩
        go_wp2_with fail
        refine hK.out _ _ hHeld (fun hHeld => ?_)
        clear hK K
        try simp only [Act.put, List.setIfInBounds_toArray, List.set_cons_zero, List.set_cons_succ, List.getElem_toArray, List.getElem_cons_succ, List.getElem_cons_zero]
        clear M
        refine wpAnyH_ready (rs := [0, 14]) (by kernel_rfl) (by simp) ?_
        refine AllReadyH.cons (o := _) rfl (fun K hK => ?_) (AllReadyH.cons (o := _) rfl (fun K hK => ?_) AllReadyH.nil)
        · rw [if_pos (by rfl)]
          refine wp_load8 (T := 80) rfl rfl hG.range Try.underlying80 rfl info_cyc ?_
          refine hK.out _ _ hHeld (fun hHeld => ?_)
          clear hK K
          try simp only [Act.put, List.setIfInBounds_toArray, List.set_cons_zero, List.set_cons_succ, List.getElem_toArray, List.getElem_cons_succ, List.getElem_cons_zero]
          refine wpAnyH_ready (rs := [14]) (by kernel_rfl) (by simp) ?_
          refine AllReadyH.cons (o := _) rfl (fun K hK => ?_) AllReadyH.nil
          go_simp
          refine (T _).mono ?_; rintro e w5 ⟨rfl, hb5⟩
          go_wp2_with fail
          replace hG := hG.below hb5
          refine hK.out _ _ (below_on hHeld HZ2.out hb5) (fun hHeld => ?_)
          clear hK K
          try simp only [Act.put, List.setIfInBounds_toArray, List.set_cons_zero, List.set_cons_succ, List.getElem_toArray, List.getElem_cons_succ, List.getElem_cons_zero]
          clear hb5 T
          refine wpAnyH_ready (rs := [15]) (by kernel_rfl) (by simp) ?_
          refine AllReadyH.cons (o := _) rfl (fun K hK => ?_) AllReadyH.nil
          go_simp
          refine (PL _).mono ?_; rintro e w6 ⟨rfl, hb6⟩
          go_wp2_with fail
          replace hG := hG.below hb6
          refine hK.out _ _ (below_on hHeld HZ2.out hb6) (fun hHeld => ?_)
          clear hK K
          try simp only [Act.put, List.setIfInBounds_toArray, List.set_cons_zero, List.set_cons_succ, List.getElem_toArray, List.getElem_cons_succ, List.getElem_cons_zero]
          clear hb6 PL
          refine wpAnyH_ready (rs := [16]) (by kernel_rfl) (by simp) ?_
          refine AllReadyH.cons (o := _) rfl (fun K hK => ?_) AllReadyH.nil
          rw [if_pos (by rfl)]
          refine store_step (f' := S1.up) rfl rfl rfl hG info_cyc ?_
          have hG2 := hG.setRow (f' := S1.up)
          refine hK.out _ _ (below_setRow hHeld (Nat.le_refl _) _) (fun hHeld => ?_)
          clear hK K
          try simp only [Act.put, List.setIfInBounds_toArray, List.set_cons_zero, List.set_cons_succ, List.getElem_toArray, List.getElem_cons_succ, List.getElem_cons_zero]
          clear hG
          refine wpAnyH_done (by kernel_rfl) ?_ _
          have HG2 := Lib.hid hG2
          have HB2 := Lib.hid hHeld
          clear hG2 hHeld
          go_wp2
          go_roundw
          case rel => exact ⟨k + 1, by omega, by go_num, by rw [HS1.out]; exact HG2.out, HB2.out⟩
          case measure => simp [intOf]; omega
        · go_simp
          refine (T _).mono ?_; rintro e w5 ⟨rfl, hb5⟩
          go_wp2_with fail
          replace hG := hG.below hb5
          refine hK.out _ _ (below_on hHeld HZ2.out hb5) (fun hHeld => ?_)
          clear hK K
          try simp only [Act.put, List.setIfInBounds_toArray, List.set_cons_zero, List.set_cons_succ, List.getElem_toArray, List.getElem_cons_succ, List.getElem_cons_zero]
          clear hb5 T
          refine wpAnyH_ready (rs := [0]) (by kernel_rfl) (by simp) ?_
          refine AllReadyH.cons (o := _) rfl (fun K hK => ?_) AllReadyH.nil
          rw [if_pos (by rfl)]
          refine wp_load8 (T := 80) rfl rfl hG.range Try.underlying80 rfl info_cyc ?_
          refine hK.out _ _ hHeld (fun hHeld => ?_)
          clear hK K
          try simp only [Act.put, List.setIfInBounds_toArray, List.set_cons_zero, List.set_cons_succ, List.getElem_toArray, List.getElem_cons_succ, List.getElem_cons_zero]
          refine wpAnyH_ready (rs := [15]) (by kernel_rfl) (by simp) ?_
          refine AllReadyH.cons (o := _) rfl (fun K hK => ?_) AllReadyH.nil
          go_simp
          refine (PL _).mono ?_; rintro e w6 ⟨rfl, hb6⟩
          go_wp2_with fail
          replace hG := hG.below hb6
          refine hK.out _ _ (below_on hHeld HZ2.out hb6) (fun hHeld => ?_)
          clear hK K
          try simp only [Act.put, List.setIfInBounds_toArray, List.set_cons_zero, List.set_cons_succ, List.getElem_toArray, List.getElem_cons_succ, List.getElem_cons_zero]
          clear hb6 PL
          refine wpAnyH_ready (rs := [16]) (by kernel_rfl) (by simp) ?_
          refine AllReadyH.cons (o := _) rfl (fun K hK => ?_) AllReadyH.nil
          rw [if_pos (by rfl)]
          refine store_step (f' := S1.up) rfl rfl rfl hG info_cyc ?_
          have hG2 := hG.setRow (f' := S1.up)
          refine hK.out _ _ (below_setRow hHeld (Nat.le_refl _) _) (fun hHeld => ?_)
          clear hK K
          try simp only [Act.put, List.setIfInBounds_toArray, List.set_cons_zero, List.set_cons_succ, List.getElem_toArray, List.getElem_cons_succ, List.getElem_cons_zero]
          clear hG
          refine wpAnyH_done (by kernel_rfl) ?_ _
          have HG2 := Lib.hid hG2
          have HB2 := Lib.hid hHeld
          clear hG2 hHeld
          go_wp2
          go_roundw
          case rel => exact ⟨k + 1, by omega, by go_num, by rw [HS1.out]; exact HG2.out, HB2.out⟩
          case measure => simp [intOf]; omega
    · obtain rfl : k = ws.length := by omega
      have HF : Aside (RowAt wr (b + 1) 8 80 res.up) := (show RowAt _ _ _ _ _ from by rw [← HRES.out]; rw [List.take_length] at hS; exact hS)
      have HO : Aside (RowAt wr b 8 80 nul) := row_kept HR.out (by omega) hbel
      have HQ : Aside (Below b w wr) := (show Below b w wr from HL.out.trans (hbel.mono (by omega)))
      clear hS hbel
      go_wp2_with (first | (refine load_row (ty := 80) (g := b + 1) rfl rfl rfl HF.out Try.underlying80 rfl info_cyc ?_) | (refine store_row (ty := 80) rfl rfl rfl rfl HO.out info_cyc ?_))
      refine bodyPost_ret (results_row rfl rfl HO.out.setRow Try.underlying80 rfl info_cyc) rfl ?_
      exact ⟨rfl, by rw [hbw]; exact below_setRow HQ.out (Nat.le_refl _) _⟩
theorem pointOf_none : pointOf none = .tuple #[pt nul, .bool false] := by show Value.tuple #[pt V.zero.up, .bool false] = _; rw [zero_up]
theorem atD_bad {ws : List Wh} {t : Int} (h : valid ws = false) : atD ws t = none := by unfold atD; rw [h]; rfl
theorem atD_not {ws : List Wh} {t : Int} (h : isT t = false) : atD ws t = none := by unfold atD; rw [h, Bool.and_false]; rfl
theorem atD_ok {ws : List Wh} {t : Int} (h : valid ws = true) (k : isT t = true) (l : okv (pAt t ws) = true) : atD ws t = some (pAt t ws) := by unfold atD; rw [h, k, l]; rfl
theorem atD_no {ws : List Wh} {t : Int} (l : okv (pAt t ws) = false) : atD ws t = none := by unfold atD; rw [l]; simp

set_option maxHeartbeats 2000000 in
theorem specDesignAt_any (v : Value) (ws : List Wh) (t : Int) (w : World) (hv : Reads w v ws) :
    Calls Try.prog 41 #[v, .int .i64 t] w fun e w' => e = .returned (pointOf (atD ws t)) ∧ Below w.heap.size w w' := by
  have hO : RowAt (w.alloc (.cells (vec 8 nul) 80)) w.heap.size 8 80 nul := RowAt.new w 8 _ _
  have hL : Below w.heap.size w (w.alloc (.cells (vec 8 nul) 80)) := (Below.refl _ _).alloc (Nat.le_refl _) _
  have hv1 := hv.below hL
  have C := specDesignValid_any v ws _ hv1
  clear hv
  have HV1 := Lib.hid hv1
  clear hv1
  cases hvd : valid ws
  · rw [hvd] at C
    have HF : Aside (atD ws t = none) := atD_bad hvd
    have C := Lib.hid C
    clear hvd
    go_enter Try.func41, Try.ntmps41
    go_upto_region 1 with fail
    show Code.wp _ _ _ _ (w.alloc (.cells (vec 8 nul) 80))
    generalize w.alloc (.cells (vec 8 nul) 80) = W at *
    go_wp2_with fail
    refine C.out.mono ?_; rintro e w2 ⟨rfl, hb2⟩
    have hO3 := hO.below hb2
    have hL3 := below_next hL hb2
    clear hO hL hb2 C
    go_wp2_with (refine store_row (ty := 80) rfl rfl rfl (show _ = Value.agg (vec 8 nul) from rfl) hO3 info_cyc ?_)
    refine bodyPost_ret (results_row_tmp rfl rfl hO3.setRow Try.underlying80 rfl info_cyc) rfl ?_
    rw [HF.out, pointOf_none]
    exact ⟨rfl, below_setRow hL3 (by omega) _⟩
  · rw [hvd] at C
    cases hT : isT t
    · have HF : Aside (atD ws t = none) := atD_not hT
      have IS := fun w => is_no t (isT_no hT) w
      have C := Lib.hid C
      clear hvd hT
      go_enter Try.func41, Try.ntmps41
      go_upto_region 1 with fail
      show Code.wp _ _ _ _ (w.alloc (.cells (vec 8 nul) 80))
      generalize w.alloc (.cells (vec 8 nul) 80) = W at *
      go_wp2_with fail
      refine C.out.mono ?_; rintro e w2 ⟨rfl, hb2⟩
      have hO3 := hO.below hb2
      have hL3 := below_next hL hb2
      clear hO hL hb2 C
      go_wp2_with fail
      refine (IS _).mono ?_; rintro e w3 ⟨rfl, rfl⟩
      clear IS
      go_wp2_with (refine store_row (ty := 80) rfl rfl rfl (show _ = Value.agg (vec 8 nul) from rfl) hO3 info_cyc ?_)
      refine bodyPost_ret (results_row_tmp rfl rfl hO3.setRow Try.underlying80 rfl info_cyc) rfl ?_
      rw [HF.out, pointOf_none]
      exact ⟨rfl, below_setRow hL3 (by omega) _⟩
    · have ht := isT_yes hT
      have IS := fun w => is_yes t ht.1 ht.2 w
      have A := fun w2 (hb2 : Below (w.alloc (.cells (vec 8 nul) 80)).heap.size (w.alloc (.cells (vec 8 nul) 80)) w2) => l5At_any v ws t w2 (HV1.out.below hb2) hvd ht
      have D := fun w => specDone_any (pAt t ws).up w
      have HF : Aside (pointOf (atD ws t) = ans true (pAt t ws).up) := (show _ = _ from by
        cases hok : okv (pAt t ws)
        · rw [atD_no hok, pointOf_none, ans_bad hok]
        · rw [atD_ok hvd hT hok, ans_yes hok]; rfl)
      generalize (pAt t ws).up = f at *
      have C := Lib.hid C
      have A := Lib.hid A
      clear hvd hT ht
      cases hok : okc f
      · rw [ans_bad hok] at HF D
        go_enter Try.func41, Try.ntmps41
        go_upto_region 1 with fail
        show Code.wp _ _ _ _ (w.alloc (.cells (vec 8 nul) 80))
        generalize w.alloc (.cells (vec 8 nul) 80) = W at *
        go_wp2_with fail
        refine C.out.mono ?_; rintro e w2 ⟨rfl, hb2⟩
        go_wp2_with fail
        refine (IS _).mono ?_; rintro e w3 ⟨rfl, rfl⟩
        clear IS
        go_wp2_with fail
        refine (A.out _ hb2).mono ?_; rintro e w4 ⟨rfl, hb4⟩
        go_wp2_with fail
        refine (D _).mono ?_; rintro e w5 ⟨rfl, hb5⟩
        have hb6 := below_next hb2 (below_next hb4 hb5)
        have hO3 := hO.below hb6
        have hL3 := below_next hL hb6
        clear hO hL hb2 hb4 hb5 hb6 C A D
        go_wp2_with (refine store_row (ty := 80) rfl rfl rfl rfl hO3 info_cyc ?_)
        refine bodyPost_ret (results_row_tmp rfl rfl hO3.setRow Try.underlying80 rfl info_cyc) rfl ?_
        rw [HF.out]
        exact ⟨rfl, below_setRow hL3 (by omega) _⟩
      · rw [ans_yes hok] at HF D
        go_enter Try.func41, Try.ntmps41
        go_upto_region 1 with fail
        show Code.wp _ _ _ _ (w.alloc (.cells (vec 8 nul) 80))
        generalize w.alloc (.cells (vec 8 nul) 80) = W at *
        go_wp2_with fail
        refine C.out.mono ?_; rintro e w2 ⟨rfl, hb2⟩
        go_wp2_with fail
        refine (IS _).mono ?_; rintro e w3 ⟨rfl, rfl⟩
        clear IS
        go_wp2_with fail
        refine (A.out _ hb2).mono ?_; rintro e w4 ⟨rfl, hb4⟩
        go_wp2_with fail
        refine (D _).mono ?_; rintro e w5 ⟨rfl, hb5⟩
        have hb6 := below_next hb2 (below_next hb4 hb5)
        have hO3 := hO.below hb6
        have hL3 := below_next hL hb6
        clear hO hL hb2 hb4 hb5 hb6 C A D
        go_wp2_with (refine store_row (ty := 80) rfl rfl rfl rfl hO3 info_cyc ?_)
        refine bodyPost_ret (results_row_tmp rfl rfl hO3.setRow Try.underlying80 rfl info_cyc) rfl ?_
        rw [HF.out]
        exact ⟨rfl, below_setRow hL3 (by omega) _⟩

end Go.Proofs.Ytibhlaojinedoaa
/- Out of the text RowS: what the draws of polygons need. -/
namespace Go.Proofs.Ytibhlaojinedoaa
set_option maxRecDepth 20000
open Go.ChangeShapes Go.WideShapes Go.ChangeAt Go.RowKit
set_option linter.unusedVariables false
set_option linter.unusedSimpArgs false
theorem ownL_nilB (w : World) (B : Nat) (T : Nat) (hB : B ≤ w.heap.size) : (w.alloc (.cells #[] T)).ownsRow B T 8 (.slice (some ⟨w.heap.size, 0, none⟩) 0 0) 0 [] := World.ownsRow_made w #[] 0 hB (by simp [maxLen]) (by simp)
end Go.Proofs.Ytibhlaojinedoaa
/- Out of the text WheelX: what the draws of polygons need. -/
namespace Go.Proofs.Ytibhlaojinedoaa
set_option maxRecDepth 20000
open Go.ChangeShapes Go.WideShapes Go.ChangeAt Go.RowKit
set_option linter.unusedVariables false
set_option linter.unusedSimpArgs false
theorem mul_in2 {x y : Int} (X Y : Nat) (hx : -(X : Int) ≤ x ∧ x ≤ X) (hy : -(Y : Int) ≤ y ∧ y ≤ Y) : -((X * Y : Nat) : Int) ≤ x * y ∧ x * y ≤ ((X * Y : Nat) : Int) := by
  have h1 : x.natAbs ≤ X := by omega
  have h2 : y.natAbs ≤ Y := by omega
  have h3 : (x * y).natAbs ≤ X * Y := by rw [Int.natAbs_mul]; exact Nat.mul_le_mul h1 h2
  omega
end Go.Proofs.Ytibhlaojinedoaa
/- Out of the text DrawWheel: what the draws of polygons need. -/
namespace Go.Proofs.Ytibhlaojinedoaa
set_option maxRecDepth 20000
open Go.ChangeShapes Go.WideShapes Go.ChangeAt Go.RowKit
set_option linter.unusedVariables false
set_option linter.unusedSimpArgs false
theorem own_kept {w w' : World} {B T R : Nat} {v : Value} {ws : List Wh} (h : Own w B T v ws) (hg : w.grownBy w' (some R)) (hR : R < B) : Own w' B T v ws := by
  refine h.kept hg ?_
  cases e : v.ownBlock with
  | none => exact .inl rfl
  | some k =>
    have := (h.lt k e).1
    exact .inr (by simp; omega)
theorem only_own {a w w' : World} {R B : Nat} {v : Value} (h : a.grownBy w (some R)) (hg : w.grownBy w' v.ownBlock) (hv : ∀ k, v.ownBlock = some k → a.heap.size ≤ k) : a.grownBy w' (some R) :=
  ⟨hg.os.trans h.os, hg.tape.trans h.tape, hg.output.trans h.output, Nat.le_trans h.size hg.size, fun i hi hne =>
    (hg.block i (Nat.lt_of_lt_of_le hi h.size) (fun e => by have := hv i e.symm; omega)).trans (h.block i hi hne)⟩
section
variable {P : Program} {t e : TypeId} {ops : Array Oper} {rest : List Oper} {o : Oper} {a : Act} {Q : Exit → Act → World → Prop} {w0 w : World} {R q : Nat}
/-- Appending while a reader is open. -/
theorem append_drawn (ty : Ty9 P t e) (hgd : o.guard = none) {s x : Operand} (hop : o.op = .call { callee := .builtin .append, args := #[s, x], argTypes := #[t, t] })
    {v x' : Value} {xs ys : List Wh} (hs : a.eval s = v) (hx : a.eval x = x') (hown : Own w w0.heap.size e v xs) (hr : Reads w x' ys) (hlen : xs.length + ys.length ≤ 1000000000000) (hg : w0.grownBy w (some R)) (hR : Rd w R q) (hlt : R < w0.heap.size)
    (h : ∀ v' w', Own w' w0.heap.size e v' (xs ++ ys) → Rd w' R q → w0.grownBy w' (some R) → wpList P ops Q rest (a.put o.dst v') w') : wpList P ops Q (o :: rest) a w := by
  refine wpList_plain hgd fun _ hK => wp_append_list2 (w0 := w) ty hop hs hx hown hr hlen (Below.refl _ _) hg.size fun v' w' h1 _ _ h4 => hK _ _ (h v' w' h1 ?_ ?_)
  · exact hR.keep h4 fun k hk => by have := (hown.lt k hk).1; omega
  · exact only_own (B := 0) hg h4 fun k hk => (hown.lt k hk).1
theorem build_speed {T : TypeId} {x : Operand} {s : Int} (hgd : o.guard = none) (ho : o.op = .build T #[(0, x)]) (hx : a.eval x = .int .i64 s)
    (hbu : ∀ (s : Int), P.built T [(0, .int .i64 s)] = some (vec 9 (fun j => if j = 0 then s else 0)))
    (h : wpList P ops Q rest (a.put o.dst (wh ⟨s, V.zero⟩)) w) : wpList P ops Q (o :: rest) a w := by
  have e : (#[(0, x)].map fun (p : Nat × Operand) => (p.1, a.eval p.2)).toList = [(0, .int .i64 s)] := by simp [hx]
  have e2 : vec 9 (fun j => if j = 0 then s else 0) = vec 9 (wf ⟨s, V.zero⟩) := vec_same fun j hj => by
    by_cases h0 : j = 0
    · simp [wf, h0]
    · simp only [wf, h0, if_false]
      rw [zero_up]; rfl
  refine wpList_build hgd T _ ho ?_ ?_
  · show (P.built T (#[(0, x)].map fun (p : Nat × Operand) => (p.1, a.eval p.2)).toList).isSome = true
    rw [e, hbu]; rfl
  · show wpList P ops Q rest (a.put o.dst (.agg ((P.built T (#[(0, x)].map fun (p : Nat × Operand) => (p.1, a.eval p.2)).toList).getD #[]))) w
    rw [e, hbu, e2]; exact h
end
theorem built_speed (s : Int) : Try.prog.built 87 [(0, .int .i64 s)] = some (vec 9 (fun j => if j = 0 then s else 0)) := by kernel_rfl

/-- A design drawn off a reader. -/
def DrewW (w : World) (R p c : Nat) (e : Ending) (w' : World) : Prop :=
  ∃ (v : Value) (ws : List Wh) (q : Nat), e = .returned v ∧ q ≤ p + c ∧ ws.length ≤ 12 ∧ Rd w' R q ∧ w.grownBy w' (some R) ∧ Own w' w.heap.size 87 v ws

set_option maxHeartbeats 2000000 in
theorem design_drawn (R p : Nat) (w : World) (h : Rd w R p) (hp : p ≤ 800000) :
    Calls Try.prog 42 #[.pointer (some ⟨R, 0, none⟩)] w (DrewW w R p 100) := by
  have hlt := h.lt
  have hr0 := h.alloc (.cells #[] 87)
  have hg0 := World.grownBy_alloc w (.cells #[] 87) (some R)
  have ho0 := own_lit w w.heap.size 87 (Nat.le_refl _)
  have P1 := Lib.hid (pick_any R p 4 _ hr0 (by omega) (by omega))
  clear h
  go_enter Try.func42, Try.ntmps42
  go_wp2_with fail
  refine P1.out.mono ?_; rintro e w1 ⟨n, rfl, n0, n1, hr1, hg1⟩
  have hg := only_trans' hg0 hg1
  have ho := own_kept ho0 hg1 hlt
  obtain ⟨m, rfl⟩ : ∃ m : Nat, n = m := ⟨n.toNat, by omega⟩
  have HG := Lib.hid hg
  have HO := Lib.hid ho
  have HR := Lib.hid hr1
  clear P1 hr0 hg0 ho0 hr1 hg1 hg ho
  go_wp2
  go_loopw [3, 5] (fun s3 i wr => ∃ (k : Nat) (ws : List Wh) (q : Nat), k ≤ m ∧ i = .int .i64 k ∧ ws.length = k ∧ q ≤ p + 1 + 21 * k ∧ Rd wr R q ∧ w.grownBy wr (some R) ∧ Own wr w.heap.size 87 s3 ws) (fun _ i _ => m - (intOf i).toNat)
  case atStart => exact ⟨0, [], p + 1, Nat.zero_le _, rfl, rfl, by omega, HR.out, HG.out, HO.out⟩
  case round =>
    obtain ⟨k, ws, q, hk, rfl, hlen, hq, hr, hg, ho⟩ := hrel
    by_cases hkm : k < m
    · have hkz : (k : Int) < (m : Int) := by omega
      have P2 := Lib.hid (pick_any R q 13 wr hr (by omega) (by omega))
      go_wp2_with fail
      refine P2.out.mono ?_; rintro e w2 ⟨s, rfl, s0, s1, hr2, hg2⟩
      have hg3 := only_trans' hg hg2
      have ho3 := own_kept ho hg2 hlt
      have v1 : IntKind.i64.wrap (s - 6) = s - 6 := by rw [IntKind.wrap_i64]; omega
      have C := Lib.hid (cyc_drawn R (q + 1) w2 hr2 (by omega))
      clear P2 hr hg2 hg ho hr2
      go_wp2_with fail
      refine C.out.mono ?_; rintro e w3 ⟨f, q3, rfl, hq3, hr3, hg4⟩
      have HG4 := Lib.hid (only_trans' hg3 hg4)
      have HO4 := Lib.hid (own_kept ho3 hg4 hlt)
      have HR4 := Lib.hid hr3
      clear C hg3 ho3 hg4 hr3
      go_wp2_with (first | (refine build_wheel rfl rfl rfl rfl built_wheel ?_) | (refine one9 tyW rfl rfl rfl ?_) |
        (refine append_drawn tyW rfl rfl (xs := ws) (ys := [⟨s - 6, dn f⟩]) rfl rfl (HO4.out.alloc _) (reads_lit _ _ _) (by simp; omega) (only_alloc HG4.out _) (HR4.out.alloc _) hlt ?_; intro v5 w5 ho5 hr5 hg5))
      have HO5 := Lib.hid ho5
      have HR5 := Lib.hid hr5
      have HG5 := Lib.hid hg5
      clear ho5 hr5 hg5 HG4 HO4 HR4
      go_wp2
      go_roundw
      case rel => exact ⟨k + 1, ws ++ [⟨s - 6, dn f⟩], q3, by omega, by go_num, by simp; omega, by omega, HR5.out, HG5.out, HO5.out⟩
      case measure => simp [intOf]; omega
    · have hkz : ¬ (k : Int) < (m : Int) := by omega
      have P2 := Lib.hid (pick_any R q 30 wr hr (by omega) (by omega))
      go_wp2_with fail
      refine P2.out.mono ?_; rintro e w2 ⟨s, rfl, s0, s1, hr2, hg2⟩
      have HG := Lib.hid (only_trans' hg hg2)
      have HO := Lib.hid (own_kept ho hg2 hlt)
      have HR := Lib.hid hr2
      clear P2 hr hg2 hg ho hr2
      by_cases e0 : s = 0
      · subst e0
        go_wp2_with (first | (refine build_speed rfl rfl rfl built_speed ?_) | (refine one9 tyW rfl rfl rfl ?_) |
          (refine append_drawn tyW rfl rfl (xs := ws) (ys := [⟨1001, V.zero⟩]) rfl rfl (HO.out.alloc _) (reads_lit _ _ _) (by simp; omega) (only_alloc HG.out _) (HR.out.alloc _) hlt ?_; intro v5 w5 ho5 hr5 hg5))
        go_ret
        exact ⟨v5, _, _, rfl, by omega, by simp; omega, hr5, hg5, ho5⟩
      · have e0' : (s == 0) = false := by simpa using e0
        by_cases e1 : s = 1
        · subst e1
          go_upto_region 12 with (refine append_drawn tyW rfl rfl (xs := ws) (ys := ws) rfl rfl HO.out (own_reads HO.out) (by omega) HG.out HR.out hlt ?_; intro v5 w5 ho5 hr5 hg5)
          go_wp2_with (refine append_drawn tyW rfl rfl (xs := ws ++ ws) (ys := ws ++ ws) rfl rfl ho5 (own_reads ho5) (by simp; omega) hg5 hr5 hlt ?_; intro v6 w6 ho6 hr6 hg6)
          go_ret
          exact ⟨v6, _, _, rfl, by omega, by simp; omega, hr6, hg6, ho6⟩
        · have e1' : (s == 1) = false := by simpa using e1
          go_wp2
          go_ret
          exact ⟨_, ws, _, rfl, by omega, by omega, HR.out, HG.out, HO.out⟩

end Go.Proofs.Ytibhlaojinedoaa
