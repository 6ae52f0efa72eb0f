/-
  The model's folds, periods and speeds; designs turned and later.
  The model's designs turned and later, its akin designs, its turns that change nothing.
-/
import Derived.Test.YtbdhbkedeglagaaM18
import Derived.Test.YtbdhbkedeglagaaM19
import Derived.Test.YtbdhbkedeglagaaM11
/- The model's folds, periods and speeds; designs turned and later. -/
namespace Go.Proofs.Ytbdhbkedeglagaa
set_option maxRecDepth 20000
open Go.ChangeShapes Go.WideShapes Go.ChangeAt Go.RowKit
set_option linter.unusedVariables false
set_option linter.unusedSimpArgs false

theorem gcd_step (p q : Int) : Int.gcd q (p.tmod q) = Int.gcd p q := by
  unfold Int.gcd
  rw [Int.natAbs_tmod, Nat.gcd_comm p.natAbs q.natAbs, Nat.gcd_rec q.natAbs p.natAbs, Nat.gcd_comm]
theorem specGcdZ (a b : Int) (ha : -1000000 ≤ a ∧ a ≤ 1000000) (hb : -1000000 ≤ b ∧ b ≤ 1000000) (w : World) :
    Calls Try.prog 35 #[.int .i64 a, .int .i64 b] w fun e w' => e = .returned (.int .i64 ((Int.gcd a b : Nat) : Int)) ∧ w = w' := by
  go_enter Try.func35, Try.ntmps35
  go_wp2
  go_loop [0, 1, 5] (fun x y _ => ∃ p q : Int, x = .int .i64 p ∧ y = .int .i64 q ∧ (-1000000 ≤ p ∧ p ≤ 1000000) ∧ (-1000000 ≤ q ∧ q ≤ 1000000) ∧ Int.gcd p q = Int.gcd a b) (fun _ y _ => (intOf y).natAbs)
  case atStart => exact ⟨a, b, rfl, rfl, ha, hb, rfl⟩
  case round =>
    obtain ⟨p, q, rfl, rfl, hp, hq, hg⟩ := hrel
    have G := Lib.hid hg; clear hg
    by_cases h : q = 0
    · subst h
      go_wp2
      go_ret
      exact ⟨ret_int (by have := G.out; rw [Int.gcd_zero_right] at this; omega), rfl⟩
    · have hq0 : (q != 0) = true := by simpa using h
      have hq2 : (q == 0) = false := by simpa using h
      have ht : (p.tmod q).natAbs = p.natAbs % q.natAbs := Int.natAbs_tmod p q
      have hlt : p.natAbs % q.natAbs < q.natAbs := Nat.mod_lt _ (by omega)
      have w1 : IntKind.i64.wrap (p.tmod q) = p.tmod q := by rw [IntKind.wrap_i64]; omega
      have HR : Aside (-1000000 ≤ p.tmod q ∧ p.tmod q ≤ 1000000) := (show _ ∧ _ from by omega)
      have HM : Aside ((p.tmod q).natAbs < q.natAbs) := (show _ < _ from by omega)
      clear ht hlt
      go_wp2
      go_round
      case rel => exact ⟨q, p.tmod q, rfl, rfl, hq, HR.out, by rw [gcd_step, G.out]⟩
      case measure => have := HM.out; simp only [intOf]; omega

theorem headC {R : List Wh} (h : 0 < R.length) : ∃ c, R[0]? = some c ∧ c.s = headS R := by
  cases R with
  | nil => simp at h
  | cons c R => exact ⟨c, rfl, rfl⟩
theorem gcdL_first (R : List Wh) : gcdL (gapW (headS R)) (R.take 1) = 0 := by
  cases R with
  | nil => rfl
  | cons c R =>
    show Nat.gcd 0 (gapW c.s c) = 0
    simp [gapW]

end Go.Proofs.Ytbdhbkedeglagaa
/- The model's designs turned and later, its akin designs, its turns that change nothing. -/
namespace Go.Proofs.Ytbdhbkedeglagaa
set_option maxRecDepth 20000
open Go.ChangeShapes Go.WideShapes Go.ChangeAt Go.RowKit
set_option linter.unusedVariables false
set_option linter.unusedSimpArgs false

/-- Turned by t, and later by u. -/
def tlW (t u : Int) (c : Wh) : Wh := ⟨c.s, tV ((t + u * c.s) % 24).toNat c.r⟩
theorem tlW_turn {t : Nat} (ht : t ≤ 23) : tlW t 0 = turnW t := funext fun c => by
  unfold tlW turnW
  rw [Int.zero_mul, Int.add_zero]
  congr 2
  omega
theorem tlW_later (u : Int) : tlW 0 u = laterW u := funext fun c => by
  unfold tlW laterW tm
  rw [Int.zero_add]
theorem tlW_big {t u : Int} {ws : List Wh} (hv : valid ws = true) : ∀ c ∈ ws.map (tlW t u), Big c.r 4000000 := fun c hc => by
  obtain ⟨d, hd, rfl⟩ := List.mem_map.1 hc
  exact big_tV (valid_ok hv d hd).2 (show ((t + u * d.s) % 24).toNat ≤ 23 by omega)

set_option maxHeartbeats 4000000 in
theorem l5EachT_any (v : Value) (ws : List Wh) (t u : Int) (w : World) (hv : Reads w v ws) (ht : 0 ≤ t ∧ t ≤ 23) (hu : 0 ≤ u ∧ u ≤ 23) :
    Calls Try.prog 77 #[v, .int .i64 1, .int .i64 t, .int .i64 u, .bool false] w (Told w (sOf (tlW t u) ws)) := by
  have C := specDesignValid_any v ws w hv
  obtain ⟨p, cap, rfl, hc1, hc2, hp0, hp⟩ := hv
  simp only [maxLen] at hc2
  cases hvd : valid ws
  · rw [hvd] at C
    have HF : Aside (sOf (tlW t u) ws = none) := (show _ = _ from by unfold sOf; rw [hvd]; rfl)
    have C := Lib.hid C
    clear hvd hp
    go_enter Try.func77, Try.ntmps77
    go_wp2_with fail
    refine C.out.mono ?_; rintro e w2 ⟨rfl, hb2⟩
    have HQ : Aside (Told w none (.returned (.tuple #[.slice (some ⟨w2.heap.size, 0, none⟩) 0 0, .bool false])) (w2.alloc (.cells #[] 67))) := ⟨hb2.alloc hb2.size _, _, rfl, own_lit w2 w.heap.size 67 hb2.size⟩
    clear C hb2
    go_wp2
    go_ret2
    rw [HF.out]
    exact HQ.out
  · rw [hvd] at C
    have IS := fun w => is_yes t ht.1 ht.2 w
    have IS2 := fun w => is_yes u hu.1 hu.2 w
    have HV := Lib.hid hvd
    have HP := Lib.hid hp
    have C := Lib.hid C
    have HR : Aside (sOf (tlW t u) ws = tidy true (ws.map (tlW t u))) := (show _ = _ from by
      unfold sOf
      rw [hvd, if_pos rfl])
    have HLN : Aside (ws.length ≤ 12) := (show ws.length ≤ 12 from valid_len hvd)
    clear hvd hp
    go_enter Try.func77, Try.ntmps77
    go_wp2_with fail
    refine C.out.mono ?_; rintro e w2 ⟨rfl, hb2⟩
    have HB2 := Lib.hid hb2
    clear C hb2
    go_wp2_with fail
    refine (IS _).mono ?_; rintro e w3 ⟨rfl, rfl⟩
    go_wp2_with fail
    refine (IS2 _).mono ?_; rintro e w3 ⟨rfl, rfl⟩
    clear IS IS2
    go_wp2
    go_loopw [12, 13] (fun s12 i wr => ∃ k : Nat, k ≤ ws.length ∧ i = .int .i64 k ∧ Own wr w.heap.size 67 s12 ((ws.take k).map (tlW t u)) ∧ Below w.heap.size w wr ∧ w.heap.size ≤ wr.heap.size) (fun _ i _ => ws.length - (intOf i).toNat)
    case atStart => exact ⟨0, Nat.zero_le _, rfl, own_lit w2 w.heap.size 67 HB2.out.size, HB2.out.alloc HB2.out.size _, by simp; have := HB2.out.size; omega⟩
    case round =>
      obtain ⟨k, hk, rfl, hO, hbel, hB⟩ := hrel
      by_cases hlt : k < ws.length
      · have hkz : (k : Int) < (ws.length : Int) := by omega
        have hk0 : (0 : Int) ≤ (k : Int) := by omega
        obtain ⟨c, hc⟩ : ∃ c, ws[k]? = some c := ⟨_, List.getElem?_eq_getElem hlt⟩
        obtain ⟨g, o, rfl, hg, hr⟩ := HP.out (by rintro rfl; have := hp0 rfl; omega)
        have hcv := valid_ok HV.out c (List.mem_of_getElem? hc)
        have sb := inS_bound hcv.1
        have q0 : IntKind.i64.wrap c.s = c.s := by rw [IntKind.wrap_i64]; omega
        have hm0 := mul_in2 (x := u) (y := c.s) 23 1000 (by omega) (by omega)
        obtain ⟨m1, hm1⟩ : ∃ m1 : Int, u * c.s = m1 := ⟨_, rfl⟩
        rw [hm1] at hm0
        obtain ⟨m2, hm2⟩ : ∃ m2 : Int, t + m1 = m2 := ⟨_, rfl⟩
        have q1 : IntKind.i64.wrap m1 = m1 := by rw [IntKind.wrap_i64]; omega
        have q2 : IntKind.i64.wrap m2 = m2 := by rw [IntKind.wrap_i64]; omega
        obtain ⟨tt, htt⟩ : ∃ tt : Nat, m2 % 24 = (tt : Int) := ⟨(m2 % 24).toNat, by omega⟩
        have ht2 : tt ≤ 23 := by omega
        have HTL : Aside (tlW t u c = ⟨c.s, tV tt c.r⟩) := (show _ = _ from by
          unfold tlW
          rw [hm1, hm2, htt]; rfl)
        have M : ∀ w, Calls Try.prog 96 #[.int .i64 m2] w fun e w' => e = .returned (.int .i64 tt) ∧ w = w' := fun w => by
          have := mod_any m2 (by omega) (by omega) w
          rwa [htt] at this
        have HE0 : Aside (w.rangeAt g (o + k * 9) (enc c)) := range_part hr hc
        have HG : Aside (g < w.heap.size) := hg
        have HE : Aside (wr.rangeAt g (o + k * 9) (enc c)) := range_kept HE0.out hg hbel
        have HO : Aside (Own (wr.alloc (.cells (vec 8 c.r.up) 36)) w.heap.size 67 u12 ((ws.take k).map (tlW t u))) := (show World.ownsRow _ _ _ _ _ _ _ from World.ownsRow.alloc hO _)
        have HNB : Aside (some wr.heap.size ≠ u12.ownBlock) := own_not hO (Nat.le_refl _)
        have HL : Aside (Below w.heap.size w (wr.alloc (.cells (vec 8 c.r.up) 36))) := hbel.alloc hB _
        have HX : Aside (RowAt (wr.alloc (.cells (vec 8 c.r.up) 36)) wr.heap.size 8 36 c.r.up) := RowAt.new wr 8 _ _
        have HC := Lib.hid hc
        have HB : Aside (w.heap.size ≤ wr.heap.size) := hB
        have T : ∀ w, Calls Try.prog 95 #[pt c.r.up, .int .i64 tt] w fun e w' => e = .returned (pt (tV tt c.r).up) ∧ Below w.heap.size w w' := fun w => by
          have := specTurned_any c.r.up tt ht2 (inR_bound hcv.2) w
          rwa [pt_tV c.r ht2] at this
        clear htt
        clear hr hc hO hbel hB hcv hg
        go_upto_region 10 with (first | (refine load_part (T := 36) rfl rfl rfl (range_radius HE.out) Try.underlying36 rfl info_cyc ?_; clear HE) | (refine store_new (ty := 36) rfl rfl rfl rfl zero8 info_cyc ?_))
        show Code.wp _ _ _ _ (wr.alloc (.cells (vec 8 c.r.up) 36))
        generalize wr.alloc (.cells (vec 8 c.r.up) 36) = W at *
        generalize wr.heap.size = bx at *
        refine wp_region_held_drew (S := fun w' => Below w.heap.size w w' ∧ RowAt w' bx 8 36 c.r.up) (by kernel_rfl) ⟨HL.out.drew, HX.out⟩ (fun hHeld => ?_)
        refine wpAnyH_take (i := 0) (oi := _) (v := u12) rfl (by kernel_rfl) (by kernel_rfl) (by kernel_rfl) (fun _ _ _ h => h) (Or.inl ⟨by rfl, fun w h => by go_simp⟩) hHeld ?_
        try simp only [Act.put, List.setIfInBounds_toArray, List.set_cons_zero, List.set_cons_succ, List.getElem_toArray, List.getElem_cons_succ, List.getElem_cons_zero]
        refine wpAnyH_take (i := 1) (oi := _) (v := .int .i64 1) rfl (by kernel_rfl) (by kernel_rfl) (by kernel_rfl) (fun _ _ _ h => h) (Or.inl ⟨by rfl, fun w h => by go_simp⟩) hHeld ?_
        try simp only [Act.put, List.setIfInBounds_toArray, List.set_cons_zero, List.set_cons_succ, List.getElem_toArray, List.getElem_cons_succ, List.getElem_cons_zero]
        refine wpAnyH_take (i := 2) (oi := _) (v := .slice (some ⟨g, o, none⟩) ws.length cap) rfl (by kernel_rfl) (by kernel_rfl) (by kernel_rfl) (fun _ _ _ h => h) (Or.inl ⟨by rfl, fun w h => by go_simp⟩) hHeld ?_
        try simp only [Act.put, List.setIfInBounds_toArray, List.set_cons_zero, List.set_cons_succ, List.getElem_toArray, List.getElem_cons_succ, List.getElem_cons_zero]
        refine wpAnyH_take (i := 3) (oi := _) (v := .int .i64 k) rfl (by kernel_rfl) (by kernel_rfl) (by kernel_rfl) (fun _ _ _ h => h) (Or.inl ⟨by rfl, fun w h => by go_simp⟩) hHeld ?_
        try simp only [Act.put, List.setIfInBounds_toArray, List.set_cons_zero, List.set_cons_succ, List.getElem_toArray, List.getElem_cons_succ, List.getElem_cons_zero]
        refine wpAnyH_take (i := 4) (oi := _) (v := .pointer (some ⟨g, o + k * 9, none⟩)) rfl (by kernel_rfl) (by kernel_rfl) (by kernel_rfl) (fun _ _ _ h => h) (Or.inl ⟨by rfl, fun w h => by go_simp⟩) hHeld ?_
        try simp only [Act.put, List.setIfInBounds_toArray, List.set_cons_zero, List.set_cons_succ, List.getElem_toArray, List.getElem_cons_succ, List.getElem_cons_zero]
        refine wpAnyH_take (i := 5) (oi := _) (v := .pointer (some ⟨g, o + k * 9, none⟩)) rfl (by kernel_rfl) (by kernel_rfl) (by kernel_rfl) (fun _ _ _ h => h) (Or.inl ⟨by rfl, fun w h => by go_simp⟩) hHeld ?_
        try simp only [Act.put, List.setIfInBounds_toArray, List.set_cons_zero, List.set_cons_succ, List.getElem_toArray, List.getElem_cons_succ, List.getElem_cons_zero]
        refine wpAnyH_take (i := 6) (oi := _) (v := .int .i64 c.s) rfl (by kernel_rfl) (by kernel_rfl) (by kernel_rfl) (fun _ _ _ h => h) (Or.inl ⟨by rfl, fun w h => by have hcell := (range_speed (range_kept HE0.out HG.out h.1)); go_simp⟩) hHeld ?_
        try simp only [Act.put, List.setIfInBounds_toArray, List.set_cons_zero, List.set_cons_succ, List.getElem_toArray, List.getElem_cons_succ, List.getElem_cons_zero]
        refine wpAnyH_take (i := 7) (oi := _) (v := .int .i64 c.s) rfl (by kernel_rfl) (by kernel_rfl) (by kernel_rfl) (fun _ _ _ h => h) (Or.inl ⟨by rfl, fun w h => by go_simp⟩) hHeld ?_
        try simp only [Act.put, List.setIfInBounds_toArray, List.set_cons_zero, List.set_cons_succ, List.getElem_toArray, List.getElem_cons_succ, List.getElem_cons_zero]
        refine wpAnyH_take (i := 8) (oi := _) (v := .agg (vec 8 c.r.up)) rfl (by kernel_rfl) (by kernel_rfl) (by kernel_rfl) (fun _ _ _ h => h) (yieldsIf_load_mid (by rfl) _ _ rfl _ _ rfl _ _ ((fun w h => h.2.range)) Try.underlying36 rfl (size_cyc8 _)) hHeld ?_
        try simp only [Act.put, List.setIfInBounds_toArray, List.set_cons_zero, List.set_cons_succ, List.getElem_toArray, List.getElem_cons_succ, List.getElem_cons_zero]
        refine wpAnyH_take (i := 9) (oi := _) (v := .int .i64 t) rfl (by kernel_rfl) (by kernel_rfl) (by kernel_rfl) (fun _ _ _ h => h) (Or.inl ⟨by rfl, fun w h => by go_simp⟩) hHeld ?_
        try simp only [Act.put, List.setIfInBounds_toArray, List.set_cons_zero, List.set_cons_succ, List.getElem_toArray, List.getElem_cons_succ, List.getElem_cons_zero]
        refine wpAnyH_take (i := 10) (oi := _) (v := .int .i64 u) rfl (by kernel_rfl) (by kernel_rfl) (by kernel_rfl) (fun _ _ _ h => h) (Or.inl ⟨by rfl, fun w h => by go_simp⟩) hHeld ?_
        try simp only [Act.put, List.setIfInBounds_toArray, List.set_cons_zero, List.set_cons_succ, List.getElem_toArray, List.getElem_cons_succ, List.getElem_cons_zero]
        refine wpAnyH_take (i := 11) (oi := _) (v := .slice (some ⟨g, o, none⟩) ws.length cap) rfl (by kernel_rfl) (by kernel_rfl) (by kernel_rfl) (fun _ _ _ h => h) (Or.inl ⟨by rfl, fun w h => by go_simp⟩) hHeld ?_
        try simp only [Act.put, List.setIfInBounds_toArray, List.set_cons_zero, List.set_cons_succ, List.getElem_toArray, List.getElem_cons_succ, List.getElem_cons_zero]
        refine wpAnyH_take (i := 12) (oi := _) (v := .int .i64 k) rfl (by kernel_rfl) (by kernel_rfl) (by kernel_rfl) (fun _ _ _ h => h) (Or.inl ⟨by rfl, fun w h => by go_simp⟩) hHeld ?_
        try simp only [Act.put, List.setIfInBounds_toArray, List.set_cons_zero, List.set_cons_succ, List.getElem_toArray, List.getElem_cons_succ, List.getElem_cons_zero]
        refine wpAnyH_take (i := 13) (oi := _) (v := .pointer (some ⟨g, o + k * 9, none⟩)) rfl (by kernel_rfl) (by kernel_rfl) (by kernel_rfl) (fun _ _ _ h => h) (Or.inl ⟨by rfl, fun w h => by go_simp⟩) hHeld ?_
        try simp only [Act.put, List.setIfInBounds_toArray, List.set_cons_zero, List.set_cons_succ, List.getElem_toArray, List.getElem_cons_succ, List.getElem_cons_zero]
        refine wpAnyH_take (i := 14) (oi := _) (v := .pointer (some ⟨g, o + k * 9, none⟩)) rfl (by kernel_rfl) (by kernel_rfl) (by kernel_rfl) (fun _ _ _ h => h) (Or.inl ⟨by rfl, fun w h => by go_simp⟩) hHeld ?_
        try simp only [Act.put, List.setIfInBounds_toArray, List.set_cons_zero, List.set_cons_succ, List.getElem_toArray, List.getElem_cons_succ, List.getElem_cons_zero]
        refine wpAnyH_take (i := 15) (oi := _) (v := .int .i64 c.s) rfl (by kernel_rfl) (by kernel_rfl) (by kernel_rfl) (fun _ _ _ h => h) (Or.inl ⟨by rfl, fun w h => by have hcell := (range_speed (range_kept HE0.out HG.out h.1)); go_simp⟩) hHeld ?_
        try simp only [Act.put, List.setIfInBounds_toArray, List.set_cons_zero, List.set_cons_succ, List.getElem_toArray, List.getElem_cons_succ, List.getElem_cons_zero]
        refine wpAnyH_take (i := 16) (oi := _) (v := .int .i64 m1) rfl (by kernel_rfl) (by kernel_rfl) (by kernel_rfl) (fun _ _ _ h => h) (Or.inl ⟨by rfl, fun w h => by go_simp⟩) hHeld ?_
        try simp only [Act.put, List.setIfInBounds_toArray, List.set_cons_zero, List.set_cons_succ, List.getElem_toArray, List.getElem_cons_succ, List.getElem_cons_zero]
        refine wpAnyH_take (i := 17) (oi := _) (v := .int .i64 m2) rfl (by kernel_rfl) (by kernel_rfl) (by kernel_rfl) (fun _ _ _ h => h) (Or.inl ⟨by rfl, fun w h => by go_simp⟩) hHeld ?_
        try simp only [Act.put, List.setIfInBounds_toArray, List.set_cons_zero, List.set_cons_succ, List.getElem_toArray, List.getElem_cons_succ, List.getElem_cons_zero]
        refine wpAnyH_ready (rs := [18]) (by kernel_rfl) (by simp) ?_
        refine AllReadyH.cons (o := _) rfl (fun K hK => ?_) AllReadyH.nil
        go_simp
        refine (M _).mono ?_; rintro e w5 ⟨rfl, rfl⟩
        go_wp2_with fail
        refine hK.out _ _ hHeld (fun hHeld => ?_)
        clear hK K
        try simp only [Act.put, List.setIfInBounds_toArray, List.set_cons_zero, List.set_cons_succ, List.getElem_toArray, List.getElem_cons_succ, List.getElem_cons_zero]
        refine wpAnyH_ready (rs := [19]) (by kernel_rfl) (by simp) ?_
        refine AllReadyH.cons (o := _) rfl (fun K hK => ?_) AllReadyH.nil
        go_simp
        refine (T _).mono ?_; rintro e w5 ⟨rfl, hb5⟩
        go_wp2_with fail
        have hO5 : Own w5 w.heap.size 67 u12 ((ws.take k).map (tlW t u)) := own_below (show Own W.drew _ _ _ _ from HO.out) hb5
        have hz5 : w.heap.size ≤ w5.heap.size := Nat.le_trans hHeld.1.size hb5.size
        refine hK.out _ _ ⟨below_next hHeld.1 hb5, hHeld.2.below hb5⟩ (fun hHeld => ?_)
        clear hK K
        try simp only [Act.put, List.setIfInBounds_toArray, List.set_cons_zero, List.set_cons_succ, List.getElem_toArray, List.getElem_cons_succ, List.getElem_cons_zero]
        clear hb5 T HO
        refine wpAnyH_take (i := 20) (oi := _) (v := .agg (vec 9 (wf (tlW t u c)))) rfl (by kernel_rfl) (by kernel_rfl) (by kernel_rfl) (fun _ _ _ h => h) (Or.inl ⟨by rfl, fun w h => by have e : wh (tlW t u c) = wh ⟨c.s, dn (tV tt c.r).up⟩ := (by rw [dn_up, HTL.out]); show _ = Result.ok (Next.value (wh (tlW t u c))) w; rw [e]; exact yields_build built_wheel rfl rfl rfl⟩) hHeld ?_
        try simp only [Act.put, List.setIfInBounds_toArray, List.set_cons_zero, List.set_cons_succ, List.getElem_toArray, List.getElem_cons_succ, List.getElem_cons_zero]
        refine wpAnyH_ready (rs := [21]) (by kernel_rfl) (by simp) ?_
        refine AllReadyH.cons (o := _) rfl (fun K hK => ?_) AllReadyH.nil
        rw [if_pos (by rfl)]
        refine wp_one9 tyW rfl rfl ?_
        have hlit := reads_lit w5 (tlW t u c) 67
        have hO6 : Own (w5.alloc (.cells (vec 9 (wf (tlW t u c))) 67)) w.heap.size 67 u12 ((ws.take k).map (tlW t u)) := (show World.ownsRow _ _ _ _ _ _ _ from World.ownsRow.alloc hO5 _)
        refine hK.out _ _ ⟨hHeld.1.alloc hz5 _, hHeld.2.alloc _⟩ (fun hHeld => ?_)
        clear hK K
        try simp only [Act.put, List.setIfInBounds_toArray, List.set_cons_zero, List.set_cons_succ, List.getElem_toArray, List.getElem_cons_succ, List.getElem_cons_zero]
        clear hO5
        have hz6 := hHeld.1.size
        refine wpAnyH_ready (rs := [22]) (by kernel_rfl) (by simp) ?_
        refine AllReadyH.cons (o := _) rfl (fun K hK => ?_) AllReadyH.nil
        refine wp_append_list2 tyW rfl (xs := (ws.take k).map (tlW t u)) (ys := [tlW t u c]) rfl rfl hO6 hlit (by simp; have := HLN.out; omega) hHeld.1 hz6 ?_; intro v2 w6 ho6 hb6 hB6 hgr
        refine hK.out _ _ ⟨hb6, row_grown hHeld.2 hgr HNB.out⟩ (fun hHeld => ?_)
        clear hK K
        try simp only [Act.put, List.setIfInBounds_toArray, List.set_cons_zero, List.set_cons_succ, List.getElem_toArray, List.getElem_cons_succ, List.getElem_cons_zero]
        clear hlit hO6 hgr
        refine wpAnyH_take (i := 23) (oi := _) (v := v2) rfl (by kernel_rfl) (by kernel_rfl) (by kernel_rfl) (fun _ _ _ h => h) (Or.inl ⟨by rfl, fun w h => by go_simp⟩) hHeld ?_
        try simp only [Act.put, List.setIfInBounds_toArray, List.set_cons_zero, List.set_cons_succ, List.getElem_toArray, List.getElem_cons_succ, List.getElem_cons_zero]
        refine wpAnyH_done (by kernel_rfl) ?_ _
        have HO6 := Lib.hid ho6
        have HB6 := Lib.hid hb6
        have HZ6 := Lib.hid hB6
        clear ho6 hb6 hB6 hHeld
        go_wp2
        go_roundw
        case rel =>
          refine ⟨k + 1, by omega, by go_num, ?_, HB6.out, HZ6.out⟩
          rw [take_next HC.out, List.map_append]; exact HO6.out
        case measure => simp [intOf]; omega
      · obtain rfl : k = ws.length := by omega
        rw [List.take_length] at hO
        have TT := l5Tidy_any u12 (ws.map (tlW t u)) wr (own_reads hO) (by rw [List.length_map]; have := HLN.out; omega) (fun c hc => tlW_big HV.out c hc)
        generalize hres : tidy true (ws.map (tlW t u)) = res at TT
        have HRES := Lib.hid hres
        have HL := Lib.hid hbel
        have HB := Lib.hid hB
        clear hO hbel hB hres
        go_wp2_with fail
        refine TT.mono ?_; rintro e w7 ⟨hb7, v7, rfl, ho7⟩
        have HQ : Aside (Told w res (.returned (.tuple #[v7, .bool res.isSome])) w7) := ⟨below_next HL.out hb7, _, rfl, own_mono ho7 HB.out⟩
        clear TT hb7 ho7
        go_wp2
        go_ret2
        rw [HR.out, HRES.out]
        exact HQ.out

theorem akinS_none {a b : Nat} {X Y : List Wh} (h : sOf (laterW a) X = none) : akinS a b X Y = false := by unfold akinS; rw [h]
theorem akinS_none2 {a b : Nat} {X X1 Y : List Wh} (h : sOf (laterW a) X = some X1) (h2 : sOf (turnW b) X1 = none) : akinS a b X Y = false := by unfold akinS; rw [h]; simp only []; rw [h2]
theorem akinS_some {a b : Nat} {X X1 X2 Y : List Wh} (h : sOf (laterW a) X = some X1) (h2 : sOf (turnW b) X1 = some X2) : akinS a b X Y = eqL X2 Y := by unfold akinS; rw [h]; simp only []; rw [h2]

/-- What a design's akin pair is told as. -/
def akinV (o : Option Nat) : Value := .tuple #[.int .i64 ((o.getD 0 : Nat) : Int), .bool o.isSome]
theorem akinD_one {A B : List Wh} (h : tid A = none) : akinD A B = none := by unfold akinD; rw [h]
theorem akinD_two {A B : List Wh} (h : tid B = none) : akinD A B = none := by
  unfold akinD
  cases tid A with
  | none => rfl
  | some X => simp only []; rw [h]
theorem akinD_both {A B X Y : List Wh} (h : tid A = some X) (h2 : tid B = some Y) : akinD A B = akinO X Y := by unfold akinD; rw [h]; simp only []; rw [h2]

end Go.Proofs.Ytbdhbkedeglagaa
