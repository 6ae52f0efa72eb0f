/-
  The model's designs with other speeds.
-/
import Derived.Test.YteicmnoafoekcaaWheelW
namespace Go.Proofs.Yteicmnoafoekcaa
set_option maxRecDepth 20000
open Go.ChangeShapes Go.WideShapes Go.ChangeAt Go.RowKit
set_option linter.unusedVariables false
set_option linter.unusedSimpArgs false

theorem mul_in2 {x y : Int} (X Y : Nat) (hx : -(X : Int) ≤ x ∧ x ≤ X) (hy : -(Y : Int) ≤ y ∧ y ≤ Y) : -((X * Y : Nat) : Int) ≤ x * y ∧ x * y ≤ ((X * Y : Nat) : Int) := by
  have h1 : x.natAbs ≤ X := by omega
  have h2 : y.natAbs ≤ Y := by omega
  have h3 : (x * y).natAbs ≤ X * Y := by rw [Int.natAbs_mul]; exact Nat.mul_le_mul h1 h2
  omega
theorem row_grown {w w' : World} {g n : Nat} {T : TypeId} {f : Nat → Int} {row : Option Nat} (h : RowAt w g n T f) (hg : w.grownBy w' row) (hne : some g ≠ row) : RowAt w' g n T f := (hg.block g h.lt hne).trans h
theorem own_not {w : World} {B T : Nat} {v : Value} {ws : List Wh} (h : Own w B T v ws) {g : Nat} (hg : w.heap.size ≤ g) : some g ≠ v.ownBlock := fun e => by
  have := (h.lt g e.symm).2
  omega
theorem map_fast_ok {n : Int} {ws : List Wh} (hv : valid ws = true) : ∀ c ∈ ws.map (fastW n), okv c.r = true := fun c hc => by
  obtain ⟨d, hd, rfl⟩ := List.mem_map.1 hc
  exact (valid_ok hv d hd).2

set_option maxHeartbeats 4000000 in
theorem l5Each_any (v : Value) (ws : List Wh) (n : Int) (w : World) (hv : Reads w v ws) (hn : -20 ≤ n ∧ n ≤ 20) :
    Calls Try.prog 82 #[v, .int .i64 n, .int .i64 0, .int .i64 0, .bool false] w (Told w (dOf (fastW n) ws)) := by
  have C := specDesignValid_any v ws w hv
  obtain ⟨p, cap, rfl, hc1, hc2, hp0, hp⟩ := hv
  simp only [maxLen] at hc2
  cases hvd : valid ws
  · rw [hvd] at C
    have HF : Aside (dOf (fastW n) ws = none) := (show _ = _ from by unfold dOf; rw [hvd]; rfl)
    have C := Lib.hid C
    clear hvd hp
    go_enter Try.func82, Try.ntmps82
    go_wp2_with fail
    refine C.out.mono ?_; rintro e w2 ⟨rfl, hb2⟩
    have HQ : Aside (Told w none (.returned (.tuple #[.slice (some ⟨w2.heap.size, 0, none⟩) 0 0, .bool false])) (w2.alloc (.cells #[] 34))) := ⟨hb2.alloc hb2.size _, _, rfl, own_lit w2 w.heap.size 34 hb2.size⟩
    clear C hb2
    go_wp2
    go_ret2
    rw [HF.out]
    exact HQ.out
  · rw [hvd] at C
    have IS := fun w => is_yes 0 (by omega) (by omega) w
    have HV := Lib.hid hvd
    have HP := Lib.hid hp
    have C := Lib.hid C
    have HR : Aside (dOf (fastW n) ws = tidy true (ws.map (fastW n))) := (show _ = _ from by
      unfold dOf
      rw [hvd, if_pos rfl, tidy_first (map_fast_ok hvd)])
    have HLN : Aside (ws.length ≤ 12) := (show ws.length ≤ 12 from valid_len hvd)
    have M : ∀ w, Calls Try.prog 106 #[.int .i64 0] w fun e w' => e = .returned (.int .i64 0) ∧ w = w' := fun w => mod_any 0 (by omega) (by omega) w
    clear hvd hp
    go_enter Try.func82, Try.ntmps82
    go_wp2_with fail
    refine C.out.mono ?_; rintro e w2 ⟨rfl, hb2⟩
    have HB2 := Lib.hid hb2
    clear C hb2
    go_wp2_with fail
    refine (IS _).mono ?_; rintro e w3 ⟨rfl, rfl⟩
    go_wp2_with fail
    refine (IS _).mono ?_; rintro e w3 ⟨rfl, rfl⟩
    clear IS
    go_wp2
    go_loopw [12, 13] (fun s12 i wr => ∃ k : Nat, k ≤ ws.length ∧ i = .int .i64 k ∧ Own wr w.heap.size 34 s12 ((ws.take k).map (fastW n)) ∧ Below w.heap.size w wr ∧ w.heap.size ≤ wr.heap.size) (fun _ i _ => ws.length - (intOf i).toNat)
    case atStart => exact ⟨0, Nat.zero_le _, rfl, own_lit w2 w.heap.size 34 HB2.out.size, HB2.out.alloc HB2.out.size _, by simp; have := HB2.out.size; omega⟩
    case round =>
      obtain ⟨k, hk, rfl, hO, hbel, hB⟩ := hrel
      by_cases hlt : k < ws.length
      · have hkz : (k : Int) < (ws.length : Int) := by omega
        have hk0 : (0 : Int) ≤ (k : Int) := by omega
        obtain ⟨c, hc⟩ : ∃ c, ws[k]? = some c := ⟨_, List.getElem?_eq_getElem hlt⟩
        obtain ⟨g, o, rfl, hg, hr⟩ := HP.out (by rintro rfl; have := hp0 rfl; omega)
        have hcv := valid_ok HV.out c (List.mem_of_getElem? hc)
        have sb := inS_bound hcv.1
        have q1 : IntKind.i64.wrap (n * c.s) = n * c.s := by
          have h1 := mul_in2 (x := n) (y := c.s) 20 1000 (by omega) (by omega)
          rw [IntKind.wrap_i64]; omega
        have q2 : IntKind.i64.wrap 0 = 0 := by decide
        have HE0 : Aside (w.rangeAt g (o + k * 9) (enc c)) := range_part hr hc
        have HG : Aside (g < w.heap.size) := hg
        have HE : Aside (wr.rangeAt g (o + k * 9) (enc c)) := range_kept HE0.out hg hbel
        have HO : Aside (Own (wr.alloc (.cells (vec 8 c.r.up) 32)) w.heap.size 34 u12 ((ws.take k).map (fastW n))) := (show World.ownsRow _ _ _ _ _ _ _ from World.ownsRow.alloc hO _)
        have HNB : Aside (some wr.heap.size ≠ u12.ownBlock) := own_not hO (Nat.le_refl _)
        have HL : Aside (Below w.heap.size w (wr.alloc (.cells (vec 8 c.r.up) 32))) := hbel.alloc hB _
        have HX : Aside (RowAt (wr.alloc (.cells (vec 8 c.r.up) 32)) wr.heap.size 8 32 c.r.up) := RowAt.new wr 8 _ _
        have HC := Lib.hid hc
        have HB : Aside (w.heap.size ≤ wr.heap.size) := hB
        have T : ∀ w, Calls Try.prog 105 #[pt c.r.up, .int .i64 0] w fun e w' => e = .returned (pt c.r.up) ∧ Below w.heap.size w w' := fun w => by
          have := specTurned_any c.r.up 0 (by omega) (inR_bound hcv.2) w
          rw [pt_tV c.r (by omega), tV_none] at this
          exact this
        clear hr hc hO hbel hB hcv hg
        go_upto_region 10 with (first | (refine load_part (T := 32) rfl rfl rfl (range_radius HE.out) Try.underlying32 rfl info_cyc ?_; clear HE) | (refine store_new (ty := 32) rfl rfl rfl rfl zero8 info_cyc ?_))
        show Code.wp _ _ _ _ (wr.alloc (.cells (vec 8 c.r.up) 32))
        generalize wr.alloc (.cells (vec 8 c.r.up) 32) = W at *
        generalize wr.heap.size = bx at *
        refine wp_region_held_drew (S := fun w' => Below w.heap.size w w' ∧ RowAt w' bx 8 32 c.r.up) (by kernel_rfl) ⟨HL.out.drew, HX.out⟩ (fun hHeld => ?_)
        refine wpAnyH_take (i := 0) (oi := _) (v := u12) rfl (by kernel_rfl) (by kernel_rfl) (by kernel_rfl) (fun _ _ _ h => h) (Or.inl ⟨by rfl, fun w h => by go_simp⟩) hHeld ?_
        try simp only [Act.put, List.setIfInBounds_toArray, List.set_cons_zero, List.set_cons_succ, List.getElem_toArray, List.getElem_cons_succ, List.getElem_cons_zero]
        refine wpAnyH_take (i := 1) (oi := _) (v := .int .i64 n) rfl (by kernel_rfl) (by kernel_rfl) (by kernel_rfl) (fun _ _ _ h => h) (Or.inl ⟨by rfl, fun w h => by go_simp⟩) hHeld ?_
        try simp only [Act.put, List.setIfInBounds_toArray, List.set_cons_zero, List.set_cons_succ, List.getElem_toArray, List.getElem_cons_succ, List.getElem_cons_zero]
        refine wpAnyH_take (i := 2) (oi := _) (v := .slice (some ⟨g, o, none⟩) ws.length cap) rfl (by kernel_rfl) (by kernel_rfl) (by kernel_rfl) (fun _ _ _ h => h) (Or.inl ⟨by rfl, fun w h => by go_simp⟩) hHeld ?_
        try simp only [Act.put, List.setIfInBounds_toArray, List.set_cons_zero, List.set_cons_succ, List.getElem_toArray, List.getElem_cons_succ, List.getElem_cons_zero]
        refine wpAnyH_take (i := 3) (oi := _) (v := .int .i64 k) rfl (by kernel_rfl) (by kernel_rfl) (by kernel_rfl) (fun _ _ _ h => h) (Or.inl ⟨by rfl, fun w h => by go_simp⟩) hHeld ?_
        try simp only [Act.put, List.setIfInBounds_toArray, List.set_cons_zero, List.set_cons_succ, List.getElem_toArray, List.getElem_cons_succ, List.getElem_cons_zero]
        refine wpAnyH_take (i := 4) (oi := _) (v := .pointer (some ⟨g, o + k * 9, none⟩)) rfl (by kernel_rfl) (by kernel_rfl) (by kernel_rfl) (fun _ _ _ h => h) (Or.inl ⟨by rfl, fun w h => by go_simp⟩) hHeld ?_
        try simp only [Act.put, List.setIfInBounds_toArray, List.set_cons_zero, List.set_cons_succ, List.getElem_toArray, List.getElem_cons_succ, List.getElem_cons_zero]
        refine wpAnyH_take (i := 5) (oi := _) (v := .pointer (some ⟨g, o + k * 9, none⟩)) rfl (by kernel_rfl) (by kernel_rfl) (by kernel_rfl) (fun _ _ _ h => h) (Or.inl ⟨by rfl, fun w h => by go_simp⟩) hHeld ?_
        try simp only [Act.put, List.setIfInBounds_toArray, List.set_cons_zero, List.set_cons_succ, List.getElem_toArray, List.getElem_cons_succ, List.getElem_cons_zero]
        refine wpAnyH_take (i := 6) (oi := _) (v := .int .i64 c.s) rfl (by kernel_rfl) (by kernel_rfl) (by kernel_rfl) (fun _ _ _ h => h) (Or.inl ⟨by rfl, fun w h => by have hcell := (range_speed (range_kept HE0.out HG.out h.1)); go_simp⟩) hHeld ?_
        try simp only [Act.put, List.setIfInBounds_toArray, List.set_cons_zero, List.set_cons_succ, List.getElem_toArray, List.getElem_cons_succ, List.getElem_cons_zero]
        refine wpAnyH_take (i := 7) (oi := _) (v := .int .i64 (n * c.s)) rfl (by kernel_rfl) (by kernel_rfl) (by kernel_rfl) (fun _ _ _ h => h) (Or.inl ⟨by rfl, fun w h => by go_simp⟩) hHeld ?_
        try simp only [Act.put, List.setIfInBounds_toArray, List.set_cons_zero, List.set_cons_succ, List.getElem_toArray, List.getElem_cons_succ, List.getElem_cons_zero]
        refine wpAnyH_take (i := 8) (oi := _) (v := .agg (vec 8 c.r.up)) rfl (by kernel_rfl) (by kernel_rfl) (by kernel_rfl) (fun _ _ _ h => h) (yieldsIf_load_mid (by rfl) _ _ rfl _ _ rfl _ _ ((fun w h => h.2.range)) Try.underlying32 rfl (size_cyc8 _)) hHeld ?_
        try simp only [Act.put, List.setIfInBounds_toArray, List.set_cons_zero, List.set_cons_succ, List.getElem_toArray, List.getElem_cons_succ, List.getElem_cons_zero]
        refine wpAnyH_take (i := 9) (oi := _) (v := .int .i64 0) rfl (by kernel_rfl) (by kernel_rfl) (by kernel_rfl) (fun _ _ _ h => h) (Or.inl ⟨by rfl, fun w h => by go_simp⟩) hHeld ?_
        try simp only [Act.put, List.setIfInBounds_toArray, List.set_cons_zero, List.set_cons_succ, List.getElem_toArray, List.getElem_cons_succ, List.getElem_cons_zero]
        refine wpAnyH_take (i := 10) (oi := _) (v := .int .i64 0) rfl (by kernel_rfl) (by kernel_rfl) (by kernel_rfl) (fun _ _ _ h => h) (Or.inl ⟨by rfl, fun w h => by go_simp⟩) hHeld ?_
        try simp only [Act.put, List.setIfInBounds_toArray, List.set_cons_zero, List.set_cons_succ, List.getElem_toArray, List.getElem_cons_succ, List.getElem_cons_zero]
        refine wpAnyH_take (i := 11) (oi := _) (v := .slice (some ⟨g, o, none⟩) ws.length cap) rfl (by kernel_rfl) (by kernel_rfl) (by kernel_rfl) (fun _ _ _ h => h) (Or.inl ⟨by rfl, fun w h => by go_simp⟩) hHeld ?_
        try simp only [Act.put, List.setIfInBounds_toArray, List.set_cons_zero, List.set_cons_succ, List.getElem_toArray, List.getElem_cons_succ, List.getElem_cons_zero]
        refine wpAnyH_take (i := 12) (oi := _) (v := .int .i64 k) rfl (by kernel_rfl) (by kernel_rfl) (by kernel_rfl) (fun _ _ _ h => h) (Or.inl ⟨by rfl, fun w h => by go_simp⟩) hHeld ?_
        try simp only [Act.put, List.setIfInBounds_toArray, List.set_cons_zero, List.set_cons_succ, List.getElem_toArray, List.getElem_cons_succ, List.getElem_cons_zero]
        refine wpAnyH_take (i := 13) (oi := _) (v := .pointer (some ⟨g, o + k * 9, none⟩)) rfl (by kernel_rfl) (by kernel_rfl) (by kernel_rfl) (fun _ _ _ h => h) (Or.inl ⟨by rfl, fun w h => by go_simp⟩) hHeld ?_
        try simp only [Act.put, List.setIfInBounds_toArray, List.set_cons_zero, List.set_cons_succ, List.getElem_toArray, List.getElem_cons_succ, List.getElem_cons_zero]
        refine wpAnyH_take (i := 14) (oi := _) (v := .pointer (some ⟨g, o + k * 9, none⟩)) rfl (by kernel_rfl) (by kernel_rfl) (by kernel_rfl) (fun _ _ _ h => h) (Or.inl ⟨by rfl, fun w h => by go_simp⟩) hHeld ?_
        try simp only [Act.put, List.setIfInBounds_toArray, List.set_cons_zero, List.set_cons_succ, List.getElem_toArray, List.getElem_cons_succ, List.getElem_cons_zero]
        refine wpAnyH_take (i := 15) (oi := _) (v := .int .i64 c.s) rfl (by kernel_rfl) (by kernel_rfl) (by kernel_rfl) (fun _ _ _ h => h) (Or.inl ⟨by rfl, fun w h => by have hcell := (range_speed (range_kept HE0.out HG.out h.1)); go_simp⟩) hHeld ?_
        try simp only [Act.put, List.setIfInBounds_toArray, List.set_cons_zero, List.set_cons_succ, List.getElem_toArray, List.getElem_cons_succ, List.getElem_cons_zero]
        refine wpAnyH_take (i := 16) (oi := _) (v := .int .i64 0) rfl (by kernel_rfl) (by kernel_rfl) (by kernel_rfl) (fun _ _ _ h => h) (Or.inl ⟨by rfl, fun w h => by go_simp⟩) hHeld ?_
        try simp only [Act.put, List.setIfInBounds_toArray, List.set_cons_zero, List.set_cons_succ, List.getElem_toArray, List.getElem_cons_succ, List.getElem_cons_zero]
        refine wpAnyH_take (i := 17) (oi := _) (v := .int .i64 0) rfl (by kernel_rfl) (by kernel_rfl) (by kernel_rfl) (fun _ _ _ h => h) (Or.inl ⟨by rfl, fun w h => by go_simp⟩) hHeld ?_
        try simp only [Act.put, List.setIfInBounds_toArray, List.set_cons_zero, List.set_cons_succ, List.getElem_toArray, List.getElem_cons_succ, List.getElem_cons_zero]
        refine wpAnyH_ready (rs := [18]) (by kernel_rfl) (by simp) ?_
        refine AllReadyH.cons (o := _) rfl (fun K hK => ?_) AllReadyH.nil
        go_simp
        refine (M _).mono ?_; rintro e w5 ⟨rfl, rfl⟩
        go_wp2_with fail
        refine hK.out _ _ hHeld (fun hHeld => ?_)
        clear hK K
        try simp only [Act.put, List.setIfInBounds_toArray, List.set_cons_zero, List.set_cons_succ, List.getElem_toArray, List.getElem_cons_succ, List.getElem_cons_zero]
        refine wpAnyH_ready (rs := [19]) (by kernel_rfl) (by simp) ?_
        refine AllReadyH.cons (o := _) rfl (fun K hK => ?_) AllReadyH.nil
        go_simp
        refine (T _).mono ?_; rintro e w5 ⟨rfl, hb5⟩
        go_wp2_with fail
        have hO5 : Own w5 w.heap.size 34 u12 ((ws.take k).map (fastW n)) := own_below (show Own W.drew _ _ _ _ from HO.out) hb5
        have hz5 : w.heap.size ≤ w5.heap.size := Nat.le_trans hHeld.1.size hb5.size
        refine hK.out _ _ ⟨below_next hHeld.1 hb5, hHeld.2.below hb5⟩ (fun hHeld => ?_)
        clear hK K
        try simp only [Act.put, List.setIfInBounds_toArray, List.set_cons_zero, List.set_cons_succ, List.getElem_toArray, List.getElem_cons_succ, List.getElem_cons_zero]
        clear hb5 T HO
        refine wpAnyH_take (i := 20) (oi := _) (v := .agg (vec 9 (wf (fastW n c)))) rfl (by kernel_rfl) (by kernel_rfl) (by kernel_rfl) (fun _ _ _ h => h) (Or.inl ⟨by rfl, fun w h => by have e : wh (fastW n c) = wh ⟨n * c.s, dn c.r.up⟩ := (by rw [dn_up, Int.mul_comm n c.s]; rfl); show _ = Result.ok (Next.value (wh (fastW n c))) w; rw [e]; exact yields_build built_wheel rfl rfl rfl⟩) hHeld ?_
        try simp only [Act.put, List.setIfInBounds_toArray, List.set_cons_zero, List.set_cons_succ, List.getElem_toArray, List.getElem_cons_succ, List.getElem_cons_zero]
        refine wpAnyH_ready (rs := [21]) (by kernel_rfl) (by simp) ?_
        refine AllReadyH.cons (o := _) rfl (fun K hK => ?_) AllReadyH.nil
        rw [if_pos (by rfl)]
        refine wp_one9 tyW rfl rfl ?_
        have hlit := reads_lit w5 (fastW n c) 34
        have hO6 : Own (w5.alloc (.cells (vec 9 (wf (fastW n c))) 34)) w.heap.size 34 u12 ((ws.take k).map (fastW n)) := (show World.ownsRow _ _ _ _ _ _ _ from World.ownsRow.alloc hO5 _)
        refine hK.out _ _ ⟨hHeld.1.alloc hz5 _, hHeld.2.alloc _⟩ (fun hHeld => ?_)
        clear hK K
        try simp only [Act.put, List.setIfInBounds_toArray, List.set_cons_zero, List.set_cons_succ, List.getElem_toArray, List.getElem_cons_succ, List.getElem_cons_zero]
        clear hO5
        have hz6 := hHeld.1.size
        refine wpAnyH_ready (rs := [22]) (by kernel_rfl) (by simp) ?_
        refine AllReadyH.cons (o := _) rfl (fun K hK => ?_) AllReadyH.nil
        refine wp_append_list2 tyW rfl (xs := (ws.take k).map (fastW n)) (ys := [fastW n c]) rfl rfl hO6 hlit (by simp; have := HLN.out; omega) hHeld.1 hz6 ?_; intro v2 w6 ho6 hb6 hB6 hgr
        refine hK.out _ _ ⟨hb6, row_grown hHeld.2 hgr HNB.out⟩ (fun hHeld => ?_)
        clear hK K
        try simp only [Act.put, List.setIfInBounds_toArray, List.set_cons_zero, List.set_cons_succ, List.getElem_toArray, List.getElem_cons_succ, List.getElem_cons_zero]
        clear hlit hO6 hgr
        refine wpAnyH_take (i := 23) (oi := _) (v := v2) rfl (by kernel_rfl) (by kernel_rfl) (by kernel_rfl) (fun _ _ _ h => h) (Or.inl ⟨by rfl, fun w h => by go_simp⟩) hHeld ?_
        try simp only [Act.put, List.setIfInBounds_toArray, List.set_cons_zero, List.set_cons_succ, List.getElem_toArray, List.getElem_cons_succ, List.getElem_cons_zero]
        refine wpAnyH_done (by kernel_rfl) ?_ _
        have HO6 := Lib.hid ho6
        have HB6 := Lib.hid hb6
        have HZ6 := Lib.hid hB6
        clear ho6 hb6 hB6 hHeld
        go_wp2
        go_roundw
        case rel =>
          refine ⟨k + 1, by omega, by go_num, ?_, HB6.out, HZ6.out⟩
          rw [take_next HC.out, List.map_append]; exact HO6.out
        case measure => simp [intOf]; omega
      · obtain rfl : k = ws.length := by omega
        rw [List.take_length] at hO
        have TT := l5Tidy_any u12 (ws.map (fastW n)) wr (own_reads hO) (by rw [List.length_map]; have := HLN.out; omega) (fun c hc => (big_ok (map_fast_ok HV.out c hc)).mono (by omega))
        generalize hres : tidy true (ws.map (fastW n)) = res at TT
        have HRES := Lib.hid hres
        have HL := Lib.hid hbel
        have HB := Lib.hid hB
        clear hO hbel hB hres
        go_wp2_with fail
        refine TT.mono ?_; rintro e w7 ⟨hb7, v7, rfl, ho7⟩
        have HQ : Aside (Told w res (.returned (.tuple #[v7, .bool res.isSome])) w7) := ⟨below_next HL.out hb7, _, rfl, own_mono ho7 HB.out⟩
        clear TT hb7 ho7
        go_wp2
        go_ret2
        rw [HR.out, HRES.out]
        exact HQ.out

theorem specDesignBack_any (v : Value) (ws : List Wh) (w : World) (hv : Reads w v ws) : Calls Try.prog 41 #[v] w (Told w (dOf (fastW (-1)) ws)) := by
  have C := Lib.hid (l5Each_any v ws (-1) w hv (by omega))
  clear hv
  generalize dOf (fastW (-1)) ws = o at *
  go_enter Try.func41, Try.ntmps41
  go_wp2_with fail
  refine C.out.mono ?_; rintro e w2 ⟨hb2, v2, rfl, ho2⟩
  have HQ : Aside (Told w o (.returned (.tuple #[v2, .bool o.isSome])) w2) := ⟨hb2, _, rfl, ho2⟩
  clear C hb2 ho2
  go_wp2
  go_ret2
  exact HQ.out

theorem specDesignFaster_any (v : Value) (n : Int) (ws : List Wh) (w : World) (hv : Reads w v ws) : Calls Try.prog 44 #[v, .int .i64 n] w (Told w (dFast n ws)) := by
  unfold dFast
  by_cases hn : -20 ≤ n ∧ n ≤ 20
  · rw [if_pos hn]
    have C := Lib.hid (l5Each_any v ws n w hv hn)
    have I := fun w => in_yes n (-20) 20 hn.1 hn.2 w
    clear hv hn
    generalize dOf (fastW n) ws = o at *
    go_enter Try.func44, Try.ntmps44
    go_wp2_with fail
    refine (I _).mono ?_; rintro e w1 ⟨rfl, rfl⟩
    go_wp2_with fail
    refine C.out.mono ?_; rintro e w2 ⟨hb2, v2, rfl, ho2⟩
    have HQ : Aside (Told w o (.returned (.tuple #[v2, .bool o.isSome])) w2) := ⟨hb2, _, rfl, ho2⟩
    clear C hb2 ho2 I
    go_wp2
    go_ret2
    exact HQ.out
  · rw [if_neg hn]
    have I := fun w => in_no n (-20) 20 (by omega) w
    clear hv hn
    have HQ : Aside (Told w none (.returned (.tuple #[.slice (some ⟨w.heap.size, 0, none⟩) 0 0, .bool false])) (w.alloc (.cells #[] 34))) := ⟨(Below.refl _ _).alloc (Nat.le_refl _) _, _, rfl, own_lit w w.heap.size 34 (Nat.le_refl _)⟩
    go_enter Try.func44, Try.ntmps44
    go_wp2_with fail
    refine (I _).mono ?_; rintro e w1 ⟨rfl, rfl⟩
    clear I
    go_wp2
    go_ret2
    exact HQ.out

end Go.Proofs.Yteicmnoafoekcaa
