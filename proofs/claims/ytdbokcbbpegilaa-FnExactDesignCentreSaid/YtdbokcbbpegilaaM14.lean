/-
  The model's designs with other speeds.
  The exact laws' helpers on lists of wheels: measured, copied, compared, marked, held.
  The exact laws' copies of lists of wheels.
-/
import Derived.Test.YtdbokcbbpegilaaM13
import Derived.Test.YtdbokcbbpegilaaM08
import Derived.Test.YtdbokcbbpegilaaM05
/- The model's designs with other speeds. -/
namespace Go.Proofs.Ytdbokcbbpegilaa
set_option maxRecDepth 20000
open Go.ChangeShapes Go.WideShapes Go.ChangeAt Go.RowKit
set_option linter.unusedVariables false
set_option linter.unusedSimpArgs false

theorem mul_in2 {x y : Int} (X Y : Nat) (hx : -(X : Int) ≤ x ∧ x ≤ X) (hy : -(Y : Int) ≤ y ∧ y ≤ Y) : -((X * Y : Nat) : Int) ≤ x * y ∧ x * y ≤ ((X * Y : Nat) : Int) := by
  have h1 : x.natAbs ≤ X := by omega
  have h2 : y.natAbs ≤ Y := by omega
  have h3 : (x * y).natAbs ≤ X * Y := by rw [Int.natAbs_mul]; exact Nat.mul_le_mul h1 h2
  omega
theorem row_grown {w w' : World} {g n : Nat} {T : TypeId} {f : Nat → Int} {row : Option Nat} (h : RowAt w g n T f) (hg : w.grownBy w' row) (hne : some g ≠ row) : RowAt w' g n T f := (hg.block g h.lt hne).trans h
theorem own_not {w : World} {B T : Nat} {v : Value} {ws : List Wh} (h : Own w B T v ws) {g : Nat} (hg : w.heap.size ≤ g) : some g ≠ v.ownBlock := fun e => by
  have := (h.lt g e.symm).2
  omega
theorem map_fast_ok {n : Int} {ws : List Wh} (hv : valid ws = true) : ∀ c ∈ ws.map (fastW n), okv c.r = true := fun c hc => by
  obtain ⟨d, hd, rfl⟩ := List.mem_map.1 hc
  exact (valid_ok hv d hd).2

set_option maxHeartbeats 4000000 in
theorem l5Each_any (v : Value) (ws : List Wh) (n : Int) (w : World) (hv : Reads w v ws) (hn : -20 ≤ n ∧ n ≤ 20) :
    Calls Try.prog 113 #[v, .int .i64 n, .int .i64 0, .int .i64 0, .bool false] w (Told w (dOf (fastW n) ws)) := by
  have C := specDesignValid_any v ws w hv
  obtain ⟨p, cap, rfl, hc1, hc2, hp0, hp⟩ := hv
  simp only [maxLen] at hc2
  cases hvd : valid ws
  · rw [hvd] at C
    have HF : Aside (dOf (fastW n) ws = none) := (show _ = _ from by unfold dOf; rw [hvd]; rfl)
    have C := Lib.hid C
    clear hvd hp
    go_enter Try.func113, Try.ntmps113
    go_wp2_with fail
    refine C.out.mono ?_; rintro e w2 ⟨rfl, hb2⟩
    have HQ : Aside (Told w none (.returned (.tuple #[.slice (some ⟨w2.heap.size, 0, none⟩) 0 0, .bool false])) (w2.alloc (.cells #[] 43))) := ⟨hb2.alloc hb2.size _, _, rfl, own_lit w2 w.heap.size 43 hb2.size⟩
    clear C hb2
    go_wp2
    go_ret2
    rw [HF.out]
    exact HQ.out
  · rw [hvd] at C
    have IS := fun w => is_yes 0 (by omega) (by omega) w
    have HV := Lib.hid hvd
    have HP := Lib.hid hp
    have C := Lib.hid C
    have HR : Aside (dOf (fastW n) ws = tidy true (ws.map (fastW n))) := (show _ = _ from by
      unfold dOf
      rw [hvd, if_pos rfl, tidy_first (map_fast_ok hvd)])
    have HLN : Aside (ws.length ≤ 12) := (show ws.length ≤ 12 from valid_len hvd)
    have M : ∀ w, Calls Try.prog 87 #[.int .i64 0] w fun e w' => e = .returned (.int .i64 0) ∧ w = w' := fun w => mod_any 0 (by omega) (by omega) w
    clear hvd hp
    go_enter Try.func113, Try.ntmps113
    go_wp2_with fail
    refine C.out.mono ?_; rintro e w2 ⟨rfl, hb2⟩
    have HB2 := Lib.hid hb2
    clear C hb2
    go_wp2_with fail
    refine (IS _).mono ?_; rintro e w3 ⟨rfl, rfl⟩
    go_wp2_with fail
    refine (IS _).mono ?_; rintro e w3 ⟨rfl, rfl⟩
    clear IS
    go_wp2
    go_loopw [12, 13] (fun s12 i wr => ∃ k : Nat, k ≤ ws.length ∧ i = .int .i64 k ∧ Own wr w.heap.size 43 s12 ((ws.take k).map (fastW n)) ∧ Below w.heap.size w wr ∧ w.heap.size ≤ wr.heap.size) (fun _ i _ => ws.length - (intOf i).toNat)
    case atStart => exact ⟨0, Nat.zero_le _, rfl, own_lit w2 w.heap.size 43 HB2.out.size, HB2.out.alloc HB2.out.size _, by simp; have := HB2.out.size; omega⟩
    case round =>
      obtain ⟨k, hk, rfl, hO, hbel, hB⟩ := hrel
      by_cases hlt : k < ws.length
      · have hkz : (k : Int) < (ws.length : Int) := by omega
        have hk0 : (0 : Int) ≤ (k : Int) := by omega
        obtain ⟨c, hc⟩ : ∃ c, ws[k]? = some c := ⟨_, List.getElem?_eq_getElem hlt⟩
        obtain ⟨g, o, rfl, hg, hr⟩ := HP.out (by rintro rfl; have := hp0 rfl; omega)
        have hcv := valid_ok HV.out c (List.mem_of_getElem? hc)
        have sb := inS_bound hcv.1
        have q1 : IntKind.i64.wrap (n * c.s) = n * c.s := by
          have h1 := mul_in2 (x := n) (y := c.s) 20 1000 (by omega) (by omega)
          rw [IntKind.wrap_i64]; omega
        have q2 : IntKind.i64.wrap 0 = 0 := by decide
        have HE0 : Aside (w.rangeAt g (o + k * 9) (enc c)) := range_part hr hc
        have HG : Aside (g < w.heap.size) := hg
        have HE : Aside (wr.rangeAt g (o + k * 9) (enc c)) := range_kept HE0.out hg hbel
        have HO : Aside (Own (wr.alloc (.cells (vec 8 c.r.up) 41)) w.heap.size 43 u12 ((ws.take k).map (fastW n))) := (show World.ownsRow _ _ _ _ _ _ _ from World.ownsRow.alloc hO _)
        have HNB : Aside (some wr.heap.size ≠ u12.ownBlock) := own_not hO (Nat.le_refl _)
        have HL : Aside (Below w.heap.size w (wr.alloc (.cells (vec 8 c.r.up) 41))) := hbel.alloc hB _
        have HX : Aside (RowAt (wr.alloc (.cells (vec 8 c.r.up) 41)) wr.heap.size 8 41 c.r.up) := RowAt.new wr 8 _ _
        have HC := Lib.hid hc
        have HB : Aside (w.heap.size ≤ wr.heap.size) := hB
        have T : ∀ w, Calls Try.prog 88 #[pt c.r.up, .int .i64 0] w fun e w' => e = .returned (pt c.r.up) ∧ Below w.heap.size w w' := fun w => by
          have := specTurned_any c.r.up 0 (by omega) (inR_bound hcv.2) w
          rw [pt_tV c.r (by omega), tV_none] at this
          exact this
        clear hr hc hO hbel hB hcv hg
        go_upto_region 10 with (first | (refine load_part (T := 41) rfl rfl rfl (range_radius HE.out) Try.underlying41 rfl info_cyc ?_; clear HE) | (refine store_new (ty := 41) rfl rfl rfl rfl zero8 info_cyc ?_))
        show Code.wp _ _ _ _ (wr.alloc (.cells (vec 8 c.r.up) 41))
        generalize wr.alloc (.cells (vec 8 c.r.up) 41) = W at *
        generalize wr.heap.size = bx at *
        refine wp_region_held_drew (S := fun w' => Below w.heap.size w w' ∧ RowAt w' bx 8 41 c.r.up) (by kernel_rfl) ⟨HL.out.drew, HX.out⟩ (fun hHeld => ?_)
        refine wpAnyH_take (i := 0) (oi := _) (v := u12) rfl (by kernel_rfl) (by kernel_rfl) (by kernel_rfl) (fun _ _ _ h => h) (Or.inl ⟨by rfl, fun w h => by go_simp⟩) hHeld ?_
        try simp only [Act.put, List.setIfInBounds_toArray, List.set_cons_zero, List.set_cons_succ, List.getElem_toArray, List.getElem_cons_succ, List.getElem_cons_zero]
        refine wpAnyH_take (i := 1) (oi := _) (v := .int .i64 n) rfl (by kernel_rfl) (by kernel_rfl) (by kernel_rfl) (fun _ _ _ h => h) (Or.inl ⟨by rfl, fun w h => by go_simp⟩) hHeld ?_
        try simp only [Act.put, List.setIfInBounds_toArray, List.set_cons_zero, List.set_cons_succ, List.getElem_toArray, List.getElem_cons_succ, List.getElem_cons_zero]
        refine wpAnyH_take (i := 2) (oi := _) (v := .slice (some ⟨g, o, none⟩) ws.length cap) rfl (by kernel_rfl) (by kernel_rfl) (by kernel_rfl) (fun _ _ _ h => h) (Or.inl ⟨by rfl, fun w h => by go_simp⟩) hHeld ?_
        try simp only [Act.put, List.setIfInBounds_toArray, List.set_cons_zero, List.set_cons_succ, List.getElem_toArray, List.getElem_cons_succ, List.getElem_cons_zero]
        refine wpAnyH_take (i := 3) (oi := _) (v := .int .i64 k) rfl (by kernel_rfl) (by kernel_rfl) (by kernel_rfl) (fun _ _ _ h => h) (Or.inl ⟨by rfl, fun w h => by go_simp⟩) hHeld ?_
        try simp only [Act.put, List.setIfInBounds_toArray, List.set_cons_zero, List.set_cons_succ, List.getElem_toArray, List.getElem_cons_succ, List.getElem_cons_zero]
        refine wpAnyH_take (i := 4) (oi := _) (v := .pointer (some ⟨g, o + k * 9, none⟩)) rfl (by kernel_rfl) (by kernel_rfl) (by kernel_rfl) (fun _ _ _ h => h) (Or.inl ⟨by rfl, fun w h => by go_simp⟩) hHeld ?_
        try simp only [Act.put, List.setIfInBounds_toArray, List.set_cons_zero, List.set_cons_succ, List.getElem_toArray, List.getElem_cons_succ, List.getElem_cons_zero]
        refine wpAnyH_take (i := 5) (oi := _) (v := .pointer (some ⟨g, o + k * 9, none⟩)) rfl (by kernel_rfl) (by kernel_rfl) (by kernel_rfl) (fun _ _ _ h => h) (Or.inl ⟨by rfl, fun w h => by go_simp⟩) hHeld ?_
        try simp only [Act.put, List.setIfInBounds_toArray, List.set_cons_zero, List.set_cons_succ, List.getElem_toArray, List.getElem_cons_succ, List.getElem_cons_zero]
        refine wpAnyH_take (i := 6) (oi := _) (v := .int .i64 c.s) rfl (by kernel_rfl) (by kernel_rfl) (by kernel_rfl) (fun _ _ _ h => h) (Or.inl ⟨by rfl, fun w h => by have hcell := (range_speed (range_kept HE0.out HG.out h.1)); go_simp⟩) hHeld ?_
        try simp only [Act.put, List.setIfInBounds_toArray, List.set_cons_zero, List.set_cons_succ, List.getElem_toArray, List.getElem_cons_succ, List.getElem_cons_zero]
        refine wpAnyH_take (i := 7) (oi := _) (v := .int .i64 (n * c.s)) rfl (by kernel_rfl) (by kernel_rfl) (by kernel_rfl) (fun _ _ _ h => h) (Or.inl ⟨by rfl, fun w h => by go_simp⟩) hHeld ?_
        try simp only [Act.put, List.setIfInBounds_toArray, List.set_cons_zero, List.set_cons_succ, List.getElem_toArray, List.getElem_cons_succ, List.getElem_cons_zero]
        refine wpAnyH_take (i := 8) (oi := _) (v := .agg (vec 8 c.r.up)) rfl (by kernel_rfl) (by kernel_rfl) (by kernel_rfl) (fun _ _ _ h => h) (yieldsIf_load_mid (by rfl) _ _ rfl _ _ rfl _ _ ((fun w h => h.2.range)) Try.underlying41 rfl (size_cyc8 _)) hHeld ?_
        try simp only [Act.put, List.setIfInBounds_toArray, List.set_cons_zero, List.set_cons_succ, List.getElem_toArray, List.getElem_cons_succ, List.getElem_cons_zero]
        refine wpAnyH_take (i := 9) (oi := _) (v := .int .i64 0) rfl (by kernel_rfl) (by kernel_rfl) (by kernel_rfl) (fun _ _ _ h => h) (Or.inl ⟨by rfl, fun w h => by go_simp⟩) hHeld ?_
        try simp only [Act.put, List.setIfInBounds_toArray, List.set_cons_zero, List.set_cons_succ, List.getElem_toArray, List.getElem_cons_succ, List.getElem_cons_zero]
        refine wpAnyH_take (i := 10) (oi := _) (v := .int .i64 0) rfl (by kernel_rfl) (by kernel_rfl) (by kernel_rfl) (fun _ _ _ h => h) (Or.inl ⟨by rfl, fun w h => by go_simp⟩) hHeld ?_
        try simp only [Act.put, List.setIfInBounds_toArray, List.set_cons_zero, List.set_cons_succ, List.getElem_toArray, List.getElem_cons_succ, List.getElem_cons_zero]
        refine wpAnyH_take (i := 11) (oi := _) (v := .slice (some ⟨g, o, none⟩) ws.length cap) rfl (by kernel_rfl) (by kernel_rfl) (by kernel_rfl) (fun _ _ _ h => h) (Or.inl ⟨by rfl, fun w h => by go_simp⟩) hHeld ?_
        try simp only [Act.put, List.setIfInBounds_toArray, List.set_cons_zero, List.set_cons_succ, List.getElem_toArray, List.getElem_cons_succ, List.getElem_cons_zero]
        refine wpAnyH_take (i := 12) (oi := _) (v := .int .i64 k) rfl (by kernel_rfl) (by kernel_rfl) (by kernel_rfl) (fun _ _ _ h => h) (Or.inl ⟨by rfl, fun w h => by go_simp⟩) hHeld ?_
        try simp only [Act.put, List.setIfInBounds_toArray, List.set_cons_zero, List.set_cons_succ, List.getElem_toArray, List.getElem_cons_succ, List.getElem_cons_zero]
        refine wpAnyH_take (i := 13) (oi := _) (v := .pointer (some ⟨g, o + k * 9, none⟩)) rfl (by kernel_rfl) (by kernel_rfl) (by kernel_rfl) (fun _ _ _ h => h) (Or.inl ⟨by rfl, fun w h => by go_simp⟩) hHeld ?_
        try simp only [Act.put, List.setIfInBounds_toArray, List.set_cons_zero, List.set_cons_succ, List.getElem_toArray, List.getElem_cons_succ, List.getElem_cons_zero]
        refine wpAnyH_take (i := 14) (oi := _) (v := .pointer (some ⟨g, o + k * 9, none⟩)) rfl (by kernel_rfl) (by kernel_rfl) (by kernel_rfl) (fun _ _ _ h => h) (Or.inl ⟨by rfl, fun w h => by go_simp⟩) hHeld ?_
        try simp only [Act.put, List.setIfInBounds_toArray, List.set_cons_zero, List.set_cons_succ, List.getElem_toArray, List.getElem_cons_succ, List.getElem_cons_zero]
        refine wpAnyH_take (i := 15) (oi := _) (v := .int .i64 c.s) rfl (by kernel_rfl) (by kernel_rfl) (by kernel_rfl) (fun _ _ _ h => h) (Or.inl ⟨by rfl, fun w h => by have hcell := (range_speed (range_kept HE0.out HG.out h.1)); go_simp⟩) hHeld ?_
        try simp only [Act.put, List.setIfInBounds_toArray, List.set_cons_zero, List.set_cons_succ, List.getElem_toArray, List.getElem_cons_succ, List.getElem_cons_zero]
        refine wpAnyH_take (i := 16) (oi := _) (v := .int .i64 0) rfl (by kernel_rfl) (by kernel_rfl) (by kernel_rfl) (fun _ _ _ h => h) (Or.inl ⟨by rfl, fun w h => by go_simp⟩) hHeld ?_
        try simp only [Act.put, List.setIfInBounds_toArray, List.set_cons_zero, List.set_cons_succ, List.getElem_toArray, List.getElem_cons_succ, List.getElem_cons_zero]
        refine wpAnyH_take (i := 17) (oi := _) (v := .int .i64 0) rfl (by kernel_rfl) (by kernel_rfl) (by kernel_rfl) (fun _ _ _ h => h) (Or.inl ⟨by rfl, fun w h => by go_simp⟩) hHeld ?_
        try simp only [Act.put, List.setIfInBounds_toArray, List.set_cons_zero, List.set_cons_succ, List.getElem_toArray, List.getElem_cons_succ, List.getElem_cons_zero]
        refine wpAnyH_ready (rs := [18]) (by kernel_rfl) (by simp) ?_
        refine AllReadyH.cons (o := _) rfl (fun K hK => ?_) AllReadyH.nil
        go_simp
        refine (M _).mono ?_; rintro e w5 ⟨rfl, rfl⟩
        go_wp2_with fail
        refine hK.out _ _ hHeld (fun hHeld => ?_)
        clear hK K
        try simp only [Act.put, List.setIfInBounds_toArray, List.set_cons_zero, List.set_cons_succ, List.getElem_toArray, List.getElem_cons_succ, List.getElem_cons_zero]
        refine wpAnyH_ready (rs := [19]) (by kernel_rfl) (by simp) ?_
        refine AllReadyH.cons (o := _) rfl (fun K hK => ?_) AllReadyH.nil
        go_simp
        refine (T _).mono ?_; rintro e w5 ⟨rfl, hb5⟩
        go_wp2_with fail
        have hO5 : Own w5 w.heap.size 43 u12 ((ws.take k).map (fastW n)) := own_below (show Own W.drew _ _ _ _ from HO.out) hb5
        have hz5 : w.heap.size ≤ w5.heap.size := Nat.le_trans hHeld.1.size hb5.size
        refine hK.out _ _ ⟨below_next hHeld.1 hb5, hHeld.2.below hb5⟩ (fun hHeld => ?_)
        clear hK K
        try simp only [Act.put, List.setIfInBounds_toArray, List.set_cons_zero, List.set_cons_succ, List.getElem_toArray, List.getElem_cons_succ, List.getElem_cons_zero]
        clear hb5 T HO
        refine wpAnyH_take (i := 20) (oi := _) (v := .agg (vec 9 (wf (fastW n c)))) rfl (by kernel_rfl) (by kernel_rfl) (by kernel_rfl) (fun _ _ _ h => h) (Or.inl ⟨by rfl, fun w h => by have e : wh (fastW n c) = wh ⟨n * c.s, dn c.r.up⟩ := (by rw [dn_up, Int.mul_comm n c.s]; rfl); show _ = Result.ok (Next.value (wh (fastW n c))) w; rw [e]; exact yields_build built_wheel rfl rfl rfl⟩) hHeld ?_
        try simp only [Act.put, List.setIfInBounds_toArray, List.set_cons_zero, List.set_cons_succ, List.getElem_toArray, List.getElem_cons_succ, List.getElem_cons_zero]
        refine wpAnyH_ready (rs := [21]) (by kernel_rfl) (by simp) ?_
        refine AllReadyH.cons (o := _) rfl (fun K hK => ?_) AllReadyH.nil
        rw [if_pos (by rfl)]
        refine wp_one9 tyW rfl rfl ?_
        have hlit := reads_lit w5 (fastW n c) 43
        have hO6 : Own (w5.alloc (.cells (vec 9 (wf (fastW n c))) 43)) w.heap.size 43 u12 ((ws.take k).map (fastW n)) := (show World.ownsRow _ _ _ _ _ _ _ from World.ownsRow.alloc hO5 _)
        refine hK.out _ _ ⟨hHeld.1.alloc hz5 _, hHeld.2.alloc _⟩ (fun hHeld => ?_)
        clear hK K
        try simp only [Act.put, List.setIfInBounds_toArray, List.set_cons_zero, List.set_cons_succ, List.getElem_toArray, List.getElem_cons_succ, List.getElem_cons_zero]
        clear hO5
        have hz6 := hHeld.1.size
        refine wpAnyH_ready (rs := [22]) (by kernel_rfl) (by simp) ?_
        refine AllReadyH.cons (o := _) rfl (fun K hK => ?_) AllReadyH.nil
        refine wp_append_list2 tyW rfl (xs := (ws.take k).map (fastW n)) (ys := [fastW n c]) rfl rfl hO6 hlit (by simp; have := HLN.out; omega) hHeld.1 hz6 ?_; intro v2 w6 ho6 hb6 hB6 hgr
        refine hK.out _ _ ⟨hb6, row_grown hHeld.2 hgr HNB.out⟩ (fun hHeld => ?_)
        clear hK K
        try simp only [Act.put, List.setIfInBounds_toArray, List.set_cons_zero, List.set_cons_succ, List.getElem_toArray, List.getElem_cons_succ, List.getElem_cons_zero]
        clear hlit hO6 hgr
        refine wpAnyH_take (i := 23) (oi := _) (v := v2) rfl (by kernel_rfl) (by kernel_rfl) (by kernel_rfl) (fun _ _ _ h => h) (Or.inl ⟨by rfl, fun w h => by go_simp⟩) hHeld ?_
        try simp only [Act.put, List.setIfInBounds_toArray, List.set_cons_zero, List.set_cons_succ, List.getElem_toArray, List.getElem_cons_succ, List.getElem_cons_zero]
        refine wpAnyH_done (by kernel_rfl) ?_ _
        have HO6 := Lib.hid ho6
        have HB6 := Lib.hid hb6
        have HZ6 := Lib.hid hB6
        clear ho6 hb6 hB6 hHeld
        go_wp2
        go_roundw
        case rel =>
          refine ⟨k + 1, by omega, by go_num, ?_, HB6.out, HZ6.out⟩
          rw [take_next HC.out, List.map_append]; exact HO6.out
        case measure => simp [intOf]; omega
      · obtain rfl : k = ws.length := by omega
        rw [List.take_length] at hO
        have TT := l5Tidy_any u12 (ws.map (fastW n)) wr (own_reads hO) (by rw [List.length_map]; have := HLN.out; omega) (fun c hc => (big_ok (map_fast_ok HV.out c hc)).mono (by omega))
        generalize hres : tidy true (ws.map (fastW n)) = res at TT
        have HRES := Lib.hid hres
        have HL := Lib.hid hbel
        have HB := Lib.hid hB
        clear hO hbel hB hres
        go_wp2_with fail
        refine TT.mono ?_; rintro e w7 ⟨hb7, v7, rfl, ho7⟩
        have HQ : Aside (Told w res (.returned (.tuple #[v7, .bool res.isSome])) w7) := ⟨below_next HL.out hb7, _, rfl, own_mono ho7 HB.out⟩
        clear TT hb7 ho7
        go_wp2
        go_ret2
        rw [HR.out, HRES.out]
        exact HQ.out

end Go.Proofs.Ytdbokcbbpegilaa
/- The exact laws' helpers on lists of wheels: measured, copied, compared, marked, held. -/
namespace Go.Proofs.Ytdbokcbbpegilaa
set_option maxRecDepth 20000
open Go.ChangeShapes Go.WideShapes Go.ChangeAt Go.RowKit
set_option linter.unusedVariables false
set_option linter.unusedSimpArgs false

theorem szWheels_yes (v : Value) (ws : List Wh) (left : Int) (w : World) (hv : Lies w v ws) (hl : left ≤ 1048576) (h : (ws.length : Int) ≤ left) :
    Calls Try.prog 47 #[v, .int .i64 left] w fun e w' => e = .returned (.int .i64 (left - (ws.length : Int))) ∧ w = w' := by
  obtain ⟨p, cap, rfl, hc1, hc2, -⟩ := hv
  have r1 : IntKind.i64.wrap (left - (ws.length : Int)) = left - (ws.length : Int) := by rw [IntKind.wrap_i64]; omega
  have hb : ¬ left - (ws.length : Int) < 0 := by omega
  go_enter Try.func47, Try.ntmps47
  go_wp2
  go_ret
  exact ⟨rfl, rfl⟩
theorem szWheels_no (v : Value) (ws : List Wh) (left : Int) (w : World) (hv : Lies w v ws) (h0 : 0 ≤ left) (hl : left ≤ 1048576) (h : left < (ws.length : Int)) :
    Calls Try.prog 47 #[v, .int .i64 left] w fun e w' => e = .returned (.int .i64 (-1)) ∧ w = w' := by
  obtain ⟨p, cap, rfl, hc1, hc2, -⟩ := hv
  simp only [maxLen] at hc2
  have r1 : IntKind.i64.wrap (left - (ws.length : Int)) = left - (ws.length : Int) := by rw [IntKind.wrap_i64]; omega
  have hb : left - (ws.length : Int) < 0 := by omega
  go_enter Try.func47, Try.ntmps47
  go_wp2
  go_ret
  exact ⟨rfl, rfl⟩

theorem info_lawWheel : (Try.prog.info? 104).map (·.size) = some 9 := by kernel_rfl
theorem size_lawWheel (c : Wh) : (Try.prog.info? 104).map (·.size) = some (enc c).length := by rw [enc_length]; exact info_lawWheel
theorem info_lawCyc : (Try.prog.info? 102).map (·.size) = some 8 := by kernel_rfl
/-- A radius put into a wheel's row. -/
theorem RowAt.radius {w : World} {g : Nat} {T : TypeId} {f : Nat → Int} (h : RowAt w g 9 T f) (r : V) : RowAt (w.setCells g 1 (lst 8 r.up)) g 9 T (wf ⟨f 0, r⟩) := by
  have e : lst 8 r.up = ((List.range 8).map r.up).map (Value.int .i64) := by simp [lst]
  rw [e]
  obtain ⟨F, hF, hb, hi⟩ := RowAt.cellsFrom ((List.range 8).map r.up) 1 w f h (by simp)
  refine hF.same fun j hj => ?_
  by_cases h0 : j = 0
  · subst h0; rw [hb 0 (by omega)]; rfl
  · have := hi (j - 1) (by simp; omega)
    rw [show 1 + (j - 1) = j from by omega] at this
    have hj8 : j - 1 < 8 := by omega
    rw [this]
    simp [wf, h0, List.getD_eq_getElem?_getD, hj8]
theorem _root_.Go.World.ownsRow.belowK {w w' : World} {B T g n cap : Nat} {xs : List Value} (h : w.ownsRow B T 9 (.slice (some ⟨g, 0, none⟩) n cap) n xs) (hb : Below w.heap.size w w') : w'.ownsRow B T 9 (.slice (some ⟨g, 0, none⟩) n cap) n xs := by
  refine ⟨h.1, ?_⟩
  rcases h.2 with h0 | ⟨g', cap', cur, e, hB, hg, rest⟩
  · exact .inl h0
  · exact .inr ⟨g', cap', cur, e, hB, (hb.block g' (Array.getElem?_eq_some_iff.1 hg).1).trans hg, rest⟩
theorem RowAt.thereAt {w : World} {g n o m : Nat} {T : TypeId} {f : Nat → Int} (h : RowAt w g n T f) (hm : o + m ≤ n) : w.there g o m := fun j hj => by
  rw [h.cell (k := o + j) (by omega), h.free]; exact ⟨rfl, rfl⟩

set_option maxHeartbeats 1000000 in
theorem toWheel_any (c : Wh) (w : World) : Calls Try.prog 96 #[wh c] w fun e w' => e = .returned (wh c) ∧ Below w.heap.size w w' := by
  have P := fun w => toCyc_any c.r.up w
  have hA : RowAt (((w.alloc (.cells (vec 9 (wf c)) 104)).alloc (.cells (vec 9 nul) 43)).alloc (.cells (vec 9 nul) 43)) w.heap.size 9 104 (wf c) := ((RowAt.newAt rfl rfl).alloc _).alloc _
  have hO : RowAt (((w.alloc (.cells (vec 9 (wf c)) 104)).alloc (.cells (vec 9 nul) 43)).alloc (.cells (vec 9 nul) 43)) (w.heap.size + 1) 9 43 nul := (RowAt.newAt rfl (by simp)).alloc _
  have hE : RowAt (((w.alloc (.cells (vec 9 (wf c)) 104)).alloc (.cells (vec 9 nul) 43)).alloc (.cells (vec 9 nul) 43)) (w.heap.size + 1 + 1) 9 43 nul := RowAt.newAt rfl (by simp)
  have hL : Below w.heap.size w (((w.alloc (.cells (vec 9 (wf c)) 104)).alloc (.cells (vec 9 nul) 43)).alloc (.cells (vec 9 nul) 43)) := (((Below.refl _ _).alloc (Nat.le_refl _) _).alloc (by simp) _).alloc (by simp; omega) _
  have HA := Lib.hid hA
  have HO := Lib.hid hO
  have HE := Lib.hid hE
  have HL := Lib.hid hL
  clear hA hO hE hL
  go_enter Try.func96, Try.ntmps96
  go_upto_region 2 with fail
  show Code.wp _ _ _ _ (((w.alloc (.cells (vec 9 (wf c)) 104)).alloc (.cells (vec 9 nul) 43)).alloc (.cells (vec 9 nul) 43))
  generalize ((w.alloc (.cells (vec 9 (wf c)) 104)).alloc (.cells (vec 9 nul) 43)).alloc (.cells (vec 9 nul) 43) = W at *
  have cA := row_speed HA.out
  have cE := HE.out.cell (k := 0) (by omega)
  have fE := HE.out.free 0
  have HA2 : Aside (RowAt (W.setCell ⟨w.heap.size + 1 + 1, 0, none⟩ (.int .i64 c.s)) w.heap.size 9 104 (wf c)) := HA.out.other _ _ (by simp; omega)
  have HO2 : Aside (RowAt (W.setCell ⟨w.heap.size + 1 + 1, 0, none⟩ (.int .i64 c.s)) (w.heap.size + 1) 9 43 nul) := HO.out.other _ _ (by simp)
  have HE2 : Aside (RowAt (W.setCell ⟨w.heap.size + 1 + 1, 0, none⟩ (.int .i64 c.s)) (w.heap.size + 1 + 1) 9 43 (upd nul 0 c.s)) := HE.out.set (k := 0) (by omega) c.s
  have HL2 : Aside (Below w.heap.size w (W.setCell ⟨w.heap.size + 1 + 1, 0, none⟩ (.int .i64 c.s))) := HL.out.setCell (p := ⟨w.heap.size + 1 + 1, 0, none⟩) (by simp; omega) _
  clear HA HO HE HL
  go_upto_region 3 with fail
  show Code.wp _ _ _ _ (W.setCell ⟨w.heap.size + 1 + 1, 0, none⟩ (.int .i64 c.s))
  clear cA cE fE
  generalize W.setCell ⟨w.heap.size + 1 + 1, 0, none⟩ (.int .i64 c.s) = W2 at *
  go_wp2_with (refine load_part (T := 102) (g := w.heap.size) rfl rfl rfl (row_radius HA2.out) Try.underlying102 rfl info_lawCyc ?_)
  refine (P _).mono ?_; rintro e W3 ⟨rfl, hb3⟩
  have HE3 : Aside (RowAt (W3.setCells (w.heap.size + 1 + 1) 1 (lst 8 c.r.up)) (w.heap.size + 1 + 1) 9 43 (wf c)) := (show RowAt _ _ _ _ _ from (HE2.out.below hb3).radius c.r)
  have HT3 : Aside (W3.there (w.heap.size + 1 + 1) 1 8) := (HE2.out.below hb3).thereAt (by omega)
  have HO3 : Aside (RowAt (W3.setCells (w.heap.size + 1 + 1) 1 (lst 8 c.r.up)) (w.heap.size + 1) 9 43 nul) := (HO2.out.below hb3).cellsOther _ _ _ (by omega)
  have HL3 : Aside (Below w.heap.size w (W3.setCells (w.heap.size + 1 + 1) 1 (lst 8 c.r.up))) := below_setCells (by omega) _ _ _ (below_next HL2.out hb3)
  clear HA2 HO2 HE2 HL2 hb3 P
  go_upto_region 4 with (refine store_part (ty := 41) (g := w.heap.size + 1 + 1) rfl rfl rfl rfl HT3.out info_cyc ?_)
  show Code.wp _ _ _ _ (W3.setCells (w.heap.size + 1 + 1) 1 (lst 8 c.r.up))
  clear HT3
  generalize W3.setCells (w.heap.size + 1 + 1) 1 (lst 8 c.r.up) = W4 at *
  go_wp2_with (first | (refine load_row (g := w.heap.size + 1 + 1) rfl rfl rfl HE3.out Try.underlying43 rfl info_wheel ?_) | (refine store_row (g := w.heap.size + 1) rfl rfl rfl rfl HO3.out info_wheel ?_))
  refine bodyPost_ret (results_row rfl rfl HO3.out.setRow Try.underlying43 rfl info_wheel) rfl ?_
  exact ⟨rfl, below_setRow HL3.out (by omega) _⟩

end Go.Proofs.Ytdbokcbbpegilaa
/- The exact laws' copies of lists of wheels. -/
namespace Go.Proofs.Ytdbokcbbpegilaa
set_option maxRecDepth 20000
open Go.ChangeShapes Go.WideShapes Go.ChangeAt Go.RowKit
set_option linter.unusedVariables false
set_option linter.unusedSimpArgs false

/-- The first k wheels of a list, then as many as are left of the zero wheel. -/
def half (ws : List Wh) (k : Nat) : List Wh := ws.take k ++ List.replicate (ws.length - k) noW
theorem half_len {ws : List Wh} {k : Nat} (h : k ≤ ws.length) : (half ws k).length = ws.length := by simp [half]; omega
theorem half_at {ws : List Wh} {k : Nat} (h : k < ws.length) : (half ws k)[k]? = some noW := by
  unfold half
  rw [List.getElem?_append_right (by simp; omega), List.length_take, Nat.min_eq_left (by omega), Nat.sub_self, List.getElem?_replicate, if_pos (by omega)]
theorem half_set {ws : List Wh} {k : Nat} {c : Wh} (hc : ws[k]? = some c) : (half ws k).set k c = half ws (k + 1) := by
  have h : k < ws.length := (List.getElem?_eq_some_iff.1 hc).1
  unfold half
  rw [List.set_append_right _ _ (by simp; omega), List.length_take, Nat.min_eq_left (by omega), Nat.sub_self, show ws.length - k = (ws.length - (k + 1)) + 1 from by omega, List.replicate_succ, List.set_cons_zero, take_next hc, List.append_assoc]
  rfl
theorem half_all (ws : List Wh) : half ws ws.length = ws := by simp [half]
theorem half_none (ws : List Wh) : half ws 0 = List.replicate ws.length noW := by simp [half]
theorem there_of {w : World} {B T g n cap k o m : Nat} {L : List Wh} (h : w.ownsRow B T 9 (.slice (some ⟨g, 0, none⟩) n cap) n (flat L)) (hk : k < n) (ho : o + m ≤ 9) : w.there g (k * 9 + o) m := fun j hj => by
  have h1 := h.cellAt (k * 9 + o + j) (by omega)
  refine ⟨?_, h.frozenAt _⟩
  rw [h1, List.getElem?_eq_getElem (by rw [h.1]; omega)]; rfl
theorem wf_noW_at (j : Nat) : wf noW j = 0 := by
  unfold wf noW
  simp only [zero_up]
  split <;> rfl
theorem made_flat (n : Nat) : (madeCells (Value.agg (vec 9 nul)).cells (n * 9)).toList = flat (List.replicate n noW) := by
  apply List.ext_getElem?
  intro i
  by_cases hi : i < n * 9
  · have h1 := flat_at (ws := List.replicate n noW) (i := i / 9) (c := noW) (by rw [List.getElem?_replicate, if_pos (by omega)]) (i % 9) (by omega)
    rw [show i / 9 * 9 + i % 9 = i from by omega, enc_at _ _ (by omega), wf_noW_at] at h1
    rw [h1]
    have hz : ∀ k, k < 9 → (vec 9 nul)[k]! = .int .i64 0 := fun k hk => by
      rw [getElem!_pos (vec 9 nul) k (by rw [vec_size]; exact hk)]
      have := vec_at nul hk
      rw [Array.getElem?_eq_getElem (by rw [vec_size]; exact hk)] at this
      simpa [nul] using this
    have hm : i % 9 < 9 := by omega
    simp [madeCells, Value.cells, hi, vec_size, hz _ hm]
  · rw [List.getElem?_eq_none (by simp [madeCells]; omega), List.getElem?_eq_none (by rw [flat_length]; simp; omega)]
theorem info_wheel_full : ∃ i, Try.prog.info? 43 = some i ∧ i.zero = some (.agg (vec 9 nul)) ∧ i.size = 9 ∧ i.bytes = 72 := by
  have h : (Try.prog.info? 43).map (fun i => (i.zero, i.size, i.bytes)) = some (some (.agg (vec 9 nul)), 9, 72) := by kernel_rfl
  obtain ⟨i, hi, e1, e2, e3⟩ := info_parts h
  exact ⟨i, hi, e1, e2, e3⟩
section
variable {ops : Array Oper} {rest : List Oper} {o : Oper} {a : Act} {Q : Exit → Act → World → Prop} {w : World}
/-- 'make' of a list of zero wheels. -/
theorem make_full9 (hgd : o.guard = none) {l c : Operand} (hop : o.op = .makeSlice 23 l c) (n : Nat) (hl : a.eval l = .int .i64 n) (hc : a.eval c = .int .i64 n) (hn : n ≤ 1000000000000)
    (h : ∀ w', w'.ownsRow w.heap.size 43 9 (.slice (some ⟨w.heap.size, 0, none⟩) n n) n (flat (List.replicate n noW)) → Below w.heap.size w w' → wpList Try.prog ops Q rest (a.put o.dst (.slice (some ⟨w.heap.size, 0, none⟩) n n)) w') : wpList Try.prog ops Q (o :: rest) a w := by
  obtain ⟨i, hi, hz, hs, hby⟩ := info_wheel_full
  refine wpList_plain hgd fun K hK' => ?_
  obtain ⟨w', hrun, r1, r2⟩ := run_make_full (P := Try.prog) w w.heap.size 23 43 i _ 9 Try.underlying23 hi hz hs .i64 .i64 n (by rw [hby]; omega) (by simp only [maxLen]; omega) (Nat.le_refl _)
  rw [made_flat] at r1
  unfold Oper.wp
  simp [execOp, hop, hl, hc, hrun, Result.andThen]
  exact hK' _ _ (h w' r1 (below_fresh (Below.refl _ _) (Nat.le_refl _) r2))
end

set_option maxHeartbeats 2000000 in
theorem toWheels_any (v : Value) (ws : List Wh) (w : World) (hv : Lies w v ws) (hn : ws.length ≤ 1048576) :
    Calls Try.prog 48 #[v] w fun e w' => Below w.heap.size w w' ∧ ∃ v', e = .returned v' ∧ Own w' w.heap.size 43 v' ws := by
  obtain ⟨p, cap, rfl, hc1, hc2, hp⟩ := hv
  simp only [maxLen] at hc2
  have HP := Lib.hid hp
  clear hp
  go_enter Try.func48, Try.ntmps48
  go_wp2_with (refine make_full9 rfl rfl ws.length rfl rfl (by omega) ?_; intro w1 ho1 hb1)
  rw [← half_none] at ho1
  go_loopw [4] (fun i wr => ∃ k : Nat, k ≤ ws.length ∧ i = .int .i64 k ∧ wr.ownsRow w.heap.size 43 9 (.slice (some ⟨w.heap.size, 0, none⟩) ws.length ws.length) ws.length (flat (half ws k)) ∧ Below w.heap.size w wr) (fun i _ => ws.length - (intOf i).toNat)
  case atStart => exact ⟨0, Nat.zero_le _, rfl, ho1, hb1⟩
  case round =>
    clear ho1 hb1
    obtain ⟨k, hk, rfl, hO, hbel⟩ := hrel
    by_cases hlt : k < ws.length
    · have hkz : (k : Int) < (ws.length : Int) := by omega
      have hk0 : (0 : Int) ≤ (k : Int) := by omega
      obtain ⟨c, hc⟩ : ∃ c, ws[k]? = some c := ⟨_, List.getElem?_eq_getElem hlt⟩
      obtain ⟨g, o, rfl, hg, hr⟩ := HP.out (by intro e; rw [e] at hlt; simp at hlt)
      have HR : Aside (wr.rangeAt g (o + k * 9) (enc c)) := range_part (range_below hr hg hbel) hc
      have HC := Lib.hid hc
      have HO := Lib.hid hO
      have HL := Lib.hid hbel
      have T := fun w => toWheel_any c w
      clear hr hc hO hbel
      go_wp2_with (refine load_wheel (T := 104) (g := g) rfl rfl rfl HR.out Try.underlying104 rfl info_lawWheel ?_)
      refine (T _).mono ?_; rintro e w2 ⟨rfl, hb2⟩
      have hzz : w.heap.size ≤ wr.heap.size := HL.out.size
      have hO2 := HO.out.belowK hb2
      have HT : Aside (w2.there w.heap.size (k * 9) 9) := (show w2.there _ _ _ from there_of (o := 0) hO2 hlt (by omega))
      have HO3 : Aside ((w2.setCells w.heap.size (k * 9) (enc c)).ownsRow w.heap.size 43 9 (.slice (some ⟨w.heap.size, 0, none⟩) ws.length ws.length) ws.length (flat (half ws (k + 1)))) := (show World.ownsRow _ _ _ _ _ _ _ from by
        rw [← half_set HC.out, ← flat_set (half_at hlt)]; exact own_cells _ _ _ _ hO2)
      have HL3 : Aside (Below w.heap.size w (w2.setCells w.heap.size (k * 9) (enc c))) := below_setCells (Nat.le_refl _) _ _ _ (below_next HL.out hb2)
      clear hO2 hb2 HO HL T HR
      go_wp2_with (first | (refine store_wheel (ty := 43) (g := w.heap.size) (p := k * 9) (c := c) rfl rfl rfl rfl HT.out info_wheel ?_; clear HT))
      go_roundw
      case rel => exact ⟨k + 1, by omega, by go_num, HO3.out, HL3.out⟩
      case measure => simp [intOf]; omega
    · obtain rfl : k = ws.length := by omega
      rw [half_all] at hO
      have HO := Lib.hid hO
      have HL := Lib.hid hbel
      clear hO hbel
      go_wp2
      go_ret
      exact ⟨HL.out, _, rfl, HO.out⟩

end Go.Proofs.Ytdbokcbbpegilaa
