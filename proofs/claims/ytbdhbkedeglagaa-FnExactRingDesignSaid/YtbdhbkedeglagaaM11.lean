/-
  The model's designs with other speeds.
  Lists of wheels as a law's arguments: what their cells are.
  The exact laws' helpers on lists of wheels: measured, copied, compared, marked, held.
  The exact laws' copies of lists of wheels.
-/
import Derived.Test.YtbdhbkedeglagaaM10
import Derived.Test.YtbdhbkedeglagaaM05
import Derived.Test.YtbdhbkedeglagaaM06
import Derived.Deep.Slices
/- The model's designs with other speeds. -/
namespace Go.Proofs.Ytbdhbkedeglagaa
set_option maxRecDepth 20000
open Go.ChangeShapes Go.WideShapes Go.ChangeAt Go.RowKit
set_option linter.unusedVariables false
set_option linter.unusedSimpArgs false

theorem mul_in2 {x y : Int} (X Y : Nat) (hx : -(X : Int) ≤ x ∧ x ≤ X) (hy : -(Y : Int) ≤ y ∧ y ≤ Y) : -((X * Y : Nat) : Int) ≤ x * y ∧ x * y ≤ ((X * Y : Nat) : Int) := by
  have h1 : x.natAbs ≤ X := by omega
  have h2 : y.natAbs ≤ Y := by omega
  have h3 : (x * y).natAbs ≤ X * Y := by rw [Int.natAbs_mul]; exact Nat.mul_le_mul h1 h2
  omega
theorem row_grown {w w' : World} {g n : Nat} {T : TypeId} {f : Nat → Int} {row : Option Nat} (h : RowAt w g n T f) (hg : w.grownBy w' row) (hne : some g ≠ row) : RowAt w' g n T f := (hg.block g h.lt hne).trans h
theorem own_not {w : World} {B T : Nat} {v : Value} {ws : List Wh} (h : Own w B T v ws) {g : Nat} (hg : w.heap.size ≤ g) : some g ≠ v.ownBlock := fun e => by
  have := (h.lt g e.symm).2
  omega
theorem map_fast_ok {n : Int} {ws : List Wh} (hv : valid ws = true) : ∀ c ∈ ws.map (fastW n), okv c.r = true := fun c hc => by
  obtain ⟨d, hd, rfl⟩ := List.mem_map.1 hc
  exact (valid_ok hv d hd).2

set_option maxHeartbeats 4000000 in
theorem l5Each_any (v : Value) (ws : List Wh) (n : Int) (w : World) (hv : Reads w v ws) (hn : -20 ≤ n ∧ n ≤ 20) :
    Calls Try.prog 77 #[v, .int .i64 n, .int .i64 0, .int .i64 0, .bool false] w (Told w (dOf (fastW n) ws)) := by
  have C := specDesignValid_any v ws w hv
  obtain ⟨p, cap, rfl, hc1, hc2, hp0, hp⟩ := hv
  simp only [maxLen] at hc2
  cases hvd : valid ws
  · rw [hvd] at C
    have HF : Aside (dOf (fastW n) ws = none) := (show _ = _ from by unfold dOf; rw [hvd]; rfl)
    have C := Lib.hid C
    clear hvd hp
    go_enter Try.func77, Try.ntmps77
    go_wp2_with fail
    refine C.out.mono ?_; rintro e w2 ⟨rfl, hb2⟩
    have HQ : Aside (Told w none (.returned (.tuple #[.slice (some ⟨w2.heap.size, 0, none⟩) 0 0, .bool false])) (w2.alloc (.cells #[] 67))) := ⟨hb2.alloc hb2.size _, _, rfl, own_lit w2 w.heap.size 67 hb2.size⟩
    clear C hb2
    go_wp2
    go_ret2
    rw [HF.out]
    exact HQ.out
  · rw [hvd] at C
    have IS := fun w => is_yes 0 (by omega) (by omega) w
    have HV := Lib.hid hvd
    have HP := Lib.hid hp
    have C := Lib.hid C
    have HR : Aside (dOf (fastW n) ws = tidy true (ws.map (fastW n))) := (show _ = _ from by
      unfold dOf
      rw [hvd, if_pos rfl, tidy_first (map_fast_ok hvd)])
    have HLN : Aside (ws.length ≤ 12) := (show ws.length ≤ 12 from valid_len hvd)
    have M : ∀ w, Calls Try.prog 96 #[.int .i64 0] w fun e w' => e = .returned (.int .i64 0) ∧ w = w' := fun w => mod_any 0 (by omega) (by omega) w
    clear hvd hp
    go_enter Try.func77, Try.ntmps77
    go_wp2_with fail
    refine C.out.mono ?_; rintro e w2 ⟨rfl, hb2⟩
    have HB2 := Lib.hid hb2
    clear C hb2
    go_wp2_with fail
    refine (IS _).mono ?_; rintro e w3 ⟨rfl, rfl⟩
    go_wp2_with fail
    refine (IS _).mono ?_; rintro e w3 ⟨rfl, rfl⟩
    clear IS
    go_wp2
    go_loopw [12, 13] (fun s12 i wr => ∃ k : Nat, k ≤ ws.length ∧ i = .int .i64 k ∧ Own wr w.heap.size 67 s12 ((ws.take k).map (fastW n)) ∧ Below w.heap.size w wr ∧ w.heap.size ≤ wr.heap.size) (fun _ i _ => ws.length - (intOf i).toNat)
    case atStart => exact ⟨0, Nat.zero_le _, rfl, own_lit w2 w.heap.size 67 HB2.out.size, HB2.out.alloc HB2.out.size _, by simp; have := HB2.out.size; omega⟩
    case round =>
      obtain ⟨k, hk, rfl, hO, hbel, hB⟩ := hrel
      by_cases hlt : k < ws.length
      · have hkz : (k : Int) < (ws.length : Int) := by omega
        have hk0 : (0 : Int) ≤ (k : Int) := by omega
        obtain ⟨c, hc⟩ : ∃ c, ws[k]? = some c := ⟨_, List.getElem?_eq_getElem hlt⟩
        obtain ⟨g, o, rfl, hg, hr⟩ := HP.out (by rintro rfl; have := hp0 rfl; omega)
        have hcv := valid_ok HV.out c (List.mem_of_getElem? hc)
        have sb := inS_bound hcv.1
        have q1 : IntKind.i64.wrap (n * c.s) = n * c.s := by
          have h1 := mul_in2 (x := n) (y := c.s) 20 1000 (by omega) (by omega)
          rw [IntKind.wrap_i64]; omega
        have q2 : IntKind.i64.wrap 0 = 0 := by decide
        have HE0 : Aside (w.rangeAt g (o + k * 9) (enc c)) := range_part hr hc
        have HG : Aside (g < w.heap.size) := hg
        have HE : Aside (wr.rangeAt g (o + k * 9) (enc c)) := range_kept HE0.out hg hbel
        have HO : Aside (Own (wr.alloc (.cells (vec 8 c.r.up) 36)) w.heap.size 67 u12 ((ws.take k).map (fastW n))) := (show World.ownsRow _ _ _ _ _ _ _ from World.ownsRow.alloc hO _)
        have HNB : Aside (some wr.heap.size ≠ u12.ownBlock) := own_not hO (Nat.le_refl _)
        have HL : Aside (Below w.heap.size w (wr.alloc (.cells (vec 8 c.r.up) 36))) := hbel.alloc hB _
        have HX : Aside (RowAt (wr.alloc (.cells (vec 8 c.r.up) 36)) wr.heap.size 8 36 c.r.up) := RowAt.new wr 8 _ _
        have HC := Lib.hid hc
        have HB : Aside (w.heap.size ≤ wr.heap.size) := hB
        have T : ∀ w, Calls Try.prog 95 #[pt c.r.up, .int .i64 0] w fun e w' => e = .returned (pt c.r.up) ∧ Below w.heap.size w w' := fun w => by
          have := specTurned_any c.r.up 0 (by omega) (inR_bound hcv.2) w
          rw [pt_tV c.r (by omega), tV_none] at this
          exact this
        clear hr hc hO hbel hB hcv hg
        go_upto_region 10 with (first | (refine load_part (T := 36) rfl rfl rfl (range_radius HE.out) Try.underlying36 rfl info_cyc ?_; clear HE) | (refine store_new (ty := 36) rfl rfl rfl rfl zero8 info_cyc ?_))
        show Code.wp _ _ _ _ (wr.alloc (.cells (vec 8 c.r.up) 36))
        generalize wr.alloc (.cells (vec 8 c.r.up) 36) = W at *
        generalize wr.heap.size = bx at *
        refine wp_region_held_drew (S := fun w' => Below w.heap.size w w' ∧ RowAt w' bx 8 36 c.r.up) (by kernel_rfl) ⟨HL.out.drew, HX.out⟩ (fun hHeld => ?_)
        refine wpAnyH_take (i := 0) (oi := _) (v := u12) rfl (by kernel_rfl) (by kernel_rfl) (by kernel_rfl) (fun _ _ _ h => h) (Or.inl ⟨by rfl, fun w h => by go_simp⟩) hHeld ?_
        try simp only [Act.put, List.setIfInBounds_toArray, List.set_cons_zero, List.set_cons_succ, List.getElem_toArray, List.getElem_cons_succ, List.getElem_cons_zero]
        refine wpAnyH_take (i := 1) (oi := _) (v := .int .i64 n) rfl (by kernel_rfl) (by kernel_rfl) (by kernel_rfl) (fun _ _ _ h => h) (Or.inl ⟨by rfl, fun w h => by go_simp⟩) hHeld ?_
        try simp only [Act.put, List.setIfInBounds_toArray, List.set_cons_zero, List.set_cons_succ, List.getElem_toArray, List.getElem_cons_succ, List.getElem_cons_zero]
        refine wpAnyH_take (i := 2) (oi := _) (v := .slice (some ⟨g, o, none⟩) ws.length cap) rfl (by kernel_rfl) (by kernel_rfl) (by kernel_rfl) (fun _ _ _ h => h) (Or.inl ⟨by rfl, fun w h => by go_simp⟩) hHeld ?_
        try simp only [Act.put, List.setIfInBounds_toArray, List.set_cons_zero, List.set_cons_succ, List.getElem_toArray, List.getElem_cons_succ, List.getElem_cons_zero]
        refine wpAnyH_take (i := 3) (oi := _) (v := .int .i64 k) rfl (by kernel_rfl) (by kernel_rfl) (by kernel_rfl) (fun _ _ _ h => h) (Or.inl ⟨by rfl, fun w h => by go_simp⟩) hHeld ?_
        try simp only [Act.put, List.setIfInBounds_toArray, List.set_cons_zero, List.set_cons_succ, List.getElem_toArray, List.getElem_cons_succ, List.getElem_cons_zero]
        refine wpAnyH_take (i := 4) (oi := _) (v := .pointer (some ⟨g, o + k * 9, none⟩)) rfl (by kernel_rfl) (by kernel_rfl) (by kernel_rfl) (fun _ _ _ h => h) (Or.inl ⟨by rfl, fun w h => by go_simp⟩) hHeld ?_
        try simp only [Act.put, List.setIfInBounds_toArray, List.set_cons_zero, List.set_cons_succ, List.getElem_toArray, List.getElem_cons_succ, List.getElem_cons_zero]
        refine wpAnyH_take (i := 5) (oi := _) (v := .pointer (some ⟨g, o + k * 9, none⟩)) rfl (by kernel_rfl) (by kernel_rfl) (by kernel_rfl) (fun _ _ _ h => h) (Or.inl ⟨by rfl, fun w h => by go_simp⟩) hHeld ?_
        try simp only [Act.put, List.setIfInBounds_toArray, List.set_cons_zero, List.set_cons_succ, List.getElem_toArray, List.getElem_cons_succ, List.getElem_cons_zero]
        refine wpAnyH_take (i := 6) (oi := _) (v := .int .i64 c.s) rfl (by kernel_rfl) (by kernel_rfl) (by kernel_rfl) (fun _ _ _ h => h) (Or.inl ⟨by rfl, fun w h => by have hcell := (range_speed (range_kept HE0.out HG.out h.1)); go_simp⟩) hHeld ?_
        try simp only [Act.put, List.setIfInBounds_toArray, List.set_cons_zero, List.set_cons_succ, List.getElem_toArray, List.getElem_cons_succ, List.getElem_cons_zero]
        refine wpAnyH_take (i := 7) (oi := _) (v := .int .i64 (n * c.s)) rfl (by kernel_rfl) (by kernel_rfl) (by kernel_rfl) (fun _ _ _ h => h) (Or.inl ⟨by rfl, fun w h => by go_simp⟩) hHeld ?_
        try simp only [Act.put, List.setIfInBounds_toArray, List.set_cons_zero, List.set_cons_succ, List.getElem_toArray, List.getElem_cons_succ, List.getElem_cons_zero]
        refine wpAnyH_take (i := 8) (oi := _) (v := .agg (vec 8 c.r.up)) rfl (by kernel_rfl) (by kernel_rfl) (by kernel_rfl) (fun _ _ _ h => h) (yieldsIf_load_mid (by rfl) _ _ rfl _ _ rfl _ _ ((fun w h => h.2.range)) Try.underlying36 rfl (size_cyc8 _)) hHeld ?_
        try simp only [Act.put, List.setIfInBounds_toArray, List.set_cons_zero, List.set_cons_succ, List.getElem_toArray, List.getElem_cons_succ, List.getElem_cons_zero]
        refine wpAnyH_take (i := 9) (oi := _) (v := .int .i64 0) rfl (by kernel_rfl) (by kernel_rfl) (by kernel_rfl) (fun _ _ _ h => h) (Or.inl ⟨by rfl, fun w h => by go_simp⟩) hHeld ?_
        try simp only [Act.put, List.setIfInBounds_toArray, List.set_cons_zero, List.set_cons_succ, List.getElem_toArray, List.getElem_cons_succ, List.getElem_cons_zero]
        refine wpAnyH_take (i := 10) (oi := _) (v := .int .i64 0) rfl (by kernel_rfl) (by kernel_rfl) (by kernel_rfl) (fun _ _ _ h => h) (Or.inl ⟨by rfl, fun w h => by go_simp⟩) hHeld ?_
        try simp only [Act.put, List.setIfInBounds_toArray, List.set_cons_zero, List.set_cons_succ, List.getElem_toArray, List.getElem_cons_succ, List.getElem_cons_zero]
        refine wpAnyH_take (i := 11) (oi := _) (v := .slice (some ⟨g, o, none⟩) ws.length cap) rfl (by kernel_rfl) (by kernel_rfl) (by kernel_rfl) (fun _ _ _ h => h) (Or.inl ⟨by rfl, fun w h => by go_simp⟩) hHeld ?_
        try simp only [Act.put, List.setIfInBounds_toArray, List.set_cons_zero, List.set_cons_succ, List.getElem_toArray, List.getElem_cons_succ, List.getElem_cons_zero]
        refine wpAnyH_take (i := 12) (oi := _) (v := .int .i64 k) rfl (by kernel_rfl) (by kernel_rfl) (by kernel_rfl) (fun _ _ _ h => h) (Or.inl ⟨by rfl, fun w h => by go_simp⟩) hHeld ?_
        try simp only [Act.put, List.setIfInBounds_toArray, List.set_cons_zero, List.set_cons_succ, List.getElem_toArray, List.getElem_cons_succ, List.getElem_cons_zero]
        refine wpAnyH_take (i := 13) (oi := _) (v := .pointer (some ⟨g, o + k * 9, none⟩)) rfl (by kernel_rfl) (by kernel_rfl) (by kernel_rfl) (fun _ _ _ h => h) (Or.inl ⟨by rfl, fun w h => by go_simp⟩) hHeld ?_
        try simp only [Act.put, List.setIfInBounds_toArray, List.set_cons_zero, List.set_cons_succ, List.getElem_toArray, List.getElem_cons_succ, List.getElem_cons_zero]
        refine wpAnyH_take (i := 14) (oi := _) (v := .pointer (some ⟨g, o + k * 9, none⟩)) rfl (by kernel_rfl) (by kernel_rfl) (by kernel_rfl) (fun _ _ _ h => h) (Or.inl ⟨by rfl, fun w h => by go_simp⟩) hHeld ?_
        try simp only [Act.put, List.setIfInBounds_toArray, List.set_cons_zero, List.set_cons_succ, List.getElem_toArray, List.getElem_cons_succ, List.getElem_cons_zero]
        refine wpAnyH_take (i := 15) (oi := _) (v := .int .i64 c.s) rfl (by kernel_rfl) (by kernel_rfl) (by kernel_rfl) (fun _ _ _ h => h) (Or.inl ⟨by rfl, fun w h => by have hcell := (range_speed (range_kept HE0.out HG.out h.1)); go_simp⟩) hHeld ?_
        try simp only [Act.put, List.setIfInBounds_toArray, List.set_cons_zero, List.set_cons_succ, List.getElem_toArray, List.getElem_cons_succ, List.getElem_cons_zero]
        refine wpAnyH_take (i := 16) (oi := _) (v := .int .i64 0) rfl (by kernel_rfl) (by kernel_rfl) (by kernel_rfl) (fun _ _ _ h => h) (Or.inl ⟨by rfl, fun w h => by go_simp⟩) hHeld ?_
        try simp only [Act.put, List.setIfInBounds_toArray, List.set_cons_zero, List.set_cons_succ, List.getElem_toArray, List.getElem_cons_succ, List.getElem_cons_zero]
        refine wpAnyH_take (i := 17) (oi := _) (v := .int .i64 0) rfl (by kernel_rfl) (by kernel_rfl) (by kernel_rfl) (fun _ _ _ h => h) (Or.inl ⟨by rfl, fun w h => by go_simp⟩) hHeld ?_
        try simp only [Act.put, List.setIfInBounds_toArray, List.set_cons_zero, List.set_cons_succ, List.getElem_toArray, List.getElem_cons_succ, List.getElem_cons_zero]
        refine wpAnyH_ready (rs := [18]) (by kernel_rfl) (by simp) ?_
        refine AllReadyH.cons (o := _) rfl (fun K hK => ?_) AllReadyH.nil
        go_simp
        refine (M _).mono ?_; rintro e w5 ⟨rfl, rfl⟩
        go_wp2_with fail
        refine hK.out _ _ hHeld (fun hHeld => ?_)
        clear hK K
        try simp only [Act.put, List.setIfInBounds_toArray, List.set_cons_zero, List.set_cons_succ, List.getElem_toArray, List.getElem_cons_succ, List.getElem_cons_zero]
        refine wpAnyH_ready (rs := [19]) (by kernel_rfl) (by simp) ?_
        refine AllReadyH.cons (o := _) rfl (fun K hK => ?_) AllReadyH.nil
        go_simp
        refine (T _).mono ?_; rintro e w5 ⟨rfl, hb5⟩
        go_wp2_with fail
        have hO5 : Own w5 w.heap.size 67 u12 ((ws.take k).map (fastW n)) := own_below (show Own W.drew _ _ _ _ from HO.out) hb5
        have hz5 : w.heap.size ≤ w5.heap.size := Nat.le_trans hHeld.1.size hb5.size
        refine hK.out _ _ ⟨below_next hHeld.1 hb5, hHeld.2.below hb5⟩ (fun hHeld => ?_)
        clear hK K
        try simp only [Act.put, List.setIfInBounds_toArray, List.set_cons_zero, List.set_cons_succ, List.getElem_toArray, List.getElem_cons_succ, List.getElem_cons_zero]
        clear hb5 T HO
        refine wpAnyH_take (i := 20) (oi := _) (v := .agg (vec 9 (wf (fastW n c)))) rfl (by kernel_rfl) (by kernel_rfl) (by kernel_rfl) (fun _ _ _ h => h) (Or.inl ⟨by rfl, fun w h => by have e : wh (fastW n c) = wh ⟨n * c.s, dn c.r.up⟩ := (by rw [dn_up, Int.mul_comm n c.s]; rfl); show _ = Result.ok (Next.value (wh (fastW n c))) w; rw [e]; exact yields_build built_wheel rfl rfl rfl⟩) hHeld ?_
        try simp only [Act.put, List.setIfInBounds_toArray, List.set_cons_zero, List.set_cons_succ, List.getElem_toArray, List.getElem_cons_succ, List.getElem_cons_zero]
        refine wpAnyH_ready (rs := [21]) (by kernel_rfl) (by simp) ?_
        refine AllReadyH.cons (o := _) rfl (fun K hK => ?_) AllReadyH.nil
        rw [if_pos (by rfl)]
        refine wp_one9 tyW rfl rfl ?_
        have hlit := reads_lit w5 (fastW n c) 67
        have hO6 : Own (w5.alloc (.cells (vec 9 (wf (fastW n c))) 67)) w.heap.size 67 u12 ((ws.take k).map (fastW n)) := (show World.ownsRow _ _ _ _ _ _ _ from World.ownsRow.alloc hO5 _)
        refine hK.out _ _ ⟨hHeld.1.alloc hz5 _, hHeld.2.alloc _⟩ (fun hHeld => ?_)
        clear hK K
        try simp only [Act.put, List.setIfInBounds_toArray, List.set_cons_zero, List.set_cons_succ, List.getElem_toArray, List.getElem_cons_succ, List.getElem_cons_zero]
        clear hO5
        have hz6 := hHeld.1.size
        refine wpAnyH_ready (rs := [22]) (by kernel_rfl) (by simp) ?_
        refine AllReadyH.cons (o := _) rfl (fun K hK => ?_) AllReadyH.nil
        refine wp_append_list2 tyW rfl (xs := (ws.take k).map (fastW n)) (ys := [fastW n c]) rfl rfl hO6 hlit (by simp; have := HLN.out; omega) hHeld.1 hz6 ?_; intro v2 w6 ho6 hb6 hB6 hgr
        refine hK.out _ _ ⟨hb6, row_grown hHeld.2 hgr HNB.out⟩ (fun hHeld => ?_)
        clear hK K
        try simp only [Act.put, List.setIfInBounds_toArray, List.set_cons_zero, List.set_cons_succ, List.getElem_toArray, List.getElem_cons_succ, List.getElem_cons_zero]
        clear hlit hO6 hgr
        refine wpAnyH_take (i := 23) (oi := _) (v := v2) rfl (by kernel_rfl) (by kernel_rfl) (by kernel_rfl) (fun _ _ _ h => h) (Or.inl ⟨by rfl, fun w h => by go_simp⟩) hHeld ?_
        try simp only [Act.put, List.setIfInBounds_toArray, List.set_cons_zero, List.set_cons_succ, List.getElem_toArray, List.getElem_cons_succ, List.getElem_cons_zero]
        refine wpAnyH_done (by kernel_rfl) ?_ _
        have HO6 := Lib.hid ho6
        have HB6 := Lib.hid hb6
        have HZ6 := Lib.hid hB6
        clear ho6 hb6 hB6 hHeld
        go_wp2
        go_roundw
        case rel =>
          refine ⟨k + 1, by omega, by go_num, ?_, HB6.out, HZ6.out⟩
          rw [take_next HC.out, List.map_append]; exact HO6.out
        case measure => simp [intOf]; omega
      · obtain rfl : k = ws.length := by omega
        rw [List.take_length] at hO
        have TT := l5Tidy_any u12 (ws.map (fastW n)) wr (own_reads hO) (by rw [List.length_map]; have := HLN.out; omega) (fun c hc => (big_ok (map_fast_ok HV.out c hc)).mono (by omega))
        generalize hres : tidy true (ws.map (fastW n)) = res at TT
        have HRES := Lib.hid hres
        have HL := Lib.hid hbel
        have HB := Lib.hid hB
        clear hO hbel hB hres
        go_wp2_with fail
        refine TT.mono ?_; rintro e w7 ⟨hb7, v7, rfl, ho7⟩
        have HQ : Aside (Told w res (.returned (.tuple #[v7, .bool res.isSome])) w7) := ⟨below_next HL.out hb7, _, rfl, own_mono ho7 HB.out⟩
        clear TT hb7 ho7
        go_wp2
        go_ret2
        rw [HR.out, HRES.out]
        exact HQ.out

theorem specDesignBack_any (v : Value) (ws : List Wh) (w : World) (hv : Reads w v ws) : Calls Try.prog 53 #[v] w (Told w (dOf (fastW (-1)) ws)) := by
  have C := Lib.hid (l5Each_any v ws (-1) w hv (by omega))
  clear hv
  generalize dOf (fastW (-1)) ws = o at *
  go_enter Try.func53, Try.ntmps53
  go_wp2_with fail
  refine C.out.mono ?_; rintro e w2 ⟨hb2, v2, rfl, ho2⟩
  have HQ : Aside (Told w o (.returned (.tuple #[v2, .bool o.isSome])) w2) := ⟨hb2, _, rfl, ho2⟩
  clear C hb2 ho2
  go_wp2
  go_ret2
  exact HQ.out

end Go.Proofs.Ytbdhbkedeglagaa
/- Lists of wheels as a law's arguments: what their cells are. -/
namespace Go.Proofs.Ytbdhbkedeglagaa
open Go.Joins Go.ChangeShapes Go.WideShapes Go.RowKit Go.Deep
set_option maxRecDepth 20000
set_option linter.unusedVariables false
set_option linter.unusedSimpArgs false

/-- A law's list of wheels: where it has one, its cells lie. -/
def Lies (w : World) (v : Value) (ws : List Wh) : Prop :=
  ∃ (p : Option Addr) (cap : Nat), v = .slice p ws.length cap ∧ ws.length ≤ cap ∧ cap ≤ maxLen ∧ (ws ≠ [] → ∃ g o, p = some ⟨g, o, none⟩ ∧ g < w.heap.size ∧ w.rangeAt g o (flat ws))
theorem Lies.below {w w' : World} {v : Value} {ws : List Wh} (h : Lies w v ws) (hb : Below w.heap.size w w') : Lies w' v ws := by
  obtain ⟨p, cap, h1, h2, h3, h4⟩ := h
  refine ⟨p, cap, h1, h2, h3, fun hn => ?_⟩
  obtain ⟨g, o, e, hg, hr⟩ := h4 hn
  exact ⟨g, o, e, Nat.lt_of_lt_of_le hg hb.size, range_below hr hg hb⟩
theorem Lies.kept {w0 w' : World} {v : Value} {ws : List Wh} (h : Lies w0 v ws) (hb : Below w0.heap.size w0 w') : Lies w' v ws := h.below hb

section
variable {H : Type} {en : TypeId × Value → H} {P : Program} {w : World} {base : Nat} {spare : Nat → Bool} {held : Bool}
theorem cells_wheel {t tc ti ta : TypeId} {f0 f1 g0 : Field} {fuel : Nat} {cs : List Value} {x : DataW H × List MemPlace} (hs : P.underlying t = some (.struct #[f0, f1])) (h0 : f0.type = ti) (o0 : f0.offset = 0) (h1 : f1.type = tc) (o1 : f1.offset = 1)
    (hi : P.underlying ti = some (.int .i64)) (hci : P.cellsOf ti = 1) (hc : P.underlying tc = some (.struct #[g0])) (hg0 : g0.type = ta) (ho0 : g0.offset = 0) (ha : P.underlying ta = some (.array 8 ti)) (hca : P.cellsOf ta = 8) (hcc : P.cellsOf tc = 8) (hct : P.cellsOf t = 9)
    (h : DataW.trod en P w base spare held fuel t cs = some x) : ∃ c : Wh, cs = enc c := by
  obtain ⟨xs, m, _, hx, hl, hlen, hg⟩ := DataW.trod_struct hs h
  rw [hct] at hl
  have a0 := hg 0 f0 rfl
  have a1 := hg 1 f1 rfl
  rw [h0, o0, hci] at a0
  rw [h1, o1, hcc] at a1
  obtain ⟨y0, e0⟩ : ∃ y, xs[0]? = some y := ⟨_, List.getElem?_eq_getElem (by rw [hlen]; simp)⟩
  obtain ⟨y1, e1⟩ : ∃ y, xs[1]? = some y := ⟨_, List.getElem?_eq_getElem (by rw [hlen]; simp)⟩
  rw [e0] at a0
  rw [e1] at a1
  obtain ⟨s, hs0, _, _⟩ := DataW.trod_int hi a0
  obtain ⟨xs', m', _, _, hl', hlen', hg'⟩ := DataW.trod_struct hc a1
  have b0 := hg' 0 g0 rfl
  rw [hg0, ho0, hca] at b0
  obtain ⟨y2, e2⟩ : ∃ y, xs'[0]? = some y := ⟨_, List.getElem?_eq_getElem (by rw [hlen']; simp)⟩
  rw [e2] at b0
  have e3 : (((cs.drop 1).take 8).drop 0).take 8 = cs.drop 1 := by
    rw [List.drop_zero, List.take_of_length_le (by simp [hl]), List.take_of_length_le (by simp [hl])]
  rw [e3] at b0
  obtain ⟨f, hf⟩ := cells_of_array ha hi hci hca b0 (by simp [hl])
  have hz : cs[0]? = some (.int .i64 s) := by
    have := congrArg (·[0]?) hs0
    simpa [List.getElem?_take] using this
  refine ⟨⟨s, dn f⟩, List.ext_getElem? fun i => ?_⟩
  by_cases hi9 : i < 9
  · rw [enc_at _ i hi9]
    by_cases h00 : i = 0
    · rw [h00, hz]; rfl
    · have := congrArg (·[i - 1]?) hf
      simp only [List.getElem?_drop] at this
      rw [show 1 + (i - 1) = i from by omega] at this
      rw [this]
      have hj : i - 1 < 8 := by omega
      simp only [lst, wf, h00, if_false]
      rw [up_dn f (i - 1) hj]
      simp [hj]
  · rw [List.getElem?_eq_none (by omega), List.getElem?_eq_none (by rw [enc_length]; omega)]
theorem range_of_cells {g o : Nat} {ws : List Wh} (h : ∀ i c, ws[i]? = some c → ∀ j, j < 9 → w.cell? ⟨g, o + (i * 9 + j), none⟩ = (enc c)[j]?) : w.rangeAt g o (flat ws) := fun j v hv => by
  have hj : j < ws.length * 9 := by
    rw [← flat_length]
    exact (List.getElem?_eq_some_iff.1 hv).1
  have hd : j / 9 < ws.length := by omega
  obtain ⟨c, hc⟩ : ∃ c, ws[j / 9]? = some c := ⟨_, List.getElem?_eq_getElem hd⟩
  have hm : j % 9 < 9 := by omega
  have e : j / 9 * 9 + j % 9 = j := by omega
  have h1 := h (j / 9) c hc (j % 9) hm
  have h2 := flat_at hc (j % 9) hm
  rw [e] at h1 h2
  rw [h1, ← h2, hv]
theorem open_wheels {t e : TypeId} {fuel : Nat} {v : Value} {x : DataW H × List MemPlace} (ht : P.underlying t = some (.slice e)) (hce : P.cellsOf e = 9)
    (hel : ∀ (n : Nat) (cs : List Value) (y : DataW H × List MemPlace), DataW.trod en P w 0 (fun _ => true) held n e cs = some y → ∃ c : Wh, cs = enc c) (hv : ∃ a len cap, v = .slice a len cap)
    (h : DataW.trod en P w 0 (fun _ => true) held fuel t v.cells.toList = some x) (hlt : ∀ y ∈ x.2, y.block < w.heap.size) : ∃ ws, Lies w v ws := by
  obtain ⟨a0, len0, cap0, rfl⟩ := hv
  rcases open_slice ht h with ⟨hcs, hx⟩ | ⟨a, len, cap, m, n, D, Pl, hcs, _, hl, hm, hmm, hx, hi⟩
  · simp [Value.cells] at hcs
    obtain ⟨rfl, rfl, rfl⟩ := hcs
    exact ⟨[], none, 0, rfl, Nat.le_refl _, by simp [maxLen], fun hn => absurd rfl hn⟩
  · simp [Value.cells] at hcs
    obtain ⟨rfl, rfl, rfl⟩ := hcs
    simp only [if_true] at hmm
    subst hmm
    obtain ⟨C, hC⟩ := choose_lt (α := Wh) (n := m) (p := fun i c => ∀ j, j < 9 → w.cell? ((a.add (i * 9)).add j) = (enc c)[j]?) (fun i him => by
      obtain ⟨cs', h1, h2⟩ := hi i him
      obtain ⟨c, rfl⟩ := hel _ _ _ h2
      rw [hce] at h1
      obtain ⟨_, _, h3⟩ := World.cells?_some h1
      exact ⟨c, h3⟩)
    have hlen : ((List.range len0).map C).length = len0 := by simp
    refine ⟨(List.range len0).map C, some a, m, by rw [hlen], by rw [hlen]; exact hl, hm, fun hn => ?_⟩
    have h0 : 0 < len0 := by
      rcases Nat.eq_zero_or_pos len0 with h | h
      · subst h; exact absurd rfl hn
      · exact h
    obtain ⟨b, off, spot⟩ := a
    have hspot : spot = none := by
      have h1 := hC 0 (by omega) 0 (by omega)
      rw [Go.Deep.add_add] at h1
      rw [enc_at _ 0 (by omega)] at h1
      simpa [Addr.add] using World.cell?_spot h1
    subst hspot
    refine ⟨b, off, rfl, ?_, range_of_cells fun i c hc j hj => ?_⟩
    · have hx2 : x.2 = MemPlace.row ⟨b, off, none⟩ (m * P.cellsOf e) ++ (List.range m).flatMap Pl := by rw [hx]
      refine hlt (.cell b off) ?_
      rw [hx2, hce]
      exact List.mem_append_left _ (MemPlace.mem_row.2 ⟨0, by omega, by simp⟩)
    · have hil : i < len0 := by
        rw [← hlen]; exact (List.getElem?_eq_some_iff.1 hc).1
      have hci : c = C i := by
        rw [List.getElem?_map, List.getElem?_range hil] at hc
        simpa using hc.symm
      have h1 := hC i (by omega) j hj
      rw [Go.Deep.add_add, add_plain] at h1
      rw [hci]; exact h1
end
section
variable {H : Type} {en : TypeId × Value → H} {fn : Func}
end
end Go.Proofs.Ytbdhbkedeglagaa
/- The exact laws' helpers on lists of wheels: measured, copied, compared, marked, held. -/
namespace Go.Proofs.Ytbdhbkedeglagaa
set_option maxRecDepth 20000
open Go.ChangeShapes Go.WideShapes Go.ChangeAt Go.RowKit
set_option linter.unusedVariables false
set_option linter.unusedSimpArgs false

/-- A radius put into a wheel's row. -/
theorem RowAt.radius {w : World} {g : Nat} {T : TypeId} {f : Nat → Int} (h : RowAt w g 9 T f) (r : V) : RowAt (w.setCells g 1 (lst 8 r.up)) g 9 T (wf ⟨f 0, r⟩) := by
  have e : lst 8 r.up = ((List.range 8).map r.up).map (Value.int .i64) := by simp [lst]
  rw [e]
  obtain ⟨F, hF, hb, hi⟩ := RowAt.cellsFrom ((List.range 8).map r.up) 1 w f h (by simp)
  refine hF.same fun j hj => ?_
  by_cases h0 : j = 0
  · subst h0; rw [hb 0 (by omega)]; rfl
  · have := hi (j - 1) (by simp; omega)
    rw [show 1 + (j - 1) = j from by omega] at this
    have hj8 : j - 1 < 8 := by omega
    rw [this]
    simp [wf, h0, List.getD_eq_getElem?_getD, hj8]
theorem _root_.Go.World.ownsRow.belowK {w w' : World} {B T g n cap : Nat} {xs : List Value} (h : w.ownsRow B T 9 (.slice (some ⟨g, 0, none⟩) n cap) n xs) (hb : Below w.heap.size w w') : w'.ownsRow B T 9 (.slice (some ⟨g, 0, none⟩) n cap) n xs := by
  refine ⟨h.1, ?_⟩
  rcases h.2 with h0 | ⟨g', cap', cur, e, hB, hg, rest⟩
  · exact .inl h0
  · exact .inr ⟨g', cap', cur, e, hB, (hb.block g' (Array.getElem?_eq_some_iff.1 hg).1).trans hg, rest⟩
theorem RowAt.thereAt {w : World} {g n o m : Nat} {T : TypeId} {f : Nat → Int} (h : RowAt w g n T f) (hm : o + m ≤ n) : w.there g o m := fun j hj => by
  rw [h.cell (k := o + j) (by omega), h.free]; exact ⟨rfl, rfl⟩

end Go.Proofs.Ytbdhbkedeglagaa
/- The exact laws' copies of lists of wheels. -/
namespace Go.Proofs.Ytbdhbkedeglagaa
set_option maxRecDepth 20000
open Go.ChangeShapes Go.WideShapes Go.ChangeAt Go.RowKit
set_option linter.unusedVariables false
set_option linter.unusedSimpArgs false

/-- The first k wheels of a list, then as many as are left of the zero wheel. -/
def half (ws : List Wh) (k : Nat) : List Wh := ws.take k ++ List.replicate (ws.length - k) noW
theorem half_len {ws : List Wh} {k : Nat} (h : k ≤ ws.length) : (half ws k).length = ws.length := by simp [half]; omega
theorem half_at {ws : List Wh} {k : Nat} (h : k < ws.length) : (half ws k)[k]? = some noW := by
  unfold half
  rw [List.getElem?_append_right (by simp; omega), List.length_take, Nat.min_eq_left (by omega), Nat.sub_self, List.getElem?_replicate, if_pos (by omega)]
theorem half_set {ws : List Wh} {k : Nat} {c : Wh} (hc : ws[k]? = some c) : (half ws k).set k c = half ws (k + 1) := by
  have h : k < ws.length := (List.getElem?_eq_some_iff.1 hc).1
  unfold half
  rw [List.set_append_right _ _ (by simp; omega), List.length_take, Nat.min_eq_left (by omega), Nat.sub_self, show ws.length - k = (ws.length - (k + 1)) + 1 from by omega, List.replicate_succ, List.set_cons_zero, take_next hc, List.append_assoc]
  rfl
theorem half_all (ws : List Wh) : half ws ws.length = ws := by simp [half]
theorem half_none (ws : List Wh) : half ws 0 = List.replicate ws.length noW := by simp [half]
theorem there_of {w : World} {B T g n cap k o m : Nat} {L : List Wh} (h : w.ownsRow B T 9 (.slice (some ⟨g, 0, none⟩) n cap) n (flat L)) (hk : k < n) (ho : o + m ≤ 9) : w.there g (k * 9 + o) m := fun j hj => by
  have h1 := h.cellAt (k * 9 + o + j) (by omega)
  refine ⟨?_, h.frozenAt _⟩
  rw [h1, List.getElem?_eq_getElem (by rw [h.1]; omega)]; rfl
theorem wf_noW_at (j : Nat) : wf noW j = 0 := by
  unfold wf noW
  simp only [zero_up]
  split <;> rfl
theorem made_flat (n : Nat) : (madeCells (Value.agg (vec 9 nul)).cells (n * 9)).toList = flat (List.replicate n noW) := by
  apply List.ext_getElem?
  intro i
  by_cases hi : i < n * 9
  · have h1 := flat_at (ws := List.replicate n noW) (i := i / 9) (c := noW) (by rw [List.getElem?_replicate, if_pos (by omega)]) (i % 9) (by omega)
    rw [show i / 9 * 9 + i % 9 = i from by omega, enc_at _ _ (by omega), wf_noW_at] at h1
    rw [h1]
    have hz : ∀ k, k < 9 → (vec 9 nul)[k]! = .int .i64 0 := fun k hk => by
      rw [getElem!_pos (vec 9 nul) k (by rw [vec_size]; exact hk)]
      have := vec_at nul hk
      rw [Array.getElem?_eq_getElem (by rw [vec_size]; exact hk)] at this
      simpa [nul] using this
    have hm : i % 9 < 9 := by omega
    simp [madeCells, Value.cells, hi, vec_size, hz _ hm]
  · rw [List.getElem?_eq_none (by simp [madeCells]; omega), List.getElem?_eq_none (by rw [flat_length]; simp; omega)]
theorem info_wheel_full : ∃ i, Try.prog.info? 67 = some i ∧ i.zero = some (.agg (vec 9 nul)) ∧ i.size = 9 ∧ i.bytes = 72 := by
  have h : (Try.prog.info? 67).map (fun i => (i.zero, i.size, i.bytes)) = some (some (.agg (vec 9 nul)), 9, 72) := by kernel_rfl
  obtain ⟨i, hi, e1, e2, e3⟩ := info_parts h
  exact ⟨i, hi, e1, e2, e3⟩
section
variable {ops : Array Oper} {rest : List Oper} {o : Oper} {a : Act} {Q : Exit → Act → World → Prop} {w : World}
/-- 'make' of a list of zero wheels. -/
theorem make_full9 (hgd : o.guard = none) {l c : Operand} (hop : o.op = .makeSlice 30 l c) (n : Nat) (hl : a.eval l = .int .i64 n) (hc : a.eval c = .int .i64 n) (hn : n ≤ 1000000000000)
    (h : ∀ w', w'.ownsRow w.heap.size 67 9 (.slice (some ⟨w.heap.size, 0, none⟩) n n) n (flat (List.replicate n noW)) → Below w.heap.size w w' → wpList Try.prog ops Q rest (a.put o.dst (.slice (some ⟨w.heap.size, 0, none⟩) n n)) w') : wpList Try.prog ops Q (o :: rest) a w := by
  obtain ⟨i, hi, hz, hs, hby⟩ := info_wheel_full
  refine wpList_plain hgd fun K hK' => ?_
  obtain ⟨w', hrun, r1, r2⟩ := run_make_full (P := Try.prog) w w.heap.size 30 67 i _ 9 Try.underlying30 hi hz hs .i64 .i64 n (by rw [hby]; omega) (by simp only [maxLen]; omega) (Nat.le_refl _)
  rw [made_flat] at r1
  unfold Oper.wp
  simp [execOp, hop, hl, hc, hrun, Result.andThen]
  exact hK' _ _ (h w' r1 (below_fresh (Below.refl _ _) (Nat.le_refl _) r2))
end

end Go.Proofs.Ytbdhbkedeglagaa
