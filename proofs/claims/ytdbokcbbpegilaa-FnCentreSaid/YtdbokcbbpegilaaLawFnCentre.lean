/-
  The walk of the law FnCentre.
-/
import Derived.Test.YtdbokcbbpegilaaM31
import Derived.Test.YtdbokcbbpegilaaM32
namespace Go.Proofs.Ytdbokcbbpegilaa
set_option maxRecDepth 20000
open Go.ChangeShapes Go.WideShapes Go.ChangeAt Go.RowKit
set_option linter.unusedVariables false
set_option linter.unusedSimpArgs false

theorem tot_not {s : Int} : ∀ {R : List Wh}, (∀ c ∈ R, c.s ≠ s) → tot s R = V.zero
  | [], _ => rfl
  | c :: R, h => by
    show V.add (if c.s = s then c.r else V.zero) (tot s R) = V.zero
    rw [tot_not fun d hd => h d (List.mem_cons_of_mem _ hd), if_neg (h c (by simp)), V.zero_add]
theorem cen_ok {R : List Wh} (h : Tidy R) : okv (cenV R) = true := by
  by_cases hc : ∃ c ∈ R, c.s = 0
  · obtain ⟨c, hm, hs⟩ := hc
    have e : cenV R = c.r := by unfold cenV; rw [← hs]; exact tot_head hm h.asc
    rw [e]
    exact (valid_ok h.ok c hm).2
  · have e : cenV R = V.zero := tot_not fun c hm hs => hc ⟨c, hm, hs⟩
    rw [e]; exact okv_zero
theorem scaleC (a : V) (n : Int) (ha : okv a = true) (hn : -1000000 ≤ n ∧ n ≤ 1000000) (w : World) : Calls Try.prog 46 #[pt a.up, .int .i64 n] w fun e w' => e = .returned (.tuple #[pt (if okv (mulV n a) then mulV n a else V.zero).up, .bool (okv (mulV n a))]) ∧ Below w.heap.size w w' := by
  have h := CycScale_yes a.up n ha hn w
  have e : okv (mulV n a) = okc (scl n a.up) := by rw [← mulV_dn]; exact okv_dn _
  have e2 : pt (mulV n a).up = pt (scl n a.up) := by unfold pt; rw [← mulV_dn, vec_same (up_dn _)]
  rw [e]
  cases hk : okc (scl n a.up)
  · rw [ans_bad hk] at h
    rw [if_neg (by decide), zero_up]
    exact h
  · rw [ans_yes hk, ← e2] at h
    rw [if_pos rfl]
    exact h

set_option maxHeartbeats 8000000 in
theorem lawFnCentre_walk (v : Value) (w : World) (h : CodeAt w v) : Calls Try.prog 9 #[v] w (Fine w) := by
  have D := Lib.hid (drawDesignCentre v w h)
  obtain ⟨pa, pn, pc, rfl, hpn⟩ := code_length h
  clear h
  by_cases hbig : 1048576 < pn
  · have hb : (1048576 : Int) < (pn : Int) := by omega
    go_enter Try.func9, Try.ntmps9
    go_wp2_with fail
    go_ret
    exact fine_same ⟨rfl, rfl⟩
  have hb : ¬ (1048576 : Int) < (pn : Int) := by omega
  go_enter Try.func9, Try.ntmps9
  go_wp2_with fail
  refine D.out.mono ?_; rintro e w1 ⟨v2, ws, rfl, hR, hL⟩
  clear D

  have T1 := DesignCentre_any v2 ws w1 hR
  have T2 := fun w h => specDesignCentre_any v2 ws w h
  cases hx : tid ws with
  | none =>
    rw [show cenO ws = none from by unfold cenO; rw [hx]; rfl, pointO_none] at T1 T2
    have EQ : ∀ w, (Op.equalIn 10000 41 (.agg (vec 8 nul)) (.agg (vec 8 nul))).run Try.prog w = .ok true w := fun w => by
      rw [equal_cyc, eqv_true fun _ _ => rfl]
    go_wp2_with fail
    refine (T1).mono ?_; rintro e w2 ⟨rfl, hbw2⟩
    replace hR := hR.below hbw2
    replace hL := below_next hL hbw2
    clear hbw2
    go_upto_region 5 with (refine store_new (ty := 41) rfl rfl rfl rfl zero8 info_cyc ?_)
    show Code.wp _ _ _ _ (w2.alloc (.cells (vec 8 nul) 41))
    replace hR := reads_box hR (.cells (vec 8 nul) 41)
    have r_a := RowAt.new w2 8 41 nul
    replace hL := hL.alloc hL.size (.cells (vec 8 nul) 41)
    generalize w2.heap.size = g_r_a at *
    generalize w2.alloc (.cells (vec 8 nul) 41) = W2 at *
    go_wp2_with fail
    refine (T2 _ hR).mono ?_; rintro e w3 ⟨rfl, hbw3⟩
    replace hR := hR.below hbw3
    replace r_a := r_a.below hbw3
    replace hL := below_next hL hbw3
    clear hbw3
    go_upto_region 6 with (refine store_new (ty := 41) rfl rfl rfl rfl zero8 info_cyc ?_)
    show Code.wp _ _ _ _ (w3.alloc (.cells (vec 8 nul) 41))
    replace hR := reads_box hR (.cells (vec 8 nul) 41)
    replace r_a := r_a.alloc (.cells (vec 8 nul) 41)
    have r_b := RowAt.new w3 8 41 nul
    replace hL := hL.alloc hL.size (.cells (vec 8 nul) 41)
    generalize w3.heap.size = g_r_b at *
    generalize w3.alloc (.cells (vec 8 nul) 41) = W3 at *
    clear T1 T2
    go_wp2_with (first | (refine load_row rfl rfl rfl r_a Try.underlying41 rfl info_cyc ?_) | (refine load_row_on (by rfl) rfl rfl r_a Try.underlying41 rfl info_cyc ?_) | (refine load_row rfl rfl rfl r_b Try.underlying41 rfl info_cyc ?_) | (refine load_row_on (by rfl) rfl rfl r_b Try.underlying41 rfl info_cyc ?_))
    go_ret
    exact ⟨rfl, hL⟩
  | some R =>
    rw [show cenO ws = some (cenV R) from by unfold cenO; rw [hx]; rfl, pointO_some] at T1 T2
    have HX := Lib.hid hx
    have HT := Lib.hid (tid_in hx).2.1
    have hn := valid_len (tid_in hx).2.1.ok
    clear hx
    obtain ⟨f, hfe⟩ : ∃ f, (cenV R).up = f := ⟨_, rfl⟩
    rw [hfe] at T1 T2
    have HFE := Lib.hid hfe
    clear hfe
    have EQ : ∀ w, (Op.equalIn 10000 41 (.agg (vec 8 f)) (.agg (vec 8 f))).run Try.prog w = .ok true w := fun w => by
      rw [equal_cyc, eqv_true fun _ _ => rfl]
    go_wp2_with fail
    refine (T1).mono ?_; rintro e w2 ⟨rfl, hbw2⟩
    replace hR := hR.below hbw2
    replace hL := below_next hL hbw2
    clear hbw2
    go_upto_region 5 with (refine store_new (ty := 41) rfl rfl rfl rfl zero8 info_cyc ?_)
    show Code.wp _ _ _ _ (w2.alloc (.cells (vec 8 f) 41))
    replace hR := reads_box hR (.cells (vec 8 f) 41)
    have r_a := RowAt.new w2 8 41 f
    replace hL := hL.alloc hL.size (.cells (vec 8 f) 41)
    generalize w2.heap.size = g_r_a at *
    generalize w2.alloc (.cells (vec 8 f) 41) = W2 at *
    go_wp2_with fail
    refine (T2 _ hR).mono ?_; rintro e w3 ⟨rfl, hbw3⟩
    replace hR := hR.below hbw3
    replace r_a := r_a.below hbw3
    replace hL := below_next hL hbw3
    clear hbw3
    go_upto_region 6 with (refine store_new (ty := 41) rfl rfl rfl rfl zero8 info_cyc ?_)
    show Code.wp _ _ _ _ (w3.alloc (.cells (vec 8 f) 41))
    replace hR := reads_box hR (.cells (vec 8 f) 41)
    replace r_a := r_a.alloc (.cells (vec 8 f) 41)
    have r_b := RowAt.new w3 8 41 f
    replace hL := hL.alloc hL.size (.cells (vec 8 f) 41)
    generalize w3.heap.size = g_r_b at *
    generalize w3.alloc (.cells (vec 8 f) 41) = W3 at *
    clear T1 T2
    have T3 := DesignSpeeds_any v2 ws W3 hR
    rw [spO_some HX.out] at T3
    go_wp2_with (first | (refine load_row rfl rfl rfl r_a Try.underlying41 rfl info_cyc ?_) | (refine load_row_on (by rfl) rfl rfl r_a Try.underlying41 rfl info_cyc ?_) | (refine load_row rfl rfl rfl r_b Try.underlying41 rfl info_cyc ?_) | (refine load_row_on (by rfl) rfl rfl r_b Try.underlying41 rfl info_cyc ?_))
    refine T3.mono ?_; rintro e w4 ⟨hbw4, v3, rfl, ho⟩
    rw [Option.getD_some] at ho
    clear r_b
    replace hR := hR.below hbw4
    replace r_a := r_a.below hbw4
    replace hL := below_next hL hbw4
    clear hbw4 T3
    obtain ⟨p, cap, rfl, hc1, hc2, hp0, hp⟩ := ownL_reads ho
    have hsl := spL_len R
    rw [hsl] at hc1
    simp only [maxLen] at hc2
    have HP := Lib.hid hp
    have HR := Lib.hid hR
    have HA := Lib.hid r_a
    have HL4 := Lib.hid hL
    clear hp hR r_a hL ho EQ
    simp only [Option.isSome_some, hsl]
    go_wp2_with fail
    go_loop [10] (fun i => ∃ k : Nat, k ≤ R.length ∧ i = .int .i64 k ∧ Aside (∀ c ∈ R.take k, -23 ≤ c.s ∧ c.s ≤ 23)) (fun i => R.length - (intOf i).toNat)
    case atStart => exact ⟨0, Nat.zero_le _, rfl, Lib.hid (fun c hc => by simp at hc)⟩
    case round =>
      obtain ⟨k, hk, rfl, hB⟩ := hrel
      by_cases hlt : k < R.length
      · have hkz : (k : Int) < (R.length : Int) := by omega
        have hk0 : (0 : Int) ≤ (k : Int) := by omega
        obtain ⟨g, o, rfl, hg, hr⟩ := HP.out (by rintro rfl; have := hp0 rfl; omega)
        obtain ⟨c, hc⟩ : ∃ c, R[k]? = some c := ⟨_, List.getElem?_eq_getElem hlt⟩
        have c1 := int_cell hr (spL_at hc)
        have HC := Lib.hid hc
        clear hr hg hc
        by_cases h1 : c.s < -23
        · generalize c.s = cs at *
          go_wp2_with fail
          go_ret
          exact ⟨rfl, HL4.out⟩
        · by_cases h2 : (23 : Int) < c.s
          · generalize c.s = cs at *
            go_wp2_with fail
            go_ret
            exact ⟨rfl, HL4.out⟩
          · have HB2 : Aside (∀ d ∈ R.take (k + 1), -23 ≤ d.s ∧ d.s ≤ 23) := (show ∀ d ∈ R.take (k + 1), _ from fun d hd => by
              rw [take_next HC.out, List.mem_append, List.mem_singleton] at hd
              rcases hd with hd | rfl
              · exact hB.out d hd
              · omega)
            clear hB HC
            generalize c.s = cs at *
            go_wp2_with fail
            go_round
            case rel => exact ⟨k + 1, by omega, by go_num, HB2⟩
            case measure => simp [intOf]; omega
      · obtain rfl : k = R.length := by omega
        have hSAY := say_centre HX.out (by have := hB.out; rwa [List.take_length] at this)
        clear hB
        obtain ⟨SF, hSF⟩ : ∃ SF : Nat → V, sig (fun t => pAt (t : Int) ws) = SF := ⟨_, rfl⟩
        rw [hSF] at hSAY
        have HSE : Aside ((SF 24).up = (mulV 24 (cenV R)).up) := (show _ = _ from by rw [hSAY])
        have HS0 : Aside (SF 0 = V.zero) := (show _ = _ from by rw [← hSF]; rfl)
        have HSN : Aside (∀ k : Nat, SF (k + 1) = V.add (SF k) (pAt (k : Int) ws)) := (show ∀ k : Nat, _ from fun k => by rw [← hSF]; rfl)
        clear hSF hSAY
        have hL := (Below.refl w4.heap.size w4).alloc (Nat.le_refl _) (.cells (vec 8 V.zero.up) 41)
        have HB4 := Lib.hid hL
        have HS4 := Lib.hid (show RowAt (w4.alloc (.cells (vec 8 V.zero.up) 41)) w4.heap.size 8 41 (SF 0).up from by rw [HS0.out]; exact RowAt.new w4 8 41 V.zero.up)
        clear hL
        go_upto_region 15 with (first | (refine zero_pt8 rfl rfl built_pt8 ?_) | (refine store_new (ty := 41) rfl rfl rfl rfl zero8 info_cyc ?_))
        show Code.wp _ _ _ _ (w4.alloc (.cells (vec 8 V.zero.up) 41))
        generalize w4.alloc (.cells (vec 8 V.zero.up) 41) = W4 at *
        go_wp2_with fail
        go_loopw [12, 13, 14, 15, 16] (fun i _ _ _ _ wr => ∃ k : Nat, k ≤ 24 ∧ i = .int .i64 k ∧ Aside (RowAt wr w4.heap.size 8 41 (SF k).up) ∧ Aside (Below w4.heap.size w4 wr)) (fun i _ _ _ _ _ => 24 - (intOf i).toNat)
        case atStart => exact ⟨0, Nat.zero_le _, rfl, HS4, HB4⟩
        case round =>
          obtain ⟨k, hk24, rfl, hX, hbel⟩ := hrel
          by_cases hlt : k < 24
          · have hkz : (k : Int) < 24 := by omega
            obtain ⟨f', q, hf', hf2'⟩ := know_at ws (k : Int)
            have A := DesignAt_any v2 ws (k : Int) wr (HR.out.below hbel.out)
            rw [hf'] at A
            have hR := HR.out.below hbel.out
            have r_a := HA.out.below hbel.out
            have r_s := hX.out
            have hL := hbel.out
            clear hX hbel hf'
            go_wp2_with fail
            refine (A).mono ?_; rintro e w10 ⟨rfl, hbw10⟩
            replace hR := hR.below hbw10
            replace r_a := r_a.below hbw10
            replace r_s := r_s.below hbw10
            replace hL := below_next hL hbw10
            clear hbw10
            go_upto_region 19 with (refine store_new (ty := 41) rfl rfl rfl rfl zero8 info_cyc ?_)
            show Code.wp _ _ _ _ (w10.alloc (.cells (vec 8 f') 41))
            replace hR := reads_box hR (.cells (vec 8 f') 41)
            replace r_a := r_a.alloc (.cells (vec 8 f') 41)
            replace r_s := r_s.alloc (.cells (vec 8 f') 41)
            have r_t := RowAt.new w10 8 41 f'
            replace hL := hL.alloc hL.size (.cells (vec 8 f') 41)
            generalize w10.heap.size = g_r_t at *
            generalize w10.alloc (.cells (vec 8 f') 41) = W10 at *
            obtain ⟨c, vv, hc, hc2⟩ : ∃ (c : Nat → Int) (vv : Bool), ans (okc (SF k).up && okc f') (add (SF k).up f') = .tuple #[.agg (vec 8 c), .bool vv] ∧ (vv = true → c = add (SF k).up f') := ⟨if (okc (SF k).up && okc f') && okc (add (SF k).up f') then add (SF k).up f' else nul, _, rfl, fun e => by rw [if_pos e]⟩
            have B := fun w => CycAdd_any (SF k).up f' w
            rw [hc] at B
            clear A hc
            go_wp2_with (first | (refine load_row rfl rfl rfl r_s Try.underlying41 rfl info_cyc ?_) | (refine load_row_on (by rfl) rfl rfl r_s Try.underlying41 rfl info_cyc ?_) | (refine load_row rfl rfl rfl r_t Try.underlying41 rfl info_cyc ?_) | (refine load_row_on (by rfl) rfl rfl r_t Try.underlying41 rfl info_cyc ?_))
            refine (B _).mono ?_; rintro e w11 ⟨rfl, hbw11⟩
            replace hR := hR.below hbw11
            replace r_a := r_a.below hbw11
            replace r_s := r_s.below hbw11
            replace r_t := r_t.below hbw11
            replace hL := below_next hL hbw11
            clear hbw11
            go_upto_region 20 with (refine store_new (ty := 41) rfl rfl rfl rfl zero8 info_cyc ?_)
            show Code.wp _ _ _ _ (w11.alloc (.cells (vec 8 c) 41))
            replace hR := reads_box hR (.cells (vec 8 c) 41)
            replace r_a := r_a.alloc (.cells (vec 8 c) 41)
            replace r_s := r_s.alloc (.cells (vec 8 c) 41)
            replace r_t := r_t.alloc (.cells (vec 8 c) 41)
            have r_u := RowAt.new w11 8 41 c
            replace hL := hL.alloc hL.size (.cells (vec 8 c) 41)
            generalize w11.heap.size = g_r_u at *
            generalize w11.alloc (.cells (vec 8 c) 41) = W11 at *
            clear B
            cases q
            · clear hf2' hc2
              have HLX := Lib.hid (HL4.out.trans (hL.mono HL4.out.size))
              clear hL
              go_wp2
              go_ret
              exact ⟨rfl, HLX.out⟩
            · cases vv
              · clear hf2' hc2
                have HLX := Lib.hid (HL4.out.trans (hL.mono HL4.out.size))
                clear hL
                go_wp2
                go_ret
                exact ⟨rfl, HLX.out⟩
              · have hc3 : c = (SF (k + 1)).up := by rw [hc2 rfl, (hf2' rfl).2.2, HSN.out, add_up]
                subst hc3
                clear hf2' hc2
                go_wp2_with (first | (refine load_row rfl rfl rfl r_u Try.underlying41 rfl info_cyc ?_) | (refine store_row (ty := 41) (g := w4.heap.size) rfl rfl rfl rfl r_s info_cyc ?_))
                go_roundw
                case rel => exact ⟨k + 1, by omega, by go_num, Lib.hid r_s.setRow, Lib.hid (below_setRow hL (Nat.le_refl _) _)⟩
                case measure => simp [intOf]; omega
          · obtain rfl : k = 24 := by omega
            have r_a := HA.out.below hbel.out
            rw [← HFE.out] at r_a
            have r_s := hX.out
            have hL := hbel.out
            clear hX hbel
            have C := Lib.hid (scaleC (cenV R) 24 (cen_ok HT.out) (by omega) wr)
            go_wp2_with (first | (refine load_row rfl rfl rfl r_a Try.underlying41 rfl info_cyc ?_) | (refine load_row_on (by rfl) rfl rfl r_a Try.underlying41 rfl info_cyc ?_))
            refine C.out.mono ?_; rintro e w12 ⟨rfl, hbw12⟩
            replace r_a := r_a.below hbw12
            replace r_s := r_s.below hbw12
            replace hL := below_next hL hbw12
            clear hbw12 C
            obtain ⟨h, r, hr, hr2⟩ : ∃ (h : Nat → Int) (r : Bool), Value.tuple #[pt (if okv (mulV 24 (cenV R)) then mulV 24 (cenV R) else V.zero).up, .bool (okv (mulV 24 (cenV R)))] = .tuple #[.agg (vec 8 h), .bool r] ∧ (r = true → h = (mulV 24 (cenV R)).up) := ⟨(if okv (mulV 24 (cenV R)) then mulV 24 (cenV R) else V.zero).up, _, rfl, fun e => by rw [if_pos e]⟩
            rw [hr]
            clear hr
            go_upto_region 24 with (refine store_new (ty := 41) rfl rfl rfl rfl zero8 info_cyc ?_)
            show Code.wp _ _ _ _ (w12.alloc (.cells (vec 8 h) 41))
            replace r_a := r_a.alloc (.cells (vec 8 h) 41)
            replace r_s := r_s.alloc (.cells (vec 8 h) 41)
            have r_x := RowAt.new w12 8 41 h
            replace hL := hL.alloc hL.size (.cells (vec 8 h) 41)
            generalize w12.heap.size = g_r_x at *
            generalize w12.alloc (.cells (vec 8 h) 41) = W12 at *
            clear r_a
            cases r
            · go_wp2_with (first | (refine load_row rfl rfl rfl r_x Try.underlying41 rfl info_cyc ?_) | (refine load_row_on (by rfl) rfl rfl r_x Try.underlying41 rfl info_cyc ?_) | (refine load_row rfl rfl rfl r_s Try.underlying41 rfl info_cyc ?_) | (refine load_row_on (by rfl) rfl rfl r_s Try.underlying41 rfl info_cyc ?_))
              go_ret
              exact ⟨rfl, HL4.out.trans (hL.mono HL4.out.size)⟩
            · obtain rfl := hr2 rfl
              rw [← HSE.out] at r_x
              have EQ3 : ∀ w, (Op.equalIn 10000 41 (.agg (vec 8 (SF 24).up)) (.agg (vec 8 (SF 24).up))).run Try.prog w = .ok true w := fun w => by
                rw [equal_cyc, eqv_true fun _ _ => rfl]
              go_wp2_with (first | (refine load_row rfl rfl rfl r_x Try.underlying41 rfl info_cyc ?_) | (refine load_row_on (by rfl) rfl rfl r_x Try.underlying41 rfl info_cyc ?_) | (refine load_row rfl rfl rfl r_s Try.underlying41 rfl info_cyc ?_) | (refine load_row_on (by rfl) rfl rfl r_s Try.underlying41 rfl info_cyc ?_))
              go_ret
              exact ⟨rfl, HL4.out.trans (hL.mono HL4.out.size)⟩

end Go.Proofs.Ytdbokcbbpegilaa
