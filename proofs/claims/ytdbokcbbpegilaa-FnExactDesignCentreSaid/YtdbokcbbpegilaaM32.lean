/-
  impl: periods, centres, closed designs.
  The model's centres, closed designs, and turns that change nothing.
  Closed designs, on both sides.
-/
import Derived.Test.YtdbokcbbpegilaaM21
import Derived.Test.YtdbokcbbpegilaaM24
import Derived.Test.YtdbokcbbpegilaaM30
import Derived.Test.YtdbokcbbpegilaaM27
import Derived.Test.YtdbokcbbpegilaaM25
/- impl: periods, centres, closed designs. -/
namespace Go.Proofs.Ytdbokcbbpegilaa
set_option maxRecDepth 20000
open Go.ChangeShapes Go.WideShapes Go.ChangeAt Go.RowKit
set_option linter.unusedVariables false
set_option linter.unusedSimpArgs false

theorem built_pt8 : Try.prog.built 41 [] = some (vec 8 nul) := by kernel_rfl
section
variable {P : Program} {ops : Array Oper} {rest : List Oper} {o : Oper} {a : Act} {Q : Exit → Act → World → Prop} {w : World}
theorem zero_pt8 {T : TypeId} (hgd : o.guard = none) (ho : o.op = .build T #[]) (hbu : P.built T [] = some (vec 8 nul))
    (h : wpList P ops Q rest (a.put o.dst (.agg (vec 8 V.zero.up))) w) : wpList P ops Q (o :: rest) a w := by
  have e : (#[].map fun (p : Nat × Operand) => (p.1, a.eval p.2)).toList = [] := by simp
  rw [zero_up] at h
  refine wpList_build hgd T _ ho ?_ ?_
  · show (P.built T (#[].map fun (p : Nat × Operand) => (p.1, a.eval p.2)).toList).isSome = true
    rw [e, hbu]; rfl
  · show wpList P ops Q rest (a.put o.dst (.agg ((P.built T (#[].map fun (p : Nat × Operand) => (p.1, a.eval p.2)).toList).getD #[]))) w
    rw [e, hbu]; exact h
end
theorem max_abs (a : Int) : max a (-a) = ((a.natAbs : Nat) : Int) := by omega

set_option maxHeartbeats 1000000 in
theorem DesignPeriod_any (v : Value) (ws : List Wh) (w : World) (hv : Reads w v ws) : Calls Try.prog 25 #[v] w fun e w' => e = .returned (.int .i64 (perO ws)) ∧ Below w.heap.size w w' := by
  have T := DesignSpeeds_any v ws w hv
  clear hv
  unfold spO at T
  unfold perO
  cases hx : tid ws with
  | none =>
    rw [hx] at T
    have T := Lib.hid T
    clear hx
    go_enter Try.func25, Try.ntmps25
    go_wp2_with fail
    refine T.out.mono ?_; rintro e w1 ⟨hb1, v1, rfl, -⟩
    have HB := Lib.hid hb1
    clear T hb1
    go_wp2
    go_ret
    exact ⟨rfl, HB.out⟩
  | some R =>
    rw [hx] at T
    have hT := (tid_in hx).2.1
    have HN := Lib.hid (valid_len hT.ok)
    have HT := Lib.hid hT
    have T := Lib.hid T
    clear hx hT
    go_enter Try.func25, Try.ntmps25
    go_wp2_with fail
    refine T.out.mono ?_; rintro e w1 ⟨hb1, v1, rfl, ho1⟩
    rw [Option.map_some, Option.getD_some] at ho1
    obtain ⟨p, cap, rfl, hc1, hc2, hp0, hp⟩ := ownL_reads ho1
    rw [spL_len] at hc1
    have hn := HN.out
    simp only [maxLen] at hc2
    have HP := Lib.hid hp
    have HB1 := Lib.hid hb1
    have hsl := spL_len R
    clear T hb1 ho1 hp
    simp only [Option.map_some, Option.isSome_some, hsl]
    go_wp2_with fail
    go_loopw [5, 7, 17] (fun f _ i wr => ∃ (k m : Nat), k ≤ R.length ∧ i = .int .i64 k ∧ f = .int .i64 (gcdL (fun c => c.s.natAbs) (R.take k)) ∧ wr = w1.drewN m) (fun _ _ i _ => R.length - (intOf i).toNat)
    case atStart => exact ⟨0, 0, Nat.zero_le _, rfl, rfl, rfl⟩
    case round =>
      obtain ⟨k, m, hk, rfl, rfl, rfl⟩ := hrel
      by_cases hlt : k < R.length
      · have hkz : (k : Int) < (R.length : Int) := by omega
        have hk0 : (0 : Int) ≤ (k : Int) := by omega
        obtain ⟨c, hc⟩ : ∃ c, R[k]? = some c := ⟨_, List.getElem?_eq_getElem hlt⟩
        obtain ⟨g, o, rfl, hg, hr⟩ := HP.out (by rintro rfl; have := hp0 rfl; omega)
        have hcm := List.mem_of_getElem? hc
        have c1 := int_cell hr (spL_at hc)
        have b1 := tidy_speed HT.out hcm
        have hq1 := per_most HT.out k
        have G := Lib.hid (gcd_any (gcdL (fun c => c.s.natAbs) (R.take k)) c.s.natAbs (by omega) (by omega))
        have HNX := Lib.hid (gcdL_next (fun c => c.s.natAbs) hc)
        have w5 : IntKind.i64.wrap (-c.s) = -c.s := by rw [IntKind.wrap_i64]; omega
        have w6 := max_abs c.s
        clear hc hr hg hcm hq1
        generalize gcdL (fun c => c.s.natAbs) (R.take k) = a at *
        go_wp2_with fail
        refine (G.out _).mono ?_; rintro e w2 ⟨rfl, m2, rfl⟩
        clear G c1
        go_wp2_with fail
        go_roundw
        case rel => exact ⟨k + 1, _, by omega, by go_num, by rw [HNX.out], rfl⟩
        case measure => simp [intOf]; omega
      · obtain rfl : k = R.length := by omega
        rw [List.take_length]
        go_wp2
        go_ret
        exact ⟨rfl, below_drewN HB1.out m⟩

theorem firstSpeed_any (v : Value) (R : List Wh) (w : World) (hv : Reads w v R) : Calls Try.prog 82 #[v] w fun e w' => e = .returned (.int .i64 (headS R)) ∧ w = w' := by
  obtain ⟨p, cap, rfl, hc1, hc2, hp0, hp⟩ := hv
  simp only [maxLen] at hc2
  cases R with
  | nil =>
    clear hp
    go_enter Try.func82, Try.ntmps82
    go_wp2
    go_ret
    exact ⟨rfl, rfl⟩
  | cons c R =>
    obtain ⟨g, o, rfl, hg, hr⟩ := hp (by rintro rfl; have := hp0 rfl; simp at hc1; omega)
    have c0 := range_speed (range_part (i := 0) hr rfl)
    rw [Nat.zero_mul, Nat.add_zero] at c0
    obtain ⟨n, hn⟩ : ∃ n, (c :: R).length = n := ⟨_, rfl⟩
    have hn0 : 0 < n := by rw [← hn]; simp
    have hnz : (0 : Int) < (n : Int) := by omega
    have hne : ((n : Int) == 0) = false := by simp; omega
    rw [hn]
    show Calls _ _ _ _ fun e w' => e = .returned (.int .i64 c.s) ∧ _
    clear hr hg hn hc1 hc2 hp0 hp
    go_enter Try.func82, Try.ntmps82
    go_wp2
    go_ret
    exact ⟨rfl, rfl⟩

/-! The centre. -/
def cenO (ws : List Wh) : Option V := (tid ws).map cenV
theorem cen_skip {R : List Wh} {k : Nat} {c : Wh} (hc : R[k]? = some c) (h : c.s ≠ 0) (hz : tot 0 (R.take k) = V.zero) : tot 0 (R.take (k + 1)) = V.zero := by
  rw [take_next hc, tot_append, hz, V.zero_add]
  show V.add (if c.s = 0 then c.r else V.zero) V.zero = V.zero
  rw [if_neg h, V.zero_add]
theorem cen_at {R : List Wh} (hT : Tidy R) {k : Nat} {c : Wh} (hc : R[k]? = some c) (h : c.s = 0) : cenV R = c.r := by
  unfold cenV
  rw [← h]
  exact tot_head (List.mem_of_getElem? hc) hT.asc

set_option maxHeartbeats 1000000 in
theorem DesignCentre_any (v : Value) (ws : List Wh) (w : World) (hv : Reads w v ws) : Calls Try.prog 42 #[v] w fun e w' => e = .returned (pointO (cenO ws)) ∧ Below w.heap.size w w' := by
  have T : ∀ w2, Below w.heap.size w w2 → Calls Try.prog 27 #[v] w2 (Told w2 (tid ws)) := fun w2 hb => tidyOf_any v ws w2 (hv.below hb)
  clear hv
  unfold cenO
  have HO : Aside (RowAt (w.alloc (.cells (vec 8 nul) 41)) w.heap.size 8 41 nul) := RowAt.new _ _ _ _
  have hL : Below w.heap.size w (w.alloc (.cells (vec 8 nul) 41)) := (Below.refl _ _).alloc (Nat.le_refl _) _
  cases hx : tid ws with
  | none =>
    rw [hx] at T
    show Calls _ _ _ _ fun e w' => e = .returned (pointO none) ∧ _
    rw [pointO_none]
    clear hx
    go_enter Try.func42, Try.ntmps42
    go_upto_region 1 with fail
    show Code.wp _ _ _ _ (w.alloc (.cells (vec 8 nul) 41))
    generalize w.alloc (.cells (vec 8 nul) 41) = W at *
    have T := Lib.hid (T W hL)
    have HL := Lib.hid hL
    clear hL
    go_wp2_with fail
    refine T.out.mono ?_; rintro e w1 ⟨hb1, v1, rfl, -⟩
    have HL1 := Lib.hid (below_next HL.out hb1)
    have HO1 := Lib.hid (HO.out.below hb1)
    clear T hb1 HL HO
    go_wp2_with (first | (refine zero_pt8 rfl rfl built_pt8 ?_) | (refine store_row (ty := 41) (g := w.heap.size) rfl rfl rfl rfl HO1.out info_cyc ?_))
    refine bodyPost_ret (results_row_tmp rfl rfl HO1.out.setRow Try.underlying41 rfl info_cyc) rfl ?_
    exact ⟨rfl, below_setRow HL1.out (by omega) _⟩
  | some R =>
    rw [hx] at T
    have hT := (tid_in hx).2.1
    have HN := Lib.hid (valid_len hT.ok)
    have HT := Lib.hid hT
    show Calls _ _ _ _ fun e w' => e = .returned (pointO (some (cenV R))) ∧ _
    rw [pointO_some]
    clear hx hT
    go_enter Try.func42, Try.ntmps42
    go_upto_region 1 with fail
    show Code.wp _ _ _ _ (w.alloc (.cells (vec 8 nul) 41))
    generalize w.alloc (.cells (vec 8 nul) 41) = W at *
    have T := Lib.hid (T W hL)
    have HL := Lib.hid hL
    clear hL
    go_wp2_with fail
    refine T.out.mono ?_; rintro e w1 ⟨hb1, v1, rfl, ho1⟩
    rw [got_some] at ho1
    obtain ⟨p, cap, rfl, hc1, hc2, hp0, hp⟩ := own_reads ho1
    have hn := HN.out
    simp only [maxLen] at hc2
    have HP := Lib.hid hp
    have HL1 := Lib.hid (below_next HL.out hb1)
    have HO1 := Lib.hid (HO.out.below hb1)
    clear T hb1 ho1 hp HL HO
    go_wp2
    go_loopw [7, 18] (fun _ i wr => ∃ (k : Nat), k ≤ R.length ∧ i = .int .i64 k ∧ Aside (tot 0 (R.take k) = V.zero) ∧ Aside (Below w1.heap.size w1 wr)) (fun _ i _ => R.length - (intOf i).toNat)
    case atStart => exact ⟨0, Nat.zero_le _, rfl, Lib.hid rfl, Lib.hid (Below.refl _ _)⟩
    case round =>
      obtain ⟨k, hk, rfl, hz, hbel⟩ := hrel
      by_cases hlt : k < R.length
      · have hkz : (k : Int) < (R.length : Int) := by omega
        have hk0 : (0 : Int) ≤ (k : Int) := by omega
        obtain ⟨c, hc⟩ : ∃ c, R[k]? = some c := ⟨_, List.getElem?_eq_getElem hlt⟩
        obtain ⟨g, o, rfl, hg, hr⟩ := HP.out (by rintro rfl; have := hp0 rfl; omega)
        have HE := Lib.hid (range_part (range_below hr hg hbel.out) hc)
        have hX := RowAt.new wr 9 43 (wf c)
        have c0 := row_speed hX
        have HXR := Lib.hid (row_radius hX)
        have HL2 := Lib.hid (hbel.out.alloc hbel.out.size (.cells (vec 9 (wf c)) 43))
        have HC := Lib.hid hc
        clear hr hc hg hbel hX
        go_upto_region 7 with (first | (refine load_wheel (T := 43) rfl rfl rfl HE.out Try.underlying43 rfl info_wheel ?_) | (refine store_new (ty := 43) rfl rfl rfl rfl zero9 info_wheel ?_))
        show Code.wp _ _ _ _ (wr.alloc (.cells (vec 9 (wf c)) 43))
        generalize wr.alloc (.cells (vec 9 (wf c)) 43) = W2 at *
        generalize wr.heap.size = g2 at *
        by_cases hs : c.s = 0
        · have hs' : (c.s == 0) = true := by simpa using hs
          have HV := Lib.hid (cen_at HT.out HC.out hs)
          have HO2 := Lib.hid (HO1.out.below HL2.out)
          have HL3 := Lib.hid (below_next HL1.out HL2.out)
          clear hs
          go_wp2_with (first | (refine load_part (T := 41) rfl rfl rfl HXR.out Try.underlying41 rfl info_cyc ?_) | (refine store_row (ty := 41) (g := w.heap.size) rfl rfl rfl rfl HO2.out info_cyc ?_))
          refine bodyPost_ret (results_row_tmp rfl rfl HO2.out.setRow Try.underlying41 rfl info_cyc) rfl ?_
          exact ⟨by rw [HV.out]; rfl, below_setRow HL3.out (by omega) _⟩
        · have hs' : (c.s == 0) = false := by simpa using hs
          have HZ := Lib.hid (cen_skip HC.out hs hz.out)
          clear hs
          go_wp2
          go_roundw
          case rel => exact ⟨k + 1, by omega, by go_num, HZ, HL2⟩
          case measure => simp [intOf]; omega
      · obtain rfl : k = R.length := by omega
        have HO2 := Lib.hid (HO1.out.below hbel.out)
        have HL3 := Lib.hid (below_next HL1.out hbel.out)
        have HV : Aside (cenV R = V.zero) := (show _ = _ from by
          have := hz.out
          rwa [List.take_length] at this)
        clear hbel hz
        go_wp2_with (first | (refine zero_pt8 rfl rfl built_pt8 ?_) | (refine store_row (ty := 41) (g := w.heap.size) rfl rfl rfl rfl HO2.out info_cyc ?_))
        refine bodyPost_ret (results_row_tmp rfl rfl HO2.out.setRow Try.underlying41 rfl info_cyc) rfl ?_
        exact ⟨by rw [HV.out, zero_up]; rfl, below_setRow HL3.out (by omega) _⟩

end Go.Proofs.Ytdbokcbbpegilaa
/- The model's centres, closed designs, and turns that change nothing. -/
namespace Go.Proofs.Ytdbokcbbpegilaa
set_option maxRecDepth 20000
open Go.ChangeShapes Go.WideShapes Go.ChangeAt Go.RowKit
set_option linter.unusedVariables false
set_option linter.unusedSimpArgs false

set_option maxHeartbeats 1000000 in
theorem specDesignCentre_any (v : Value) (ws : List Wh) (w : World) (hv : Reads w v ws) : Calls Try.prog 43 #[v] w fun e w' => e = .returned (pointO (cenO ws)) ∧ Below w.heap.size w w' := by
  have T : ∀ w2, Below w.heap.size w w2 → Calls Try.prog 58 #[v] w2 (Told w2 (tid ws)) := fun w2 hb => specTidyOf_any v ws w2 (hv.below hb)
  clear hv
  unfold cenO
  have HO : Aside (RowAt (w.alloc (.cells (vec 8 nul) 41)) w.heap.size 8 41 nul) := RowAt.new _ _ _ _
  have hL : Below w.heap.size w (w.alloc (.cells (vec 8 nul) 41)) := (Below.refl _ _).alloc (Nat.le_refl _) _
  cases hx : tid ws with
  | none =>
    rw [hx] at T
    show Calls _ _ _ _ fun e w' => e = .returned (pointO none) ∧ _
    rw [pointO_none]
    clear hx
    go_enter Try.func43, Try.ntmps43
    go_upto_region 1 with fail
    show Code.wp _ _ _ _ (w.alloc (.cells (vec 8 nul) 41))
    generalize w.alloc (.cells (vec 8 nul) 41) = W at *
    have T := Lib.hid (T W hL)
    have HL := Lib.hid hL
    clear hL
    go_wp2_with fail
    refine T.out.mono ?_; rintro e w1 ⟨hb1, v1, rfl, -⟩
    have HL1 := Lib.hid (below_next HL.out hb1)
    have HO1 := Lib.hid (HO.out.below hb1)
    clear T hb1 HL HO
    go_wp2_with (first | (refine zero_pt8 rfl rfl built_pt8 ?_) | (refine store_row (ty := 41) (g := w.heap.size) rfl rfl rfl rfl HO1.out info_cyc ?_))
    refine bodyPost_ret (results_row_tmp rfl rfl HO1.out.setRow Try.underlying41 rfl info_cyc) rfl ?_
    exact ⟨rfl, below_setRow HL1.out (by omega) _⟩
  | some R =>
    rw [hx] at T
    have hT := (tid_in hx).2.1
    have HN := Lib.hid (valid_len hT.ok)
    have HT := Lib.hid hT
    show Calls _ _ _ _ fun e w' => e = .returned (pointO (some (cenV R))) ∧ _
    rw [pointO_some]
    clear hx hT
    go_enter Try.func43, Try.ntmps43
    go_upto_region 1 with fail
    show Code.wp _ _ _ _ (w.alloc (.cells (vec 8 nul) 41))
    generalize w.alloc (.cells (vec 8 nul) 41) = W at *
    have T := Lib.hid (T W hL)
    have HL := Lib.hid hL
    clear hL
    go_wp2_with fail
    refine T.out.mono ?_; rintro e w1 ⟨hb1, v1, rfl, ho1⟩
    rw [got_some] at ho1
    obtain ⟨p, cap, rfl, hc1, hc2, hp0, hp⟩ := own_reads ho1
    have hn := HN.out
    simp only [maxLen] at hc2
    have HP := Lib.hid hp
    have HL1 := Lib.hid (below_next HL.out hb1)
    have HO1 := Lib.hid (HO.out.below hb1)
    clear T hb1 ho1 hp HL HO
    go_wp2
    go_loop [6] (fun i => ∃ (k : Nat), k ≤ R.length ∧ i = .int .i64 k ∧ Aside (tot 0 (R.take k) = V.zero)) (fun i => R.length - (intOf i).toNat)
    case atStart => exact ⟨0, Nat.zero_le _, rfl, Lib.hid rfl⟩
    case round =>
      obtain ⟨k, hk, rfl, hz⟩ := hrel
      by_cases hlt : k < R.length
      · have hkz : (k : Int) < (R.length : Int) := by omega
        have hk0 : (0 : Int) ≤ (k : Int) := by omega
        obtain ⟨c, hc⟩ : ∃ c, R[k]? = some c := ⟨_, List.getElem?_eq_getElem hlt⟩
        obtain ⟨g, o, rfl, hg, hr⟩ := HP.out (by rintro rfl; have := hp0 rfl; omega)
        have hE := range_part hr hc
        have c0 := range_speed hE
        have HXR := Lib.hid (range_radius hE)
        have HC := Lib.hid hc
        clear hr hc hg hE
        by_cases hs : c.s = 0
        · have hs' : (c.s == 0) = true := by simpa using hs
          have HV := Lib.hid (cen_at HT.out HC.out hs)
          clear hs
          go_wp2_with (first | (refine load_part (T := 41) rfl rfl rfl HXR.out Try.underlying41 rfl info_cyc ?_) | (refine store_row (ty := 41) (g := w.heap.size) rfl rfl rfl rfl HO1.out info_cyc ?_))
          refine bodyPost_ret (results_row_tmp rfl rfl HO1.out.setRow Try.underlying41 rfl info_cyc) rfl ?_
          exact ⟨by rw [HV.out]; rfl, below_setRow HL1.out (by omega) _⟩
        · have hs' : (c.s == 0) = false := by simpa using hs
          have HZ := Lib.hid (cen_skip HC.out hs hz.out)
          clear hs
          go_wp2
          go_round
          case rel => exact ⟨k + 1, by omega, by go_num, HZ⟩
          case measure => simp [intOf]; omega
      · obtain rfl : k = R.length := by omega
        have HV : Aside (cenV R = V.zero) := (show _ = _ from by
          have := hz.out
          rwa [List.take_length] at this)
        clear hz
        go_wp2_with (first | (refine zero_pt8 rfl rfl built_pt8 ?_) | (refine store_row (ty := 41) (g := w.heap.size) rfl rfl rfl rfl HO1.out info_cyc ?_))
        refine bodyPost_ret (results_row_tmp rfl rfl HO1.out.setRow Try.underlying41 rfl info_cyc) rfl ?_
        exact ⟨by rw [HV.out, zero_up]; rfl, below_setRow HL1.out (by omega) _⟩

/-! Turns that change nothing. -/
theorem stillS_none {X : List Wh} {a b : Nat} (h : sOf (turnW b) X = none) : stillS X a b = false := by unfold stillS; rw [h]; cases sOf (laterW a) X <;> rfl
theorem stillS_no {X : List Wh} {a b : Nat} (h : sOf (laterW a) X = none) : stillS X a b = false := by unfold stillS; rw [h]
theorem stillS_some {X L T : List Wh} {a b : Nat} (h : sOf (laterW a) X = some L) (k : sOf (turnW b) X = some T) : stillS X a b = eqL L T := by unfold stillS; rw [h, k]
theorem stillB_is {X : List Wh} (hX : Tidy X) {b : Nat} (hb : b ≤ 23) : (firstP (fun a => stillS X a b) 24).isSome = stillB X b := by
  unfold stillB
  rw [firstP_same fun a _ => stillS_eq hX hb]
theorem firstP_more {p : Nat → Bool} {k : Nat} (h : firstP p k = none) : (firstP p (k + 1)).isSome = p k := by
  cases hp : p k with
  | true => rw [firstP_yes h hp]; rfl
  | false => rw [firstP_no h hp]; rfl
theorem isSome_none {o : Option Nat} (h : o.isSome = false) : o = none := by cases o with
  | none => rfl
  | some x => cases h

set_option maxHeartbeats 4000000 in
theorem specDesignStill_any (v : Value) (ws : List Wh) (w : World) (hv : Reads w v ws) : Calls Try.prog 37 #[v] w (ToldI w (stillO ws)) := by
  have T := specTidyOf_any v ws w hv
  clear hv
  unfold stillO
  cases hx : tid ws with
  | none =>
    rw [hx] at T
    have T := Lib.hid T
    clear hx
    go_enter Try.func37, Try.ntmps37
    go_wp2_with fail
    refine T.out.mono ?_; rintro e w1 ⟨hb1, v1, rfl, -⟩
    have HO : Aside (OwnL encI 1 (w1.alloc (.cells #[] 3)) w.heap.size 3 (.slice (some ⟨w1.heap.size, 0, none⟩) 0 0) []) := (show OwnL _ _ _ _ _ _ _ from World.ownsRow_made w1 #[] 0 hb1.size (by simp [maxLen]) (by simp))
    have HB := Lib.hid (hb1.alloc hb1.size (.cells #[] 3))
    clear T hb1
    go_wp2
    go_ret2
    exact ⟨HB.out, _, rfl, HO.out⟩
  | some X =>
    rw [hx] at T
    have hT := (tid_in hx).2.1
    have HT := Lib.hid hT
    have T := Lib.hid T
    have HSI : Aside (∀ k, stillB X k = true → stillI X (k + 1) = stillI X k ++ [(k : Int)]) := (show ∀ k, _ → _ from fun k h => stillI_yes h)
    have HSN : Aside (∀ k, stillB X k = false → stillI X (k + 1) = stillI X k) := (show ∀ k, _ → _ from fun k h => stillI_no h)
    have HLN := Lib.hid (stillI_len X)
    have HSB : Aside (∀ b, b ≤ 23 → (firstP (fun a => stillS X a b) 24).isSome = stillB X b) := (show ∀ b, _ → _ from fun b hb => stillB_is hT hb)
    show Calls _ _ _ _ (ToldI w (some (stillI X 24)))
    obtain ⟨ii, hii⟩ : ∃ ii, stillI X = ii := ⟨_, rfl⟩
    obtain ⟨bb, hbb⟩ : ∃ bb, stillB X = bb := ⟨_, rfl⟩
    have h0 : ii 0 = [] := by rw [← hii]; rfl
    rw [hii] at HSI HSN HLN ⊢
    rw [hbb] at HSI HSN HSB
    clear hx hT hii hbb
    go_enter Try.func37, Try.ntmps37
    go_wp2_with fail
    refine T.out.mono ?_; rintro e w1 ⟨hb1, v1, rfl, ho1⟩
    rw [got_some] at ho1
    have HB1 := Lib.hid hb1
    have HR1 := Lib.hid (own_reads ho1)
    clear T hb1 ho1
    go_wp2
    go_loopw [6, 7, 8, 9, 10, 11, 12, 13] (fun v' i _ _ _ _ _ _ wr => ∃ b : Nat, b ≤ 24 ∧ i = .int .i64 b ∧ Aside (OwnL encI 1 wr w1.heap.size 3 v' (ii b)) ∧ Aside (Below w1.heap.size w1 wr)) (fun _ i _ _ _ _ _ _ _ => 24 - (intOf i).toNat)
    case atStart => exact ⟨0, Nat.zero_le _, rfl, Lib.hid (by rw [h0]; exact (show OwnL _ _ _ _ _ _ _ from World.ownsRow_made w1 #[] 0 (Nat.le_refl _) (by simp [maxLen]) (by simp))), Lib.hid ((Below.refl _ w1).alloc (Nat.le_refl _) _)⟩
    case round =>
      obtain ⟨b, hb, rfl, hO, hbel⟩ := hrel
      by_cases hlt : b < 24
      · have hbz : (b : Int) < 24 := by omega
        have hb0 : (0 : Int) ≤ (b : Int) := by omega
        have TT := specTurned_yes v1 b (by omega) X wr (HR1.out.below hbel.out)
        have HSB := Lib.hid (HSB.out b (by omega))
        have HSI := Lib.hid (HSI.out b)
        have HSN := Lib.hid (HSN.out b)
        have hsl := HLN.out b
        cases ht : sOf (turnW b) X with
        | none =>
          rw [ht] at TT
          have HNO : Aside (bb b = false) := (show _ = _ from by
            rw [← HSB.out]
            have : firstP (fun a => stillS X a b) 24 = none := by
              rw [firstP_same (q := fun _ => false) fun a _ => stillS_none ht]; rfl
            rw [this]; rfl)
          have TT := Lib.hid TT
          clear ht
          go_wp2_with fail
          refine TT.out.mono ?_; rintro e w2 ⟨hb2, v2, rfl, -⟩
          have HO2 := Lib.hid (rows_below hO.out hb2)
          have HL2 := Lib.hid (below_next hbel.out hb2)
          clear TT hb2 hO hbel
          go_wp2
          refine wp_loop_rounds 1 ?_
          rw [rounds_succ]
          go_wp2
          go_roundw
          case rel => exact ⟨b + 1, by omega, by go_num, by rw [HSN.out HNO.out]; exact HO2, HL2⟩
          case measure => simp [intOf]; omega
        | some TL =>
          rw [ht] at TT
          have HTT := Lib.hid ht
          have TT := Lib.hid TT
          clear ht
          go_wp2_with fail
          refine TT.out.mono ?_; rintro e w2 ⟨hb2, v2, rfl, ho2⟩
          rw [got_some] at ho2
          have HO2 := Lib.hid (rows_below hO.out hb2)
          have HL2 := Lib.hid (below_next hbel.out hb2)
          have HR2 := Lib.hid (own_reads ho2)
          have HR12 := Lib.hid (HR1.out.below (below_next hbel.out hb2))
          clear TT hb2 hO hbel ho2
          go_wp2
          go_loopw [10, 11, 12, 13] (fun f i _ _ wr => ∃ (k : Nat) (fb : Bool), k ≤ 24 ∧ i = .int .i64 k ∧ f = .bool fb ∧ Aside ((firstP (fun a => stillS X a b) k).isSome = fb) ∧ Aside (Below w2.heap.size w2 wr)) (fun _ i _ _ _ => 24 - (intOf i).toNat)
          case atStart => exact ⟨0, false, Nat.zero_le _, rfl, rfl, Lib.hid rfl, Lib.hid (Below.refl _ _)⟩
          case round =>
            obtain ⟨k, fb, hk, rfl, rfl, hf, hbel⟩ := hrel
            cases fb with
            | true =>
              have HYES : Aside (bb b = true) := (show _ = _ from by
                rw [← HSB.out]
                obtain ⟨j, hj⟩ := Option.isSome_iff_exists.1 hf.out
                rw [firstP_on hj hk]; rfl)
              have HO3 := Lib.hid (rows_below HO2.out hbel.out)
              have HL3 := Lib.hid (below_next HL2.out hbel.out)
              clear hbel hf HO2 HL2
              by_cases hk24 : (k : Int) < 24
              · go_wp2_with (at_builtin; refine appendL tyI encI_ok rfl rfl rfl rfl (xs := ii b) (World.ownsRow.alloc HO3.out _) (lit1 _ _ _) (by simp; omega) (HL3.out.alloc HL3.out.size _) (by simp; have := HL3.out.size; omega) ?_; intro v4 w4 ho4 hb4 hB4 hgr4)
                go_roundw
                case rel => exact ⟨b + 1, by omega, by go_num, Lib.hid (by rw [HSI.out HYES.out]; exact ho4), Lib.hid hb4⟩
                case measure => simp [intOf]; omega
              · go_wp2_with (at_builtin; refine appendL tyI encI_ok rfl rfl rfl rfl (xs := ii b) (World.ownsRow.alloc HO3.out _) (lit1 _ _ _) (by simp; omega) (HL3.out.alloc HL3.out.size _) (by simp; have := HL3.out.size; omega) ?_; intro v4 w4 ho4 hb4 hB4 hgr4)
                go_roundw
                case rel => exact ⟨b + 1, by omega, by go_num, Lib.hid (by rw [HSI.out HYES.out]; exact ho4), Lib.hid hb4⟩
                case measure => simp [intOf]; omega
            | false =>
              have HF := Lib.hid (isSome_none hf.out)
              clear hf
              by_cases hk24 : k < 24
              · have hkz : (k : Int) < 24 := by omega
                have hk0 : (0 : Int) ≤ (k : Int) := by omega
                have LL := specLater_yes v1 k (by omega) X wr (HR12.out.below hbel.out)
                have HM := Lib.hid (firstP_more HF.out)
                cases hl : sOf (laterW k) X with
                | none =>
                  rw [hl] at LL
                  have HNX : Aside ((firstP (fun a => stillS X a b) (k + 1)).isSome = false) := (show _ = _ from by rw [HM.out]; exact stillS_no hl)
                  have LL := Lib.hid LL
                  clear hl HM
                  go_wp2_with fail
                  refine LL.out.mono ?_; rintro e w3 ⟨hb3, v3, rfl, -⟩
                  have HL3 := Lib.hid (below_next hbel.out hb3)
                  clear LL hb3 hbel
                  go_wp2
                  go_roundw
                  case rel => exact ⟨k + 1, false, by omega, by go_num, rfl, HNX, HL3⟩
                  case measure => simp [intOf]; omega
                | some L =>
                  rw [hl] at LL
                  obtain ⟨r, hr⟩ : ∃ r, eqL L TL = r := ⟨_, rfl⟩
                  have EQ := fun w3 v3 (h3 : Reads w3 v3 L) (h4 : Reads w3 v2 TL) => l5Equal_any v3 v2 L TL w3 h3 h4
                  rw [hr] at EQ
                  have HNX : Aside ((firstP (fun a => stillS X a b) (k + 1)).isSome = r) := (show _ = _ from by rw [HM.out, ← hr]; exact stillS_some hl HTT.out)
                  have LL := Lib.hid LL
                  clear hl HM hr
                  go_wp2_with fail
                  refine LL.out.mono ?_; rintro e w3 ⟨hb3, v3, rfl, ho3⟩
                  rw [got_some] at ho3
                  have HL3 := Lib.hid (below_next hbel.out hb3)
                  have EQ := Lib.hid (EQ w3 v3 (own_reads ho3) (HR2.out.below (below_next hbel.out hb3)))
                  clear LL hb3 ho3 hbel
                  go_wp2_with fail
                  refine EQ.out.mono ?_; rintro e w4 ⟨rfl, hb4⟩
                  have HL4 := Lib.hid (below_next HL3.out hb4)
                  clear EQ hb4 HL3
                  go_wp2
                  go_roundw
                  case rel => exact ⟨k + 1, r, by omega, by go_num, rfl, HNX, HL4⟩
                  case measure => simp [intOf]; omega
              · have hkz : ¬ (k : Int) < 24 := by omega
                have HNO : Aside (bb b = false) := (show _ = _ from by
                  rw [← HSB.out]
                  have e : k = 24 := by omega
                  have := HF.out
                  rw [e] at this
                  rw [this]; rfl)
                have HO3 := Lib.hid (rows_below HO2.out hbel.out)
                have HL3 := Lib.hid (below_next HL2.out hbel.out)
                clear hbel HO2 HL2
                go_wp2
                go_roundw
                case rel => exact ⟨b + 1, by omega, by go_num, by rw [HSN.out HNO.out]; exact HO3, HL3⟩
                case measure => simp [intOf]; omega
      · obtain rfl : b = 24 := by omega
        have HL := Lib.hid (below_next HB1.out hbel.out)
        clear hbel
        go_wp2
        go_ret2
        exact ⟨HL.out, _, rfl, rows_mono hO.out HB1.out.size⟩

/-! Closed designs. -/
theorem atD_is {ws : List Wh} (hv : valid ws = true) {k : Nat} (hk : k < 24) : atD ws (k : Int) = if okv (pAt (k : Int) ws) then some (pAt (k : Int) ws) else none := by
  have ht : isT (k : Int) = true := by unfold isT; simp; omega
  unfold atD
  rw [hv, ht]; rfl
theorem atD_on {ws : List Wh} (hv : valid ws = true) (k step : Nat) : atD ws (onT k step) = if okv (pAt (onT k step) ws) then some (pAt (onT k step) ws) else none :=
  atD_is hv (k := (k + step) % 24) (Nat.mod_lt _ (by omega))
theorem closed_none {ws : List Wh} {n : Int} (h : tid ws = none) : closedD ws n = false := by unfold closedD; rw [h]
theorem closed_len {ws : List Wh} {n : Int} (h : rowZ n = false) : closedD ws n = false := by
  unfold closedD
  cases tid ws with
  | none => rfl
  | some R => unfold rowZ at h; simp only []; rw [h]; rfl
theorem closed_is {ws R : List Wh} {n : Nat} (h : tid ws = some R) (hz : rowLen n = true) : closedD ws n = (List.range 24).all (closedK ws (24 / n) (headS R)) := by
  unfold closedD
  rw [h]
  have := rowZ_nat n
  rw [hz] at this
  unfold rowZ at this
  show ((decide (1 ≤ (n : Int)) && rowLen ((n : Int)).toNat) && (List.range 24).all (closedK ws (24 / ((n : Int)).toNat) (headS R))) = _
  rw [this, Int.toNat_natCast]; rfl
theorem closed_no {ws R : List Wh} {n k : Nat} (h : tid ws = some R) (hz : rowLen n = true) (hk : k < 24) (hc : closedK ws (24 / n) (headS R) k = false) : closedD ws n = false := by
  rw [closed_is h hz]
  exact List.all_eq_false.2 ⟨k, by simpa using hk, by rw [hc]; decide⟩
theorem closed_yes {ws R : List Wh} {n : Nat} (h : tid ws = some R) (hz : rowLen n = true) (hc : ∀ k, k < 24 → closedK ws (24 / n) (headS R) k = true) : closedD ws n = true := by
  rw [closed_is h hz]
  exact List.all_eq_true.2 fun k hk => hc k (by simpa using hk)

end Go.Proofs.Ytdbokcbbpegilaa
/- Closed designs, on both sides. -/
namespace Go.Proofs.Ytdbokcbbpegilaa
set_option maxRecDepth 20000
open Go.ChangeShapes Go.WideShapes Go.ChangeAt Go.RowKit
set_option linter.unusedVariables false
set_option linter.unusedSimpArgs false

theorem point_is {ws : List Wh} (hv : valid ws = true) {k : Nat} (hk : k < 24) : ∃ x : V, pointOf (atD ws (k : Int)) = .tuple #[.agg (vec 8 x.up), .bool (okv (pAt (k : Int) ws))] ∧ (okv (pAt (k : Int) ws) = true → x = pAt (k : Int) ws) := by
  rw [atD_is hv hk]
  cases h : okv (pAt (k : Int) ws) with
  | true => exact ⟨pAt (k : Int) ws, rfl, fun _ => rfl⟩
  | false => exact ⟨V.zero, rfl, fun h => by cases h⟩
theorem equal_cycV (a b : V) (w : World) : (Op.equalIn 10000 41 (.agg (vec 8 a.up)) (.agg (vec 8 b.up))).run Try.prog w = .ok (eqv 8 a.up b.up) w := equal_cyc _ _ w
theorem steps_of {m : Nat} (h : rowLen m = true) : ∃ st : Nat, 24 / m = st ∧ 1 ≤ st ∧ st ≤ 24 ∧ (24 : Int).tdiv (m : Int) = (st : Int) ∧ ¬ (m : Int) = 0 ∧ ((m : Int) == 0) = false ∧ ¬ m = 0 := by
  obtain ⟨h1, h2, h3⟩ := rowLen_in h
  refine ⟨24 / m, rfl, (Nat.le_div_iff_mul_le (by omega)).2 (by omega), Nat.div_le_self 24 m, ?_, by omega, by simp; omega, by omega⟩
  rw [Int.tdiv_eq_ediv_of_nonneg (by decide)]; simp

set_option maxHeartbeats 4000000 in
theorem specDesignClosed_any (v : Value) (n : Int) (ws : List Wh) (w : World) (hv : Reads w v ws) : Calls Try.prog 40 #[v, .int .i64 n] w fun e w' => e = .returned (.bool (closedD ws n)) ∧ Below w.heap.size w w' := by
  have T := specTidyOf_any v ws w hv
  cases hx : tid ws with
  | none =>
    rw [hx] at T
    rw [closed_none hx]
    have T := Lib.hid T
    clear hx hv
    go_enter Try.func40, Try.ntmps40
    go_wp2_with fail
    refine T.out.mono ?_; rintro e w1 ⟨hb1, v1, rfl, -⟩
    have HB := Lib.hid hb1
    clear T hb1
    go_wp2
    go_ret
    exact ⟨rfl, HB.out⟩
  | some R =>
    rw [hx] at T
    have LN := fun w => specLength_any n w
    have HV := Lib.hid hv
    have T := Lib.hid T
    clear hv
    cases hl : rowZ n with
    | false =>
      rw [hl] at LN
      rw [closed_len hl]
      clear hl hx
      go_enter Try.func40, Try.ntmps40
      go_wp2_with fail
      refine T.out.mono ?_; rintro e w1 ⟨hb1, v1, rfl, -⟩
      have HB := Lib.hid hb1
      clear T hb1
      go_wp2_with fail
      refine (LN _).mono ?_; rintro e w2 ⟨rfl, rfl⟩
      clear LN
      go_wp2
      go_ret
      exact ⟨rfl, HB.out⟩
    | true =>
      rw [hl] at LN
      have h1 : 1 ≤ n := by unfold rowZ at hl; simp at hl; exact hl.1
      obtain ⟨m, rfl⟩ : ∃ m : Nat, n = m := ⟨n.toNat, by omega⟩
      rw [rowZ_nat] at hl
      obtain ⟨st, hst, st1, st24, q4, q6, q7, q8⟩ := steps_of hl
      have q5 : IntKind.i64.wrap (st : Int) = (st : Int) := by rw [IntKind.wrap_i64]; omega
      have hvd := (tid_in hx).1
      have hT := (tid_in hx).2.1
      have HNO : Aside (∀ k, k < 24 → closedK ws st (headS R) k = false → closedD ws m = false) := (show ∀ k, _ → _ → _ from fun k hk hc => closed_no hx hl hk (by rw [hst]; exact hc))
      have HYES : Aside ((∀ k, k < 24 → closedK ws st (headS R) k = true) → closedD ws m = true) := (show _ → _ from fun hc => closed_yes hx hl (fun k hk => by rw [hst]; exact hc k hk))
      have HVD := Lib.hid hvd
      have hfs : -1000 ≤ headS R ∧ headS R ≤ 1000 := by
        cases R with
        | nil => show (-1000 : Int) ≤ 0 ∧ (0 : Int) ≤ 1000; omega
        | cons c R => exact tidy_speed hT (by simp)
      generalize closedD ws m = res at *
      clear hl hx hvd hT hst h1
      go_enter Try.func40, Try.ntmps40
      go_wp2_with fail
      refine T.out.mono ?_; rintro e w1 ⟨hb1, v1, rfl, ho1⟩
      rw [got_some] at ho1
      have HB1 := Lib.hid hb1
      obtain ⟨p, cap, rfl, hc1, hc2, hp0, hp⟩ := own_reads ho1
      have HP := Lib.hid hp
      clear T hb1 ho1 hp
      go_wp2_with fail
      refine (LN _).mono ?_; rintro e w2 ⟨rfl, rfl⟩
      clear LN
      go_upto_if 28 with fail
      go_cut [7] from 29 (fun s7 wx => s7 = .int .i64 (headS R) ∧ wx = w1)
      case first =>
        have hp := HP.out
        clear HP
        cases R with
        | nil =>
          clear hp
          go_wp2
          go_meet
          case rel => exact ⟨rfl, rfl⟩
        | cons c R =>
          obtain ⟨g, o, rfl, hg, hr⟩ := hp (by rintro rfl; have := hp0 rfl; simp at hc1; omega)
          have c0 := range_speed (range_part (i := 0) hr rfl)
          rw [Nat.zero_mul, Nat.add_zero] at c0
          have hz : (0 : Int) < (((c :: R).length : Nat) : Int) := by simp
          clear hr hg hp
          go_wp2
          go_meet
          case rel => exact ⟨rfl, rfl⟩
      case rest =>
      obtain ⟨rfl, hw⟩ := hcut
      have hw := hw.symm
      subst hw
      generalize headS R = fs at *
      go_wp2
      go_loopw [9, 10, 11, 12, 13] (fun i _ _ _ _ wr => ∃ (k : Nat), k ≤ 24 ∧ i = .int .i64 k ∧ Aside (∀ j, j < k → closedK ws st fs j = true) ∧ Aside (Below w1.heap.size w1 wr)) (fun i _ _ _ _ _ => 24 - (intOf i).toNat)
      case atStart => exact ⟨0, Nat.zero_le _, rfl, Lib.hid (fun j h => absurd h (Nat.not_lt_zero j)), Lib.hid (Below.refl _ _)⟩
      case round =>
        obtain ⟨k, hk, rfl, hK, hbel⟩ := hrel
        by_cases hlt : k < 24
        · have hkz : (k : Int) < 24 := by omega
          have hk0 : (0 : Int) ≤ (k : Int) := by omega
          obtain ⟨x, hx1, hx2⟩ := point_is HVD.out hlt
          obtain ⟨y, hy1, hy2⟩ := point_is HVD.out (k := (k + st) % 24) (Nat.mod_lt _ (by omega))
          have A := specDesignAt_any v ws (k : Int) wr (HV.out.below (HB1.out.trans (hbel.out.mono HB1.out.size)))
          rw [hx1] at A
          have B := fun w2 (h : Reads w2 v ws) => specDesignAt_any v ws (((k + st) % 24 : Nat) : Int) w2 h
          rw [hy1] at B
          obtain ⟨kk, hkk⟩ : ∃ kk : Nat, (k + st) % 24 = kk := ⟨_, rfl⟩
          obtain ⟨ks, hks⟩ : ∃ ks : Int, (k : Int) + (st : Int) = ks := ⟨_, rfl⟩
          have wks : IntKind.i64.wrap ks = ks := by rw [IntKind.wrap_i64]; omega
          have M := fun w => mod_any ks (by omega) (by omega) w
          have ekk : ks % 24 = (kk : Int) := by omega
          rw [ekk] at M
          have HCK : Aside (closedK ws st fs k = (okv (pAt (k : Int) ws) && okv (pAt (((k + st) % 24 : Nat) : Int) ws) && eqv 8 (tV (backT st fs) (pAt (((k + st) % 24 : Nat) : Int) ws)).up (pAt (k : Int) ws).up)) := Lib.hid rfl
          rw [hkk] at HCK B hy2
          have HX2 := Lib.hid hx2
          have HY2 := Lib.hid hy2
          generalize pAt (k : Int) ws = pa at *
          generalize pAt (kk : Int) ws = pb at *
          obtain ⟨qa, hqa⟩ : ∃ qa, okv pa = qa := ⟨_, rfl⟩
          obtain ⟨qb, hqb⟩ : ∃ qb, okv pb = qb := ⟨_, rfl⟩
          rw [hqa] at A HX2 HCK
          rw [hqb] at B HY2 HCK
          have HQB := Lib.hid hqb
          clear hx1 hx2 hy1 hy2 hkk ekk hqa hqb
          go_wp2_with fail
          refine A.mono ?_; rintro e w2 ⟨rfl, hb2⟩
          have hB2 := hbel.out.trans (hb2.mono hbel.out.size)
          have hB3 := hB2.alloc hB2.size (.cells (vec 8 x.up) 41)
          have HXR := Lib.hid (RowAt.new w2 8 41 x.up)
          clear A hb2 hbel
          go_upto_region 12 with (refine store_new (ty := 41) rfl rfl rfl rfl zero8 info_cyc ?_)
          show Code.wp _ _ _ _ (w2.alloc (.cells (vec 8 x.up) 41))
          generalize w2.alloc (.cells (vec 8 x.up) 41) = W2 at *
          generalize w2.heap.size = g2 at *
          have B := Lib.hid (B W2 (HV.out.below (HB1.out.trans (hB3.mono HB1.out.size))))
          have HB3 := Lib.hid hB3
          clear hB2 hB3
          go_wp2_with fail
          refine (M _).mono ?_; rintro e w3 ⟨rfl, rfl⟩
          go_wp2_with fail
          refine B.out.mono ?_; rintro e w3 ⟨rfl, hb3⟩
          have hB4 := HB3.out.trans (hb3.mono HB3.out.size)
          have hB5 := hB4.alloc hB4.size (.cells (vec 8 y.up) 41)
          have hXR := (HXR.out.below hb3).alloc (.cells (vec 8 y.up) 41)
          have hYR := RowAt.new w3 8 41 y.up
          clear B hb3 M HXR HB3 hB4
          go_upto_region 13 with (refine store_new (ty := 41) rfl rfl rfl rfl zero8 info_cyc ?_)
          show Code.wp _ _ _ _ (w3.alloc (.cells (vec 8 y.up) 41))
          generalize w3.alloc (.cells (vec 8 y.up) 41) = W3 at *
          generalize w3.heap.size = g3 at *
          cases qa with
          | false =>
            have HF := Lib.hid (HNO.out k hlt HCK.out)
            refine wp_region_held_drew (S := fun w' => Below w1.heap.size w1 w') (by kernel_rfl) hB5.drew (fun hHeld => ?_)
            refine wpAnyH_take (i := 0) (oi := _) (v := .bool false) rfl (by kernel_rfl) (by kernel_rfl) (by kernel_rfl) (fun _ _ _ h => h) (Or.inl ⟨by rfl, fun w h => by go_simp⟩) hHeld ?_
            try simp only [Act.put, List.setIfInBounds_toArray, List.set_cons_zero, List.set_cons_succ, List.getElem_toArray, List.getElem_cons_succ, List.getElem_cons_zero]
            refine wpAnyH_take (i := 1) (oi := _) (v := .bool true) rfl (by kernel_rfl) (by kernel_rfl) (by kernel_rfl) (fun _ _ _ h => h) (Or.inl ⟨by rfl, fun w h => by go_simp⟩) hHeld ?_
            try simp only [Act.put, List.setIfInBounds_toArray, List.set_cons_zero, List.set_cons_succ, List.getElem_toArray, List.getElem_cons_succ, List.getElem_cons_zero]
            refine wpAnyH_take (i := 2) (oi := _) (v := .bool true) rfl (by kernel_rfl) (by kernel_rfl) (by kernel_rfl) (fun _ _ _ h => h) (Or.inl ⟨by rfl, fun w h => by go_simp⟩) hHeld ?_
            try simp only [Act.put, List.setIfInBounds_toArray, List.set_cons_zero, List.set_cons_succ, List.getElem_toArray, List.getElem_cons_succ, List.getElem_cons_zero]
            refine wpAnyH_take (i := 3) (oi := _) (v := undef) rfl (by kernel_rfl) (by kernel_rfl) (by kernel_rfl) (fun _ _ _ h => h) (Or.inr ⟨by rfl, rfl⟩) hHeld ?_
            try simp only [Act.put, List.setIfInBounds_toArray, List.set_cons_zero, List.set_cons_succ, List.getElem_toArray, List.getElem_cons_succ, List.getElem_cons_zero]
            refine wpAnyH_take (i := 4) (oi := _) (v := undef) rfl (by kernel_rfl) (by kernel_rfl) (by kernel_rfl) (fun _ _ _ h => h) (Or.inr ⟨by rfl, rfl⟩) hHeld ?_
            try simp only [Act.put, List.setIfInBounds_toArray, List.set_cons_zero, List.set_cons_succ, List.getElem_toArray, List.getElem_cons_succ, List.getElem_cons_zero]
            refine wpAnyH_take (i := 5) (oi := _) (v := .bool true) rfl (by kernel_rfl) (by kernel_rfl) (by kernel_rfl) (fun _ _ _ h => h) (Or.inl ⟨by rfl, fun w h => by go_simp⟩) hHeld ?_
            try simp only [Act.put, List.setIfInBounds_toArray, List.set_cons_zero, List.set_cons_succ, List.getElem_toArray, List.getElem_cons_succ, List.getElem_cons_zero]
            refine wpAnyH_take (i := 6) (oi := _) (v := .bool true) rfl (by kernel_rfl) (by kernel_rfl) (by kernel_rfl) (fun _ _ _ h => h) (Or.inl ⟨by rfl, fun w h => by go_simp⟩) hHeld ?_
            try simp only [Act.put, List.setIfInBounds_toArray, List.set_cons_zero, List.set_cons_succ, List.getElem_toArray, List.getElem_cons_succ, List.getElem_cons_zero]
            refine wpAnyH_take (i := 7) (oi := _) (v := undef) rfl (by kernel_rfl) (by kernel_rfl) (by kernel_rfl) (fun _ _ _ h => h) (Or.inr ⟨by rfl, rfl⟩) hHeld ?_
            try simp only [Act.put, List.setIfInBounds_toArray, List.set_cons_zero, List.set_cons_succ, List.getElem_toArray, List.getElem_cons_succ, List.getElem_cons_zero]
            refine wpAnyH_take (i := 8) (oi := _) (v := undef) rfl (by kernel_rfl) (by kernel_rfl) (by kernel_rfl) (fun _ _ _ h => h) (Or.inr ⟨by rfl, rfl⟩) hHeld ?_
            try simp only [Act.put, List.setIfInBounds_toArray, List.set_cons_zero, List.set_cons_succ, List.getElem_toArray, List.getElem_cons_succ, List.getElem_cons_zero]
            refine wpAnyH_take (i := 9) (oi := _) (v := undef) rfl (by kernel_rfl) (by kernel_rfl) (by kernel_rfl) (fun _ _ _ h => h) (Or.inr ⟨by rfl, rfl⟩) hHeld ?_
            try simp only [Act.put, List.setIfInBounds_toArray, List.set_cons_zero, List.set_cons_succ, List.getElem_toArray, List.getElem_cons_succ, List.getElem_cons_zero]
            refine wpAnyH_take (i := 10) (oi := _) (v := undef) rfl (by kernel_rfl) (by kernel_rfl) (by kernel_rfl) (fun _ _ _ h => h) (Or.inr ⟨by rfl, rfl⟩) hHeld ?_
            try simp only [Act.put, List.setIfInBounds_toArray, List.set_cons_zero, List.set_cons_succ, List.getElem_toArray, List.getElem_cons_succ, List.getElem_cons_zero]
            refine wpAnyH_take (i := 11) (oi := _) (v := undef) rfl (by kernel_rfl) (by kernel_rfl) (by kernel_rfl) (fun _ _ _ h => h) (Or.inr ⟨by rfl, rfl⟩) hHeld ?_
            try simp only [Act.put, List.setIfInBounds_toArray, List.set_cons_zero, List.set_cons_succ, List.getElem_toArray, List.getElem_cons_succ, List.getElem_cons_zero]
            refine wpAnyH_take (i := 12) (oi := _) (v := undef) rfl (by kernel_rfl) (by kernel_rfl) (by kernel_rfl) (fun _ _ _ h => h) (Or.inr ⟨by rfl, rfl⟩) hHeld ?_
            try simp only [Act.put, List.setIfInBounds_toArray, List.set_cons_zero, List.set_cons_succ, List.getElem_toArray, List.getElem_cons_succ, List.getElem_cons_zero]
            refine wpAnyH_take (i := 13) (oi := _) (v := undef) rfl (by kernel_rfl) (by kernel_rfl) (by kernel_rfl) (fun _ _ _ h => h) (Or.inr ⟨by rfl, rfl⟩) hHeld ?_
            try simp only [Act.put, List.setIfInBounds_toArray, List.set_cons_zero, List.set_cons_succ, List.getElem_toArray, List.getElem_cons_succ, List.getElem_cons_zero]
            refine wpAnyH_take (i := 14) (oi := _) (v := undef) rfl (by kernel_rfl) (by kernel_rfl) (by kernel_rfl) (fun _ _ _ h => h) (Or.inr ⟨by rfl, rfl⟩) hHeld ?_
            try simp only [Act.put, List.setIfInBounds_toArray, List.set_cons_zero, List.set_cons_succ, List.getElem_toArray, List.getElem_cons_succ, List.getElem_cons_zero]
            refine wpAnyH_take (i := 15) (oi := _) (v := undef) rfl (by kernel_rfl) (by kernel_rfl) (by kernel_rfl) (fun _ _ _ h => h) (Or.inr ⟨by rfl, rfl⟩) hHeld ?_
            try simp only [Act.put, List.setIfInBounds_toArray, List.set_cons_zero, List.set_cons_succ, List.getElem_toArray, List.getElem_cons_succ, List.getElem_cons_zero]
            refine wpAnyH_take (i := 16) (oi := _) (v := .bool true) rfl (by kernel_rfl) (by kernel_rfl) (by kernel_rfl) (fun _ _ _ h => h) (Or.inl ⟨by rfl, fun w h => by go_simp⟩) hHeld ?_
            try simp only [Act.put, List.setIfInBounds_toArray, List.set_cons_zero, List.set_cons_succ, List.getElem_toArray, List.getElem_cons_succ, List.getElem_cons_zero]
            refine wpAnyH_done (by kernel_rfl) ?_ _
            have HL := Lib.hid (HB1.out.trans (hHeld.mono HB1.out.size))
            clear hHeld
            go_wp2
            go_ret
            exact ⟨by rw [HF.out]; rfl, HL.out⟩
          | true =>
            cases qb with
            | false =>
              have HF := Lib.hid (HNO.out k hlt HCK.out)
              refine wp_region_held_drew (S := fun w' => Below w1.heap.size w1 w') (by kernel_rfl) hB5.drew (fun hHeld => ?_)
              refine wpAnyH_take (i := 0) (oi := _) (v := .bool true) rfl (by kernel_rfl) (by kernel_rfl) (by kernel_rfl) (fun _ _ _ h => h) (Or.inl ⟨by rfl, fun w h => by go_simp⟩) hHeld ?_
              try simp only [Act.put, List.setIfInBounds_toArray, List.set_cons_zero, List.set_cons_succ, List.getElem_toArray, List.getElem_cons_succ, List.getElem_cons_zero]
              refine wpAnyH_take (i := 1) (oi := _) (v := .bool false) rfl (by kernel_rfl) (by kernel_rfl) (by kernel_rfl) (fun _ _ _ h => h) (Or.inl ⟨by rfl, fun w h => by go_simp⟩) hHeld ?_
              try simp only [Act.put, List.setIfInBounds_toArray, List.set_cons_zero, List.set_cons_succ, List.getElem_toArray, List.getElem_cons_succ, List.getElem_cons_zero]
              refine wpAnyH_take (i := 2) (oi := _) (v := .bool false) rfl (by kernel_rfl) (by kernel_rfl) (by kernel_rfl) (fun _ _ _ h => h) (Or.inl ⟨by rfl, fun w h => by go_simp⟩) hHeld ?_
              try simp only [Act.put, List.setIfInBounds_toArray, List.set_cons_zero, List.set_cons_succ, List.getElem_toArray, List.getElem_cons_succ, List.getElem_cons_zero]
              refine wpAnyH_take (i := 3) (oi := _) (v := .bool false) rfl (by kernel_rfl) (by kernel_rfl) (by kernel_rfl) (fun _ _ _ h => h) (Or.inl ⟨by rfl, fun w h => by go_simp⟩) hHeld ?_
              try simp only [Act.put, List.setIfInBounds_toArray, List.set_cons_zero, List.set_cons_succ, List.getElem_toArray, List.getElem_cons_succ, List.getElem_cons_zero]
              refine wpAnyH_take (i := 4) (oi := _) (v := .bool true) rfl (by kernel_rfl) (by kernel_rfl) (by kernel_rfl) (fun _ _ _ h => h) (Or.inl ⟨by rfl, fun w h => by go_simp⟩) hHeld ?_
              try simp only [Act.put, List.setIfInBounds_toArray, List.set_cons_zero, List.set_cons_succ, List.getElem_toArray, List.getElem_cons_succ, List.getElem_cons_zero]
              refine wpAnyH_take (i := 5) (oi := _) (v := .bool true) rfl (by kernel_rfl) (by kernel_rfl) (by kernel_rfl) (fun _ _ _ h => h) (Or.inl ⟨by rfl, fun w h => by go_simp⟩) hHeld ?_
              try simp only [Act.put, List.setIfInBounds_toArray, List.set_cons_zero, List.set_cons_succ, List.getElem_toArray, List.getElem_cons_succ, List.getElem_cons_zero]
              refine wpAnyH_take (i := 6) (oi := _) (v := .bool true) rfl (by kernel_rfl) (by kernel_rfl) (by kernel_rfl) (fun _ _ _ h => h) (Or.inl ⟨by rfl, fun w h => by go_simp⟩) hHeld ?_
              try simp only [Act.put, List.setIfInBounds_toArray, List.set_cons_zero, List.set_cons_succ, List.getElem_toArray, List.getElem_cons_succ, List.getElem_cons_zero]
              refine wpAnyH_take (i := 7) (oi := _) (v := undef) rfl (by kernel_rfl) (by kernel_rfl) (by kernel_rfl) (fun _ _ _ h => h) (Or.inr ⟨by rfl, rfl⟩) hHeld ?_
              try simp only [Act.put, List.setIfInBounds_toArray, List.set_cons_zero, List.set_cons_succ, List.getElem_toArray, List.getElem_cons_succ, List.getElem_cons_zero]
              refine wpAnyH_take (i := 8) (oi := _) (v := undef) rfl (by kernel_rfl) (by kernel_rfl) (by kernel_rfl) (fun _ _ _ h => h) (Or.inr ⟨by rfl, rfl⟩) hHeld ?_
              try simp only [Act.put, List.setIfInBounds_toArray, List.set_cons_zero, List.set_cons_succ, List.getElem_toArray, List.getElem_cons_succ, List.getElem_cons_zero]
              refine wpAnyH_take (i := 9) (oi := _) (v := undef) rfl (by kernel_rfl) (by kernel_rfl) (by kernel_rfl) (fun _ _ _ h => h) (Or.inr ⟨by rfl, rfl⟩) hHeld ?_
              try simp only [Act.put, List.setIfInBounds_toArray, List.set_cons_zero, List.set_cons_succ, List.getElem_toArray, List.getElem_cons_succ, List.getElem_cons_zero]
              refine wpAnyH_take (i := 10) (oi := _) (v := undef) rfl (by kernel_rfl) (by kernel_rfl) (by kernel_rfl) (fun _ _ _ h => h) (Or.inr ⟨by rfl, rfl⟩) hHeld ?_
              try simp only [Act.put, List.setIfInBounds_toArray, List.set_cons_zero, List.set_cons_succ, List.getElem_toArray, List.getElem_cons_succ, List.getElem_cons_zero]
              refine wpAnyH_take (i := 11) (oi := _) (v := undef) rfl (by kernel_rfl) (by kernel_rfl) (by kernel_rfl) (fun _ _ _ h => h) (Or.inr ⟨by rfl, rfl⟩) hHeld ?_
              try simp only [Act.put, List.setIfInBounds_toArray, List.set_cons_zero, List.set_cons_succ, List.getElem_toArray, List.getElem_cons_succ, List.getElem_cons_zero]
              refine wpAnyH_take (i := 12) (oi := _) (v := undef) rfl (by kernel_rfl) (by kernel_rfl) (by kernel_rfl) (fun _ _ _ h => h) (Or.inr ⟨by rfl, rfl⟩) hHeld ?_
              try simp only [Act.put, List.setIfInBounds_toArray, List.set_cons_zero, List.set_cons_succ, List.getElem_toArray, List.getElem_cons_succ, List.getElem_cons_zero]
              refine wpAnyH_take (i := 13) (oi := _) (v := undef) rfl (by kernel_rfl) (by kernel_rfl) (by kernel_rfl) (fun _ _ _ h => h) (Or.inr ⟨by rfl, rfl⟩) hHeld ?_
              try simp only [Act.put, List.setIfInBounds_toArray, List.set_cons_zero, List.set_cons_succ, List.getElem_toArray, List.getElem_cons_succ, List.getElem_cons_zero]
              refine wpAnyH_take (i := 14) (oi := _) (v := undef) rfl (by kernel_rfl) (by kernel_rfl) (by kernel_rfl) (fun _ _ _ h => h) (Or.inr ⟨by rfl, rfl⟩) hHeld ?_
              try simp only [Act.put, List.setIfInBounds_toArray, List.set_cons_zero, List.set_cons_succ, List.getElem_toArray, List.getElem_cons_succ, List.getElem_cons_zero]
              refine wpAnyH_take (i := 15) (oi := _) (v := undef) rfl (by kernel_rfl) (by kernel_rfl) (by kernel_rfl) (fun _ _ _ h => h) (Or.inr ⟨by rfl, rfl⟩) hHeld ?_
              try simp only [Act.put, List.setIfInBounds_toArray, List.set_cons_zero, List.set_cons_succ, List.getElem_toArray, List.getElem_cons_succ, List.getElem_cons_zero]
              refine wpAnyH_take (i := 16) (oi := _) (v := .bool true) rfl (by kernel_rfl) (by kernel_rfl) (by kernel_rfl) (fun _ _ _ h => h) (Or.inl ⟨by rfl, fun w h => by go_simp⟩) hHeld ?_
              try simp only [Act.put, List.setIfInBounds_toArray, List.set_cons_zero, List.set_cons_succ, List.getElem_toArray, List.getElem_cons_succ, List.getElem_cons_zero]
              refine wpAnyH_done (by kernel_rfl) ?_ _
              have HL := Lib.hid (HB1.out.trans (hHeld.mono HB1.out.size))
              clear hHeld
              go_wp2
              go_ret
              exact ⟨by rw [HF.out]; rfl, HL.out⟩
            | true =>
              have ex := (HX2.out rfl).symm
              have ey := (HY2.out rfl).symm
              subst ex
              subst ey
              have hm0 := mul_in2 (x := (st : Int)) (y := fs) 24 1000 (by omega) (by omega)
              have HBK : Aside (backT st fs = ((0 - (st : Int) * fs) % 24).toNat) := Lib.hid rfl
              obtain ⟨m1, hm1⟩ : ∃ m1 : Int, (st : Int) * fs = m1 := ⟨_, rfl⟩
              rw [hm1] at hm0 HBK
              obtain ⟨m2, hm2⟩ : ∃ m2 : Int, 0 - m1 = m2 := ⟨_, rfl⟩
              rw [hm2] at HBK
              have v1x : IntKind.i64.wrap m1 = m1 := by rw [IntKind.wrap_i64]; omega
              have v2x : IntKind.i64.wrap m2 = m2 := by rw [IntKind.wrap_i64]; omega
              obtain ⟨bk, hbk⟩ : ∃ bk : Nat, m2 % 24 = (bk : Int) := ⟨(m2 % 24).toNat, by omega⟩
              have M2 := fun w => mod_any m2 (by omega) (by omega) w
              rw [hbk] at M2 HBK
              have hbk2 : bk ≤ 23 := by omega
              have TU := fun w => specTurnV pb hbk2 HQB.out w
              have E := equal_cycV (tV bk pb) pa
              rw [HBK.out, Int.toNat_natCast, Bool.and_self, Bool.true_and] at HCK
              generalize tV bk pb = tb at *
              obtain ⟨r, hr⟩ : ∃ r, eqv 8 tb.up pa.up = r := ⟨_, rfl⟩
              rw [hr] at HCK E
              clear hr hbk HBK
              refine wp_region_held_drew (S := fun w' => RowAt w' g2 8 41 pa.up ∧ RowAt w' g3 8 41 pb.up ∧ Below w1.heap.size w1 w') (by kernel_rfl) ⟨hXR.drew1, hYR.drew1, hB5.drew⟩ (fun hHeld => ?_)
              refine wpAnyH_take (i := 0) (oi := _) (v := .bool true) rfl (by kernel_rfl) (by kernel_rfl) (by kernel_rfl) (fun _ _ _ h => h) (Or.inl ⟨by rfl, fun w h => by go_simp⟩) hHeld ?_
              try simp only [Act.put, List.setIfInBounds_toArray, List.set_cons_zero, List.set_cons_succ, List.getElem_toArray, List.getElem_cons_succ, List.getElem_cons_zero]
              refine wpAnyH_take (i := 1) (oi := _) (v := .bool false) rfl (by kernel_rfl) (by kernel_rfl) (by kernel_rfl) (fun _ _ _ h => h) (Or.inl ⟨by rfl, fun w h => by go_simp⟩) hHeld ?_
              try simp only [Act.put, List.setIfInBounds_toArray, List.set_cons_zero, List.set_cons_succ, List.getElem_toArray, List.getElem_cons_succ, List.getElem_cons_zero]
              refine wpAnyH_take (i := 2) (oi := _) (v := .bool false) rfl (by kernel_rfl) (by kernel_rfl) (by kernel_rfl) (fun _ _ _ h => h) (Or.inl ⟨by rfl, fun w h => by go_simp⟩) hHeld ?_
              try simp only [Act.put, List.setIfInBounds_toArray, List.set_cons_zero, List.set_cons_succ, List.getElem_toArray, List.getElem_cons_succ, List.getElem_cons_zero]
              refine wpAnyH_take (i := 3) (oi := _) (v := .bool true) rfl (by kernel_rfl) (by kernel_rfl) (by kernel_rfl) (fun _ _ _ h => h) (Or.inl ⟨by rfl, fun w h => by go_simp⟩) hHeld ?_
              try simp only [Act.put, List.setIfInBounds_toArray, List.set_cons_zero, List.set_cons_succ, List.getElem_toArray, List.getElem_cons_succ, List.getElem_cons_zero]
              refine wpAnyH_take (i := 4) (oi := _) (v := .bool false) rfl (by kernel_rfl) (by kernel_rfl) (by kernel_rfl) (fun _ _ _ h => h) (Or.inl ⟨by rfl, fun w h => by go_simp⟩) hHeld ?_
              try simp only [Act.put, List.setIfInBounds_toArray, List.set_cons_zero, List.set_cons_succ, List.getElem_toArray, List.getElem_cons_succ, List.getElem_cons_zero]
              refine wpAnyH_take (i := 5) (oi := _) (v := .bool false) rfl (by kernel_rfl) (by kernel_rfl) (by kernel_rfl) (fun _ _ _ h => h) (Or.inl ⟨by rfl, fun w h => by go_simp⟩) hHeld ?_
              try simp only [Act.put, List.setIfInBounds_toArray, List.set_cons_zero, List.set_cons_succ, List.getElem_toArray, List.getElem_cons_succ, List.getElem_cons_zero]
              refine wpAnyH_take (i := 6) (oi := _) (v := .bool false) rfl (by kernel_rfl) (by kernel_rfl) (by kernel_rfl) (fun _ _ _ h => h) (Or.inl ⟨by rfl, fun w h => by go_simp⟩) hHeld ?_
              try simp only [Act.put, List.setIfInBounds_toArray, List.set_cons_zero, List.set_cons_succ, List.getElem_toArray, List.getElem_cons_succ, List.getElem_cons_zero]
              refine wpAnyH_take (i := 7) (oi := _) (v := .agg (vec 8 pb.up)) rfl (by kernel_rfl) (by kernel_rfl) (by kernel_rfl) (fun _ _ _ h => h) (yieldsIf_load_mid (by rfl) _ _ rfl _ _ rfl _ _ ((fun w h => h.2.1.range)) Try.underlying41 rfl (size_cyc8 _)) hHeld ?_
              try simp only [Act.put, List.setIfInBounds_toArray, List.set_cons_zero, List.set_cons_succ, List.getElem_toArray, List.getElem_cons_succ, List.getElem_cons_zero]
              refine wpAnyH_take (i := 8) (oi := _) (v := .int .i64 st) rfl (by kernel_rfl) (by kernel_rfl) (by kernel_rfl) (fun _ _ _ h => h) (Or.inl ⟨by rfl, fun w h => by go_simp⟩) hHeld ?_
              try simp only [Act.put, List.setIfInBounds_toArray, List.set_cons_zero, List.set_cons_succ, List.getElem_toArray, List.getElem_cons_succ, List.getElem_cons_zero]
              refine wpAnyH_take (i := 9) (oi := _) (v := .int .i64 fs) rfl (by kernel_rfl) (by kernel_rfl) (by kernel_rfl) (fun _ _ _ h => h) (Or.inl ⟨by rfl, fun w h => by go_simp⟩) hHeld ?_
              try simp only [Act.put, List.setIfInBounds_toArray, List.set_cons_zero, List.set_cons_succ, List.getElem_toArray, List.getElem_cons_succ, List.getElem_cons_zero]
              refine wpAnyH_take (i := 14) (oi := _) (v := .agg (vec 8 pa.up)) rfl (by kernel_rfl) (by kernel_rfl) (by kernel_rfl) (fun _ _ _ h => h) (yieldsIf_load_mid (by rfl) _ _ rfl _ _ rfl _ _ ((fun w h => h.1.range)) Try.underlying41 rfl (size_cyc8 _)) hHeld ?_
              try simp only [Act.put, List.setIfInBounds_toArray, List.set_cons_zero, List.set_cons_succ, List.getElem_toArray, List.getElem_cons_succ, List.getElem_cons_zero]
              refine wpAnyH_take (i := 10) (oi := _) (v := .int .i64 m1) rfl (by kernel_rfl) (by kernel_rfl) (by kernel_rfl) (fun _ _ _ h => h) (Or.inl ⟨by rfl, fun w h => by go_simp⟩) hHeld ?_
              try simp only [Act.put, List.setIfInBounds_toArray, List.set_cons_zero, List.set_cons_succ, List.getElem_toArray, List.getElem_cons_succ, List.getElem_cons_zero]
              refine wpAnyH_take (i := 11) (oi := _) (v := .int .i64 m2) rfl (by kernel_rfl) (by kernel_rfl) (by kernel_rfl) (fun _ _ _ h => h) (Or.inl ⟨by rfl, fun w h => by go_simp⟩) hHeld ?_
              try simp only [Act.put, List.setIfInBounds_toArray, List.set_cons_zero, List.set_cons_succ, List.getElem_toArray, List.getElem_cons_succ, List.getElem_cons_zero]
              refine wpAnyH_ready (rs := [12]) (by kernel_rfl) (by simp) ?_
              refine AllReadyH.cons (o := _) rfl (fun K hK => ?_) AllReadyH.nil
              go_simp
              refine (M2 _).mono ?_; rintro e w4 ⟨rfl, rfl⟩
              go_wp2_with fail
              refine hK.out _ _ hHeld (fun hHeld => ?_)
              clear hK K
              try simp only [Act.put, List.setIfInBounds_toArray, List.set_cons_zero, List.set_cons_succ, List.getElem_toArray, List.getElem_cons_succ, List.getElem_cons_zero]
              refine wpAnyH_ready (rs := [13]) (by kernel_rfl) (by simp) ?_
              refine AllReadyH.cons (o := _) rfl (fun K hK => ?_) AllReadyH.nil
              go_simp
              refine (TU _).mono ?_; rintro e w5 ⟨rfl, hb5⟩
              go_wp2_with fail
              obtain ⟨u1, u2, u3⟩ := hHeld
              refine hK.out _ _ ⟨u1.below hb5, u2.below hb5, u3.trans (hb5.mono u3.size)⟩ (fun hHeld => ?_)
              clear hK K
              try simp only [Act.put, List.setIfInBounds_toArray, List.set_cons_zero, List.set_cons_succ, List.getElem_toArray, List.getElem_cons_succ, List.getElem_cons_zero]
              clear u1 u2 u3 hb5 TU M2
              refine wpAnyH_take (i := 15) (oi := _) (v := .bool (!r)) rfl (by kernel_rfl) (by kernel_rfl) (by kernel_rfl) (fun _ _ _ h => h) (Or.inl ⟨by rfl, fun w h => by go_simp⟩) hHeld ?_
              try simp only [Act.put, List.setIfInBounds_toArray, List.set_cons_zero, List.set_cons_succ, List.getElem_toArray, List.getElem_cons_succ, List.getElem_cons_zero]
              refine wpAnyH_take (i := 16) (oi := _) (v := .bool (!r)) rfl (by kernel_rfl) (by kernel_rfl) (by kernel_rfl) (fun _ _ _ h => h) (Or.inl ⟨by rfl, fun w h => by go_simp⟩) hHeld ?_
              try simp only [Act.put, List.setIfInBounds_toArray, List.set_cons_zero, List.set_cons_succ, List.getElem_toArray, List.getElem_cons_succ, List.getElem_cons_zero]
              refine wpAnyH_done (by kernel_rfl) ?_ _
              have HL2 := Lib.hid hHeld.2.2
              clear hHeld hXR hYR hB5 E
              cases r with
              | false =>
                have HF := Lib.hid (HNO.out k hlt HCK.out)
                have HL := Lib.hid (HB1.out.trans (HL2.out.mono HB1.out.size))
                go_wp2
                go_ret
                exact ⟨by rw [HF.out]; rfl, HL.out⟩
              | true =>
                go_wp2
                go_roundw
                case rel =>
                  refine ⟨k + 1, by omega, by go_num, Lib.hid (fun j hj => ?_), HL2⟩
                  by_cases e : j = k
                  · rw [e]; exact HCK.out
                  · exact hK.out j (by omega)
                case measure => simp [intOf]; omega
        · obtain rfl : k = 24 := by omega
          have HF := Lib.hid (HYES.out hK.out)
          have HL := Lib.hid (HB1.out.trans (hbel.out.mono HB1.out.size))
          clear hbel
          go_wp2
          go_ret
          exact ⟨by rw [HF.out]; rfl, HL.out⟩

theorem turned_is (b : V) {bk : Nat} (hbk : bk ≤ 23) : ∃ z : V, ans true (trn b.up bk) = .tuple #[.agg (vec 8 z.up), .bool (okv (tV bk b))] ∧ (okv (tV bk b) = true → z = tV bk b) := by
  have e : okc (trn b.up bk) = okv (tV bk b) := by rw [← okv_dn, tV_trn b hbk]
  cases h : okv (tV bk b) with
  | true =>
    refine ⟨tV bk b, ?_, fun _ => rfl⟩
    rw [ans_yes (by rw [e]; exact h), pt_tV b hbk]
  | false =>
    refine ⟨V.zero, ?_, fun h => by cases h⟩
    rw [ans_bad (by rw [e]; exact h), ← zero_up]
theorem closed_points {ws : List Wh} {n : Int} (h : rdO ws 24 = none) : closedD ws n = false := by
  cases hc : closedD ws n with
  | false => rfl
  | true =>
    exfalso
    unfold closedD at hc
    cases hR : tid ws with
    | none => rw [hR] at hc; cases hc
    | some R =>
      rw [hR] at hc
      simp only [Bool.and_eq_true, List.all_eq_true, List.mem_range] at hc
      have hv := (tid_in hR).1
      have e : rdO ws ((24 : Nat) : Int) = coll (fun k => atD ws (((k * (24 / 24) : Nat)) : Int)) 24 := rdO_nat (by decide)
      rw [show ((24 : Nat) : Int) = 24 from rfl] at e
      rw [e, coll_some (g := fun k => pAt (k : Int) ws) fun k hk => ?_] at h
      · cases h
      · rw [show k * (24 / 24) = k from by omega, atD_is hv hk, if_pos ((closedK_true.1 (hc.2 k hk)).1)]
theorem points_at {ws : List Wh} {L : List V} (h : rdO ws 24 = some L) : L.length = 24 ∧ ∀ k : Nat, k < 24 → ∃ a, L[k]? = some a ∧ okv a = true ∧ a = pAt (k : Int) ws := by
  obtain ⟨m, hm, hl, hlen, hv, hok, hat⟩ := rdO_some h
  have hm24 : m = 24 := by omega
  subst hm24
  refine ⟨hlen, fun k hk => ⟨at' L k, at_get (by omega), rowOk_at hok (by omega), ?_⟩⟩
  have := (hat k hk).2
  rwa [show k * (24 / 24) = k from by omega] at this

set_option maxHeartbeats 4000000 in
theorem DesignClosed_any (v : Value) (n : Int) (ws : List Wh) (w : World) (hv : Reads w v ws) : Calls Try.prog 39 #[v, .int .i64 n] w fun e w' => e = .returned (.bool (closedD ws n)) ∧ Below w.heap.size w w' := by
  have T := tidyOf_any v ws w hv
  have LN := fun w => isRowLength_any n w
  have HV := Lib.hid hv
  clear hv
  cases hl : rowZ n with
  | false =>
    rw [hl] at LN
    rw [closed_len hl]
    clear hl T
    go_enter Try.func39, Try.ntmps39
    go_wp2_with fail
    refine (LN _).mono ?_; rintro e w2 ⟨rfl, rfl⟩
    clear LN
    go_wp2
    go_ret
    exact ⟨rfl, Below.refl _ _⟩
  | true =>
    rw [hl] at LN
    have RO := fun w2 (hb : Below w.heap.size w w2) => RowOf_any v 24 ws w2 (HV.out.below hb)
    cases hx : tid ws with
    | none =>
      rw [hx] at T
      rw [closed_none hx]
      generalize rdO ws 24 = o at *
      have T := Lib.hid T
      clear hx hl
      go_enter Try.func39, Try.ntmps39
      go_wp2_with fail
      refine (LN _).mono ?_; rintro e w2 ⟨rfl, rfl⟩
      clear LN
      go_wp2_with fail
      refine T.out.mono ?_; rintro e w1 ⟨hb1, v1, rfl, -⟩
      have RO := Lib.hid (RO w1 hb1)
      have HB := Lib.hid hb1
      clear T hb1
      go_wp2_with fail
      refine RO.out.mono ?_; rintro e w2 ⟨hb2, v2, rfl, -⟩
      have HB2 := Lib.hid (below_next HB.out hb2)
      clear RO hb2 HB
      go_wp2
      go_ret
      exact ⟨rfl, HB2.out⟩
    | some R =>
      rw [hx] at T
      cases ho : rdO ws 24 with
      | none =>
        rw [closed_points ho]
        rw [ho] at RO
        have T := Lib.hid T
        clear hx hl ho
        go_enter Try.func39, Try.ntmps39
        go_wp2_with fail
        refine (LN _).mono ?_; rintro e w2 ⟨rfl, rfl⟩
        clear LN
        go_wp2_with fail
        refine T.out.mono ?_; rintro e w1 ⟨hb1, v1, rfl, -⟩
        have RO := Lib.hid (RO w1 hb1)
        have HB := Lib.hid hb1
        clear T hb1
        go_wp2_with fail
        refine RO.out.mono ?_; rintro e w2 ⟨hb2, v2, rfl, -⟩
        have HB2 := Lib.hid (below_next HB.out hb2)
        clear RO hb2 HB
        go_wp2
        go_ret
        exact ⟨rfl, HB2.out⟩
      | some L =>
        rw [ho] at RO
        have h1 : 1 ≤ n := by unfold rowZ at hl; simp at hl; exact hl.1
        obtain ⟨m, rfl⟩ : ∃ m : Nat, n = m := ⟨n.toNat, by omega⟩
        rw [rowZ_nat] at hl
        obtain ⟨hL24, hLat⟩ := points_at ho
        obtain ⟨st, hst, st1, st24, q4, q6, q7, q8⟩ := steps_of hl
        have q5 : IntKind.i64.wrap (st : Int) = (st : Int) := by rw [IntKind.wrap_i64]; omega
        have hT := (tid_in hx).2.1
        have HNO : Aside (∀ k, k < 24 → closedK ws st (headS R) k = false → closedD ws m = false) := (show ∀ k, _ → _ → _ from fun k hk hc => closed_no hx hl hk (by rw [hst]; exact hc))
        have HYES : Aside ((∀ k, k < 24 → closedK ws st (headS R) k = true) → closedD ws m = true) := (show _ → _ from fun hc => closed_yes hx hl (fun k hk => by rw [hst]; exact hc k hk))
        have hfs : -1000 ≤ headS R ∧ headS R ≤ 1000 := by
          cases R with
          | nil => show (-1000 : Int) ≤ 0 ∧ (0 : Int) ≤ 1000; omega
          | cons c R => exact tidy_speed hT (by simp)
        have HLA := Lib.hid hLat
        have FS := fun v w h => firstSpeed_any v R w h
        generalize closedD ws m = res at *
        generalize headS R = fs at *
        obtain ⟨sm, hsm⟩ : ∃ sm : Nat, st % 24 = sm := ⟨_, rfl⟩
        have WI := fun w => within_any (st : Int) (by omega) (by omega) w
        have esm : (st : Int) % 24 = (sm : Int) := by omega
        rw [esm] at WI
        have TI := fun w => turnTimes_any sm (-fs) (by omega) (by omega) w
        have hbk := tm_lt sm (-fs)
        have HBKE : Aside (∀ x : V, tV (tm sm (-fs)) x = tV (backT st fs) x) := (show ∀ x, _ from fun x => tV_same x (by
          unfold tm backT
          have e1 : (sm : Int) * -fs = -((sm : Int) * fs) := Int.mul_neg _ _
          have e2 : (st : Int) * fs = (sm : Int) * fs + 24 * ((st / 24 : Nat) : Int) * fs := by
            have : (st : Int) = (sm : Int) + 24 * ((st / 24 : Nat) : Int) := by omega
            rw [this, Int.add_mul]
          rw [e1, e2, Int.mul_assoc]
          generalize (sm : Int) * fs = p1
          generalize ((st / 24 : Nat) : Int) * fs = p2
          omega))
        generalize tm sm (-fs) = bk at *
        have w5 : IntKind.i64.wrap (-fs) = -fs := by rw [IntKind.wrap_i64]; omega
        have hsm2 : sm ≤ 23 := by omega
        have HSM : Aside (st % 24 = sm) := hsm
        have T := Lib.hid T
        clear hx hl ho hst h1 hT hLat hsm esm
        go_enter Try.func39, Try.ntmps39
        go_wp2_with fail
        refine (LN _).mono ?_; rintro e w2 ⟨rfl, rfl⟩
        clear LN
        go_wp2_with fail
        refine T.out.mono ?_; rintro e w1 ⟨hb1, v1, rfl, ho1⟩
        rw [got_some] at ho1
        have RO := Lib.hid (RO w1 hb1)
        have HB := Lib.hid hb1
        have HR1 := Lib.hid (own_reads ho1)
        clear T hb1 ho1
        go_wp2_with fail
        refine RO.out.mono ?_; rintro e w2 ⟨hb2, v2, rfl, ho2⟩
        have ho3 : OwnL encV 8 w2 w1.heap.size 41 v2 L := ho2
        obtain ⟨p, cap, rfl, hc1, hc2, hp0, hp⟩ := ownL_reads ho3
        have HB2 := Lib.hid (below_next HB.out hb2)
        have FS := Lib.hid (FS v1 w2 (HR1.out.below hb2))
        have HP := Lib.hid hp
        simp only [maxLen] at hc2
        clear RO hb2 HB ho2 ho3 hp
        rw [hL24] at hc1 ⊢
        go_wp2_with fail
        refine (WI _).mono ?_; rintro e w3 ⟨rfl, rfl⟩
        clear WI
        go_wp2_with fail
        refine FS.out.mono ?_; rintro e w3 ⟨rfl, rfl⟩
        clear FS
        go_wp2_with fail
        refine (TI _).mono ?_; rintro e w3 ⟨rfl, rfl⟩
        clear TI
        go_wp2
        go_loopw [11, 12, 13, 14, 15, 45] (fun _ _ _ _ _ i wr => ∃ (k : Nat), k ≤ 24 ∧ i = .int .i64 k ∧ Aside (∀ j, j < k → closedK ws st fs j = true) ∧ Aside (Below w2.heap.size w2 wr)) (fun _ _ _ _ _ i _ => 24 - (intOf i).toNat)
        case atStart => exact ⟨0, Nat.zero_le _, rfl, Lib.hid (fun j h => absurd h (Nat.not_lt_zero j)), Lib.hid (Below.refl _ _)⟩
        case round =>
          obtain ⟨k, hk, rfl, hK, hbel⟩ := hrel
          by_cases hlt : k < 24
          · have hkz : (k : Int) < 24 := by omega
            have hk0 : (0 : Int) ≤ (k : Int) := by omega
            obtain ⟨a, ha, hoa, hpa⟩ := HLA.out k hlt
            obtain ⟨b, hb, hob, hpb⟩ := HLA.out ((k + sm) % 24) (Nat.mod_lt _ (by omega))
            have PL := fun w => turnPlus_any k sm (by omega) (by omega) w
            obtain ⟨kk, hkk⟩ : ∃ kk : Nat, (k + sm) % 24 = kk := ⟨_, rfl⟩
            rw [hkk] at PL hb hpb
            have hkk2 : (kk : Int) < 24 := by omega
            have hkk0 : (0 : Int) ≤ (kk : Int) := by omega
            have HCK : Aside (closedK ws st fs k = eqv 8 (tV bk b).up a.up) := (show _ = _ from by
              unfold closedK
              rw [show onT k st = (kk : Int) from by unfold onT; have := HSM.out; omega, ← hpa, ← hpb, hoa, hob, ← HBKE.out b]; rfl)
            have CT := fun w => CycTurned_yes b.up bk hob hbk w
            obtain ⟨z, hz1, hz2⟩ := turned_is b hbk
            rw [hz1] at CT
            obtain ⟨g, o, rfl, hg, hr⟩ := HP.out (by rintro rfl; have := hp0 rfl; omega)
            have HEA := Lib.hid (cells_part encV_ok (cells_below hr hg hbel.out) ha)
            have HEB := Lib.hid (cells_part encV_ok (cells_below hr hg hbel.out) hb)
            have hX := RowAt.new wr 8 41 a.up
            have hB1 := hbel.out.alloc hbel.out.size (.cells (vec 8 a.up) 41)
            have HEB2 := Lib.hid (cells_part encV_ok (cells_below hr hg hB1) hb)
            have E := equal_cycV z a
            have HZ2 := Lib.hid hz2
            have HOA := Lib.hid hoa
            obtain ⟨q, hq⟩ : ∃ q, okv (tV bk b) = q := ⟨_, rfl⟩
            rw [hq] at CT HZ2
            have HQ := Lib.hid hq
            clear hr hg ha hb hpa hpb hoa hob hkk hbel hz1 hz2 hq
            go_upto_region 12 with (first | (refine load_part (T := 41) rfl rfl rfl HEA.out Try.underlying41 rfl info_cyc ?_) | (refine store_new (ty := 41) rfl rfl rfl rfl zero8 info_cyc ?_))
            show Code.wp _ _ _ _ (wr.alloc (.cells (vec 8 a.up) 41))
            have HX2 := Lib.hid (hX.alloc (.cells (vec 8 b.up) 41))
            have HY2 := Lib.hid (RowAt.new (wr.alloc (.cells (vec 8 a.up) 41)) 8 41 b.up)
            have HB2x := Lib.hid (hB1.alloc hB1.size (.cells (vec 8 b.up) 41))
            clear hX hB1 HEA HEB
            generalize wr.alloc (.cells (vec 8 a.up) 41) = W1 at *
            generalize wr.heap.size = g1 at *
            go_wp2_with fail
            refine (PL _).mono ?_; rintro e w4 ⟨rfl, rfl⟩
            clear PL
            go_upto_region 13 with (first | (refine load_part (T := 41) rfl rfl rfl HEB2.out Try.underlying41 rfl info_cyc ?_) | (refine store_new (ty := 41) rfl rfl rfl rfl zero8 info_cyc ?_))
            show Code.wp _ _ _ _ (W1.alloc (.cells (vec 8 b.up) 41))
            generalize W1.alloc (.cells (vec 8 b.up) 41) = W2 at *
            generalize W1.heap.size = g2 at *
            go_wp2_with (refine load_row (ty := 41) (g := g2) rfl rfl rfl HY2.out Try.underlying41 rfl info_cyc ?_)
            refine (CT _).mono ?_; rintro e w5 ⟨rfl, hb5⟩
            have hX3 := (HX2.out.below hb5).alloc (.cells (vec 8 z.up) 41)
            have hZ3 := RowAt.new w5 8 41 z.up
            have hB3 := HB2x.out.trans (hb5.mono HB2x.out.size)
            have HB3 := Lib.hid (hB3.alloc hB3.size (.cells (vec 8 z.up) 41))
            clear CT hb5 HX2 HY2 HB2x hB3
            go_upto_region 14 with (refine store_new (ty := 41) rfl rfl rfl rfl zero8 info_cyc ?_)
            show Code.wp _ _ _ _ (w5.alloc (.cells (vec 8 z.up) 41))
            generalize w5.alloc (.cells (vec 8 z.up) 41) = W5 at *
            generalize w5.heap.size = g5 at *
            cases q with
            | false =>
              have HF : Aside (res = false) := (show _ = _ from HNO.out k hlt (by
                rw [HCK.out]
                cases h : eqv 8 (tV bk b).up a.up with
                | false => rfl
                | true =>
                  have e : tV bk b = a := V.ext (eqv_same h)
                  have := HQ.out
                  rw [e, HOA.out] at this
                  cases this))
              have HL := Lib.hid (HB2.out.trans (HB3.out.mono HB2.out.size))
              clear hX3 hZ3 E
              go_wp2
              go_ret
              exact ⟨by rw [HF.out]; rfl, HL.out⟩
            | true =>
              have ez := HZ2.out rfl
              rw [← ez] at HCK
              obtain ⟨r, hr⟩ : ∃ r, eqv 8 z.up a.up = r := ⟨_, rfl⟩
              rw [hr] at HCK E
              clear hr ez
              cases r with
              | false =>
                have HF := Lib.hid (HNO.out k hlt HCK.out)
                have HL := Lib.hid (HB2.out.trans (HB3.out.mono HB2.out.size))
                go_wp2_with (first | (refine load_row_on (g := g5) (by rfl) rfl rfl hZ3 Try.underlying41 rfl info_cyc ?_) | (refine load_row_on (g := g1) (by rfl) rfl rfl hX3 Try.underlying41 rfl info_cyc ?_))
                go_ret
                exact ⟨by rw [HF.out]; rfl, HL.out⟩
              | true =>
                go_wp2_with (first | (refine load_row_on (g := g5) (by rfl) rfl rfl hZ3 Try.underlying41 rfl info_cyc ?_) | (refine load_row_on (g := g1) (by rfl) rfl rfl hX3 Try.underlying41 rfl info_cyc ?_))
                go_roundw
                case rel =>
                  refine ⟨k + 1, by omega, by go_num, Lib.hid (fun j hj => ?_), HB3⟩
                  by_cases e : j = k
                  · rw [e]; exact HCK.out
                  · exact hK.out j (by omega)
                case measure => simp [intOf]; omega
          · obtain rfl : k = 24 := by omega
            have HF := Lib.hid (HYES.out hK.out)
            have HL := Lib.hid (HB2.out.trans (hbel.out.mono HB2.out.size))
            clear hbel
            go_wp2
            go_ret
            exact ⟨by rw [HF.out]; rfl, HL.out⟩

end Go.Proofs.Ytdbokcbbpegilaa
