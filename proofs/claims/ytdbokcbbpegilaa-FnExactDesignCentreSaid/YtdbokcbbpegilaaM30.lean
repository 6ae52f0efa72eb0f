/-
  What the walks of the laws of designs share.
  The draws of designs with some symmetry.
  What the draws of chapter 7's laws hand back.
-/
import Derived.Test.YtdbokcbbpegilaaM29
import Derived.Test.YtdbokcbbpegilaaM23
import Derived.Deep.CutBlock
/- What the walks of the laws of designs share. -/
namespace Go.Proofs.Ytdbokcbbpegilaa
set_option maxRecDepth 20000
open Go.ChangeShapes Go.WideShapes Go.ChangeAt Go.RowKit
set_option linter.unusedVariables false
set_option linter.unusedSimpArgs false

set_option maxHeartbeats 2000000 in
theorem sameWheels_any (va vb : Value) (a b : List Wh) (w : World) (ha : Reads w va a) (hb : Reads w vb b) : Calls Try.prog 23 #[va, vb] w fun e w' => e = .returned (.bool (eqL a b)) ∧ Below w.heap.size w w' := by
  obtain ⟨p, cap, rfl, hc1, hc2, hp0, hp⟩ := ha
  obtain ⟨q, cap2, rfl, hd1, hd2, hq0, hq⟩ := hb
  simp only [maxLen] at hc2 hd2
  by_cases hl : a.length = b.length
  · have hlz : (a.length : Int) = (b.length : Int) := by omega
    have hlb : ((a.length : Int) == (b.length : Int)) = true := by simpa using hlz
    have HP := Lib.hid hp
    have HQ := Lib.hid hq
    generalize hres : eqL a b = res
    have HRES := Lib.hid hres
    clear hp hq hres hlz
    have HLL := Lib.hid hl
    clear hl
    go_enter Try.func23, Try.ntmps23
    go_wp2
    go_loopw [5] (fun i wr => ∃ k : Nat, k ≤ a.length ∧ i = .int .i64 k ∧ a.take k = b.take k ∧ Below w.heap.size w wr) (fun i _ => a.length - (intOf i).toNat)
    case atStart => exact ⟨0, Nat.zero_le _, rfl, rfl, Below.refl _ _⟩
    case round =>
      obtain ⟨k, hk, rfl, hall, hbel⟩ := hrel
      have HA := Lib.hid hall
      have HL := Lib.hid hbel
      clear hall hbel
      by_cases hlt : k < a.length
      · have hkz : (k : Int) < (a.length : Int) := by omega
        have hkb : (k : Int) < (b.length : Int) := by have := HLL.out; omega
        have hk0 : (0 : Int) ≤ (k : Int) := by omega
        have hlt2 : k < b.length := by have := HLL.out; omega
        obtain ⟨c, hc⟩ : ∃ c, a[k]? = some c := ⟨_, List.getElem?_eq_getElem hlt⟩
        obtain ⟨d, hd⟩ : ∃ d, b[k]? = some d := ⟨_, List.getElem?_eq_getElem hlt2⟩
        obtain ⟨g, o, rfl, hg, hr⟩ := HP.out (by rintro rfl; have := hp0 rfl; omega)
        obtain ⟨g2, o2, rfl, hg2, hr2⟩ := HQ.out (by rintro rfl; have := hq0 rfl; omega)
        have HE := Lib.hid (range_part (range_below hr hg HL.out) hc)
        have HE2 := Lib.hid (range_part (range_below hr2 hg2 HL.out) hd)
        have HC := Lib.hid hc
        have HD := Lib.hid hd
        have E := equal_nine c d
        clear hr hr2 hc hd hlt2
        generalize hcd : eqW c d = bit at *
        have HCD := Lib.hid hcd
        clear hcd
        go_upto_region 6 with fail
        refine wp_region_held_drew (S := fun w' => w' = wr.drew) (by kernel_rfl) rfl (fun hHeld => ?_)
        refine wpAnyH_take (i := 0) (oi := _) (v := .slice (some ⟨g, o, none⟩) a.length cap) rfl (by kernel_rfl) (by kernel_rfl) (by kernel_rfl) (fun _ _ _ h => h) (Or.inl ⟨by rfl, fun w h => by go_simp⟩) hHeld ?_
        try simp only [Act.put, List.setIfInBounds_toArray, List.set_cons_zero, List.set_cons_succ, List.getElem_toArray, List.getElem_cons_succ, List.getElem_cons_zero]
        refine wpAnyH_take (i := 1) (oi := _) (v := .int .i64 k) rfl (by kernel_rfl) (by kernel_rfl) (by kernel_rfl) (fun _ _ _ h => h) (Or.inl ⟨by rfl, fun w h => by go_simp⟩) hHeld ?_
        try simp only [Act.put, List.setIfInBounds_toArray, List.set_cons_zero, List.set_cons_succ, List.getElem_toArray, List.getElem_cons_succ, List.getElem_cons_zero]
        refine wpAnyH_take (i := 2) (oi := _) (v := .pointer (some ⟨g, o + k * 9, none⟩)) rfl (by kernel_rfl) (by kernel_rfl) (by kernel_rfl) (fun _ _ _ h => h) (Or.inl ⟨by rfl, fun w h => by go_simp⟩) hHeld ?_
        try simp only [Act.put, List.setIfInBounds_toArray, List.set_cons_zero, List.set_cons_succ, List.getElem_toArray, List.getElem_cons_succ, List.getElem_cons_zero]
        refine wpAnyH_take (i := 3) (oi := _) (v := .agg (vec 9 (wf c))) rfl (by kernel_rfl) (by kernel_rfl) (by kernel_rfl) (fun _ _ _ h => h) (yieldsIf_load_mid (by rfl) _ _ rfl _ _ rfl _ _ ((fun w h => by rw [h]; exact HE.out)) Try.underlying43 rfl (size_wheel c)) hHeld ?_
        try simp only [Act.put, List.setIfInBounds_toArray, List.set_cons_zero, List.set_cons_succ, List.getElem_toArray, List.getElem_cons_succ, List.getElem_cons_zero]
        refine wpAnyH_take (i := 4) (oi := _) (v := .slice (some ⟨g2, o2, none⟩) b.length cap2) rfl (by kernel_rfl) (by kernel_rfl) (by kernel_rfl) (fun _ _ _ h => h) (Or.inl ⟨by rfl, fun w h => by go_simp⟩) hHeld ?_
        try simp only [Act.put, List.setIfInBounds_toArray, List.set_cons_zero, List.set_cons_succ, List.getElem_toArray, List.getElem_cons_succ, List.getElem_cons_zero]
        refine wpAnyH_take (i := 5) (oi := _) (v := .int .i64 k) rfl (by kernel_rfl) (by kernel_rfl) (by kernel_rfl) (fun _ _ _ h => h) (Or.inl ⟨by rfl, fun w h => by go_simp⟩) hHeld ?_
        try simp only [Act.put, List.setIfInBounds_toArray, List.set_cons_zero, List.set_cons_succ, List.getElem_toArray, List.getElem_cons_succ, List.getElem_cons_zero]
        refine wpAnyH_take (i := 6) (oi := _) (v := .pointer (some ⟨g2, o2 + k * 9, none⟩)) rfl (by kernel_rfl) (by kernel_rfl) (by kernel_rfl) (fun _ _ _ h => h) (Or.inl ⟨by rfl, fun w h => by go_simp⟩) hHeld ?_
        try simp only [Act.put, List.setIfInBounds_toArray, List.set_cons_zero, List.set_cons_succ, List.getElem_toArray, List.getElem_cons_succ, List.getElem_cons_zero]
        refine wpAnyH_take (i := 7) (oi := _) (v := .agg (vec 9 (wf d))) rfl (by kernel_rfl) (by kernel_rfl) (by kernel_rfl) (fun _ _ _ h => h) (yieldsIf_load_mid (by rfl) _ _ rfl _ _ rfl _ _ ((fun w h => by rw [h]; exact HE2.out)) Try.underlying43 rfl (size_wheel d)) hHeld ?_
        try simp only [Act.put, List.setIfInBounds_toArray, List.set_cons_zero, List.set_cons_succ, List.getElem_toArray, List.getElem_cons_succ, List.getElem_cons_zero]
        refine wpAnyH_take (i := 8) (oi := _) (v := .bool (!bit)) rfl (by kernel_rfl) (by kernel_rfl) (by kernel_rfl) (fun _ _ _ h => h) (Or.inl ⟨by rfl, fun w h => by go_simp⟩) hHeld ?_
        try simp only [Act.put, List.setIfInBounds_toArray, List.set_cons_zero, List.set_cons_succ, List.getElem_toArray, List.getElem_cons_succ, List.getElem_cons_zero]
        clear hHeld
        refine wpAnyH_done (by kernel_rfl) ?_ _
        cases bit
        · have HF : Aside (false = res) := (show false = res from by rw [← HRES.out]; exact (not_same HC.out HD.out HCD.out).symm)
          go_wp2
          go_ret
          rw [← HF.out]
          exact ⟨rfl, HL.out.drew⟩
        · go_wp2
          go_roundw
          case rel => exact ⟨k + 1, by omega, by go_num, take_same HA.out HC.out HD.out HCD.out, HL.out.drew⟩
          case measure => simp [intOf]; omega
      · obtain rfl : k = a.length := by omega
        have HF : Aside (true = res) := (show true = res from by
          have h1 := HA.out
          rw [List.take_length, HLL.out, List.take_length] at h1
          rw [← HRES.out]; exact (eqL_same h1).symm)
        go_wp2
        go_ret
        rw [← HF.out]
        exact ⟨rfl, HL.out⟩
  · have hlb : ((a.length : Int) == (b.length : Int)) = false := by simpa using (show ¬ (a.length : Int) = (b.length : Int) from by omega)
    rw [len_same hl]
    clear hp hq hl
    go_enter Try.func23, Try.ntmps23
    go_wp2
    go_ret
    exact ⟨rfl, Below.refl _ _⟩

theorem same_self (va vb : Value) (L : List Wh) (w : World) (ha : Reads w va L) (hb : Reads w vb L) : Calls Try.prog 23 #[va, vb] w fun e w' => e = .returned (.bool true) ∧ Below w.heap.size w w' := by
  have := sameWheels_any va vb L L w ha hb
  rw [eqL_same rfl] at this
  exact this
section
variable {P : Program} {ops : Array Oper} {rest : List Oper} {o : Oper} {a : Act} {Q : Exit → Act → World → Prop} {w : World}
/-- A row that is read behind '&&' or '||'. -/
theorem load_row_on {T ty : TypeId} {d : TypeDesc} {g : Nat} {f : Nat → Int} (hw : Region.wanted o (yielded ops a.tmps) = true) {x : Operand} (ho : o.op = .load T x) (hx : a.eval x = .pointer (some ⟨g, 0, none⟩)) (hr : RowAt w g 8 ty f)
    (hu : P.underlying T = some d) (hd : d.isRow = true) (hi : (P.info? T).map (·.size) = some 8)
    (h : wpList P ops Q rest (a.put o.dst (.agg (vec 8 f))) w) : wpList P ops Q (o :: rest) a w := load_part_on hw ho hx hr.range hu hd hi h
end
theorem atD_some {ws : List Wh} {t : Int} {a : V} (h : atD ws t = some a) : valid ws = true ∧ a = pAt t ws := by
  unfold atD at h
  split at h
  · rename_i hv
    split at h
    · exact ⟨by simp at hv; exact hv.1, (Option.some.inj h).symm⟩
    · cases h
  · cases h
theorem know_at (ws : List Wh) (t : Int) : ∃ (f : Nat → Int) (q : Bool), pointOf (atD ws t) = .tuple #[.agg (vec 8 f), .bool q] ∧ (q = true → valid ws = true ∧ okc f = true ∧ f = (pAt t ws).up) := by
  cases h : atD ws t with
  | none => exact ⟨nul, false, pointOf_none, fun h => by cases h⟩
  | some a =>
    obtain ⟨h1, h2⟩ := atD_some h
    refine ⟨a.up, true, rfl, fun _ => ⟨h1, ?_, by rw [h2]⟩⟩
    unfold atD at h
    split at h
    · split at h
      · rename_i hk
        rw [h2]; exact hk
      · cases h
    · cases h
theorem tid_some {ws R : List Wh} (h : tid ws = some R) : valid ws = true ∧ Tidy R ∧ (∀ s, tot s R = tot s ws) ∧ ∀ t, pAt t R = pAt t ws := by
  unfold tid at h
  split at h
  · rename_i hv
    exact ⟨hv, tidy_some h⟩
  · cases h
theorem tid_again {R : List Wh} (h : Tidy R) : tid R = some R := by
  unfold tid
  rw [if_pos h.ok]
  exact Tidy.again false h
theorem dOf_some {f : Wh → Wh} {ws R : List Wh} (h : dOf f ws = some R) : valid ws = true ∧ Tidy R ∧ (∀ s, tot s R = tot s (ws.map f)) ∧ ∀ t, pAt t R = pAt t (ws.map f) := by
  unfold dOf at h
  split at h
  · rename_i hv
    exact ⟨hv, tidy_some h⟩
  · cases h
theorem dFast_some {n : Int} {ws R : List Wh} (h : dFast n ws = some R) : (-20 ≤ n ∧ n ≤ 20) ∧ dOf (fastW n) ws = some R := by
  unfold dFast at h
  split at h
  · rename_i hn
    exact ⟨hn, h⟩
  · cases h
theorem valid_take {ws : List Wh} (k : Nat) (h : valid ws = true) : valid (ws.take k) = true := by
  unfold valid at *
  simp only [Bool.and_eq_true, decide_eq_true_eq, List.all_eq_true] at *
  exact ⟨by rw [List.length_take]; omega, fun c hc => h.2 c (List.mem_of_mem_take hc)⟩

end Go.Proofs.Ytdbokcbbpegilaa
/- The draws of designs with some symmetry. -/
namespace Go.Proofs.Ytdbokcbbpegilaa
set_option maxRecDepth 20000
open Go.ChangeShapes Go.WideShapes Go.ChangeAt Go.RowKit
set_option linter.unusedVariables false
set_option linter.unusedSimpArgs false

/-! Rings. -/
theorem gear_any (n : Int) (h0 : 6 ≤ n) (h1 : n ≤ 240) (w : World) : Calls Try.prog 140 #[.int .i64 n] w fun e w' => e = .returned (.bool true) ∧ w = w' := by
  have I := fun w => in_yes n 6 240 h0 h1 w
  go_enter Try.func140, Try.ntmps140
  go_wp2_with fail
  refine (I _).mono ?_; rintro e w1 ⟨rfl, rfl⟩
  go_wp2
  go_ret
  exact ⟨rfl, rfl⟩
theorem ring_gcd (a b : Nat) (ha : 6 ≤ a) (hb : b ≤ 240) (ha2 : a ≤ 240) (w : World) : ∃ g : Nat, 1 ≤ g ∧ g ≤ 240 ∧ ∀ w, Calls Try.prog 59 #[.int .i64 a, .int .i64 b] w fun e w' => e = .returned (.int .i64 g) ∧ w = w' := by
  refine ⟨Nat.gcd a b, Nat.gcd_pos_of_pos_left _ (by omega), Nat.le_trans (Nat.gcd_le_left b (by omega)) ha2, fun w => ?_⟩
  exact specGcdZ a b (by omega) (by omega) w
theorem cusps_any (a b : Nat) (ins : Bool) (ha : 6 ≤ a) (ha2 : a ≤ 240) (hb : 6 ≤ b) (hb2 : b ≤ 240) (w : World) :
    Calls Try.prog 123 #[.int .i64 a, .int .i64 b, .bool ins] w fun e w' => (∃ (n : Int), e = .returned (.tuple #[.int .i64 n, .bool (!(ins && decide (a ≤ b)))])) ∧ w = w' := by
  have G1 := fun w => gear_any (a : Int) (by omega) (by omega) w
  have G2 := fun w => gear_any (b : Int) (by omega) (by omega) w
  obtain ⟨g, hg1, hg2, G⟩ := ring_gcd a b ha hb2 ha2 w
  have hgz : ((g : Int) == 0) = false := by simp; omega
  by_cases hi : ins = true ∧ a ≤ b
  · obtain ⟨rfl, hab⟩ := hi
    have hz : (a : Int) ≤ (b : Int) := by omega
    have e : (!(true && decide (a ≤ b))) = false := by simp [hab]
    rw [e]
    clear e
    go_enter Try.func123, Try.ntmps123
    go_wp2_with fail
    refine (G1 _).mono ?_; rintro e w1 ⟨rfl, rfl⟩
    go_wp2_with fail
    refine (G2 _).mono ?_; rintro e w1 ⟨rfl, rfl⟩
    go_wp2_with fail
    go_ret2
    exact ⟨⟨_, rfl⟩, rfl⟩
  · have e : (!(ins && decide (a ≤ b))) = true := by
      cases ins
      · rfl
      · have : ¬ a ≤ b := fun h => hi ⟨rfl, h⟩
        simp [this]
    rw [e]
    clear e
    cases ins
    · go_enter Try.func123, Try.ntmps123
      go_wp2_with fail
      refine (G1 _).mono ?_; rintro e w1 ⟨rfl, rfl⟩
      go_wp2_with fail
      refine (G2 _).mono ?_; rintro e w1 ⟨rfl, rfl⟩
      go_wp2_with fail
      refine (G _).mono ?_; rintro e w1 ⟨rfl, rfl⟩
      go_wp2_with fail
      go_ret2
      exact ⟨⟨_, rfl⟩, rfl⟩
    · have hz : ¬ (a : Int) ≤ (b : Int) := fun h => hi ⟨rfl, by omega⟩
      go_enter Try.func123, Try.ntmps123
      go_wp2_with fail
      refine (G1 _).mono ?_; rintro e w1 ⟨rfl, rfl⟩
      go_wp2_with fail
      refine (G2 _).mono ?_; rintro e w1 ⟨rfl, rfl⟩
      go_wp2_with fail
      refine (G _).mono ?_; rintro e w1 ⟨rfl, rfl⟩
      go_wp2_with fail
      go_ret2
      exact ⟨⟨_, rfl⟩, rfl⟩
/-- A wheel with a whole radius. -/
def numW (s r : Int) : Wh := ⟨s, dn (gau r 0)⟩
theorem number_any (s r : Int) (w : World) : Calls Try.prog 125 #[.int .i64 s, .int .i64 r] w fun e w' => e = .returned (wh (numW s r)) ∧ Below w.heap.size w w' := by
  have G := fun w => specGaussIn_any r 0 w
  have HO : Aside (RowAt (w.alloc (.cells (vec 9 nul) 43)) w.heap.size 9 43 nul) := RowAt.new _ _ _ _
  have HL : Aside (Below w.heap.size w (w.alloc (.cells (vec 9 nul) 43))) := (Below.refl _ _).alloc (Nat.le_refl _) _
  go_enter Try.func125, Try.ntmps125
  go_upto_region 1 with fail
  show Code.wp _ _ _ _ (w.alloc (.cells (vec 9 nul) 43))
  generalize w.alloc (.cells (vec 9 nul) 43) = W at *
  go_wp2_with fail
  refine (G _).mono ?_; rintro e w1 ⟨rfl, hb1⟩
  have HO1 := Lib.hid (HO.out.below hb1)
  have HL1 := Lib.hid (below_next HL.out hb1)
  have e1 : pt (gau r 0) = .agg (vec 8 (dn (gau r 0)).up) := pt_same fun j hj => (up_dn _ j hj).symm
  rw [e1]
  clear G HO HL hb1 e1
  go_wp2_with (first | (refine build_wheel (T := 43) rfl rfl rfl rfl built_wheel ?_; rw [dn_up]) | (refine store_row (ty := 43) (g := w.heap.size) rfl rfl rfl rfl HO1.out info_wheel ?_))
  refine bodyPost_ret (results_row rfl rfl HO1.out.setRow Try.underlying43 rfl info_wheel) rfl ?_
  exact ⟨rfl, below_setRow HL1.out (by omega) _⟩
theorem big_gau (r : Int) (hr : -1000 ≤ r ∧ r ≤ 1000) : Big (dn (gau r 0)) 4000000 := fun j hj => by
  rw [up_dn _ j hj]
  unfold gau
  split
  · omega
  · split <;> omega

/-- A list of two wheels, made on the spot. -/
theorem fill_two (g : Nat → Value) (f h : Nat → Int) : Instr.fill (fun i => some (i * 9, 9)) ((Array.range (2 * 9)).map g) [(0, .agg (vec 9 f)), (1, .agg (vec 9 h))] = some (vec 9 f ++ vec 9 h) := by
  have h1 : (Array.range (2 * 9)).map g = #[g 0, g 1, g 2, g 3, g 4, g 5, g 6, g 7, g 8, g 9, g 10, g 11, g 12, g 13, g 14, g 15, g 16, g 17] := by
    refine Array.ext (by simp) fun i h1 h2 => ?_
    simp only [Array.size_map, Array.size_range, Nat.reduceMul] at h1
    have : i = 0 ∨ i = 1 ∨ i = 2 ∨ i = 3 ∨ i = 4 ∨ i = 5 ∨ i = 6 ∨ i = 7 ∨ i = 8 ∨ i = 9 ∨ i = 10 ∨ i = 11 ∨ i = 12 ∨ i = 13 ∨ i = 14 ∨ i = 15 ∨ i = 16 ∨ i = 17 := by omega
    rcases this with rfl | rfl | rfl | rfl | rfl | rfl | rfl | rfl | rfl | rfl | rfl | rfl | rfl | rfl | rfl | rfl | rfl | rfl <;> simp
  have h2 : ∀ f : Nat → Int, vec 9 f = #[.int .i64 (f 0), .int .i64 (f 1), .int .i64 (f 2), .int .i64 (f 3), .int .i64 (f 4), .int .i64 (f 5), .int .i64 (f 6), .int .i64 (f 7), .int .i64 (f 8)] := fun f => rfl
  rw [h1, h2 f, h2 h]
  simp [Instr.fill, Value.cells]
theorem run_two {P : Program} {t e : TypeId} (ty : Ty9 P t e) (f h : Nat → Int) (w : World) : (Instr.buildSlice t 2 #[(0, .agg (vec 9 f)), (1, .agg (vec 9 h))]).run P w = .ok (.slice (some ⟨w.heap.size, 0, none⟩) 2 2) (w.alloc (.cells (vec 9 f ++ vec 9 h) e)) := by
  obtain ⟨i, z, hi, hz, hs, hby, hzs⟩ := ty.inf
  have hf := fill_two (fun x => z.cells[x % z.cells.size]!) f h
  simp [Instr.buildSlice, run_underlying ty.sl, sizeOf, typeInfo, zeroValue, hi, hz, hs, Sem.run_bind]
  simp only [Nat.reduceMul] at hf
  simp [hf, newRow]
theorem wp_two9 {P : Program} {o : Oper} {a : Act} {w : World} {K : Act → World → Prop} {Q : Exit → Act → World → Prop} {t e : TypeId} (ty : Ty9 P t e) {x y : Operand} {f h : Nat → Int} (ho : o.op = .buildSlice t 2 #[(0, x), (1, y)]) (hx : a.eval x = .agg (vec 9 f)) (hy : a.eval y = .agg (vec 9 h))
    (k : K (a.put o.dst (.slice (some ⟨w.heap.size, 0, none⟩) 2 2)) (w.alloc (.cells (vec 9 f ++ vec 9 h) e))) : o.wp P a w K Q := by
  unfold Oper.wp execOp
  simp only [ho, List.map_toArray, List.map_cons, List.map_nil, hx, hy, Sem.run_bind, run_two ty, Result.andThen_ok]
  exact k
theorem reads_two (w : World) (c d : Wh) (T : Nat) : Reads (w.alloc (.cells (vec 9 (wf c) ++ vec 9 (wf d)) T)) (.slice (some ⟨w.heap.size, 0, none⟩) 2 2) [c, d] := by
  refine ⟨_, 2, rfl, Nat.le_refl _, by simp [maxLen], (fun h => by cases h), fun _ => ⟨_, _, rfl, by simp, fun j v hv => ?_⟩⟩
  rw [Nat.zero_add, cell_of_row _ _ _ _ _ _ (heap_alloc_new w _)]
  rw [flat_cons, flat_one] at hv
  simpa [vec, enc] using hv

/-- What a ring makes: some list, or none. -/
def Some2 (w : World) (e : Ending) (w' : World) : Prop := ∃ o : Option (List Wh), Told w o e w'
theorem quo_small (a g : Int) (M : Nat) (ha : a.natAbs ≤ M) : (a.tdiv g).natAbs ≤ M := by
  rw [Int.natAbs_tdiv]
  exact Nat.le_trans (Nat.div_le_self _ _) ha

set_option maxHeartbeats 4000000 in
theorem ring_any (a b : Nat) (ins : Bool) (pen : Int) (ha : 6 ≤ a) (ha2 : a ≤ 100) (hb : 6 ≤ b) (hb2 : b ≤ 100) (hp : -100 ≤ pen ∧ pen ≤ 100) (w : World) :
    Calls Try.prog 100 #[.int .i64 a, .int .i64 b, .bool ins, .int .i64 pen] w (Some2 w) := by
  have C := fun w => cusps_any a b ins ha (by omega) hb (by omega) w
  have P := fun w => in_yes pen (-300) 300 (by omega) (by omega) w
  obtain ⟨g, hg1, hg2, G⟩ := ring_gcd a b ha (by omega) (by omega) w
  have hgz : ((g : Int) == 0) = false := by simp; omega
  cases hok : (!(ins && decide (a ≤ b)))
  · rw [hok] at C
    go_enter Try.func100, Try.ntmps100
    go_wp2_with fail
    refine (C _).mono ?_; rintro e w1 ⟨⟨n, rfl⟩, rfl⟩
    go_wp2
    go_ret2
    exact ⟨none, (Below.refl _ _).alloc (Nat.le_refl _) _, _, rfl, own_lit w w.heap.size 43 (Nat.le_refl _)⟩
  · rw [hok] at C
    clear hok
    obtain ⟨s1, hs1⟩ : ∃ s1 : Int, (b : Int).tdiv (g : Int) = s1 := ⟨_, rfl⟩
    have b1 : s1.natAbs ≤ 100 := by rw [← hs1]; exact quo_small _ _ 100 (by omega)
    have q1 : IntKind.i64.wrap s1 = s1 := by rw [IntKind.wrap_i64]; omega
    have hg0 : ¬ (g : Int) = 0 := by omega
    have hgn : ¬ g = 0 := by omega
    cases ins
    · have q2 : IntKind.i64.wrap ((a : Int) + (b : Int)) = (a : Int) + (b : Int) := by rw [IntKind.wrap_i64]; omega
      have q3 : IntKind.i64.wrap (0 - pen) = 0 - pen := by rw [IntKind.wrap_i64]; omega
      obtain ⟨r1, hr1⟩ : ∃ r1 : Int, (a : Int) + (b : Int) = r1 := ⟨_, rfl⟩
      obtain ⟨s2, hs2⟩ : ∃ s2 : Int, r1.tdiv (g : Int) = s2 := ⟨_, rfl⟩
      have b2 : s2.natAbs ≤ 200 := by rw [← hs2]; exact quo_small _ _ 200 (by omega)
      have q4 : IntKind.i64.wrap s2 = s2 := by rw [IntKind.wrap_i64]; omega
      obtain ⟨r2, hr2⟩ : ∃ r2 : Int, 0 - pen = r2 := ⟨_, rfl⟩
      rw [hr1] at q2
      rw [hr2] at q3
      have N1 := fun w => number_any s1 r1 w
      have N2 := fun w => number_any s2 r2 w
      have T := fun (v : Value) (w : World) (hv : Reads w v [numW s1 r1, numW s2 r2]) => l5Tidy_any v [numW s1 r1, numW s2 r2] w hv (by simp) (fun c hc => by
        simp only [List.mem_cons, List.not_mem_nil, or_false] at hc
        rcases hc with rfl | rfl
        · exact big_gau r1 (by omega)
        · exact big_gau r2 (by omega))
      generalize numW s1 r1 = c1 at *
      generalize numW s2 r2 = c2 at *
      generalize tidy true [c1, c2] = o at *
      go_enter Try.func100, Try.ntmps100
      go_wp2_with fail
      refine (C _).mono ?_; rintro e w1 ⟨⟨n, rfl⟩, rfl⟩
      go_wp2_with fail
      refine (P _).mono ?_; rintro e w1 ⟨rfl, rfl⟩
      go_wp2_with fail
      refine (G _).mono ?_; rintro e w1 ⟨rfl, rfl⟩
      clear C P G
      go_upto_region 7 with fail
      refine wp_region_held_drew (S := fun w' => Below w.heap.size w w') (by kernel_rfl) (Below.refl _ w).drew (fun hHeld => ?_)
      refine wpAnyH_take (i := 0) (oi := _) (v := .int .i64 b) rfl (by kernel_rfl) (by kernel_rfl) (by kernel_rfl) (fun _ _ _ h => h) (Or.inl ⟨by rfl, fun w h => by go_simp⟩) hHeld ?_
      try simp only [Act.put, List.setIfInBounds_toArray, List.set_cons_zero, List.set_cons_succ, List.getElem_toArray, List.getElem_cons_succ, List.getElem_cons_zero]
      refine wpAnyH_take (i := 1) (oi := _) (v := .int .i64 g) rfl (by kernel_rfl) (by kernel_rfl) (by kernel_rfl) (fun _ _ _ h => h) (Or.inl ⟨by rfl, fun w h => by go_simp⟩) hHeld ?_
      try simp only [Act.put, List.setIfInBounds_toArray, List.set_cons_zero, List.set_cons_succ, List.getElem_toArray, List.getElem_cons_succ, List.getElem_cons_zero]
      refine wpAnyH_take (i := 2) (oi := _) (v := .int .i64 s1) rfl (by kernel_rfl) (by kernel_rfl) (by kernel_rfl) (fun _ _ _ h => h) (Or.inl ⟨by rfl, fun w h => by go_simp⟩) hHeld ?_
      try simp only [Act.put, List.setIfInBounds_toArray, List.set_cons_zero, List.set_cons_succ, List.getElem_toArray, List.getElem_cons_succ, List.getElem_cons_zero]
      refine wpAnyH_take (i := 3) (oi := _) (v := .int .i64 a) rfl (by kernel_rfl) (by kernel_rfl) (by kernel_rfl) (fun _ _ _ h => h) (Or.inl ⟨by rfl, fun w h => by go_simp⟩) hHeld ?_
      try simp only [Act.put, List.setIfInBounds_toArray, List.set_cons_zero, List.set_cons_succ, List.getElem_toArray, List.getElem_cons_succ, List.getElem_cons_zero]
      refine wpAnyH_take (i := 4) (oi := _) (v := .int .i64 b) rfl (by kernel_rfl) (by kernel_rfl) (by kernel_rfl) (fun _ _ _ h => h) (Or.inl ⟨by rfl, fun w h => by go_simp⟩) hHeld ?_
      try simp only [Act.put, List.setIfInBounds_toArray, List.set_cons_zero, List.set_cons_succ, List.getElem_toArray, List.getElem_cons_succ, List.getElem_cons_zero]
      refine wpAnyH_take (i := 5) (oi := _) (v := .int .i64 r1) rfl (by kernel_rfl) (by kernel_rfl) (by kernel_rfl) (fun _ _ _ h => h) (Or.inl ⟨by rfl, fun w h => by go_simp⟩) hHeld ?_
      try simp only [Act.put, List.setIfInBounds_toArray, List.set_cons_zero, List.set_cons_succ, List.getElem_toArray, List.getElem_cons_succ, List.getElem_cons_zero]
      refine wpAnyH_take (i := 7) (oi := _) (v := .int .i64 a) rfl (by kernel_rfl) (by kernel_rfl) (by kernel_rfl) (fun _ _ _ h => h) (Or.inl ⟨by rfl, fun w h => by go_simp⟩) hHeld ?_
      try simp only [Act.put, List.setIfInBounds_toArray, List.set_cons_zero, List.set_cons_succ, List.getElem_toArray, List.getElem_cons_succ, List.getElem_cons_zero]
      refine wpAnyH_take (i := 8) (oi := _) (v := .int .i64 b) rfl (by kernel_rfl) (by kernel_rfl) (by kernel_rfl) (fun _ _ _ h => h) (Or.inl ⟨by rfl, fun w h => by go_simp⟩) hHeld ?_
      try simp only [Act.put, List.setIfInBounds_toArray, List.set_cons_zero, List.set_cons_succ, List.getElem_toArray, List.getElem_cons_succ, List.getElem_cons_zero]
      refine wpAnyH_take (i := 9) (oi := _) (v := .int .i64 r1) rfl (by kernel_rfl) (by kernel_rfl) (by kernel_rfl) (fun _ _ _ h => h) (Or.inl ⟨by rfl, fun w h => by go_simp⟩) hHeld ?_
      try simp only [Act.put, List.setIfInBounds_toArray, List.set_cons_zero, List.set_cons_succ, List.getElem_toArray, List.getElem_cons_succ, List.getElem_cons_zero]
      refine wpAnyH_take (i := 10) (oi := _) (v := .int .i64 g) rfl (by kernel_rfl) (by kernel_rfl) (by kernel_rfl) (fun _ _ _ h => h) (Or.inl ⟨by rfl, fun w h => by go_simp⟩) hHeld ?_
      try simp only [Act.put, List.setIfInBounds_toArray, List.set_cons_zero, List.set_cons_succ, List.getElem_toArray, List.getElem_cons_succ, List.getElem_cons_zero]
      refine wpAnyH_take (i := 11) (oi := _) (v := .int .i64 s2) rfl (by kernel_rfl) (by kernel_rfl) (by kernel_rfl) (fun _ _ _ h => h) (Or.inl ⟨by rfl, fun w h => by go_simp⟩) hHeld ?_
      try simp only [Act.put, List.setIfInBounds_toArray, List.set_cons_zero, List.set_cons_succ, List.getElem_toArray, List.getElem_cons_succ, List.getElem_cons_zero]
      refine wpAnyH_take (i := 12) (oi := _) (v := .int .i64 pen) rfl (by kernel_rfl) (by kernel_rfl) (by kernel_rfl) (fun _ _ _ h => h) (Or.inl ⟨by rfl, fun w h => by go_simp⟩) hHeld ?_
      try simp only [Act.put, List.setIfInBounds_toArray, List.set_cons_zero, List.set_cons_succ, List.getElem_toArray, List.getElem_cons_succ, List.getElem_cons_zero]
      refine wpAnyH_take (i := 13) (oi := _) (v := .int .i64 r2) rfl (by kernel_rfl) (by kernel_rfl) (by kernel_rfl) (fun _ _ _ h => h) (Or.inl ⟨by rfl, fun w h => by go_simp⟩) hHeld ?_
      try simp only [Act.put, List.setIfInBounds_toArray, List.set_cons_zero, List.set_cons_succ, List.getElem_toArray, List.getElem_cons_succ, List.getElem_cons_zero]
      refine wpAnyH_ready (rs := [6]) (by kernel_rfl) (by simp) ?_
      refine AllReadyH.cons (o := _) rfl (fun K hK => ?_) AllReadyH.nil
      go_simp
      refine (N1 _).mono ?_; rintro e w2 ⟨rfl, hb2⟩
      go_wp2_with fail
      refine hK.out _ _ (below_next hHeld hb2) (fun hHeld => ?_)
      clear hK K
      try simp only [Act.put, List.setIfInBounds_toArray, List.set_cons_zero, List.set_cons_succ, List.getElem_toArray, List.getElem_cons_succ, List.getElem_cons_zero]
      clear hb2 N1
      refine wpAnyH_ready (rs := [14]) (by kernel_rfl) (by simp) ?_
      refine AllReadyH.cons (o := _) rfl (fun K hK => ?_) AllReadyH.nil
      go_simp
      refine (N2 _).mono ?_; rintro e w3 ⟨rfl, hb3⟩
      go_wp2_with fail
      refine hK.out _ _ (below_next hHeld hb3) (fun hHeld => ?_)
      clear hK K
      try simp only [Act.put, List.setIfInBounds_toArray, List.set_cons_zero, List.set_cons_succ, List.getElem_toArray, List.getElem_cons_succ, List.getElem_cons_zero]
      clear hb3 N2
      refine wpAnyH_ready (rs := [15]) (by kernel_rfl) (by simp) ?_
      refine AllReadyH.cons (o := _) rfl (fun K hK => ?_) AllReadyH.nil
      rw [if_pos (by rfl)]
      refine wp_two9 tyW rfl rfl rfl ?_
      have hlit := reads_two w3 c1 c2 43
      refine hK.out _ _ (hHeld.alloc hHeld.size _) (fun hHeld => ?_)
      clear hK K
      try simp only [Act.put, List.setIfInBounds_toArray, List.set_cons_zero, List.set_cons_succ, List.getElem_toArray, List.getElem_cons_succ, List.getElem_cons_zero]
      refine wpAnyH_ready (rs := [16]) (by kernel_rfl) (by simp) ?_
      refine AllReadyH.cons (o := _) rfl (fun K hK => ?_) AllReadyH.nil
      go_simp
      refine (T _ _ hlit).mono ?_; rintro e w4 ⟨hb4, v4, rfl, ho4⟩
      go_wp2_with fail
      have HQ : Aside (Told w o (.returned (.tuple #[v4, .bool o.isSome])) w4) := ⟨below_next hHeld hb4, _, rfl, own_mono ho4 hHeld.size⟩
      refine hK.out _ _ (below_next hHeld hb4) (fun hHeld => ?_)
      clear hK K
      try simp only [Act.put, List.setIfInBounds_toArray, List.set_cons_zero, List.set_cons_succ, List.getElem_toArray, List.getElem_cons_succ, List.getElem_cons_zero]
      clear hb4 ho4 T hlit
      refine wpAnyH_take (i := 17) (oi := _) (v := v4) rfl (by kernel_rfl) (by kernel_rfl) (by kernel_rfl) (fun _ _ _ h => h) (Or.inl ⟨by rfl, fun w h => by go_simp⟩) hHeld ?_
      try simp only [Act.put, List.setIfInBounds_toArray, List.set_cons_zero, List.set_cons_succ, List.getElem_toArray, List.getElem_cons_succ, List.getElem_cons_zero]
      refine wpAnyH_take (i := 18) (oi := _) (v := .bool o.isSome) rfl (by kernel_rfl) (by kernel_rfl) (by kernel_rfl) (fun _ _ _ h => h) (Or.inl ⟨by rfl, fun w h => by go_simp⟩) hHeld ?_
      try simp only [Act.put, List.setIfInBounds_toArray, List.set_cons_zero, List.set_cons_succ, List.getElem_toArray, List.getElem_cons_succ, List.getElem_cons_zero]
      refine wpAnyH_take (i := 19) (oi := _) (v := v4) rfl (by kernel_rfl) (by kernel_rfl) (by kernel_rfl) (fun _ _ _ h => h) (Or.inl ⟨by rfl, fun w h => by go_simp⟩) hHeld ?_
      try simp only [Act.put, List.setIfInBounds_toArray, List.set_cons_zero, List.set_cons_succ, List.getElem_toArray, List.getElem_cons_succ, List.getElem_cons_zero]
      refine wpAnyH_take (i := 20) (oi := _) (v := .bool o.isSome) rfl (by kernel_rfl) (by kernel_rfl) (by kernel_rfl) (fun _ _ _ h => h) (Or.inl ⟨by rfl, fun w h => by go_simp⟩) hHeld ?_
      try simp only [Act.put, List.setIfInBounds_toArray, List.set_cons_zero, List.set_cons_succ, List.getElem_toArray, List.getElem_cons_succ, List.getElem_cons_zero]
      refine wpAnyH_done (by kernel_rfl) ?_ _
      clear hHeld
      go_wp2
      go_ret2
      exact ⟨o, HQ.out⟩
    · have q2 : IntKind.i64.wrap ((a : Int) - (b : Int)) = (a : Int) - (b : Int) := by rw [IntKind.wrap_i64]; omega
      have q3 : IntKind.i64.wrap ((b : Int) - (a : Int)) = (b : Int) - (a : Int) := by rw [IntKind.wrap_i64]; omega
      obtain ⟨r1, hr1⟩ : ∃ r1 : Int, (a : Int) - (b : Int) = r1 := ⟨_, rfl⟩
      obtain ⟨r2, hr2⟩ : ∃ r2 : Int, (b : Int) - (a : Int) = r2 := ⟨_, rfl⟩
      obtain ⟨s2, hs2⟩ : ∃ s2 : Int, r2.tdiv (g : Int) = s2 := ⟨_, rfl⟩
      have b2 : s2.natAbs ≤ 200 := by rw [← hs2]; exact quo_small _ _ 200 (by omega)
      have q4 : IntKind.i64.wrap s2 = s2 := by rw [IntKind.wrap_i64]; omega
      rw [hr1] at q2
      rw [hr2] at q3
      have N1 := fun w => number_any s1 r1 w
      have N2 := fun w => number_any s2 pen w
      have T := fun (v : Value) (w : World) (hv : Reads w v [numW s1 r1, numW s2 pen]) => l5Tidy_any v [numW s1 r1, numW s2 pen] w hv (by simp) (fun c hc => by
        simp only [List.mem_cons, List.not_mem_nil, or_false] at hc
        rcases hc with rfl | rfl
        · exact big_gau r1 (by omega)
        · exact big_gau pen (by omega))
      generalize numW s1 r1 = c1 at *
      generalize numW s2 pen = c2 at *
      generalize tidy true [c1, c2] = o at *
      go_enter Try.func100, Try.ntmps100
      go_wp2_with fail
      refine (C _).mono ?_; rintro e w1 ⟨⟨n, rfl⟩, rfl⟩
      go_wp2_with fail
      refine (P _).mono ?_; rintro e w1 ⟨rfl, rfl⟩
      go_wp2_with fail
      refine (G _).mono ?_; rintro e w1 ⟨rfl, rfl⟩
      clear C P G
      go_upto_region 6 with fail
      refine wp_region_held_drew (S := fun w' => Below w.heap.size w w') (by kernel_rfl) (Below.refl _ w).drew (fun hHeld => ?_)
      refine wpAnyH_take (i := 0) (oi := _) (v := .int .i64 b) rfl (by kernel_rfl) (by kernel_rfl) (by kernel_rfl) (fun _ _ _ h => h) (Or.inl ⟨by rfl, fun w h => by go_simp⟩) hHeld ?_
      try simp only [Act.put, List.setIfInBounds_toArray, List.set_cons_zero, List.set_cons_succ, List.getElem_toArray, List.getElem_cons_succ, List.getElem_cons_zero]
      refine wpAnyH_take (i := 1) (oi := _) (v := .int .i64 g) rfl (by kernel_rfl) (by kernel_rfl) (by kernel_rfl) (fun _ _ _ h => h) (Or.inl ⟨by rfl, fun w h => by go_simp⟩) hHeld ?_
      try simp only [Act.put, List.setIfInBounds_toArray, List.set_cons_zero, List.set_cons_succ, List.getElem_toArray, List.getElem_cons_succ, List.getElem_cons_zero]
      refine wpAnyH_take (i := 2) (oi := _) (v := .int .i64 s1) rfl (by kernel_rfl) (by kernel_rfl) (by kernel_rfl) (fun _ _ _ h => h) (Or.inl ⟨by rfl, fun w h => by go_simp⟩) hHeld ?_
      try simp only [Act.put, List.setIfInBounds_toArray, List.set_cons_zero, List.set_cons_succ, List.getElem_toArray, List.getElem_cons_succ, List.getElem_cons_zero]
      refine wpAnyH_take (i := 3) (oi := _) (v := .int .i64 a) rfl (by kernel_rfl) (by kernel_rfl) (by kernel_rfl) (fun _ _ _ h => h) (Or.inl ⟨by rfl, fun w h => by go_simp⟩) hHeld ?_
      try simp only [Act.put, List.setIfInBounds_toArray, List.set_cons_zero, List.set_cons_succ, List.getElem_toArray, List.getElem_cons_succ, List.getElem_cons_zero]
      refine wpAnyH_take (i := 4) (oi := _) (v := .int .i64 b) rfl (by kernel_rfl) (by kernel_rfl) (by kernel_rfl) (fun _ _ _ h => h) (Or.inl ⟨by rfl, fun w h => by go_simp⟩) hHeld ?_
      try simp only [Act.put, List.setIfInBounds_toArray, List.set_cons_zero, List.set_cons_succ, List.getElem_toArray, List.getElem_cons_succ, List.getElem_cons_zero]
      refine wpAnyH_take (i := 5) (oi := _) (v := .int .i64 r1) rfl (by kernel_rfl) (by kernel_rfl) (by kernel_rfl) (fun _ _ _ h => h) (Or.inl ⟨by rfl, fun w h => by go_simp⟩) hHeld ?_
      try simp only [Act.put, List.setIfInBounds_toArray, List.set_cons_zero, List.set_cons_succ, List.getElem_toArray, List.getElem_cons_succ, List.getElem_cons_zero]
      refine wpAnyH_take (i := 7) (oi := _) (v := .int .i64 b) rfl (by kernel_rfl) (by kernel_rfl) (by kernel_rfl) (fun _ _ _ h => h) (Or.inl ⟨by rfl, fun w h => by go_simp⟩) hHeld ?_
      try simp only [Act.put, List.setIfInBounds_toArray, List.set_cons_zero, List.set_cons_succ, List.getElem_toArray, List.getElem_cons_succ, List.getElem_cons_zero]
      refine wpAnyH_take (i := 8) (oi := _) (v := .int .i64 a) rfl (by kernel_rfl) (by kernel_rfl) (by kernel_rfl) (fun _ _ _ h => h) (Or.inl ⟨by rfl, fun w h => by go_simp⟩) hHeld ?_
      try simp only [Act.put, List.setIfInBounds_toArray, List.set_cons_zero, List.set_cons_succ, List.getElem_toArray, List.getElem_cons_succ, List.getElem_cons_zero]
      refine wpAnyH_take (i := 9) (oi := _) (v := .int .i64 r2) rfl (by kernel_rfl) (by kernel_rfl) (by kernel_rfl) (fun _ _ _ h => h) (Or.inl ⟨by rfl, fun w h => by go_simp⟩) hHeld ?_
      try simp only [Act.put, List.setIfInBounds_toArray, List.set_cons_zero, List.set_cons_succ, List.getElem_toArray, List.getElem_cons_succ, List.getElem_cons_zero]
      refine wpAnyH_take (i := 10) (oi := _) (v := .int .i64 g) rfl (by kernel_rfl) (by kernel_rfl) (by kernel_rfl) (fun _ _ _ h => h) (Or.inl ⟨by rfl, fun w h => by go_simp⟩) hHeld ?_
      try simp only [Act.put, List.setIfInBounds_toArray, List.set_cons_zero, List.set_cons_succ, List.getElem_toArray, List.getElem_cons_succ, List.getElem_cons_zero]
      refine wpAnyH_take (i := 11) (oi := _) (v := .int .i64 s2) rfl (by kernel_rfl) (by kernel_rfl) (by kernel_rfl) (fun _ _ _ h => h) (Or.inl ⟨by rfl, fun w h => by go_simp⟩) hHeld ?_
      try simp only [Act.put, List.setIfInBounds_toArray, List.set_cons_zero, List.set_cons_succ, List.getElem_toArray, List.getElem_cons_succ, List.getElem_cons_zero]
      refine wpAnyH_take (i := 12) (oi := _) (v := .int .i64 pen) rfl (by kernel_rfl) (by kernel_rfl) (by kernel_rfl) (fun _ _ _ h => h) (Or.inl ⟨by rfl, fun w h => by go_simp⟩) hHeld ?_
      try simp only [Act.put, List.setIfInBounds_toArray, List.set_cons_zero, List.set_cons_succ, List.getElem_toArray, List.getElem_cons_succ, List.getElem_cons_zero]
      refine wpAnyH_ready (rs := [6]) (by kernel_rfl) (by simp) ?_
      refine AllReadyH.cons (o := _) rfl (fun K hK => ?_) AllReadyH.nil
      go_simp
      refine (N1 _).mono ?_; rintro e w2 ⟨rfl, hb2⟩
      go_wp2_with fail
      refine hK.out _ _ (below_next hHeld hb2) (fun hHeld => ?_)
      clear hK K
      try simp only [Act.put, List.setIfInBounds_toArray, List.set_cons_zero, List.set_cons_succ, List.getElem_toArray, List.getElem_cons_succ, List.getElem_cons_zero]
      clear hb2 N1
      refine wpAnyH_ready (rs := [13]) (by kernel_rfl) (by simp) ?_
      refine AllReadyH.cons (o := _) rfl (fun K hK => ?_) AllReadyH.nil
      go_simp
      refine (N2 _).mono ?_; rintro e w3 ⟨rfl, hb3⟩
      go_wp2_with fail
      refine hK.out _ _ (below_next hHeld hb3) (fun hHeld => ?_)
      clear hK K
      try simp only [Act.put, List.setIfInBounds_toArray, List.set_cons_zero, List.set_cons_succ, List.getElem_toArray, List.getElem_cons_succ, List.getElem_cons_zero]
      clear hb3 N2
      refine wpAnyH_ready (rs := [14]) (by kernel_rfl) (by simp) ?_
      refine AllReadyH.cons (o := _) rfl (fun K hK => ?_) AllReadyH.nil
      rw [if_pos (by rfl)]
      refine wp_two9 tyW rfl rfl rfl ?_
      have hlit := reads_two w3 c1 c2 43
      refine hK.out _ _ (hHeld.alloc hHeld.size _) (fun hHeld => ?_)
      clear hK K
      try simp only [Act.put, List.setIfInBounds_toArray, List.set_cons_zero, List.set_cons_succ, List.getElem_toArray, List.getElem_cons_succ, List.getElem_cons_zero]
      refine wpAnyH_ready (rs := [15]) (by kernel_rfl) (by simp) ?_
      refine AllReadyH.cons (o := _) rfl (fun K hK => ?_) AllReadyH.nil
      go_simp
      refine (T _ _ hlit).mono ?_; rintro e w4 ⟨hb4, v4, rfl, ho4⟩
      go_wp2_with fail
      have HQ : Aside (Told w o (.returned (.tuple #[v4, .bool o.isSome])) w4) := ⟨below_next hHeld hb4, _, rfl, own_mono ho4 hHeld.size⟩
      refine hK.out _ _ (below_next hHeld hb4) (fun hHeld => ?_)
      clear hK K
      try simp only [Act.put, List.setIfInBounds_toArray, List.set_cons_zero, List.set_cons_succ, List.getElem_toArray, List.getElem_cons_succ, List.getElem_cons_zero]
      clear hb4 ho4 T hlit
      refine wpAnyH_take (i := 16) (oi := _) (v := v4) rfl (by kernel_rfl) (by kernel_rfl) (by kernel_rfl) (fun _ _ _ h => h) (Or.inl ⟨by rfl, fun w h => by go_simp⟩) hHeld ?_
      try simp only [Act.put, List.setIfInBounds_toArray, List.set_cons_zero, List.set_cons_succ, List.getElem_toArray, List.getElem_cons_succ, List.getElem_cons_zero]
      refine wpAnyH_take (i := 17) (oi := _) (v := .bool o.isSome) rfl (by kernel_rfl) (by kernel_rfl) (by kernel_rfl) (fun _ _ _ h => h) (Or.inl ⟨by rfl, fun w h => by go_simp⟩) hHeld ?_
      try simp only [Act.put, List.setIfInBounds_toArray, List.set_cons_zero, List.set_cons_succ, List.getElem_toArray, List.getElem_cons_succ, List.getElem_cons_zero]
      refine wpAnyH_take (i := 18) (oi := _) (v := v4) rfl (by kernel_rfl) (by kernel_rfl) (by kernel_rfl) (fun _ _ _ h => h) (Or.inl ⟨by rfl, fun w h => by go_simp⟩) hHeld ?_
      try simp only [Act.put, List.setIfInBounds_toArray, List.set_cons_zero, List.set_cons_succ, List.getElem_toArray, List.getElem_cons_succ, List.getElem_cons_zero]
      refine wpAnyH_take (i := 19) (oi := _) (v := .bool o.isSome) rfl (by kernel_rfl) (by kernel_rfl) (by kernel_rfl) (fun _ _ _ h => h) (Or.inl ⟨by rfl, fun w h => by go_simp⟩) hHeld ?_
      try simp only [Act.put, List.setIfInBounds_toArray, List.set_cons_zero, List.set_cons_succ, List.getElem_toArray, List.getElem_cons_succ, List.getElem_cons_zero]
      refine wpAnyH_done (by kernel_rfl) ?_ _
      clear hHeld
      go_wp2
      go_ret2
      exact ⟨o, HQ.out⟩

/-- A design drawn off a reader, of whatever length. -/
def DrewX (w : World) (R p c : Nat) (e : Ending) (w' : World) : Prop :=
  ∃ (v : Value) (ws : List Wh) (q : Nat), e = .returned v ∧ q ≤ p + c ∧ Rd w' R q ∧ w.grownBy w' (some R) ∧ Reads w' v ws

set_option maxHeartbeats 4000000 in
theorem design2_drawn (R p : Nat) (w : World) (h : Rd w R p) (hp : p ≤ 700000) :
    Calls Try.prog 55 #[.pointer (some ⟨R, 0, none⟩)] w (DrewX w R p 200) := by
  have hlt := h.lt
  have P1 := Lib.hid (pick_any R p 4 w h (by omega) (by omega))
  clear h
  go_enter Try.func55, Try.ntmps55
  go_wp2_with fail
  refine P1.out.mono ?_; rintro e w1 ⟨n, rfl, n0, n1, hr1, hg1⟩
  clear P1
  go_upto_block 0 with fail
  go_cut [2, 3, 4] from 10 (fun _ _ _ wx => ∃ q, q ≤ p + 5 ∧ Aside (Rd wx R q) ∧ Aside (w.grownBy wx (some R)))
  case first =>
    by_cases e0 : n = 0
    · subst e0
      have D := Lib.hid (design_drawn R (p + 1) w1 hr1 (by omega))
      have HG := Lib.hid hg1
      clear hr1 hg1
      go_wp2_with fail
      refine D.out.mono ?_; rintro e w2 ⟨v2, ws, q, rfl, hq, hl, hr2, hg2, ho2⟩
      have HR2 := Lib.hid hr2
      have HG2 := Lib.hid (only_trans' HG.out hg2)
      have HO := Lib.hid (own_reads ho2)
      clear D hr2 hg2 ho2 HG
      go_wp2
      go_ret
      exact ⟨v2, ws, q, rfl, by omega, HR2.out, HG2.out, HO.out⟩
    · have e0' : (n == 0) = false := by simpa using e0
      by_cases e1 : n = 1
      · subst e1
        have P2 := Lib.hid (pick_any R (p + 1) 30 w1 hr1 (by omega) (by omega))
        have HG1 := Lib.hid hg1
        clear hr1 hg1 e0 e0'
        go_wp2_with fail
        refine P2.out.mono ?_; rintro e w2 ⟨k1, rfl, k10, k11, hr2, hg2⟩
        have P3 := Lib.hid (pick_any R (p + 1 + 1) 12 w2 hr2 (by omega) (by omega))
        have HG2 := Lib.hid (only_trans' HG1.out hg2)
        obtain ⟨a, ha⟩ : ∃ a : Nat, 6 + k1 = (a : Int) := ⟨(6 + k1).toNat, by omega⟩
        have wa : IntKind.i64.wrap (a : Int) = (a : Int) := by rw [IntKind.wrap_i64]; omega
        clear P2 hr2 hg2 HG1
        go_wp2_with fail
        refine P3.out.mono ?_; rintro e w3 ⟨k2, rfl, k20, k21, hr3, hg3⟩
        have P4 := Lib.hid (pick_any R (p + 1 + 1 + 1) 2 w3 hr3 (by omega) (by omega))
        have HG3 := Lib.hid (only_trans' HG2.out hg3)
        obtain ⟨b, hb⟩ : ∃ b : Nat, 6 + k2 = (b : Int) := ⟨(6 + k2).toNat, by omega⟩
        have wb : IntKind.i64.wrap (b : Int) = (b : Int) := by rw [IntKind.wrap_i64]; omega
        clear P3 hr3 hg3 HG2
        go_wp2_with fail
        refine P4.out.mono ?_; rintro e w4 ⟨k3, rfl, k30, k31, hr4, hg4⟩
        have P5 := Lib.hid (pick_any R (p + 1 + 1 + 1 + 1) 20 w4 hr4 (by omega) (by omega))
        have HG4 := Lib.hid (only_trans' HG3.out hg4)
        obtain ⟨ins, hins⟩ : ∃ ins : Bool, (k3 == 0) = ins := ⟨_, rfl⟩
        clear P4 hr4 hg4 HG3
        go_wp2_with fail
        refine P5.out.mono ?_; rintro e w5 ⟨k4, rfl, k40, k41, hr5, hg5⟩
        obtain ⟨pen, hpen⟩ : ∃ pen : Int, k4 - 10 = pen := ⟨_, rfl⟩
        have wp : IntKind.i64.wrap pen = pen := by rw [IntKind.wrap_i64]; omega
        have RG := Lib.hid (ring_any a b ins pen (by omega) (by omega) (by omega) (by omega) (by omega) w5)
        have HR5 := Lib.hid hr5
        have HG5 := Lib.hid (only_trans' HG4.out hg5)
        clear P5 hr5 hg5 HG4
        go_wp2_with fail
        refine RG.out.mono ?_; rintro e w6 ⟨o, hb6, v6, rfl, ho6⟩
        have HR6 := Lib.hid (HR5.out.below hb6)
        have HG6 := Lib.hid (only_trans' HG5.out (only_below hb6 (some R)))
        have HO6 := Lib.hid (own_reads ho6)
        clear RG HR5 HG5 hb6 ho6
        cases o with
        | none =>
          go_wp2
          go_meet
          case rel => exact ⟨p + 1 + 1 + 1 + 1 + 1, by omega, HR6, HG6⟩
        | some L =>
          go_wp2
          go_ret
          exact ⟨v6, L, p + 1 + 1 + 1 + 1 + 1, rfl, by omega, HR6.out, HG6.out, HO6.out⟩
      · have e1' : (n == 1) = false := by simpa using e1
        have HR := Lib.hid hr1
        have HG := Lib.hid hg1
        clear hr1 hg1
        go_wp2
        go_meet
        case rel => exact ⟨p + 1, by omega, HR, HG⟩
  case rest =>
    obtain ⟨q0, hq0, HR0, HG0⟩ := hcut
    clear hr1 hg1
    have P2 := Lib.hid (pick_any R q0 4 _ HR0.out (by omega) (by omega))
    go_wp2_with fail
    refine P2.out.mono ?_; rintro e w2 ⟨k1, rfl, k10, k11, hr2, hg2⟩
    have P3 := Lib.hid (pick_any R (q0 + 1) 5 w2 hr2 (by omega) (by omega))
    have HG2 := Lib.hid (only_trans' HG0.out hg2)
    obtain ⟨st, hst⟩ : ∃ st : Int, 1 + k1 = st := ⟨_, rfl⟩
    have wst : IntKind.i64.wrap st = st := by rw [IntKind.wrap_i64]; omega
    clear P2 hr2 hg2 HG0 HR0
    go_wp2_with fail
    refine P3.out.mono ?_; rintro e w3 ⟨k2, rfl, k20, k21, hr3, hg3⟩
    obtain ⟨fi, hfi⟩ : ∃ fi : Int, k2 - 2 = fi := ⟨_, rfl⟩
    have wfi : IntKind.i64.wrap fi = fi := by rw [IntKind.wrap_i64]; omega
    have hg3a := only_trans' HG2.out hg3
    have hr3a := hr3.alloc (.cells #[] 43)
    have hg3b := only_alloc hg3a (.cells #[] 43)
    have ho3 := own_lit w3 w.heap.size 43 hg3a.size
    have P4 := Lib.hid (pick_any R (q0 + 1 + 1) 3 _ hr3a (by omega) (by omega))
    clear P3 hr3 hg3 HG2 hg3a hr3a
    go_wp2_with fail
    refine P4.out.mono ?_; rintro e w4 ⟨k3, rfl, k30, k31, hr4, hg4⟩
    obtain ⟨mm, hmm⟩ : ∃ mm : Nat, 1 + k3 = (mm : Int) := ⟨(1 + k3).toNat, by omega⟩
    have wmm : IntKind.i64.wrap (mm : Int) = (mm : Int) := by rw [IntKind.wrap_i64]; omega
    have HR4 := Lib.hid hr4
    have HG4 := Lib.hid (only_trans' hg3b hg4)
    have HO4 := Lib.hid (own_kept ho3 hg4 hlt)
    clear P4 hr4 hg4 hg3b ho3
    go_wp2
    go_loopw [7, 9] (fun s7 i wr => ∃ (k : Nat) (ws : List Wh) (q : Nat), k ≤ mm ∧ i = .int .i64 k ∧ ws.length = k ∧ q ≤ p + 8 + 22 * k ∧ Rd wr R q ∧ w.grownBy wr (some R) ∧ Own wr w.heap.size 43 s7 ws) (fun _ i _ => mm - (intOf i).toNat)
    case atStart => exact ⟨0, [], q0 + 1 + 1 + 1, Nat.zero_le _, rfl, rfl, by omega, HR4.out, HG4.out, HO4.out⟩
    case round =>
      obtain ⟨k, ws, q, hk, rfl, hlen, hq, hr, hg, ho⟩ := hrel
      by_cases hkm : k < mm
      · have hkz : (k : Int) < (mm : Int) := by omega
        have P5 := Lib.hid (pick_any R q 5 wr hr (by omega) (by omega))
        go_wp2_with fail
        refine P5.out.mono ?_; rintro e w5 ⟨s, rfl, s0, s1, hr5, hg5⟩
        have hg6 := only_trans' hg hg5
        have ho6 := own_kept ho hg5 hlt
        obtain ⟨u, hu⟩ : ∃ u : Int, s - 2 = u := ⟨_, rfl⟩
        have wu : IntKind.i64.wrap u = u := by rw [IntKind.wrap_i64]; omega
        have hm0 := mul_in2 (x := st) (y := u) 5 5 (by omega) (by omega)
        obtain ⟨m1, hm1⟩ : ∃ m1 : Int, st * u = m1 := ⟨_, rfl⟩
        rw [hm1] at hm0
        obtain ⟨sp, hsp⟩ : ∃ sp : Int, fi + m1 = sp := ⟨_, rfl⟩
        have wm1 : IntKind.i64.wrap m1 = m1 := by rw [IntKind.wrap_i64]; omega
        have wsp : IntKind.i64.wrap sp = sp := by rw [IntKind.wrap_i64]; omega
        have C := Lib.hid (cyc_drawn R (q + 1) w5 hr5 (by omega))
        clear P5 hr hg5 hg ho hr5
        go_wp2_with fail
        refine C.out.mono ?_; rintro e w6 ⟨f, q3, rfl, hq3, hr6, hg7⟩
        have HG7 := Lib.hid (only_trans' hg6 hg7)
        have HO7 := Lib.hid (own_kept ho6 hg7 hlt)
        have HR7 := Lib.hid hr6
        clear C hg6 ho6 hg7 hr6
        go_wp2_with (first | (refine build_wheel rfl rfl rfl rfl built_wheel ?_) | (refine one9 tyW rfl rfl rfl ?_) |
          (refine append_drawn tyW rfl rfl (xs := ws) (ys := [⟨sp, dn f⟩]) rfl rfl (HO7.out.alloc _) (reads_lit _ _ _) (by simp; omega) (only_alloc HG7.out _) (HR7.out.alloc _) hlt ?_; intro v5 w7 ho5 hr5 hg5))
        have HO5 := Lib.hid ho5
        have HR5 := Lib.hid hr5
        have HG5 := Lib.hid hg5
        clear ho5 hr5 hg5 HG7 HO7 HR7
        go_wp2
        go_roundw
        case rel => exact ⟨k + 1, ws ++ [⟨sp, dn f⟩], q3, by omega, by go_num, by simp; omega, by omega, HR5.out, HG5.out, HO5.out⟩
        case measure => simp [intOf]; omega
      · have hkz : ¬ (k : Int) < (mm : Int) := by omega
        have HR := Lib.hid hr
        have HG := Lib.hid hg
        have HO := Lib.hid (own_reads ho)
        clear hr hg ho
        go_wp2
        go_ret
        exact ⟨_, ws, q, rfl, by omega, HR.out, HG.out, HO.out⟩

end Go.Proofs.Ytdbokcbbpegilaa
/- What the draws of chapter 7's laws hand back. -/
namespace Go.Proofs.Ytdbokcbbpegilaa
set_option maxRecDepth 20000
open Go.ChangeShapes Go.WideShapes Go.ChangeAt Go.RowKit
set_option linter.unusedVariables false
set_option linter.unusedSimpArgs false

/-- A list stays where the code is read on. -/
theorem reads_apart {w w' : World} {R q : Nat} {v : Value} {ws : List Wh} (h : Reads w v ws) (hr : Rd w R q) (hg : w.grownBy w' (some R)) : Reads w' v ws := by
  obtain ⟨p, cap, h1, h2, h3, h4, h5⟩ := h
  refine ⟨p, cap, h1, h2, h3, h4, fun hn => ?_⟩
  obtain ⟨g, o, e, hlt, hra⟩ := h5 hn
  refine ⟨g, o, e, Nat.lt_of_lt_of_le hlt hg.size, ?_⟩
  cases hws : ws with
  | nil => exact fun j v hv => by simp [flat] at hv
  | cons c cs =>
    rw [← hws]
    have hne : g ≠ R := by
      rintro rfl
      obtain ⟨a, ha, -⟩ := hr
      have hl : 8 < (flat ws).length := by rw [flat_length, hws]; simp; omega
      have := hra 8 _ (List.getElem?_eq_getElem hl)
      simp [World.cell?, ha] at this
    exact fun j v hv => hg.cell (hra j v hv) (by simpa using hne)

theorem drawDesignFold (v : Value) (w : World) (h : CodeAt w v) : Calls Try.prog 17 #[v] w (DrewD w) := by
  have O := Lib.hid (open_any v w h)
  clear h
  go_enter Try.func17, Try.ntmps17
  go_wp2_with fail
  refine O.out.mono ?_; rintro e w1 ⟨rfl, hr, hb⟩
  have D := Lib.hid (design2_drawn _ _ w1 hr (by omega))
  have z1 := hr.lt
  clear hr O
  go_wp2_with fail
  refine D.out.mono ?_; rintro e w2 ⟨v2, ws, q, rfl, hq, hr2, hg2, ho2⟩
  have HB := Lib.hid (below_only hb hg2 hb.size (Nat.le_refl _))
  have HO := Lib.hid ho2
  clear D hb hr2 hg2 ho2
  go_wp2
  go_ret
  exact ⟨v2, ws, rfl, HO.out, HB.out⟩

theorem drawDesignPeriod (v : Value) (w : World) (h : CodeAt w v) : Calls Try.prog 24 #[v] w (DrewD w) := by
  have O := Lib.hid (open_any v w h)
  clear h
  go_enter Try.func24, Try.ntmps24
  go_wp2_with fail
  refine O.out.mono ?_; rintro e w1 ⟨rfl, hr, hb⟩
  have D := Lib.hid (design2_drawn _ _ w1 hr (by omega))
  have z1 := hr.lt
  clear hr O
  go_wp2_with fail
  refine D.out.mono ?_; rintro e w2 ⟨v2, ws, q, rfl, hq, hr2, hg2, ho2⟩
  have HB := Lib.hid (below_only hb hg2 hb.size (Nat.le_refl _))
  have HO := Lib.hid ho2
  clear D hb hr2 hg2 ho2
  go_wp2
  go_ret
  exact ⟨v2, ws, rfl, HO.out, HB.out⟩

theorem drawDesignSpeeds (v : Value) (w : World) (h : CodeAt w v) : Calls Try.prog 29 #[v] w (DrewD w) := by
  have O := Lib.hid (open_any v w h)
  clear h
  go_enter Try.func29, Try.ntmps29
  go_wp2_with fail
  refine O.out.mono ?_; rintro e w1 ⟨rfl, hr, hb⟩
  have D := Lib.hid (design2_drawn _ _ w1 hr (by omega))
  have z1 := hr.lt
  clear hr O
  go_wp2_with fail
  refine D.out.mono ?_; rintro e w2 ⟨v2, ws, q, rfl, hq, hr2, hg2, ho2⟩
  have HB := Lib.hid (below_only hb hg2 hb.size (Nat.le_refl _))
  have HO := Lib.hid ho2
  clear D hb hr2 hg2 ho2
  go_wp2
  go_ret
  exact ⟨v2, ws, rfl, HO.out, HB.out⟩

theorem drawDesignStill (v : Value) (w : World) (h : CodeAt w v) : Calls Try.prog 35 #[v] w (DrewD w) := by
  have O := Lib.hid (open_any v w h)
  clear h
  go_enter Try.func35, Try.ntmps35
  go_wp2_with fail
  refine O.out.mono ?_; rintro e w1 ⟨rfl, hr, hb⟩
  have D := Lib.hid (design2_drawn _ _ w1 hr (by omega))
  have z1 := hr.lt
  clear hr O
  go_wp2_with fail
  refine D.out.mono ?_; rintro e w2 ⟨v2, ws, q, rfl, hq, hr2, hg2, ho2⟩
  have HB := Lib.hid (below_only hb hg2 hb.size (Nat.le_refl _))
  have HO := Lib.hid ho2
  clear D hb hr2 hg2 ho2
  go_wp2
  go_ret
  exact ⟨v2, ws, rfl, HO.out, HB.out⟩

theorem drawDesignCentre (v : Value) (w : World) (h : CodeAt w v) : Calls Try.prog 41 #[v] w (DrewD w) := by
  have O := Lib.hid (open_any v w h)
  clear h
  go_enter Try.func41, Try.ntmps41
  go_wp2_with fail
  refine O.out.mono ?_; rintro e w1 ⟨rfl, hr, hb⟩
  have D := Lib.hid (design2_drawn _ _ w1 hr (by omega))
  have z1 := hr.lt
  clear hr O
  go_wp2_with fail
  refine D.out.mono ?_; rintro e w2 ⟨v2, ws, q, rfl, hq, hr2, hg2, ho2⟩
  have HB := Lib.hid (below_only hb hg2 hb.size (Nat.le_refl _))
  have HO := Lib.hid ho2
  clear D hb hr2 hg2 ho2
  go_wp2
  go_ret
  exact ⟨v2, ws, rfl, HO.out, HB.out⟩

/-! A design and how many points. -/
abbrev ofCells : Array Value := #[.int .i64 1, .int .i64 2, .int .i64 3, .int .i64 4, .int .i64 6, .int .i64 8, .int .i64 12, .int .i64 24, .int .i64 5, .int .i64 0]
theorem of_at (k : Nat) (hk : k < 10) : ∃ d : Int, ofCells[k]? = some (.int .i64 d) ∧ 0 ≤ d ∧ d ≤ 24 := by
  have key : ∀ j : Fin 10, ∃ d : Fin 25, ofCells[j.val]? = some (.int .i64 ((d.val : Nat) : Int)) := by
    intro j
    match j with
    | 0 => exact ⟨1, rfl⟩
    | 1 => exact ⟨2, rfl⟩
    | 2 => exact ⟨3, rfl⟩
    | 3 => exact ⟨4, rfl⟩
    | 4 => exact ⟨6, rfl⟩
    | 5 => exact ⟨8, rfl⟩
    | 6 => exact ⟨12, rfl⟩
    | 7 => exact ⟨24, rfl⟩
    | 8 => exact ⟨5, rfl⟩
    | 9 => exact ⟨0, rfl⟩
  obtain ⟨d, hd⟩ := key ⟨k, hk⟩
  exact ⟨_, hd, by omega, by omega⟩
def PickOf (W : World) (R p : Nat) (cell : World → Nat → Option Value) (e : Ending) (w' : World) : Prop :=
  ∃ (k : Nat) (d : Int), e = .returned (.int .i64 k) ∧ (k : Int) < 10 ∧ 0 ≤ d ∧ d ≤ 24 ∧ cell w' k = some (.int .i64 d) ∧ Hid (Rd w' R p) ∧ Hid (W.grownBy w' (some R))
theorem ofA (W : World) (R p : Nat) (h : Rd W R p) (hp : p ≤ 900000) : Calls Try.prog 71 #[.pointer (some ⟨R, 0, none⟩), .int .i64 10] (W.alloc (.cells ofCells 3)).drew
    (PickOf W R (p + 1) fun w' k => w'.cell? ⟨W.heap.size, k, none⟩) := by
  have hlt := h.lt
  have hd : Rd (W.alloc (.cells ofCells 3)).drew R p := (h.alloc _).keep (row := none) ⟨rfl, rfl, rfl, Nat.le_refl _, fun _ _ _ => rfl⟩ (fun g e => by cases e)
  refine (pick_any R p 10 _ hd (by omega) (by omega)).mono ?_
  rintro e w' ⟨k, rfl, k0, k1, hr, hg⟩
  obtain ⟨j, rfl⟩ : ∃ j : Nat, k = j := ⟨k.toNat, by omega⟩
  obtain ⟨d, hd, d0, d1⟩ := of_at j (by omega)
  refine ⟨j, d, rfl, by omega, d0, d1, ?_, Lib.hid hr, Lib.hid ?_⟩
  · exact hg.cell (a := ⟨W.heap.size, j, none⟩) ((World.cell?_alloc_at _ _ _ _ rfl).trans hd) (by simp; omega)
  · exact only_trans' (b := (W.alloc (.cells ofCells 3)).drew) ⟨rfl, rfl, rfl, by simp [World.drew], fun i hi _ => Below.heap_alloc W _ i hi⟩ hg
theorem ofB (W : World) (R p : Nat) (h : Rd W R p) (hp : p ≤ 900000) : Calls Try.prog 71 #[.pointer (some ⟨R, 0, none⟩), .int .i64 10] W.drew
    (PickOf W R (p + 1) fun w' k => (w'.alloc (.cells ofCells 3)).cell? ⟨w'.heap.size, k, none⟩) := by
  have hd : Rd W.drew R p := h.keep (row := none) ⟨rfl, rfl, rfl, Nat.le_refl _, fun _ _ _ => rfl⟩ (fun g e => by cases e)
  refine (pick_any R p 10 _ hd (by omega) (by omega)).mono ?_
  rintro e w' ⟨k, rfl, k0, k1, hr, hg⟩
  obtain ⟨j, rfl⟩ : ∃ j : Nat, k = j := ⟨k.toNat, by omega⟩
  obtain ⟨d, hd, d0, d1⟩ := of_at j (by omega)
  refine ⟨j, d, rfl, by omega, d0, d1, (World.cell?_alloc_at _ _ _ _ rfl).trans hd, Lib.hid hr, Lib.hid ?_⟩
  exact only_trans' (b := W.drew) ⟨rfl, rfl, rfl, Nat.le_refl _, fun _ _ _ => rfl⟩ hg
def DrewOf (w : World) (e : Ending) (w' : World) : Prop := ∃ (v : Value) (ws : List Wh) (n : Int), e = .returned (.tuple #[v, .int .i64 n]) ∧ 0 ≤ n ∧ n ≤ 24 ∧ Reads w' v ws ∧ Below w.heap.size w w'
set_option maxHeartbeats 1000000 in
theorem drawDesignClosed (v : Value) (w : World) (h : CodeAt w v) : Calls Try.prog 38 #[v] w (DrewOf w) := by
  have O := Lib.hid (open_any v w h)
  clear h
  go_enter Try.func38, Try.ntmps38
  go_wp2_with fail
  refine O.out.mono ?_; rintro e w1 ⟨rfl, hr, hb⟩
  have z1 := hr.lt
  have D := Lib.hid (design2_drawn _ _ w1 hr (by omega))
  have HB := Lib.hid hb
  clear hr O hb
  go_wp2_with fail
  refine D.out.mono ?_; rintro e w2 ⟨v2, ws, q, rfl, hq, hr2, hg2, ho2⟩
  have HB2 := Lib.hid (below_only HB.out hg2 HB.out.size (Nat.le_refl _))
  have HO2 := Lib.hid (fun (w' : World) (hg : w2.grownBy w' (some w.heap.size)) => reads_apart ho2 hr2 hg)
  have DA := Lib.hid (ofA w2 _ _ hr2 (by omega))
  have DB := Lib.hid (ofB w2 _ _ hr2 (by omega))
  clear D hr2 hg2 ho2 HB
  go_wp2_with fail
  go_region_with (first
    | (go_at_call 71; ((with_reducible refine DA.out.mono ?_); rintro e w3 ⟨k, d, rfl, k1, d0, d1, hc, hr3, hg3⟩))
    | (go_at_call 71; ((with_reducible refine DB.out.mono ?_); rintro e w3 ⟨k, d, rfl, k1, d0, d1, hc, hr3, hg3⟩)))
  all_goals
    have z3 := hg3.out.size
    have HB3 := Lib.hid (below_only HB2.out hg3.out HB2.out.size (Nat.le_refl _))
    have HO3 := Lib.hid (HO2.out _ hg3.out)
    clear hr3 hg3 HB2 HO2 DA DB
    go_wp2_with fail
    go_ret2
    first
      | exact ⟨_, ws, _, rfl, d0, d1, HO3.out, HB3.out⟩
      | exact ⟨_, ws, _, rfl, d0, d1, HO3.out.below ((Below.refl _ _).alloc (Nat.le_refl _) _), HB3.out.alloc HB3.out.size _⟩

/-! Two designs, often akin. -/
set_option maxHeartbeats 2000000 in
theorem drawDesignAkin (v : Value) (w : World) (h : CodeAt w v) : Calls Try.prog 32 #[v] w (DrewDs w) := by
  have O := Lib.hid (open_any v w h)
  clear h
  go_enter Try.func32, Try.ntmps32
  go_wp2_with fail
  refine O.out.mono ?_; rintro e w1 ⟨rfl, hr, hb⟩
  have z1 := hr.lt
  have D := Lib.hid (design2_drawn _ _ w1 hr (by omega))
  have HB := Lib.hid hb
  clear hr O hb
  go_wp2_with fail
  refine D.out.mono ?_; rintro e w2 ⟨v2, ws, q, rfl, hq, hr2, hg2, hd2⟩
  have HB2 := Lib.hid (below_only HB.out hg2 HB.out.size (Nat.le_refl _))
  have HD2 := Lib.hid hd2
  have HR2 := Lib.hid hr2
  have P := Lib.hid (pick_any _ q 24 w2 hr2 (by omega) (by omega))
  clear D hr2 hg2 hd2 HB
  go_wp2_with fail
  refine P.out.mono ?_; rintro e w3 ⟨n, rfl, n0, n1, hr3, hg3⟩
  obtain ⟨a, rfl⟩ : ∃ j : Nat, n = j := ⟨n.toNat, by omega⟩
  have HB3 := Lib.hid (below_only HB2.out hg3 HB2.out.size (Nat.le_refl _))
  have HD3 := Lib.hid (reads_apart HD2.out HR2.out hg3)
  have L := Lib.hid (specLater_yes v2 a (by omega) ws w3 HD3.out)
  have HR3 := Lib.hid hr3
  clear P hr3 hg3 HB2 HD2 HR2
  go_wp2_with fail
  refine L.out.mono ?_; rintro e w4 ⟨hb4, v4, rfl, ho4⟩
  have z3 := HR3.out.lt
  have HR4 := Lib.hid (HR3.out.below hb4)
  have HB4 := Lib.hid (below_next HB3.out hb4)
  have HD4 := Lib.hid (HD3.out.below hb4)
  have HO4 := Lib.hid ho4
  clear L ho4 hb4 HB3 HR3
  generalize sOf (laterW (a : Int)) ws = o1 at *
  have P := Lib.hid (pick_any _ _ 24 w4 HR4.out (by omega) (by omega))
  go_wp2_with fail
  refine P.out.mono ?_; rintro e w5 ⟨m, rfl, m0, m1, hr5, hg5⟩
  obtain ⟨b, rfl⟩ : ∃ j : Nat, m = j := ⟨m.toNat, by omega⟩
  have HB5 := Lib.hid (below_only HB4.out hg5 HB4.out.size (Nat.le_refl _))
  have HD5 := Lib.hid (reads_apart HD4.out HR4.out hg5)
  have HO5 := Lib.hid (own_kept HO4.out hg5 z3)
  have HR5 := Lib.hid hr5
  have L := Lib.hid (specTurned_yes v4 b (by omega) (got o1) w5 (own_reads HO5.out))
  clear P hr5 hg5 HB4 HD4 HR4 HO4
  go_wp2_with fail
  refine L.out.mono ?_; rintro e w6 ⟨hb6, v6, rfl, ho6⟩
  have z5 := HR5.out.lt
  have HR6 := Lib.hid (HR5.out.below hb6)
  have HB6 := Lib.hid (below_next HB5.out hb6)
  have HD6 := Lib.hid (HD5.out.below hb6)
  have HO6 := Lib.hid ho6
  clear L ho6 hb6 HB5 HR5 HD5 HO5 HD3
  generalize sOf (turnW b) (got o1) = o2 at *
  have REST : ∀ {q' : Nat} {w' : World}, Hid (Rd w' w.heap.size q') → q' ≤ 600000 → Hid (Below w.heap.size w w') → Hid (Reads w' v2 ws) → Calls Try.prog 55 #[.pointer (some ⟨w.heap.size, 0, none⟩)] w' fun e w'' => ∃ (v' : Value) (ws' : List Wh), e = .returned v' ∧ Hid (Reads w'' v' ws') ∧ Hid (Reads w'' v2 ws) ∧ Hid (Below w.heap.size w w'') := by
    intro q' w' h1 hq h2 h3
    refine (design2_drawn _ q' w' h1.out (by omega)).mono ?_
    rintro e w'' ⟨v', ws', q2, rfl, hq2, hr, hg, hd⟩
    exact ⟨v', ws', rfl, Lib.hid hd, Lib.hid (reads_apart h3.out h1.out hg), Lib.hid (below_only h2.out hg h2.out.size (Nat.le_refl _))⟩
  have hq6 : q + 1 + 1 ≤ 600000 := by omega
  cases hb1 : o1.isSome
  · rw [hb1] at *
    go_wp2_with fail
    refine (REST HR6 hq6 HB6 HD6).mono ?_; rintro e w7 ⟨v7, ws7, rfl, h1, h2, h3⟩
    go_wp2
    go_ret2
    exact ⟨v2, v7, ws, ws7, rfl, h2.out, h1.out, h3.out⟩
  · cases hb2 : o2.isSome
    · rw [hb1, hb2] at *
      go_wp2_with fail
      refine (REST HR6 hq6 HB6 HD6).mono ?_; rintro e w7 ⟨v7, ws7, rfl, h1, h2, h3⟩
      go_wp2
      go_ret2
      exact ⟨v2, v7, ws, ws7, rfl, h2.out, h1.out, h3.out⟩
    · rw [hb1, hb2] at *
      have P := Lib.hid (pick_any _ _ 4 w6 HR6.out (by omega) (by omega))
      go_wp2_with fail
      refine P.out.mono ?_; rintro e w7 ⟨c, rfl, c0, c1, hr7, hg7⟩
      have HB7 := Lib.hid (below_only HB6.out hg7 HB6.out.size (Nat.le_refl _))
      have HD7 := Lib.hid (reads_apart HD6.out HR6.out hg7)
      have HO7 := Lib.hid (own_reads (own_kept HO6.out hg7 z5))
      have HR7 := Lib.hid hr7
      clear P hr7 hg7 HB6 HD6 HR6 HO6
      by_cases hc : 0 < c
      · go_wp2
        go_ret2
        exact ⟨v2, v6, ws, got o2, rfl, HD7.out, HO7.out, HB7.out⟩
      · go_wp2_with fail
        refine (REST HR7 (by omega) HB7 HD7).mono ?_; rintro e w8 ⟨v8, ws8, rfl, h1, h2, h3⟩
        go_wp2
        go_ret2
        exact ⟨v2, v8, ws, ws8, rfl, h2.out, h1.out, h3.out⟩

end Go.Proofs.Ytdbokcbbpegilaa
