/-
  Out of the text PolyS: what the draws of polygons need.
  Out of the text PolyA: what the draws of polygons need.
  Out of the text PolyB: what the draws of polygons need.
  Out of the text PolyT: what the draws of polygons need.
-/
import Derived.Test.YtdpakhggpgdgbaaGreatM08
import Derived.Test.YtdpakhggpgdgbaaGreatM07
import Derived.Test.YtdpakhggpgdgbaaGreatM15
import Derived.Test.YtdpakhggpgdgbaaGreatM06
/- Out of the text PolyS: what the draws of polygons need. -/
namespace Go.Proofs.YtdpakhggpgdgbaaGreat
set_option maxRecDepth 20000
open Go.ChangeShapes Go.WideShapes Go.ChangeAt Go.RowKit
set_option linter.unusedVariables false
set_option linter.unusedSimpArgs false
/-- Coefficients of a size of at most m. -/
def smallF (m : Int) (f : Nat → Int) : Bool := (List.range 8).all fun k => decide (-m ≤ f k ∧ f k ≤ m)
theorem smallF_iff {m : Int} {f : Nat → Int} : smallF m f = true ↔ ∀ j, j < 8 → -m ≤ f j ∧ f j ≤ m := by
  unfold smallF
  simp only [List.all_eq_true, List.mem_range, decide_eq_true_iff]
theorem smallF_no {m : Int} {f : Nat → Int} {k : Nat} (hk : k < 8) (h : ¬ (-m ≤ f k ∧ f k ≤ m)) : smallF m f = false := by
  cases e : smallF m f
  · rfl
  · exact absurd (smallF_iff.1 e k hk) h
set_option maxHeartbeats 1000000 in
theorem l8Small_any (a : Nat → Int) (m : Int) (hm : 0 ≤ m ∧ m ≤ 1000000) (w : World) :
    Calls Tryz.prog 36 #[pt a, .int .i64 m] w fun e w' => e = .returned (.bool (smallF m a)) ∧ Below w.heap.size w w' := by
  have sa := vec_size 8 a
  unfold pt
  have e1 : IntKind.i64.wrap (0 - m) = -m := by rw [IntKind.wrap_i64]; omega
  go_enter Tryz.func36, Tryz.ntmps36
  go_upto_region 1 with fail
  show Code.wp _ _ _ _ (box0 w a 40)
  obtain ⟨hA, hL⟩ := box0_facts w a 40
  generalize box0 w a 40 = W at *
  go_wp2_with fail
  go_loopw [5] (fun i wr => ∃ k : Nat, k ≤ 8 ∧ i = .int .i64 k ∧ (∀ j, j < k → -m ≤ a j ∧ a j ≤ m) ∧ RowAt wr w.heap.size 8 40 a ∧ Below w.heap.size w wr) (fun i _ => 8 - (intOf i).toNat)
  case atStart => exact ⟨0, Nat.zero_le _, rfl, fun j hj => absurd hj (by omega), hA, hL⟩
  case round =>
    clear hA hL
    obtain ⟨k, hk, rfl, hin, hA, hL⟩ := hrel
    by_cases hlt : k < 8
    · have hlt' : (k : Int) < 8 := by omega
      have hk0 : (0 : Int) ≤ (k : Int) := by omega
      have cA := hA.cell hlt
      have HA := Lib.hid hA
      have HL := Lib.hid hL
      have HI := Lib.hid hin
      clear hA hL hin
      by_cases hc : -m ≤ a k ∧ a k ≤ m
      · have G := fun w => in_yes (a k) (-m) m hc.1 hc.2 w
        go_wp2_with fail
        refine (G _).mono ?_; rintro e w' ⟨rfl, rfl⟩
        clear G
        go_wp2_with fail
        go_roundw
        case rel => exact ⟨k + 1, by omega, by go_num, upto_succ HI.out hc, HA.out, HL.out⟩
        case measure => simp [intOf]; omega
      · have G := fun w => in_no (a k) (-m) m (by omega) w
        go_wp2_with fail
        refine (G _).mono ?_; rintro e w' ⟨rfl, rfl⟩
        clear G
        go_wp2_with fail
        go_ret
        exact ⟨ret_bool (smallF_no hlt hc).symm, HL.out⟩
    · obtain rfl : k = 8 := by omega
      have HL := Lib.hid hL; have HI := Lib.hid hin
      clear hA hL hin
      go_wp2_with fail
      go_ret
      exact ⟨ret_bool (smallF_iff.2 HI.out).symm, HL.out⟩
set_option maxHeartbeats 1000000 in
theorem specIm_wide (a : Nat → Int) (ha : ∀ j, j < 8 → -1000000000000 ≤ a j ∧ a j ≤ 1000000000000) (w : World) : Calls Tryz.prog 40 #[.agg (vec 8 a)] w fun e w' => e = .returned (.agg (vec 4 (ima a))) ∧ Below w.heap.size w w' := by
  have h0 := ha 0 (by omega); have h1 := ha 1 (by omega); have h2 := ha 2 (by omega); have h3 := ha 3 (by omega); have h4 := ha 4 (by omega); have h5 := ha 5 (by omega); have h6 := ha 6 (by omega); have h7 := ha 7 (by omega)
  clear ha
  change Calls Tryz.prog 40 #[.agg #[.int .i64 (a 0), .int .i64 (a 1), .int .i64 (a 2), .int .i64 (a 3), .int .i64 (a 4), .int .i64 (a 5), .int .i64 (a 6), .int .i64 (a 7)]] w fun e w' => e = .returned (.agg #[.int .i64 (2 * a 2 + 4 * a 6), .int .i64 (0 - a 1 + 2 * a 3 + a 5 + a 7), .int .i64 (2 * a 4), .int .i64 (a 1 + a 5 + a 7)]) ∧ Below w.heap.size w w'
  go_enter Tryz.func40, Tryz.ntmps40
  go_wp2
  simp [bodyPost, results, Tryz.results40, go_sem]
  exact below_three _ _ _ _
set_option maxHeartbeats 1000000 in
theorem specRe_wide (a : Nat → Int) (ha : ∀ j, j < 8 → -1000000000000 ≤ a j ∧ a j ≤ 1000000000000) (w : World) : Calls Tryz.prog 54 #[.agg (vec 8 a)] w fun e w' => e = .returned (.agg (vec 4 (rea a))) ∧ Below w.heap.size w w' := by
  have h0 := ha 0 (by omega); have h1 := ha 1 (by omega); have h2 := ha 2 (by omega); have h3 := ha 3 (by omega); have h4 := ha 4 (by omega); have h5 := ha 5 (by omega); have h6 := ha 6 (by omega); have h7 := ha 7 (by omega)
  clear ha
  change Calls Tryz.prog 54 #[.agg #[.int .i64 (a 0), .int .i64 (a 1), .int .i64 (a 2), .int .i64 (a 3), .int .i64 (a 4), .int .i64 (a 5), .int .i64 (a 6), .int .i64 (a 7)]] w fun e w' => e = .returned (.agg #[.int .i64 (4 * a 0 + 2 * a 4), .int .i64 (a 1 + 2 * a 3 - a 5 + a 7), .int .i64 (2 * a 2), .int .i64 (a 1 + a 5 - a 7)]) ∧ Below w.heap.size w w'
  go_enter Tryz.func54, Tryz.ntmps54
  go_wp2
  simp [bodyPost, results, Tryz.results54, go_sem]
  exact below_three _ _ _ _
theorem small_inR {a : Nat → Int} {M : Nat} (h : ∀ j, j < 8 → -(M : Int) ≤ a j ∧ a j ≤ M) (hM : M ≤ 1000) : InR a := fun j hj => by have := h j hj; omega
def boxX (w : World) (a b : Nat → Int) (T O : TypeId) : World := ((w.alloc (.cells (vec 8 a) T)).alloc (.cells (vec 8 b) T)).alloc (.cells (vec 4 nul) O)
theorem boxX_facts (w : World) (a b : Nat → Int) (T O : TypeId) : RowAt (boxX w a b T O) w.heap.size 8 T a ∧ RowAt (boxX w a b T O) (w.heap.size + 1) 8 T b ∧ RowAt (boxX w a b T O) (w.heap.size + 1 + 1) 4 O nul ∧ Below w.heap.size w (boxX w a b T O) :=
  ⟨((RowAt.newAt rfl rfl).alloc _).alloc _, (RowAt.newAt rfl (by simp)).alloc _, RowAt.newAt rfl (by simp), (((Below.refl _ _).alloc (Nat.le_refl _) _).alloc (by simp) _).alloc (by simp; omega) _⟩
set_option maxHeartbeats 1000000 in
theorem l8Cross_any (a b : Nat → Int) {M : Nat} (hM : M ≤ 1000) (ha : ∀ j, j < 8 → -(M : Int) ≤ a j ∧ a j ≤ M) (hb : ∀ j, j < 8 → -(M : Int) ≤ b j ∧ b j ≤ M) (w : World) :
    Calls Tryz.prog 41 #[pt a, pt b] w fun e w' => e = .returned (.agg (vec 4 (crs a b))) ∧ Below w.heap.size w w' := by
  have hm := mir_small ha
  have A := fun w => specMirror_any a (small_inR ha hM) w
  have B := fun w => specTimes_any (mir a) b (fun j hj => by have := hm j hj; omega) (small_inR hb hM) w
  have hp := prd_small hm hb
  have hMM : M * M ≤ 1000 * 1000 := Nat.mul_le_mul hM hM
  have hk : 8 * (2 * M * (4 * M)) ≤ 1000000000000 := by
    have e : 8 * (2 * M * (4 * M)) = 64 * (M * M) := by rw [Nat.mul_mul_mul_comm]; omega
    omega
  have C := fun w => specIm_wide (prd (mir a) b) (fun j hj => by have := hp j hj; omega) w
  unfold crs
  unfold pt at *
  clear hm hp hk hMM ha hb
  generalize ima (prd (mir a) b) = r at *
  generalize prd (mir a) b = q at *
  generalize mir a = c at *
  have sa := vec_size 8 a
  have sb := vec_size 8 b
  go_enter Tryz.func41, Tryz.ntmps41
  go_upto_region 1 with fail
  show Code.wp _ _ _ _ (boxX w a b 40 32)
  obtain ⟨hA, hB, hO, hL⟩ := boxX_facts w a b 40 32
  generalize boxX w a b 40 32 = W at *
  refine wp_region_held_drew (S := fun w' => RowAt w' w.heap.size 8 40 a ∧ RowAt w' (w.heap.size + 1) 8 40 b ∧ (∃ f, RowAt w' (w.heap.size + 1 + 1) 4 32 f) ∧ Below w.heap.size w w') (by kernel_rfl) ⟨hA.drew1, hB.drew1, ⟨_, hO.drew1⟩, hL.drew⟩ (fun hHeld => ?_)
  clear hA hB hO hL
  refine wpAnyH_take (i := 0) (oi := _) (v := .agg (vec 8 a)) rfl (by kernel_rfl) (by kernel_rfl) (by kernel_rfl) (fun _ _ _ h => h) (yieldsIf_load_mid (by rfl) _ _ rfl _ _ rfl _ _ ((fun w h => h.1.range)) Tryz.underlying40 rfl (size_cyc8 a)) hHeld ?_
  try simp only [Act.put, List.setIfInBounds_toArray, List.set_cons_zero, List.set_cons_succ, List.getElem_toArray, List.getElem_cons_succ, List.getElem_cons_zero]
  refine wpAnyH_take (i := 2) (oi := _) (v := .agg (vec 8 b)) rfl (by kernel_rfl) (by kernel_rfl) (by kernel_rfl) (fun _ _ _ h => h) (yieldsIf_load_mid (by rfl) _ _ rfl _ _ rfl _ _ ((fun w h => h.2.1.range)) Tryz.underlying40 rfl (size_cyc8 b)) hHeld ?_
  try simp only [Act.put, List.setIfInBounds_toArray, List.set_cons_zero, List.set_cons_succ, List.getElem_toArray, List.getElem_cons_succ, List.getElem_cons_zero]
  refine wpAnyH_ready (rs := [1]) (by kernel_rfl) (by simp) ?_
  refine AllReadyH.cons (o := _) rfl (fun K hK => ?_) AllReadyH.nil
  go_simp
  refine (A _).mono ?_; rintro e w1 ⟨rfl, hb1⟩
  go_wp2_with fail
  obtain ⟨h1, h2, ⟨_, h3⟩, h4⟩ := hHeld
  refine hK.out _ _ ⟨h1.below hb1, h2.below hb1, ⟨_, h3.below hb1⟩, below_next h4 hb1⟩ (fun hHeld => ?_)
  clear hK K
  try simp only [Act.put, List.setIfInBounds_toArray, List.set_cons_zero, List.set_cons_succ, List.getElem_toArray, List.getElem_cons_succ, List.getElem_cons_zero]
  clear h1 h2 h3 h4 hb1 A
  refine wpAnyH_ready (rs := [3]) (by kernel_rfl) (by simp) ?_
  refine AllReadyH.cons (o := _) rfl (fun K hK => ?_) AllReadyH.nil
  go_simp
  refine (B _).mono ?_; rintro e w2 ⟨rfl, hb1⟩
  go_wp2_with fail
  obtain ⟨h1, h2, ⟨_, h3⟩, h4⟩ := hHeld
  refine hK.out _ _ ⟨h1.below hb1, h2.below hb1, ⟨_, h3.below hb1⟩, below_next h4 hb1⟩ (fun hHeld => ?_)
  clear hK K
  try simp only [Act.put, List.setIfInBounds_toArray, List.set_cons_zero, List.set_cons_succ, List.getElem_toArray, List.getElem_cons_succ, List.getElem_cons_zero]
  clear h1 h2 h3 h4 hb1 B
  refine wpAnyH_ready (rs := [4]) (by kernel_rfl) (by simp) ?_
  refine AllReadyH.cons (o := _) rfl (fun K hK => ?_) AllReadyH.nil
  go_simp
  refine (C _).mono ?_; rintro e w3 ⟨rfl, hb1⟩
  go_wp2_with fail
  obtain ⟨h1, h2, ⟨_, h3⟩, h4⟩ := hHeld
  refine hK.out _ _ ⟨h1.below hb1, h2.below hb1, ⟨_, h3.below hb1⟩, below_next h4 hb1⟩ (fun hHeld => ?_)
  clear hK K
  try simp only [Act.put, List.setIfInBounds_toArray, List.set_cons_zero, List.set_cons_succ, List.getElem_toArray, List.getElem_cons_succ, List.getElem_cons_zero]
  clear h1 h2 h3 h4 hb1 C
  refine wpAnyH_ready (rs := [5]) (by kernel_rfl) (by simp) ?_
  refine AllReadyH.cons (o := _) rfl (fun K hK => ?_) AllReadyH.nil
  rw [if_pos (by rfl)]
  obtain ⟨h1, h2, ⟨_, h3⟩, h4⟩ := hHeld
  refine store_step (f' := r) rfl rfl rfl h3 info_surd ?_
  have hG := h3.setRow (f' := r)
  have hF := below_setRow h4 (g := w.heap.size + 1 + 1) (by omega) (vec 4 r)
  refine hK.out _ _ ⟨h1.rowOther _ _ (by omega), h2.rowOther _ _ (by omega), ⟨_, hG⟩, hF⟩ (fun hHeld => ?_)
  clear hK K
  try simp only [Act.put, List.setIfInBounds_toArray, List.set_cons_zero, List.set_cons_succ, List.getElem_toArray, List.getElem_cons_succ, List.getElem_cons_zero]
  clear h1 h2 h3 h4 hHeld
  refine wpAnyH_done (by kernel_rfl) ?_ _
  go_wp2
  refine bodyPost_ret (results_row rfl rfl hG Tryz.underlying32 rfl info_surd) rfl ?_
  exact ⟨rfl, hF⟩

/-- A polygon. -/
def polyOk (xs : List V) : Bool := xs.all (fun c => smallF 100 c.up) && decide (1 ≤ xs.length ∧ xs.length ≤ 48)
theorem polyOk_bad {xs : List V} {k : Nat} {c : V} (hc : xs[k]? = some c) (h : smallF 100 c.up = false) : polyOk xs = false := by
  unfold polyOk
  have : xs.all (fun c => smallF 100 c.up) = false := by
    rw [List.all_eq_false]
    exact ⟨c, List.mem_of_getElem? hc, by simp [h]⟩
  rw [this]; rfl
theorem polyAll_take {xs : List V} {k : Nat} {c : V} (h : (xs.take k).all (fun c => smallF 100 c.up) = true) (hc : xs[k]? = some c) (h1 : smallF 100 c.up = true) : (xs.take (k + 1)).all (fun c => smallF 100 c.up) = true := by
  rw [take_nextV hc, List.all_append, h]
  simp [h1]
set_option maxHeartbeats 2000000 in
theorem specPolyValid_any (v : Value) (xs : List V) (w : World) (hv : ReadsL encV w v xs) : Calls Tryz.prog 35 #[v] w fun e w' => e = .returned (.bool (polyOk xs)) ∧ Below w.heap.size w w' := by
  obtain ⟨p, cap, rfl, hc1, hc2, hp0, hp⟩ := hv
  simp only [maxLen] at hc2
  have HP := Lib.hid hp
  clear hp
  generalize hres : polyOk xs = res
  have HRES := Lib.hid hres
  clear hres
  go_enter Tryz.func35, Tryz.ntmps35
  go_wp2
  go_loopw [3] (fun i wr => ∃ k : Nat, k ≤ xs.length ∧ i = .int .i64 k ∧ Aside ((xs.take k).all (fun c => smallF 100 c.up) = true) ∧ Aside (Below w.heap.size w wr)) (fun i _ => xs.length - (intOf i).toNat)
  case atStart => exact ⟨0, Nat.zero_le _, rfl, Lib.hid rfl, Lib.hid (Below.refl _ _)⟩
  case round =>
    obtain ⟨k, hk, rfl, HA, HL⟩ := hrel
    by_cases hlt : k < xs.length
    · have hkz : (k : Int) < (xs.length : Int) := by omega
      have hk0 : (0 : Int) ≤ (k : Int) := by omega
      obtain ⟨c, hc⟩ : ∃ c, xs[k]? = some c := ⟨_, List.getElem?_eq_getElem hlt⟩
      obtain ⟨g, o, rfl, hg, hr⟩ := HP.out (by rintro rfl; have := hp0 rfl; omega)
      have HE := Lib.hid (cells_part encV_ok (cells_below hr hg HL.out) hc)
      have HC := Lib.hid hc
      have C := fun w => l8Small_any c.up 100 (by omega) w
      clear hr hc
      cases h1 : smallF 100 c.up
      · have HF : Aside (res = false) := (show res = false from by rw [← HRES.out]; exact polyOk_bad HC.out h1)
        rw [h1] at C
        go_wp2_with (first | (refine load_part (T := 40) (f := c.up) rfl rfl rfl HE.out Tryz.underlying40 rfl info_cyc ?_))
        refine (C _).mono ?_; rintro e w2 ⟨rfl, hb2⟩
        have HL2 := Lib.hid (below_next HL.out hb2)
        clear C hb2
        go_wp2
        go_ret
        exact ⟨by rw [HF.out]; rfl, HL2.out⟩
      · rw [h1] at C
        go_wp2_with (first | (refine load_part (T := 40) (f := c.up) rfl rfl rfl HE.out Tryz.underlying40 rfl info_cyc ?_))
        refine (C _).mono ?_; rintro e w2 ⟨rfl, hb2⟩
        have HL2 := Lib.hid (below_next HL.out hb2)
        clear C hb2
        go_wp2
        go_roundw
        case rel => exact ⟨k + 1, by omega, by go_num, Lib.hid (polyAll_take HA.out HC.out h1), HL2⟩
        case measure => simp [intOf]; omega
    · obtain rfl : k = xs.length := by omega
      have HF : Aside (res = decide (1 ≤ xs.length ∧ xs.length ≤ 48)) := (show res = _ from by
        have ha := HA.out
        rw [List.take_length] at ha
        rw [← HRES.out]; unfold polyOk; rw [ha, Bool.true_and])
      clear HA
      by_cases hin : 1 ≤ xs.length ∧ xs.length ≤ 48
      · have LN := fun w => in_yes (xs.length : Int) 1 48 (by omega) (by omega) w
        go_wp2_with fail
        refine (LN _).mono ?_; rintro e w2 ⟨rfl, rfl⟩
        clear LN
        go_wp2
        go_ret
        exact ⟨by rw [HF.out, decide_eq_true hin]; rfl, HL.out⟩
      · have LN := fun w => in_no (xs.length : Int) 1 48 (by omega) w
        go_wp2_with fail
        refine (LN _).mono ?_; rintro e w2 ⟨rfl, rfl⟩
        clear LN
        go_wp2
        go_ret
        exact ⟨by rw [HF.out, decide_eq_false hin]; rfl, HL.out⟩

section
variable {P : Program} {ops : Array Oper} {rest : List Oper} {o : Oper} {a : Act} {Q : Exit → Act → World → Prop} {w : World}
/-- A point that is read behind a test. -/
theorem load_pt_on {T : TypeId} {d : TypeDesc} {g p : Nat} {f : Nat → Int} (hw : Region.wanted o (yielded ops a.tmps) = true) {x : Operand} (ho : o.op = .load T x) (hx : a.eval x = .pointer (some ⟨g, p, none⟩)) (hr : w.rangeAt g p (lst 8 f))
    (hu : P.underlying T = some d) (hd : d.isRow = true) (hi : (P.info? T).map (·.size) = some 8)
    (h : wpList P ops Q rest (a.put o.dst (pt f)) w) : wpList P ops Q (o :: rest) a w :=
  wpList_step fun K hK => by
    rw [if_pos hw]
    exact wp_load_mid T x ho g p hx (lst 8 f) d hr hu hd (by rw [lst_length]; exact hi) (hK _ _ h)
end
end Go.Proofs.YtdpakhggpgdgbaaGreat
/- Out of the text PolyA: what the draws of polygons need. -/
namespace Go.Proofs.YtdpakhggpgdgbaaGreat
set_option maxRecDepth 20000
open Go.ChangeShapes Go.WideShapes Go.ChangeAt Go.RowKit
set_option linter.unusedVariables false
set_option linter.unusedSimpArgs false
theorem turned_wide (a : Nat → Int) (t : Nat) (ht : t ≤ 23) (ha : ∀ j, j < 8 → -1000000000000 ≤ a j ∧ a j ≤ 1000000000000) (w : World) :
    Calls Tryz.prog 120 #[pt a, .int .i64 t] w fun e w' => e = .returned (pt (trn a t)) ∧ Below w.heap.size w w' := by
  have sa := vec_size 8 a
  have TB := trn_bound (a := a) (B := 1000000000000) (by omega) (fun j hj => ha j hj) t
  have P : ∀ w, Calls Tryz.prog 119 #[.agg (vec 24 (tpow a t 8))] w fun e w' => e = .returned (pt (trn a t)) ∧ Below w.heap.size w w' := fun w => point_any (tpow a t 8) (fun j hj => by have := TB j; omega) w
  clear TB
  unfold pt
  go_enter Tryz.func120, Tryz.ntmps120
  go_upto_region 1 with fail
  go_cut [2, 4, 5] (fun s2 s4 s5 wx => s2 = .pointer (some ⟨w.heap.size, 0, none⟩) ∧ s4 = .pointer (some ⟨w.heap.size + 1, 0, none⟩) ∧ s5 = .pointer (some ⟨w.heap.size + 1 + 1, 0, none⟩) ∧ RowAt wx w.heap.size 8 82 a ∧ RowAt wx (w.heap.size + 1) 8 82 nul ∧ RowAt wx (w.heap.size + 1 + 1) 24 141 nul ∧ Below w.heap.size w wx)
  case first =>
    go_wp2_with fail
    go_meet
    exact ⟨rfl, rfl, rfl, ((RowAt.newAt rfl (by simp)).alloc _).alloc _, (RowAt.newAt zero8 (by simp)).alloc _, RowAt.newAt zero24 (by simp), (((Below.refl _ _).alloc (Nat.le_refl _) _).alloc (by simp) _).alloc (by simp; omega) _⟩
  case rest =>
  obtain ⟨rfl, rfl, rfl, hA0, hO0, hP0, hbel0⟩ := hcut
  go_wp2_with (refine load_row rfl rfl rfl hA0 Tryz.underlying82 rfl info_exact ?_)
  go_loopw [9] (fun i wr => ∃ k : Nat, k ≤ 8 ∧ i = .int .i64 k ∧ RowAt wr (w.heap.size + 1) 8 82 nul ∧ RowAt wr (w.heap.size + 1 + 1) 24 141 (tpow a t k) ∧ Below w.heap.size w wr) (fun i _ => 8 - (intOf i).toNat)
  case atStart => exact ⟨0, Nat.zero_le _, rfl, hO0, hP0.same (fun j _ => by simp [nul, tpow]), hbel0⟩
  case round =>
    obtain ⟨k, hk, rfl, hO, hP, hbel⟩ := hrel
    by_cases hlt : k < 8
    · have ix := fun w => index_exact a hlt w
      have hlt' : (k : Int) < 8 := by omega
      have hk0 : (0 : Int) ≤ (k : Int) := by omega
      have C := fun w => turnPlus_any k t (by omega) (by omega) w
      have hr : (k + t) % 24 < 24 := by omega
      have hP3 := (hP.set hr (a k)).same (tpow_step a t k ht hlt)
      have cP := hP.cell hr
      have fP := hP.free ((k + t) % 24)
      generalize tpow a t k ((k + t) % 24) = y at cP
      generalize (k + t) % 24 = r at *
      have hr' : (r : Int) < 24 := by omega
      have hr0 : (0 : Int) ≤ (r : Int) := by omega
      have HP := Lib.hid hP3
      have HO := Lib.hid (hO.other ⟨w.heap.size + 1 + 1, r, none⟩ (.int .i64 (a k)) (by simp; try omega))
      have HL := Lib.hid (hbel.setCell (p := ⟨w.heap.size + 1 + 1, r, none⟩) (by simp; omega) (.int .i64 (a k)))
      clear hP3 hO hP hbel hA0 hO0 hP0 hbel0
      go_wp2_with fail
      refine (C _).mono ?_; rintro e w' ⟨rfl, rfl⟩
      clear C
      go_wp2_with fail
      go_roundw
      case rel => exact ⟨k + 1, by omega, by go_num, HO.out, HP.out, HL.out⟩
      case measure => simp [intOf]; omega
    · obtain rfl : k = 8 := by omega
      have HO := Lib.hid hO; have HL := Lib.hid hbel; have HP := Lib.hid hP
      clear hA0 hO0 hP0 hbel0 hO hP hbel
      go_wp2_with (refine load_row rfl rfl rfl HP.out Tryz.underlying141 rfl info_powers ?_)
      refine (P _).mono ?_; rintro e w2 ⟨rfl, hb2⟩
      have hO2 := (HO.out).below hb2
      have hL2 := below_next HL.out hb2
      have z2 := (HO.out).lt
      clear P
      go_wp2_with (refine store_row rfl rfl rfl rfl hO2 info_exact ?_)
      refine bodyPost_ret (results_row rfl rfl hO2.setRow Tryz.underlying82 rfl info_exact) rfl ?_
      exact ⟨rfl, below_setRow hL2 (by omega) _⟩

theorem imag_wide (a : Nat → Int) (ha : ∀ j, j < 8 → -100000000000 ≤ a j ∧ a j ≤ 100000000000) (w : World) : Calls Tryz.prog 110 #[pt a] w fun e w' => e = .returned (p4 (ima a)) ∧ Below w.heap.size w w' := by
  have T := fun w => turned_wide a 18 (by omega) (fun j hj => by have := ha j hj; omega) w
  have B := trn_bound (B := 100000000000) (by omega) ha 18
  have M := fun w => realPart_any (trn a 18) (fun j _ => by have b0 := B j; have b1 := B (j + 4); have b2 := B (j + 8); have b3 := B (j + 12); have b4 := B (j + 16); have b5 := B (j + 20); simp only [trn, red]; split <;> omega) w
  rw [← ima_rea] at M
  generalize trn a 18 = b at *
  have sa := vec_size 8 a
  generalize ima a = c at *
  clear B
  unfold pt p4 at *
  go_enter Tryz.func110, Tryz.ntmps110
  go_upto_region 1 with fail
  show Code.wp _ _ _ _ (boxP w a 82 60)
  obtain ⟨hA, hO, hL⟩ := boxP_facts w a 82 60
  generalize boxP w a 82 60 = W at *
  go_wp2_with (refine load_row rfl rfl rfl hA Tryz.underlying82 rfl info_exact ?_)
  refine (T _).mono ?_; rintro e w2 ⟨rfl, hb2⟩
  have hO2 := hO.below hb2
  have hL2 := below_next hL hb2
  clear hA hO hL hb2 T
  go_wp2_with fail
  refine (M _).mono ?_; rintro e w3 ⟨rfl, hb3⟩
  have hO3 := hO2.below hb3
  have hL3 := below_next hL2 hb3
  clear hO2 hL2 hb3 M
  go_wp2_with (refine store_row rfl rfl rfl rfl hO3 info_radical ?_)
  refine bodyPost_ret (results_row rfl rfl hO3.setRow Tryz.underlying60 rfl info_radical) rfl ?_
  exact ⟨rfl, below_setRow hL3 (by omega) _⟩

theorem prd_mir_small {a b : Nat → Int} {M : Nat} (hM : M ≤ 1000) (ha : ∀ j, j < 8 → -(M : Int) ≤ a j ∧ a j ≤ M) (hb : ∀ j, j < 8 → -(M : Int) ≤ b j ∧ b j ≤ M) : ∀ j, j < 8 → -((64 * (M * M) : Nat) : Int) ≤ prd (mir a) b j ∧ prd (mir a) b j ≤ ((64 * (M * M) : Nat) : Int) := fun j hj => by
  have h := prd_small (mir_small ha) hb j hj
  have e : 8 * (2 * M * (4 * M)) = 64 * (M * M) := by rw [Nat.mul_mul_mul_comm]; omega
  rw [e] at h
  exact h
theorem crs_small {a b : Nat → Int} {M : Nat} (hM : M ≤ 1000) (ha : ∀ j, j < 8 → -(M : Int) ≤ a j ∧ a j ≤ M) (hb : ∀ j, j < 8 → -(M : Int) ≤ b j ∧ b j ≤ M) : ∀ j, j < 4 → -((6 * (64 * (M * M)) : Nat) : Int) ≤ crs a b j ∧ crs a b j ≤ ((6 * (64 * (M * M)) : Nat) : Int) :=
  ima_small (prd_mir_small hM ha hb)
theorem dts_small {a b : Nat → Int} {M : Nat} (hM : M ≤ 1000) (ha : ∀ j, j < 8 → -(M : Int) ≤ a j ∧ a j ≤ M) (hb : ∀ j, j < 8 → -(M : Int) ≤ b j ∧ b j ≤ M) : ∀ j, j < 4 → -((6 * (64 * (M * M)) : Nat) : Int) ≤ dts a b j ∧ dts a b j ≤ ((6 * (64 * (M * M)) : Nat) : Int) :=
  rea_small (prd_mir_small hM ha hb)
set_option maxHeartbeats 1000000 in
theorem cross_any (a b : Nat → Int) {M : Nat} (hM : M ≤ 1000) (ha : ∀ j, j < 8 → -(M : Int) ≤ a j ∧ a j ≤ M) (hb : ∀ j, j < 8 → -(M : Int) ≤ b j ∧ b j ≤ M) (w : World) :
    Calls Tryz.prog 84 #[pt a, pt b] w fun e w' => e = .returned (.agg (vec 4 (crs a b))) ∧ Below w.heap.size w w' := by
  have hm := mir_small ha
  have A := fun w => mirrored_any a (small_inR ha hM) w
  have B := fun w => times_any (mir a) b (fun j hj => by have := hm j hj; omega) (small_inR hb hM) w
  have hp := prd_mir_small hM ha hb
  have hMM : M * M ≤ 1000 * 1000 := Nat.mul_le_mul hM hM
  have C := fun w => imag_wide (prd (mir a) b) (fun j hj => by have := hp j hj; omega) w
  unfold crs
  unfold pt p4 at *
  clear hm hp hMM ha hb
  generalize ima (prd (mir a) b) = r at *
  generalize prd (mir a) b = q at *
  generalize mir a = c at *
  have sa := vec_size 8 a
  have sb := vec_size 8 b
  go_enter Tryz.func84, Tryz.ntmps84
  go_upto_region 1 with fail
  show Code.wp _ _ _ _ (boxX w a b 82 60)
  obtain ⟨hA, hB, hO, hL⟩ := boxX_facts w a b 82 60
  generalize boxX w a b 82 60 = W at *
  refine wp_region_held_drew (S := fun w' => RowAt w' w.heap.size 8 82 a ∧ RowAt w' (w.heap.size + 1) 8 82 b ∧ (∃ f, RowAt w' (w.heap.size + 1 + 1) 4 60 f) ∧ Below w.heap.size w w') (by kernel_rfl) ⟨hA.drew1, hB.drew1, ⟨_, hO.drew1⟩, hL.drew⟩ (fun hHeld => ?_)
  clear hA hB hO hL
  refine wpAnyH_take (i := 0) (oi := _) (v := .agg (vec 8 a)) rfl (by kernel_rfl) (by kernel_rfl) (by kernel_rfl) (fun _ _ _ h => h) (yieldsIf_load_mid (by rfl) _ _ rfl _ _ rfl _ _ ((fun w h => h.1.range)) Tryz.underlying82 rfl (size_exact a)) hHeld ?_
  try simp only [Act.put, List.setIfInBounds_toArray, List.set_cons_zero, List.set_cons_succ, List.getElem_toArray, List.getElem_cons_succ, List.getElem_cons_zero]
  refine wpAnyH_take (i := 2) (oi := _) (v := .agg (vec 8 b)) rfl (by kernel_rfl) (by kernel_rfl) (by kernel_rfl) (fun _ _ _ h => h) (yieldsIf_load_mid (by rfl) _ _ rfl _ _ rfl _ _ ((fun w h => h.2.1.range)) Tryz.underlying82 rfl (size_exact b)) hHeld ?_
  try simp only [Act.put, List.setIfInBounds_toArray, List.set_cons_zero, List.set_cons_succ, List.getElem_toArray, List.getElem_cons_succ, List.getElem_cons_zero]
  refine wpAnyH_ready (rs := [1]) (by kernel_rfl) (by simp) ?_
  refine AllReadyH.cons (o := _) rfl (fun K hK => ?_) AllReadyH.nil
  go_simp
  refine (A _).mono ?_; rintro e w1 ⟨rfl, hb1⟩
  go_wp2_with fail
  obtain ⟨h1, h2, ⟨_, h3⟩, h4⟩ := hHeld
  refine hK.out _ _ ⟨h1.below hb1, h2.below hb1, ⟨_, h3.below hb1⟩, below_next h4 hb1⟩ (fun hHeld => ?_)
  clear hK K
  try simp only [Act.put, List.setIfInBounds_toArray, List.set_cons_zero, List.set_cons_succ, List.getElem_toArray, List.getElem_cons_succ, List.getElem_cons_zero]
  clear h1 h2 h3 h4 hb1 A
  refine wpAnyH_ready (rs := [3]) (by kernel_rfl) (by simp) ?_
  refine AllReadyH.cons (o := _) rfl (fun K hK => ?_) AllReadyH.nil
  go_simp
  refine (B _).mono ?_; rintro e w2 ⟨rfl, hb1⟩
  go_wp2_with fail
  obtain ⟨h1, h2, ⟨_, h3⟩, h4⟩ := hHeld
  refine hK.out _ _ ⟨h1.below hb1, h2.below hb1, ⟨_, h3.below hb1⟩, below_next h4 hb1⟩ (fun hHeld => ?_)
  clear hK K
  try simp only [Act.put, List.setIfInBounds_toArray, List.set_cons_zero, List.set_cons_succ, List.getElem_toArray, List.getElem_cons_succ, List.getElem_cons_zero]
  clear h1 h2 h3 h4 hb1 B
  refine wpAnyH_ready (rs := [4]) (by kernel_rfl) (by simp) ?_
  refine AllReadyH.cons (o := _) rfl (fun K hK => ?_) AllReadyH.nil
  go_simp
  refine (C _).mono ?_; rintro e w3 ⟨rfl, hb1⟩
  go_wp2_with fail
  obtain ⟨h1, h2, ⟨_, h3⟩, h4⟩ := hHeld
  refine hK.out _ _ ⟨h1.below hb1, h2.below hb1, ⟨_, h3.below hb1⟩, below_next h4 hb1⟩ (fun hHeld => ?_)
  clear hK K
  try simp only [Act.put, List.setIfInBounds_toArray, List.set_cons_zero, List.set_cons_succ, List.getElem_toArray, List.getElem_cons_succ, List.getElem_cons_zero]
  clear h1 h2 h3 h4 hb1 C
  refine wpAnyH_ready (rs := [5]) (by kernel_rfl) (by simp) ?_
  refine AllReadyH.cons (o := _) rfl (fun K hK => ?_) AllReadyH.nil
  rw [if_pos (by rfl)]
  obtain ⟨h1, h2, ⟨_, h3⟩, h4⟩ := hHeld
  refine store_step (f' := r) rfl rfl rfl h3 info_radical ?_
  have hG := h3.setRow (f' := r)
  have hF := below_setRow h4 (g := w.heap.size + 1 + 1) (by omega) (vec 4 r)
  refine hK.out _ _ ⟨h1.rowOther _ _ (by omega), h2.rowOther _ _ (by omega), ⟨_, hG⟩, hF⟩ (fun hHeld => ?_)
  clear hK K
  try simp only [Act.put, List.setIfInBounds_toArray, List.set_cons_zero, List.set_cons_succ, List.getElem_toArray, List.getElem_cons_succ, List.getElem_cons_zero]
  clear h1 h2 h3 h4 hHeld
  refine wpAnyH_done (by kernel_rfl) ?_ _
  go_wp2
  refine bodyPost_ret (results_row rfl rfl hG Tryz.underlying60 rfl info_radical) rfl ?_
  exact ⟨rfl, hF⟩
set_option maxHeartbeats 1000000 in
theorem dot_any (a b : Nat → Int) {M : Nat} (hM : M ≤ 1000) (ha : ∀ j, j < 8 → -(M : Int) ≤ a j ∧ a j ≤ M) (hb : ∀ j, j < 8 → -(M : Int) ≤ b j ∧ b j ≤ M) (w : World) :
    Calls Tryz.prog 95 #[pt a, pt b] w fun e w' => e = .returned (.agg (vec 4 (dts a b))) ∧ Below w.heap.size w w' := by
  have hm := mir_small ha
  have A := fun w => mirrored_any a (small_inR ha hM) w
  have B := fun w => times_any (mir a) b (fun j hj => by have := hm j hj; omega) (small_inR hb hM) w
  have hp := prd_mir_small hM ha hb
  have hMM : M * M ≤ 1000 * 1000 := Nat.mul_le_mul hM hM
  have C := fun w => realPart_any (prd (mir a) b) (fun j hj => by have := hp j hj; omega) w
  unfold dts
  unfold pt p4 at *
  clear hm hp hMM ha hb
  generalize rea (prd (mir a) b) = r at *
  generalize prd (mir a) b = q at *
  generalize mir a = c at *
  have sa := vec_size 8 a
  have sb := vec_size 8 b
  go_enter Tryz.func95, Tryz.ntmps95
  go_upto_region 1 with fail
  show Code.wp _ _ _ _ (boxX w a b 82 60)
  obtain ⟨hA, hB, hO, hL⟩ := boxX_facts w a b 82 60
  generalize boxX w a b 82 60 = W at *
  refine wp_region_held_drew (S := fun w' => RowAt w' w.heap.size 8 82 a ∧ RowAt w' (w.heap.size + 1) 8 82 b ∧ (∃ f, RowAt w' (w.heap.size + 1 + 1) 4 60 f) ∧ Below w.heap.size w w') (by kernel_rfl) ⟨hA.drew1, hB.drew1, ⟨_, hO.drew1⟩, hL.drew⟩ (fun hHeld => ?_)
  clear hA hB hO hL
  refine wpAnyH_take (i := 0) (oi := _) (v := .agg (vec 8 a)) rfl (by kernel_rfl) (by kernel_rfl) (by kernel_rfl) (fun _ _ _ h => h) (yieldsIf_load_mid (by rfl) _ _ rfl _ _ rfl _ _ ((fun w h => h.1.range)) Tryz.underlying82 rfl (size_exact a)) hHeld ?_
  try simp only [Act.put, List.setIfInBounds_toArray, List.set_cons_zero, List.set_cons_succ, List.getElem_toArray, List.getElem_cons_succ, List.getElem_cons_zero]
  refine wpAnyH_take (i := 2) (oi := _) (v := .agg (vec 8 b)) rfl (by kernel_rfl) (by kernel_rfl) (by kernel_rfl) (fun _ _ _ h => h) (yieldsIf_load_mid (by rfl) _ _ rfl _ _ rfl _ _ ((fun w h => h.2.1.range)) Tryz.underlying82 rfl (size_exact b)) hHeld ?_
  try simp only [Act.put, List.setIfInBounds_toArray, List.set_cons_zero, List.set_cons_succ, List.getElem_toArray, List.getElem_cons_succ, List.getElem_cons_zero]
  refine wpAnyH_ready (rs := [1]) (by kernel_rfl) (by simp) ?_
  refine AllReadyH.cons (o := _) rfl (fun K hK => ?_) AllReadyH.nil
  go_simp
  refine (A _).mono ?_; rintro e w1 ⟨rfl, hb1⟩
  go_wp2_with fail
  obtain ⟨h1, h2, ⟨_, h3⟩, h4⟩ := hHeld
  refine hK.out _ _ ⟨h1.below hb1, h2.below hb1, ⟨_, h3.below hb1⟩, below_next h4 hb1⟩ (fun hHeld => ?_)
  clear hK K
  try simp only [Act.put, List.setIfInBounds_toArray, List.set_cons_zero, List.set_cons_succ, List.getElem_toArray, List.getElem_cons_succ, List.getElem_cons_zero]
  clear h1 h2 h3 h4 hb1 A
  refine wpAnyH_ready (rs := [3]) (by kernel_rfl) (by simp) ?_
  refine AllReadyH.cons (o := _) rfl (fun K hK => ?_) AllReadyH.nil
  go_simp
  refine (B _).mono ?_; rintro e w2 ⟨rfl, hb1⟩
  go_wp2_with fail
  obtain ⟨h1, h2, ⟨_, h3⟩, h4⟩ := hHeld
  refine hK.out _ _ ⟨h1.below hb1, h2.below hb1, ⟨_, h3.below hb1⟩, below_next h4 hb1⟩ (fun hHeld => ?_)
  clear hK K
  try simp only [Act.put, List.setIfInBounds_toArray, List.set_cons_zero, List.set_cons_succ, List.getElem_toArray, List.getElem_cons_succ, List.getElem_cons_zero]
  clear h1 h2 h3 h4 hb1 B
  refine wpAnyH_ready (rs := [4]) (by kernel_rfl) (by simp) ?_
  refine AllReadyH.cons (o := _) rfl (fun K hK => ?_) AllReadyH.nil
  go_simp
  refine (C _).mono ?_; rintro e w3 ⟨rfl, hb1⟩
  go_wp2_with fail
  obtain ⟨h1, h2, ⟨_, h3⟩, h4⟩ := hHeld
  refine hK.out _ _ ⟨h1.below hb1, h2.below hb1, ⟨_, h3.below hb1⟩, below_next h4 hb1⟩ (fun hHeld => ?_)
  clear hK K
  try simp only [Act.put, List.setIfInBounds_toArray, List.set_cons_zero, List.set_cons_succ, List.getElem_toArray, List.getElem_cons_succ, List.getElem_cons_zero]
  clear h1 h2 h3 h4 hb1 C
  refine wpAnyH_ready (rs := [5]) (by kernel_rfl) (by simp) ?_
  refine AllReadyH.cons (o := _) rfl (fun K hK => ?_) AllReadyH.nil
  rw [if_pos (by rfl)]
  obtain ⟨h1, h2, ⟨_, h3⟩, h4⟩ := hHeld
  refine store_step (f' := r) rfl rfl rfl h3 info_radical ?_
  have hG := h3.setRow (f' := r)
  have hF := below_setRow h4 (g := w.heap.size + 1 + 1) (by omega) (vec 4 r)
  refine hK.out _ _ ⟨h1.rowOther _ _ (by omega), h2.rowOther _ _ (by omega), ⟨_, hG⟩, hF⟩ (fun hHeld => ?_)
  clear hK K
  try simp only [Act.put, List.setIfInBounds_toArray, List.set_cons_zero, List.set_cons_succ, List.getElem_toArray, List.getElem_cons_succ, List.getElem_cons_zero]
  clear h1 h2 h3 h4 hHeld
  refine wpAnyH_done (by kernel_rfl) ?_ _
  go_wp2
  refine bodyPost_ret (results_row rfl rfl hG Tryz.underlying60 rfl info_radical) rfl ?_
  exact ⟨rfl, hF⟩

theorem rsign_at (f : Nat → Int) (h : ∀ j, j < 4 → -100000000 ≤ f j ∧ f j ≤ 100000000) (w : World) : Calls Tryz.prog 31 #[.agg (vec 4 f)] w fun e w' => e = .returned (.int .i64 (sgf f)) ∧ Below w.heap.size w w' :=
  rsign_any (f 0) (f 1) (f 2) (f 3) (h 0 (by omega)) (h 1 (by omega)) (h 2 (by omega)) (h 3 (by omega)) w
theorem isAbove_any (a : Nat → Int) (ha : ∀ j, j < 8 → -((200 : Nat) : Int) ≤ a j ∧ a j ≤ (200 : Nat)) (w : World) :
    Calls Tryz.prog 92 #[pt a] w fun e w' => e = .returned (.bool (upB (qv a))) ∧ Below w.heap.size w w' := by
  have sa := vec_size 8 a
  have M1 := fun w => imag_wide a (fun j hj => by have := ha j hj; omega) w
  have hi := ima_small ha
  have S1 := fun w => rsign_at (ima a) (fun j hj => by have := hi j hj; omega) w
  have HE : upB (qv a) = decide (0 < sgf (ima a)) := rfl
  rw [HE]
  clear HE hi ha
  unfold pt p4 at *
  generalize sgf (ima a) = s at *
  generalize ima a = p at *
  go_enter Tryz.func92, Tryz.ntmps92
  go_upto_region 1 with fail
  show Code.wp _ _ _ _ (box0 w a 82)
  obtain ⟨hA, hL⟩ := box0_facts w a 82
  generalize box0 w a 82 = W at *
  go_wp2_with (refine load_row rfl rfl rfl hA Tryz.underlying82 rfl info_exact ?_)
  refine (M1 _).mono ?_; rintro e w2 ⟨rfl, hb2⟩
  have hL2 := below_next hL hb2
  clear hA hL hb2 M1
  go_wp2_with fail
  refine (S1 _).mono ?_; rintro e w3 ⟨rfl, hb3⟩
  have hL3 := below_next hL2 hb3
  clear hL2 hb3 S1
  go_wp2
  go_ret
  exact ⟨rfl, hL3⟩

end Go.Proofs.YtdpakhggpgdgbaaGreat
/- Out of the text PolyB: what the draws of polygons need. -/
namespace Go.Proofs.YtdpakhggpgdgbaaGreat
set_option maxRecDepth 20000
open Go.ChangeShapes Go.WideShapes Go.ChangeAt Go.RowKit
set_option linter.unusedVariables false
set_option linter.unusedSimpArgs false
/-- Two points as sixteen numbers. -/
def sd (a b : Nat → Int) : Nat → Int := fun j => if j < 8 then a j else b (j - 8)
abbrev st (a b : Nat → Int) : Value := .agg (vec 16 (sd a b))
theorem info_side : (Tryz.prog.info? 89).map (·.size) = some 16 := by kernel_rfl
theorem size_side (a : Nat → Int) : (Tryz.prog.info? 89).map (·.size) = some (lst 16 a).length := by rw [lst_length]; exact info_side
theorem lst_get {n k : Nat} (f : Nat → Int) (h : k < n) : (lst n f)[k]? = some (.int .i64 (f k)) := by simp [lst, h]
theorem sd_first {w : World} {g : Nat} {T : TypeId} {a b : Nat → Int} (h : RowAt w g 16 T (sd a b)) : w.rangeAt g 0 (lst 8 a) := fun j v hv => by
  have hj : j < 8 := by
    have := (List.getElem?_eq_some_iff.1 hv).1
    rwa [lst_length] at this
  rw [lst_get a hj] at hv
  rw [Nat.zero_add, h.cell (show j < 16 by omega), ← hv]
  simp [sd, hj]
theorem sd_next {w : World} {g : Nat} {T : TypeId} {a b : Nat → Int} (h : RowAt w g 16 T (sd a b)) : w.rangeAt g 8 (lst 8 b) := fun j v hv => by
  have hj : j < 8 := by
    have := (List.getElem?_eq_some_iff.1 hv).1
    rwa [lst_length] at this
  rw [lst_get b hj] at hv
  rw [h.cell (show 8 + j < 16 by omega), ← hv]
  simp only [sd]
  rw [if_neg (by omega), show 8 + j - 8 = j by omega]
/-- A call with one side. -/
def boxQ (w : World) (a b : Nat → Int) (T O : TypeId) : World := (w.alloc (.cells (vec 16 (sd a b)) T)).alloc (.cells (vec 4 nul) O)
theorem boxQ_facts (w : World) (a b : Nat → Int) (T O : TypeId) : RowAt (boxQ w a b T O) w.heap.size 16 T (sd a b) ∧ RowAt (boxQ w a b T O) (w.heap.size + 1) 4 O nul ∧ Below w.heap.size w (boxQ w a b T O) :=
  ⟨(RowAt.newAt rfl rfl).alloc _, RowAt.newAt rfl (by simp), ((Below.refl _ _).alloc (Nat.le_refl _) _).alloc (by simp) _⟩
def boxR (w : World) (a b : Nat → Int) (T : TypeId) : World := w.alloc (.cells (vec 16 (sd a b)) T)
theorem boxR_facts (w : World) (a b : Nat → Int) (T : TypeId) : RowAt (boxR w a b T) w.heap.size 16 T (sd a b) ∧ Below w.heap.size w (boxR w a b T) :=
  ⟨RowAt.newAt rfl rfl, (Below.refl _ _).alloc (Nat.le_refl _) _⟩

theorem sideCross_any (a b : Nat → Int) {M : Nat} (hM : M ≤ 1000) (ha : ∀ j, j < 8 → -(M : Int) ≤ a j ∧ a j ≤ M) (hb : ∀ j, j < 8 → -(M : Int) ≤ b j ∧ b j ≤ M) (w : World) :
    Calls Tryz.prog 59 #[st a b] w fun e w' => e = .returned (.agg (vec 4 (crs a b))) ∧ Below w.heap.size w w' := by
  have C := fun w => cross_any a b hM ha hb w
  have ss := vec_size 16 (sd a b)
  clear ha hb
  generalize crs a b = r at *
  unfold pt at C
  go_enter Tryz.func59, Tryz.ntmps59
  go_upto_region 1 with fail
  show Code.wp _ _ _ _ (boxQ w a b 89 60)
  obtain ⟨hA, hO, hL⟩ := boxQ_facts w a b 89 60
  generalize boxQ w a b 89 60 = W at *
  have h1 := sd_first hA
  have h2 := sd_next hA
  go_wp2_with (first | (refine load_part (T := 82) (f := a) rfl rfl rfl h1 Tryz.underlying82 rfl info_exact ?_) | (refine load_part (T := 82) (f := b) rfl rfl rfl h2 Tryz.underlying82 rfl info_exact ?_))
  refine (C _).mono ?_; rintro e w2 ⟨rfl, hb2⟩
  have hO2 := hO.below hb2
  have hL2 := below_next hL hb2
  clear hA hO hL hb2 C h1 h2
  go_wp2_with (refine store_row rfl rfl rfl rfl hO2 info_radical ?_)
  refine bodyPost_ret (results_row rfl rfl hO2.setRow Tryz.underlying60 rfl info_radical) rfl ?_
  exact ⟨rfl, below_setRow hL2 (by omega) _⟩

/-- The bend of a side. -/
theorem sideBend_any (a b : Nat → Int) (ha : ∀ j, j < 8 → -((200 : Nat) : Int) ≤ a j ∧ a j ≤ (200 : Nat)) (hb : ∀ j, j < 8 → -((200 : Nat) : Int) ≤ b j ∧ b j ≤ (200 : Nat)) (w : World) :
    Calls Tryz.prog 52 #[st a b] w fun e w' => e = .returned (.int .i64 (sgR (cr (qv a) (qv b)))) ∧ Below w.heap.size w w' := by
  have C := fun w => sideCross_any a b (by omega) ha hb w
  have hc := crs_small (by omega) ha hb
  have S1 := fun w => rsign_at (crs a b) (fun j hj => by have := hc j hj; omega) w
  rw [← sgf_crs]
  have ss := vec_size 16 (sd a b)
  clear hc ha hb
  generalize sgf (crs a b) = s at *
  generalize crs a b = r at *
  go_enter Tryz.func52, Tryz.ntmps52
  go_upto_region 1 with fail
  show Code.wp _ _ _ _ (boxR w a b 89)
  obtain ⟨hA, hL⟩ := boxR_facts w a b 89
  generalize boxR w a b 89 = W at *
  go_wp2_with (refine load_row rfl rfl rfl hA Tryz.underlying89 rfl info_side ?_)
  refine (C _).mono ?_; rintro e w2 ⟨rfl, hb2⟩
  have hL2 := below_next hL hb2
  clear hA hL hb2 C
  go_wp2_with fail
  refine (S1 _).mono ?_; rintro e w3 ⟨rfl, hb3⟩
  have hL3 := below_next hL2 hb3
  clear hL2 hb3 S1
  go_wp2
  go_ret
  exact ⟨rfl, hL3⟩

theorem sideMeets_any (a b : Nat → Int) (ha : ∀ j, j < 8 → -((200 : Nat) : Int) ≤ a j ∧ a j ≤ (200 : Nat)) (hb : ∀ j, j < 8 → -((200 : Nat) : Int) ≤ b j ∧ b j ≤ (200 : Nat)) (w : World) :
    Calls Tryz.prog 71 #[st a b] w fun e w' => e = .returned (.bool (onS (qv a) (qv b))) ∧ Below w.heap.size w w' := by
  have B := fun w => sideBend_any a b ha hb w
  have D := fun w => dot_any a b (by omega) ha hb w
  have hd := dts_small (by omega) ha hb
  have S1 := fun w => rsign_at (dts a b) (fun j hj => by have := hd j hj; omega) w
  have HE : onS (qv a) (qv b) = (decide (sgR (cr (qv a) (qv b)) = 0) && decide (sgf (dts a b) ≤ 0)) := by unfold onS; rw [sgf_dts]
  rw [HE]
  have ss := vec_size 16 (sd a b)
  unfold pt at D
  clear hd ha hb HE
  generalize sgR (cr (qv a) (qv b)) = s at *
  generalize sgf (dts a b) = t at *
  generalize dts a b = r at *
  by_cases hs : s = 0
  · subst hs
    go_enter Tryz.func71, Tryz.ntmps71
    go_upto_region 1 with fail
    show Code.wp _ _ _ _ (boxR w a b 89)
    obtain ⟨hA, hL⟩ := boxR_facts w a b 89
    generalize boxR w a b 89 = W at *
    go_wp2_with (refine load_row rfl rfl rfl hA Tryz.underlying89 rfl info_side ?_)
    refine (B _).mono ?_; rintro e w2 ⟨rfl, hb2⟩
    have hA2 := hA.below hb2
    have hL2 := below_next hL hb2
    clear hA hL hb2 B
    have h1 := sd_first hA2
    have h2 := sd_next hA2
    go_wp2_with (first | (refine load_pt_on (T := 82) (f := a) (by rfl) rfl rfl h1 Tryz.underlying82 rfl info_exact ?_) | (refine load_pt_on (T := 82) (f := b) (by rfl) rfl rfl h2 Tryz.underlying82 rfl info_exact ?_))
    refine (D _).mono ?_; rintro e w3 ⟨rfl, hb3⟩
    have hL3 := below_next hL2 hb3
    clear hL2 hb3 D h1 h2 hA2
    go_wp2_with fail
    refine (S1 _).mono ?_; rintro e w4 ⟨rfl, hb4⟩
    have hL4 := below_next hL3 hb4
    clear hL3 hb4 S1
    go_wp2
    go_ret
    exact ⟨ret_bool (by simp), hL4⟩
  · have hs2 : (s == 0) = false := by simpa using hs
    go_enter Tryz.func71, Tryz.ntmps71
    go_upto_region 1 with fail
    show Code.wp _ _ _ _ (boxR w a b 89)
    obtain ⟨hA, hL⟩ := boxR_facts w a b 89
    generalize boxR w a b 89 = W at *
    go_wp2_with (refine load_row rfl rfl rfl hA Tryz.underlying89 rfl info_side ?_)
    refine (B _).mono ?_; rintro e w2 ⟨rfl, hb2⟩
    have hL2 := below_next hL hb2
    clear hA hL hb2 B
    go_wp2
    go_ret
    exact ⟨ret_bool (by simp [hs]), hL2⟩

/-- How a side passes, by what is known of it. -/
def wnB (p q : Bool) (s : Int) : Int := if p = false ∧ q = true ∧ 0 < s then 1 else if p = true ∧ q = false ∧ s < 0 then -1 else 0
theorem wn_B (p q : Q2) : wn p q = wnB (upB p) (upB q) (sgR (cr p q)) := rfl
set_option maxHeartbeats 2000000 in
theorem sidePassing_any (a b : Nat → Int) (ha : ∀ j, j < 8 → -((200 : Nat) : Int) ≤ a j ∧ a j ≤ (200 : Nat)) (hb : ∀ j, j < 8 → -((200 : Nat) : Int) ≤ b j ∧ b j ≤ (200 : Nat)) (w : World) :
    Calls Tryz.prog 67 #[st a b] w fun e w' => e = .returned (.int .i64 (wn (qv a) (qv b))) ∧ Below w.heap.size w w' := by
  have B := fun w => sideBend_any a b ha hb w
  have U1 := fun w => isAbove_any a ha w
  have U2 := fun w => isAbove_any b hb w
  rw [wn_B]
  have h3 := sgR_three (cr (qv a) (qv b))
  have ss := vec_size 16 (sd a b)
  unfold pt at U1 U2
  clear ha hb
  generalize sgR (cr (qv a) (qv b)) = s at *
  generalize upB (qv a) = p at *
  generalize upB (qv b) = q at *
  go_enter Tryz.func67, Tryz.ntmps67
  go_upto_region 1 with fail
  show Code.wp _ _ _ _ (boxR w a b 89)
  obtain ⟨hA, hL⟩ := boxR_facts w a b 89
  generalize boxR w a b 89 = W at *
  refine wp_region_held_drew (S := fun w' => RowAt w' w.heap.size 16 89 (sd a b) ∧ Below w.heap.size w w') (by kernel_rfl) ⟨hA.drew1, hL.drew⟩ (fun hHeld => ?_)
  clear hA hL
  refine wpAnyH_take (i := 0) (oi := _) (v := .pointer (some ⟨w.heap.size, 0, none⟩)) rfl (by kernel_rfl) (by kernel_rfl) (by kernel_rfl) (fun _ _ _ h => h) (Or.inl ⟨by rfl, fun w h => by go_simp⟩) hHeld ?_
  try simp only [Act.put, List.setIfInBounds_toArray, List.set_cons_zero, List.set_cons_succ, List.getElem_toArray, List.getElem_cons_succ, List.getElem_cons_zero]
  refine wpAnyH_take (i := 1) (oi := _) (v := .agg (vec 8 a)) rfl (by kernel_rfl) (by kernel_rfl) (by kernel_rfl) (fun _ _ _ h => h) (yieldsIf_load_mid (by rfl) _ _ rfl _ _ rfl _ _ ((fun w h => sd_first h.1)) Tryz.underlying82 rfl (size_exact a)) hHeld ?_
  try simp only [Act.put, List.setIfInBounds_toArray, List.set_cons_zero, List.set_cons_succ, List.getElem_toArray, List.getElem_cons_succ, List.getElem_cons_zero]
  refine wpAnyH_take (i := 3) (oi := _) (v := .pointer (some ⟨w.heap.size, 8, none⟩)) rfl (by kernel_rfl) (by kernel_rfl) (by kernel_rfl) (fun _ _ _ h => h) (Or.inl ⟨by rfl, fun w h => by go_simp⟩) hHeld ?_
  try simp only [Act.put, List.setIfInBounds_toArray, List.set_cons_zero, List.set_cons_succ, List.getElem_toArray, List.getElem_cons_succ, List.getElem_cons_zero]
  refine wpAnyH_take (i := 4) (oi := _) (v := .agg (vec 8 b)) rfl (by kernel_rfl) (by kernel_rfl) (by kernel_rfl) (fun _ _ _ h => h) (yieldsIf_load_mid (by rfl) _ _ rfl _ _ rfl _ _ ((fun w h => sd_next h.1)) Tryz.underlying82 rfl (size_exact b)) hHeld ?_
  try simp only [Act.put, List.setIfInBounds_toArray, List.set_cons_zero, List.set_cons_succ, List.getElem_toArray, List.getElem_cons_succ, List.getElem_cons_zero]
  refine wpAnyH_take (i := 6) (oi := _) (v := .agg (vec 16 (sd a b))) rfl (by kernel_rfl) (by kernel_rfl) (by kernel_rfl) (fun _ _ _ h => h) (yieldsIf_load_mid (by rfl) _ _ rfl _ _ rfl _ _ ((fun w h => h.1.range)) Tryz.underlying89 rfl (size_side (sd a b))) hHeld ?_
  try simp only [Act.put, List.setIfInBounds_toArray, List.set_cons_zero, List.set_cons_succ, List.getElem_toArray, List.getElem_cons_succ, List.getElem_cons_zero]
  refine wpAnyH_ready (rs := [2]) (by kernel_rfl) (by simp) ?_
  refine AllReadyH.cons (o := _) rfl (fun K hK => ?_) AllReadyH.nil
  go_simp
  refine (U1 _).mono ?_; rintro e w1 ⟨rfl, hb1⟩
  go_wp2_with fail
  obtain ⟨h1, h4⟩ := hHeld
  refine hK.out _ _ ⟨h1.below hb1, below_next h4 hb1⟩ (fun hHeld => ?_)
  clear hK K
  try simp only [Act.put, List.setIfInBounds_toArray, List.set_cons_zero, List.set_cons_succ, List.getElem_toArray, List.getElem_cons_succ, List.getElem_cons_zero]
  clear h1 h4 hb1 U1
  refine wpAnyH_ready (rs := [5]) (by kernel_rfl) (by simp) ?_
  refine AllReadyH.cons (o := _) rfl (fun K hK => ?_) AllReadyH.nil
  go_simp
  refine (U2 _).mono ?_; rintro e w2 ⟨rfl, hb1⟩
  go_wp2_with fail
  obtain ⟨h1, h4⟩ := hHeld
  refine hK.out _ _ ⟨h1.below hb1, below_next h4 hb1⟩ (fun hHeld => ?_)
  clear hK K
  try simp only [Act.put, List.setIfInBounds_toArray, List.set_cons_zero, List.set_cons_succ, List.getElem_toArray, List.getElem_cons_succ, List.getElem_cons_zero]
  clear h1 h4 hb1 U2
  refine wpAnyH_ready (rs := [7]) (by kernel_rfl) (by simp) ?_
  refine AllReadyH.cons (o := _) rfl (fun K hK => ?_) AllReadyH.nil
  go_simp
  refine (B _).mono ?_; rintro e w3 ⟨rfl, hb1⟩
  go_wp2_with fail
  obtain ⟨h1, h4⟩ := hHeld
  refine hK.out _ _ ⟨h1.below hb1, below_next h4 hb1⟩ (fun hHeld => ?_)
  clear hK K
  try simp only [Act.put, List.setIfInBounds_toArray, List.set_cons_zero, List.set_cons_succ, List.getElem_toArray, List.getElem_cons_succ, List.getElem_cons_zero]
  clear h1 h4 hb1 B
  refine wpAnyH_take (i := 8) (oi := _) (v := .bool p) rfl (by kernel_rfl) (by kernel_rfl) (by kernel_rfl) (fun _ _ _ h => h) (Or.inl ⟨by rfl, fun w h => by go_simp⟩) hHeld ?_
  try simp only [Act.put, List.setIfInBounds_toArray, List.set_cons_zero, List.set_cons_succ, List.getElem_toArray, List.getElem_cons_succ, List.getElem_cons_zero]
  refine wpAnyH_take (i := 9) (oi := _) (v := .bool q) rfl (by kernel_rfl) (by kernel_rfl) (by kernel_rfl) (fun _ _ _ h => h) (Or.inl ⟨by rfl, fun w h => by go_simp⟩) hHeld ?_
  try simp only [Act.put, List.setIfInBounds_toArray, List.set_cons_zero, List.set_cons_succ, List.getElem_toArray, List.getElem_cons_succ, List.getElem_cons_zero]
  refine wpAnyH_take (i := 10) (oi := _) (v := .int .i64 s) rfl (by kernel_rfl) (by kernel_rfl) (by kernel_rfl) (fun _ _ _ h => h) (Or.inl ⟨by rfl, fun w h => by go_simp⟩) hHeld ?_
  try simp only [Act.put, List.setIfInBounds_toArray, List.set_cons_zero, List.set_cons_succ, List.getElem_toArray, List.getElem_cons_succ, List.getElem_cons_zero]
  refine wpAnyH_done (by kernel_rfl) ?_ _
  have hL := hHeld.2
  clear hHeld
  cases p <;> cases q <;> rcases h3 with rfl | rfl | rfl <;>
    (go_wp2; go_ret; exact ⟨rfl, hL⟩)

end Go.Proofs.YtdpakhggpgdgbaaGreat
/- Out of the text PolyT: what the draws of polygons need. -/
namespace Go.Proofs.YtdpakhggpgdgbaaGreat
set_option maxRecDepth 20000
open Go.ChangeShapes Go.WideShapes Go.ChangeAt Go.RowKit
set_option linter.unusedVariables false
set_option linter.unusedSimpArgs false
/-- The difference of two points. -/
def subV (a b : V) : V := dn (mul1 a.up (-1) b.up)
theorem pt_subV (a b : V) : pt (subV a b).up = pt (mul1 a.up (-1) b.up) := by
  unfold subV pt
  rw [vec_same (up_dn _)]
/-- The first k steps of a polygon. -/
def stepsV (xs : List V) (k : Nat) : List V := (List.range k).map fun i => subV (at' xs ((i + 1) % xs.length)) (at' xs i)
theorem stepsV_len (xs : List V) (k : Nat) : (stepsV xs k).length = k := by simp [stepsV]
theorem stepsV_next (xs : List V) (k : Nat) : stepsV xs (k + 1) = stepsV xs k ++ [subV (at' xs ((k + 1) % xs.length)) (at' xs k)] := by simp [stepsV, List.range_succ]
theorem range_kept8 {B : Nat} {w w' : World} {g o : Nat} {cs : List Value} (h : w.rangeAt g o cs) (hg : g < B) (hb : Below B w w') : w'.rangeAt g o cs := fun j v hv => (World.cell?_of_block (hb.block g hg)).trans (h j v hv)
theorem wp_one8 {P : Program} {o : Oper} {a : Act} {w : World} {K : Act → World → Prop} {Q : Exit → Act → World → Prop} {t e : TypeId} (ty : TyL P t e 8) {x : Operand} {f : Nat → Int} (ho : o.op = .buildSlice t 1 #[(0, x)]) (hx : a.eval x = .agg (vec 8 f))
    (h : K (a.put o.dst (.slice (some ⟨w.heap.size, 0, none⟩) 1 1)) (w.alloc (.cells (vec 8 f) e))) : o.wp P a w K Q := by
  unfold Oper.wp execOp
  simp [ho, hx, Sem.run_bind, run_one8 ty f w, Result.andThen]
  exact h
set_option maxHeartbeats 2000000 in
theorem l8Steps_any (g o cap : Nat) (xs : List V) (w : World) (hg : g < w.heap.size) (hr : w.rangeAt g o (flt encV xs)) (hc1 : xs.length ≤ cap) (hc2 : cap ≤ maxLen) (hn : xs.length ≤ 48) (hn1 : 1 ≤ xs.length) (hs : ∀ k, k < xs.length → ∀ j, j < 8 → -100 ≤ (at' xs k).up j ∧ (at' xs k).up j ≤ 100) :
    Calls Tryz.prog 53 #[.slice (some ⟨g, o, none⟩) xs.length cap] w fun e w' => Below w.heap.size w w' ∧ ∃ v', e = .returned v' ∧ OwnL encV 8 w' w.heap.size 40 v' (stepsV xs xs.length) := by
  simp only [maxLen] at hc2
  have HR := Lib.hid hr
  have HS := Lib.hid hs
  clear hr hs
  go_enter Tryz.func53, Tryz.ntmps53
  go_wp2
  go_loopw [3, 4] (fun s3 i wr => ∃ k : Nat, k ≤ xs.length ∧ i = .int .i64 k ∧ OwnL encV 8 wr w.heap.size 40 s3 (stepsV xs k) ∧ Below w.heap.size w wr ∧ w.heap.size ≤ wr.heap.size) (fun _ i _ => xs.length - (intOf i).toNat)
  case atStart => exact ⟨0, Nat.zero_le _, rfl, (show OwnL _ _ _ _ _ _ _ from World.ownsRow_made w #[] 0 (Nat.le_refl _) (by simp [maxLen]) (by simp)), (Below.refl _ w).alloc (Nat.le_refl _) _, by simp⟩
  case round =>
    obtain ⟨k, hk, rfl, hO, hbel, hZ⟩ := hrel
    have HO := Lib.hid hO
    have HB := Lib.hid hbel
    clear hO hbel
    by_cases hlt : k < xs.length
    · have hkz : (k : Int) < (xs.length : Int) := by omega
      have hk0 : (0 : Int) ≤ (k : Int) := by omega
      obtain ⟨r, hrr⟩ : ∃ r, (k + 1) % xs.length = r := ⟨_, rfl⟩
      have hrl : r < xs.length := by rw [← hrr]; exact Nat.mod_lt _ (by omega)
      have q1 : IntKind.i64.wrap ((k : Int) + 1) = (k : Int) + 1 := by rw [IntKind.wrap_i64]; omega
      have q1b : xs.length ≤ 48 := hn
      have q2 : ((k : Int) + 1).tmod (xs.length : Int) = (r : Int) := by
        rw [Int.tmod_eq_emod_of_nonneg (by omega), ← hrr]; simp
      have q3 : IntKind.i64.wrap (r : Int) = (r : Int) := by rw [IntKind.wrap_i64]; omega
      have q4 : ¬ (xs.length : Int) = 0 := by omega
      have q4c : ¬ xs = [] := by rintro rfl; simp at hn1
      have q4b : ((xs.length : Int) == 0) = false := by simpa using q4c
      have q5 : (r : Int) < (xs.length : Int) := by omega
      have q6 : (0 : Int) ≤ (r : Int) := by omega
      have HNX := Lib.hid (stepsV_next xs k)
      rw [hrr] at HNX
      have hsl := stepsV_len xs k
      have HE1 := Lib.hid (cells_part encV_ok HR.out (at_get hrl))
      have HE2 := Lib.hid (cells_part encV_ok HR.out (at_get hlt))
      have S1 := HS.out r hrl
      have S2 := HS.out k hlt
      have M := fun w => specSum_any (at' xs r).up (at' xs k).up (-1) (by omega) (fun j hj => by have := S1 j hj; omega) (fun j hj => by have := S2 j hj; omega) w
      have hPE : pt (subV (at' xs r) (at' xs k)).up = pt (mul1 (at' xs r).up (-1) (at' xs k).up) := pt_subV _ _
      have hgz : g < wr.heap.size := by omega
      generalize hPd : subV (at' xs r) (at' xs k) = P at *
      rw [← hPE] at M
      clear hPE hPd S1 S2 hrr
      generalize at' xs r = c at *
      generalize at' xs k = d at *
      go_upto_region 5 with fail
      have hub : ∀ k, u3.ownBlock = some k → k < wr.heap.size := fun k h => (HO.out.lt k h).2
      refine wp_region_held_drew (S := fun w' => Below w.heap.size w w') (by kernel_rfl) HB.out.drew (fun hHeld => ?_)
      refine wpAnyH_take (i := 0) (oi := _) (v := u3) rfl (by kernel_rfl) (by kernel_rfl) (by kernel_rfl) (fun _ _ _ h => h) (Or.inl ⟨by rfl, fun w h => by go_simp⟩) hHeld ?_
      try simp only [Act.put, List.setIfInBounds_toArray, List.set_cons_zero, List.set_cons_succ, List.getElem_toArray, List.getElem_cons_succ, List.getElem_cons_zero]
      refine wpAnyH_take (i := 1) (oi := _) (v := .slice (some ⟨g, o, none⟩) xs.length cap) rfl (by kernel_rfl) (by kernel_rfl) (by kernel_rfl) (fun _ _ _ h => h) (Or.inl ⟨by rfl, fun w h => by go_simp⟩) hHeld ?_
      try simp only [Act.put, List.setIfInBounds_toArray, List.set_cons_zero, List.set_cons_succ, List.getElem_toArray, List.getElem_cons_succ, List.getElem_cons_zero]
      refine wpAnyH_take (i := 2) (oi := _) (v := .int .i64 k) rfl (by kernel_rfl) (by kernel_rfl) (by kernel_rfl) (fun _ _ _ h => h) (Or.inl ⟨by rfl, fun w h => by go_simp⟩) hHeld ?_
      try simp only [Act.put, List.setIfInBounds_toArray, List.set_cons_zero, List.set_cons_succ, List.getElem_toArray, List.getElem_cons_succ, List.getElem_cons_zero]
      refine wpAnyH_take (i := 3) (oi := _) (v := .int .i64 ((k : Int) + 1)) rfl (by kernel_rfl) (by kernel_rfl) (by kernel_rfl) (fun _ _ _ h => h) (Or.inl ⟨by rfl, fun w h => by go_simp⟩) hHeld ?_
      try simp only [Act.put, List.setIfInBounds_toArray, List.set_cons_zero, List.set_cons_succ, List.getElem_toArray, List.getElem_cons_succ, List.getElem_cons_zero]
      refine wpAnyH_take (i := 4) (oi := _) (v := .slice (some ⟨g, o, none⟩) xs.length cap) rfl (by kernel_rfl) (by kernel_rfl) (by kernel_rfl) (fun _ _ _ h => h) (Or.inl ⟨by rfl, fun w h => by go_simp⟩) hHeld ?_
      try simp only [Act.put, List.setIfInBounds_toArray, List.set_cons_zero, List.set_cons_succ, List.getElem_toArray, List.getElem_cons_succ, List.getElem_cons_zero]
      refine wpAnyH_take (i := 5) (oi := _) (v := .int .i64 xs.length) rfl (by kernel_rfl) (by kernel_rfl) (by kernel_rfl) (fun _ _ _ h => h) (Or.inl ⟨by rfl, fun w h => by go_simp⟩) hHeld ?_
      try simp only [Act.put, List.setIfInBounds_toArray, List.set_cons_zero, List.set_cons_succ, List.getElem_toArray, List.getElem_cons_succ, List.getElem_cons_zero]
      refine wpAnyH_take (i := 6) (oi := _) (v := .int .i64 r) rfl (by kernel_rfl) (by kernel_rfl) (by kernel_rfl) (fun _ _ _ h => h) (Or.inl ⟨by rfl, fun w h => by go_simp⟩) hHeld ?_
      try simp only [Act.put, List.setIfInBounds_toArray, List.set_cons_zero, List.set_cons_succ, List.getElem_toArray, List.getElem_cons_succ, List.getElem_cons_zero]
      refine wpAnyH_take (i := 7) (oi := _) (v := .pointer (some ⟨g, o + r * 8, none⟩)) rfl (by kernel_rfl) (by kernel_rfl) (by kernel_rfl) (fun _ _ _ h => h) (Or.inl ⟨by rfl, fun w h => by go_simp⟩) hHeld ?_
      try simp only [Act.put, List.setIfInBounds_toArray, List.set_cons_zero, List.set_cons_succ, List.getElem_toArray, List.getElem_cons_succ, List.getElem_cons_zero]
      refine wpAnyH_take (i := 8) (oi := _) (v := .agg (vec 8 c.up)) rfl (by kernel_rfl) (by kernel_rfl) (by kernel_rfl) (fun _ _ _ h => h) (yieldsIf_load_mid (by rfl) _ _ rfl _ _ rfl _ _ ((fun w h => range_kept8 HE1.out hg h)) Tryz.underlying40 rfl (size_cyc8 c.up)) hHeld ?_
      try simp only [Act.put, List.setIfInBounds_toArray, List.set_cons_zero, List.set_cons_succ, List.getElem_toArray, List.getElem_cons_succ, List.getElem_cons_zero]
      refine wpAnyH_take (i := 9) (oi := _) (v := .slice (some ⟨g, o, none⟩) xs.length cap) rfl (by kernel_rfl) (by kernel_rfl) (by kernel_rfl) (fun _ _ _ h => h) (Or.inl ⟨by rfl, fun w h => by go_simp⟩) hHeld ?_
      try simp only [Act.put, List.setIfInBounds_toArray, List.set_cons_zero, List.set_cons_succ, List.getElem_toArray, List.getElem_cons_succ, List.getElem_cons_zero]
      refine wpAnyH_take (i := 10) (oi := _) (v := .int .i64 k) rfl (by kernel_rfl) (by kernel_rfl) (by kernel_rfl) (fun _ _ _ h => h) (Or.inl ⟨by rfl, fun w h => by go_simp⟩) hHeld ?_
      try simp only [Act.put, List.setIfInBounds_toArray, List.set_cons_zero, List.set_cons_succ, List.getElem_toArray, List.getElem_cons_succ, List.getElem_cons_zero]
      refine wpAnyH_take (i := 11) (oi := _) (v := .pointer (some ⟨g, o + k * 8, none⟩)) rfl (by kernel_rfl) (by kernel_rfl) (by kernel_rfl) (fun _ _ _ h => h) (Or.inl ⟨by rfl, fun w h => by go_simp⟩) hHeld ?_
      try simp only [Act.put, List.setIfInBounds_toArray, List.set_cons_zero, List.set_cons_succ, List.getElem_toArray, List.getElem_cons_succ, List.getElem_cons_zero]
      refine wpAnyH_take (i := 12) (oi := _) (v := .agg (vec 8 d.up)) rfl (by kernel_rfl) (by kernel_rfl) (by kernel_rfl) (fun _ _ _ h => h) (yieldsIf_load_mid (by rfl) _ _ rfl _ _ rfl _ _ ((fun w h => range_kept8 HE2.out hg h)) Tryz.underlying40 rfl (size_cyc8 d.up)) hHeld ?_
      try simp only [Act.put, List.setIfInBounds_toArray, List.set_cons_zero, List.set_cons_succ, List.getElem_toArray, List.getElem_cons_succ, List.getElem_cons_zero]
      refine wpAnyH_ready (rs := [13]) (by kernel_rfl) (by simp) ?_
      refine AllReadyH.cons (o := _) rfl (fun K hK => ?_) AllReadyH.nil
      go_simp
      refine (M _).mono ?_; rintro e w5 ⟨rfl, hb5⟩
      go_wp2_with fail
      have hO5 : OwnL encV 8 w5 w.heap.size 40 u3 (stepsV xs k) := rows_below (show OwnL encV 8 wr.drew w.heap.size 40 u3 (stepsV xs k) from HO.out) hb5
      have hZ5 : w.heap.size ≤ w5.heap.size := (below_next hHeld hb5).size
      refine hK.out _ _ (below_next hHeld hb5) (fun hHeld => ?_)
      clear hK K
      try simp only [Act.put, List.setIfInBounds_toArray, List.set_cons_zero, List.set_cons_succ, List.getElem_toArray, List.getElem_cons_succ, List.getElem_cons_zero]
      clear hb5 M HO HB
      refine wpAnyH_ready (rs := [14]) (by kernel_rfl) (by simp) ?_
      refine AllReadyH.cons (o := _) rfl (fun K hK => ?_) AllReadyH.nil
      rw [if_pos (by rfl)]
      refine wp_one8 tyY rfl rfl ?_
      have hlit := lit8 w5 P 40
      have hO6 : OwnL encV 8 (w5.alloc (.cells (vec 8 P.up) 40)) w.heap.size 40 u3 (stepsV xs k) := (show World.ownsRow _ _ _ _ _ _ _ from World.ownsRow.alloc hO5 _)
      refine hK.out _ _ (hHeld.alloc hZ5 _) (fun hHeld => ?_)
      clear hK K
      try simp only [Act.put, List.setIfInBounds_toArray, List.set_cons_zero, List.set_cons_succ, List.getElem_toArray, List.getElem_cons_succ, List.getElem_cons_zero]
      clear hO5
      refine wpAnyH_ready (rs := [15]) (by kernel_rfl) (by simp) ?_
      refine AllReadyH.cons (o := _) rfl (fun K hK => ?_) AllReadyH.nil
      refine wp_appendL tyY encV_ok rfl rfl rfl (xs := stepsV xs k) hO6 hlit (by rw [hsl]; simp; omega) hHeld (by simp; omega) ?_; intro v2 w6 ho6 hb6 hB7 hgr
      refine hK.out _ _ hb6 (fun hHeld => ?_)
      clear hK K
      try simp only [Act.put, List.setIfInBounds_toArray, List.set_cons_zero, List.set_cons_succ, List.getElem_toArray, List.getElem_cons_succ, List.getElem_cons_zero]
      clear hlit hO6 hgr
      refine wpAnyH_take (i := 16) (oi := _) (v := v2) rfl (by kernel_rfl) (by kernel_rfl) (by kernel_rfl) (fun _ _ _ h => h) (Or.inl ⟨by rfl, fun w h => by go_simp⟩) hHeld ?_
      try simp only [Act.put, List.setIfInBounds_toArray, List.set_cons_zero, List.set_cons_succ, List.getElem_toArray, List.getElem_cons_succ, List.getElem_cons_zero]
      refine wpAnyH_done (by kernel_rfl) ?_ _
      have HO6 := Lib.hid ho6
      have HB6 := Lib.hid hb6
      have HZ6 := Lib.hid hB7
      clear ho6 hb6 hB7 hHeld
      go_wp2
      go_roundw
      case rel => exact ⟨k + 1, by omega, by go_num, by rw [HNX.out]; exact HO6.out, HB6.out, HZ6.out⟩
      case measure => simp [intOf]; omega
    · obtain rfl : k = xs.length := by omega
      go_wp2
      go_ret
      exact ⟨HB.out, _, rfl, HO.out⟩

set_option maxHeartbeats 2000000 in
theorem l8Upper_any (a : Nat → Int) (ha : ∀ j, j < 8 → -((200 : Nat) : Int) ≤ a j ∧ a j ≤ (200 : Nat)) (w : World) :
    Calls Tryz.prog 57 #[pt a] w fun e w' => e = .returned (.bool (hiB (qv a))) ∧ Below w.heap.size w w' := by
  have sa := vec_size 8 a
  have M1 := fun w => specIm_wide a (fun j hj => by have := ha j hj; omega) w
  have M2 := fun w => specRe_wide a (fun j hj => by have := ha j hj; omega) w
  have hi := ima_small ha
  have hr := rea_small ha
  have S1 : ∀ w, Calls Tryz.prog 39 #[.agg (vec 4 (ima a))] w fun e w' => e = .returned (.int .i64 (sgf (ima a))) ∧ Below w.heap.size w w' := fun w => l3Sign_any (ima a 0) (ima a 1) (ima a 2) (ima a 3) (by have := hi 0 (by omega); omega) (by have := hi 1 (by omega); omega) (by have := hi 2 (by omega); omega) (by have := hi 3 (by omega); omega) w
  have S2 : ∀ w, Calls Tryz.prog 39 #[.agg (vec 4 (rea a))] w fun e w' => e = .returned (.int .i64 (sgf (rea a))) ∧ Below w.heap.size w w' := fun w => l3Sign_any (rea a 0) (rea a 1) (rea a 2) (rea a 3) (by have := hr 0 (by omega); omega) (by have := hr 1 (by omega); omega) (by have := hr 2 (by omega); omega) (by have := hr 3 (by omega); omega) w
  have HE : hiB (qv a) = (decide (0 < sgf (ima a)) || (decide (sgf (ima a) = 0) && decide (0 < sgf (rea a)))) := rfl
  rw [HE]
  clear HE hi hr ha
  have h3 : sgf (ima a) = 1 ∨ sgf (ima a) = -1 ∨ sgf (ima a) = 0 := sg4_range _ _ _ _
  unfold pt
  generalize sgf (ima a) = s at *
  generalize sgf (rea a) = t at *
  generalize ima a = p at *
  generalize rea a = q at *
  rcases h3 with rfl | rfl | rfl
  · clear M2 S2
    go_enter Tryz.func57, Tryz.ntmps57
    go_upto_region 1 with fail
    show Code.wp _ _ _ _ (box0 w a 40)
    obtain ⟨hA, hL⟩ := box0_facts w a 40
    generalize box0 w a 40 = W at *
    go_wp2_with (refine load_row rfl rfl rfl hA Tryz.underlying40 rfl info_cyc ?_)
    refine (M1 _).mono ?_; rintro e w2 ⟨rfl, hb2⟩
    have hA2 := hA.below hb2
    have hL2 := below_next hL hb2
    clear hA hL hb2 M1
    go_wp2_with fail
    refine (S1 _).mono ?_; rintro e w3 ⟨rfl, hb3⟩
    have hA3 := hA2.below hb3
    have hL3 := below_next hL2 hb3
    clear hA2 hL2 hb3 S1
    go_wp2
    go_ret
    exact ⟨rfl, hL3⟩
  · clear M2 S2
    go_enter Tryz.func57, Tryz.ntmps57
    go_upto_region 1 with fail
    show Code.wp _ _ _ _ (box0 w a 40)
    obtain ⟨hA, hL⟩ := box0_facts w a 40
    generalize box0 w a 40 = W at *
    go_wp2_with (refine load_row rfl rfl rfl hA Tryz.underlying40 rfl info_cyc ?_)
    refine (M1 _).mono ?_; rintro e w2 ⟨rfl, hb2⟩
    have hA2 := hA.below hb2
    have hL2 := below_next hL hb2
    clear hA hL hb2 M1
    go_wp2_with fail
    refine (S1 _).mono ?_; rintro e w3 ⟨rfl, hb3⟩
    have hA3 := hA2.below hb3
    have hL3 := below_next hL2 hb3
    clear hA2 hL2 hb3 S1
    go_wp2
    go_ret
    exact ⟨rfl, hL3⟩
  · skip
    go_enter Tryz.func57, Tryz.ntmps57
    go_upto_region 1 with fail
    show Code.wp _ _ _ _ (box0 w a 40)
    obtain ⟨hA, hL⟩ := box0_facts w a 40
    generalize box0 w a 40 = W at *
    go_wp2_with (refine load_row rfl rfl rfl hA Tryz.underlying40 rfl info_cyc ?_)
    refine (M1 _).mono ?_; rintro e w2 ⟨rfl, hb2⟩
    have hA2 := hA.below hb2
    have hL2 := below_next hL hb2
    clear hA hL hb2 M1
    go_wp2_with fail
    refine (S1 _).mono ?_; rintro e w3 ⟨rfl, hb3⟩
    have hA3 := hA2.below hb3
    have hL3 := below_next hL2 hb3
    clear hA2 hL2 hb3 S1
    go_wp2_with (refine load_pt_on (by rfl) rfl rfl hA3.range Tryz.underlying40 rfl info_cyc ?_)
    refine (M2 _).mono ?_; rintro e w4 ⟨rfl, hb4⟩
    have hL4 := below_next hL3 hb4
    clear hA3 hL3 hb4 M2
    go_wp2_with fail
    refine (S2 _).mono ?_; rintro e w5 ⟨rfl, hb5⟩
    have hL5 := below_next hL4 hb5
    clear hL4 hb5 S2
    go_wp2
    go_ret
    exact ⟨ret_bool (by simp), hL5⟩

def backO (xs : List V) : Option (List V) := if polyOk xs then some xs.reverse else none
/-- The first k points in the opposite order. -/
def backV (xs : List V) (k : Nat) : List V := (List.range k).map fun i => at' xs (xs.length - 1 - i)
theorem backV_all (xs : List V) : backV xs xs.length = xs.reverse := by
  refine List.ext_getElem? fun i => ?_
  unfold backV
  by_cases h : i < xs.length
  · rw [List.getElem?_map, List.getElem?_range h, List.getElem?_reverse h]
    exact (at_get (by omega)).symm
  · rw [List.getElem?_eq_none (by simp; omega), List.getElem?_eq_none (by simp; omega)]
theorem polyOk_len {xs : List V} (h : polyOk xs = true) : 1 ≤ xs.length ∧ xs.length ≤ 48 := by
  unfold polyOk at h
  rw [Bool.and_eq_true, decide_eq_true_iff] at h
  exact h.2
theorem reads_ptr8 {w : World} {v : Value} {xs : List V} (h : ReadsL encV w v xs) (hn : ¬ xs = []) : ∃ g o cap, v = .slice (some ⟨g, o, none⟩) xs.length cap ∧ xs.length ≤ cap ∧ cap ≤ maxLen ∧ g < w.heap.size ∧ w.rangeAt g o (flt encV xs) := by
  obtain ⟨p, cap, h1, h2, h3, h4, h5⟩ := h
  have hp : p ≠ none := fun e => by
    have := h4 e
    exact hn (List.length_eq_zero_iff.1 (by omega))
  obtain ⟨g, o, rfl, hg, hr⟩ := h5 hp
  exact ⟨g, o, cap, h1, h2, h3, hg, hr⟩
end Go.Proofs.YtdpakhggpgdgbaaGreat
