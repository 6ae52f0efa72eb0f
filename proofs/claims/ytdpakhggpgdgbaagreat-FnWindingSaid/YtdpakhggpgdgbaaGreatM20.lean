/-
  Out of the text PolyLaw: what the draws of polygons need.
  Out of the text KSymS: what the draws of polygons need.
  Out of the text PolyW: what the draws of polygons need.
  Out of the text PolyX: what the draws of polygons need.
-/
import Derived.Test.YtdpakhggpgdgbaaGreatM19
import Derived.Test.YtdpakhggpgdgbaaGreatM17
import Derived.Test.YtdpakhggpgdgbaaGreatM16
import Derived.Test.YtdpakhggpgdgbaaGreatM13
import Derived.Test.YtdpakhggpgdgbaaGreatM04
import Derived.Test.YtdpakhggpgdgbaaGreatM14
import Derived.Test.YtdpakhggpgdgbaaGreatM05
/- Out of the text PolyLaw: what the draws of polygons need. -/
namespace Go.Proofs.YtdpakhggpgdgbaaGreat
set_option maxRecDepth 20000
open Go.ChangeShapes Go.WideShapes Go.ChangeAt Go.RowKit
set_option linter.unusedVariables false
set_option linter.unusedSimpArgs false
section
variable {P Q : Nat → Q2} {n : Nat}
theorem stpQ_same (h : ∀ i, i < n → P i = Q i) {i : Nat} (hi : i < n) : stp' P n i = stp' Q n i := by
  unfold stp'
  rw [h i hi, h _ (Nat.mod_lt _ (by omega))]
theorem bnd_same (h : ∀ i, i < n → P i = Q i) {i : Nat} (hi : i < n) : bnd P n i = bnd Q n i := by
  unfold bnd
  rw [stpQ_same h hi, stpQ_same h (Nat.mod_lt _ (by omega))]
theorem turnZ_same (h : ∀ i, i < n → P i = Q i) : turnZ P n = turnZ Q n := by
  unfold turnZ
  exact sm_same fun i hi => by rw [stpQ_same h hi, stpQ_same h (Nat.mod_lt _ (by omega))]
theorem okP_same (h : ∀ i, i < n → P i = Q i) (k : okP P n) : okP Q n := fun i hi => by
  rw [← stpQ_same h hi, ← stpQ_same h (Nat.mod_lt _ (by omega))]
  exact k i hi
theorem windZ_same (h : ∀ i, i < n → P i = Q i) (c : Q2) : windZ P c n = windZ Q c n := by
  unfold windZ
  exact sm_same fun i hi => by rw [h i hi, h _ (Nat.mod_lt _ (by omega))]
theorem onP_same (h : ∀ i, i < n → P i = Q i) (c : Q2) : onP P c n = onP Q c n := by
  unfold onP
  exact any_same fun i hi => by rw [h i hi, h _ (Nat.mod_lt _ (by omega))]
end
theorem polyOk_rev {xs : List V} (h : polyOk xs = true) : polyOk xs.reverse = true := by
  unfold polyOk at h ⊢
  rw [List.all_reverse, List.length_reverse]
  exact h
theorem at_rev (xs : List V) {i : Nat} (h : i < xs.length) : at' xs.reverse i = at' xs (xs.length - 1 - i) := by
  unfold at'
  rw [List.getElem?_reverse h]
theorem PQ_rev (xs : List V) : ∀ i, i < xs.length → rv (PQ xs) xs.length i = PQ xs.reverse i := fun i hi => by
  unfold rv PQ
  rw [at_rev xs hi]
theorem back_yes {xs : List V} (h : polyOk xs = true) : backO xs = some xs.reverse := by unfold backO; rw [if_pos h]
theorem bends_some {xs : List V} {L : List Int} (h : bendsO xs = some L) : polyOk xs = true ∧ L.length = xs.length ∧ (∀ k, k < xs.length → L[k]? = some (bnd (PQ xs) xs.length k)) := by
  unfold bendsO at h
  split at h
  · rename_i hk
    simp only [Option.some.injEq] at h
    subst h
    exact ⟨hk, by simp, fun k hkl => by simp [hkl]⟩
  · cases h
theorem bends_yes {xs : List V} (h : polyOk xs = true) : ∃ L, bendsO xs = some L := by
  unfold bendsO; rw [if_pos h]; exact ⟨_, rfl⟩
theorem bends_are {xs : List V} {L : List Int} (h : bendsO xs = some L) {k : Nat} {z : Int} (hz : L[k]? = some z) : k < xs.length ∧ z = bnd (PQ xs) xs.length k ∧ -1 ≤ z ∧ z ≤ 1 := by
  obtain ⟨a1, a2, a3⟩ := bends_some h
  have hk : k < xs.length := by
    have := (List.getElem?_eq_some_iff.1 hz).1
    omega
  have e := a3 k hk
  rw [hz, Option.some.injEq] at e
  refine ⟨hk, e, ?_⟩
  rw [e]
  unfold bnd
  rcases sgR_three (cr (stp' (PQ xs) xs.length ((k + xs.length - 1) % xs.length)) (stp' (PQ xs) xs.length k)) with h | h | h <;> rw [h] <;> omega
theorem windZ_small {P : Nat → Q2} {c : Q2} {n : Nat} : -(n : Int) ≤ windZ P c n ∧ windZ P c n ≤ n := by
  unfold windZ
  have key : ∀ (f : Nat → Int), (∀ i, -1 ≤ f i ∧ f i ≤ 1) → ∀ m : Nat, -(m : Int) ≤ sumI f m ∧ sumI f m ≤ m := by
    intro f hf m
    induction m with
    | zero => exact ⟨by simp [sm], by simp [sm]⟩
    | succ m ih =>
      have := hf m
      show -((m + 1 : Nat) : Int) ≤ sumI f m + f m ∧ sumI f m + f m ≤ ((m + 1 : Nat) : Int)
      omega
  refine key _ (fun i => ?_) n
  unfold wn
  split
  · omega
  · split <;> omega
theorem wind_some {xs : List V} {c : V} {m : Int} (h : windO xs c = some m) : polyOk xs = true ∧ smallF 100 c.up = true ∧ onB xs c = false ∧ m = windZ (PQ xs) (qv c.up) xs.length := by
  unfold windO at h
  split at h
  · rename_i hk
    rw [Bool.and_eq_true, Bool.and_eq_true, Bool.not_eq_true'] at hk
    simp only [Option.some.injEq] at h
    refine ⟨hk.1.1, hk.1.2, ?_, h.symm⟩
    unfold onB
    rw [hk.2, Bool.and_false]
  · cases h
theorem wind_rev {xs : List V} {c : V} {m : Int} (h : windO xs c = some m) : windO xs.reverse c = some (-m) := by
  obtain ⟨h1, h2, h3, rfl⟩ := wind_some h
  have h4 : onP (PQ xs) (qv c.up) xs.length = false := by
    unfold onB at h3
    rw [h1, h2, Bool.and_self, Bool.true_and] at h3
    exact h3
  unfold windO
  rw [polyOk_rev h1, h2, List.length_reverse, ← onP_same (PQ_rev xs), onP_rv, h4, ← windZ_same (PQ_rev xs), windZ_rv]
  rfl
theorem conv_asked {xs : List V} (h : convB xs = true) : polyOk xs = true ∧ convP (PQ xs) xs.length := by
  rw [convB_asked] at h
  simp only [Bool.and_eq_true, List.all_eq_true, List.mem_range, decide_eq_true_iff] at h
  obtain ⟨⟨⟨⟨⟨h1, h2⟩, h3⟩, h4⟩, h5⟩, h6⟩ := h
  refine ⟨h1, h3, okB_iff.1 h2, ?_⟩
  rcases Int.le_total 0 (turnZ (PQ xs) xs.length) with h0 | h0
  · left
    have e : turnZ (PQ xs) xs.length = 1 := by
      rcases Int.lt_or_le 1 (turnZ (PQ xs) xs.length) with h7 | h7
      · have := Int.mul_le_mul (Int.add_one_le_of_lt h7) (Int.add_one_le_of_lt h7) (by omega) (by omega)
        omega
      · rcases Int.lt_or_le (turnZ (PQ xs) xs.length) 1 with h8 | h8
        · have e : turnZ (PQ xs) xs.length = 0 := by omega
          rw [e] at h6
          omega
        · omega
    exact ⟨fun i hi => by rw [h4 i hi, h5, e], e⟩
  · right
    have e : turnZ (PQ xs) xs.length = -1 := by
      generalize turnZ (PQ xs) xs.length = t at *
      have h9 : (-t) * (-t) = 1 := by rw [Int.neg_mul_neg]; exact h6
      rcases Int.lt_or_le 1 (-t) with h7 | h7
      · have := Int.mul_le_mul (Int.add_one_le_of_lt h7) (Int.add_one_le_of_lt h7) (by omega) (by omega)
        omega
      · rcases Int.lt_or_le (-t) 1 with h8 | h8
        · have e : t = 0 := by omega
          rw [e] at h6
          omega
        · omega
    exact ⟨fun i hi => by rw [h4 i hi, h5, e], e⟩
theorem conv_of {xs : List V} (h : polyOk xs = true) (k : convP (PQ xs) xs.length) : convB xs = true := by
  unfold convB
  rw [h, okB_iff.2 k.2.1, Bool.and_self, Bool.true_and]
  simp only [List.all_eq_true, List.mem_range, decide_eq_true_iff]
  rcases k.2.2 with ⟨a, b⟩ | ⟨a, b⟩
  · exact fun i hi => by rw [a i hi, b]
  · exact fun i hi => by rw [a i hi, b]
theorem conv_rev {xs : List V} (h : convB xs = true) : convB xs.reverse = true := by
  obtain ⟨h1, h2⟩ := conv_asked h
  refine conv_of (polyOk_rev h1) ?_
  rw [List.length_reverse]
  have k := convP_rv h2
  have s := PQ_rev xs
  refine ⟨k.1, okP_same s k.2.1, ?_⟩
  rw [← turnZ_same s]
  rcases k.2.2 with ⟨a, b⟩ | ⟨a, b⟩
  · exact .inl ⟨fun i hi => by rw [← bnd_same s hi]; exact a i hi, b⟩
  · exact .inr ⟨fun i hi => by rw [← bnd_same s hi]; exact a i hi, b⟩
theorem conv_area {xs : List V} {L : List Int} (h : convB xs = true) (hL : bendsO xs = some L) : L[0]? = some (sgf (areaV xs)) := by
  obtain ⟨h1, h2⟩ := conv_asked h
  have e := convP_area h2
  rw [(bends_some hL).2.2 0 (by have := (polyOk_len h1).1; omega), ← e]
  have q : areaR (PQ xs) xs.length = four (q4 (areaV xs)) := area_qv (fun i => (at' xs i).up) xs.length
  rw [q, sgR_four, sgR_q4]
theorem conv_wind {xs : List V} {c : V} {m : Int} (h : convB xs = true) (hm : windO xs c = some m) : -1 ≤ m ∧ m ≤ 1 := by
  obtain ⟨-, -, -, rfl⟩ := wind_some hm
  exact convP_wind (conv_asked h).2 _
end Go.Proofs.YtdpakhggpgdgbaaGreat
/- Out of the text KSymS: what the draws of polygons need. -/
namespace Go.Proofs.YtdpakhggpgdgbaaGreat
set_option maxRecDepth 20000
open Go.ChangeShapes Go.WideShapes Go.ChangeAt Go.RowKit
set_option linter.unusedVariables false
set_option linter.unusedSimpArgs false
theorem gcd_step (p q : Int) : Int.gcd q (p.tmod q) = Int.gcd p q := by
  unfold Int.gcd
  rw [Int.natAbs_tmod, Nat.gcd_comm p.natAbs q.natAbs, Nat.gcd_rec q.natAbs p.natAbs, Nat.gcd_comm]
theorem specGcdZ (a b : Int) (ha : -1000000 ≤ a ∧ a ≤ 1000000) (hb : -1000000 ≤ b ∧ b ≤ 1000000) (w : World) :
    Calls Tryz.prog 101 #[.int .i64 a, .int .i64 b] w fun e w' => e = .returned (.int .i64 ((Int.gcd a b : Nat) : Int)) ∧ w = w' := by
  go_enter Tryz.func101, Tryz.ntmps101
  go_wp2
  go_loop [0, 1, 5] (fun x y _ => ∃ p q : Int, x = .int .i64 p ∧ y = .int .i64 q ∧ (-1000000 ≤ p ∧ p ≤ 1000000) ∧ (-1000000 ≤ q ∧ q ≤ 1000000) ∧ Int.gcd p q = Int.gcd a b) (fun _ y _ => (intOf y).natAbs)
  case atStart => exact ⟨a, b, rfl, rfl, ha, hb, rfl⟩
  case round =>
    obtain ⟨p, q, rfl, rfl, hp, hq, hg⟩ := hrel
    have G := Lib.hid hg; clear hg
    by_cases h : q = 0
    · subst h
      go_wp2
      go_ret
      exact ⟨ret_int (by have := G.out; rw [Int.gcd_zero_right] at this; omega), rfl⟩
    · have hq0 : (q != 0) = true := by simpa using h
      have hq2 : (q == 0) = false := by simpa using h
      have ht : (p.tmod q).natAbs = p.natAbs % q.natAbs := Int.natAbs_tmod p q
      have hlt : p.natAbs % q.natAbs < q.natAbs := Nat.mod_lt _ (by omega)
      have w1 : IntKind.i64.wrap (p.tmod q) = p.tmod q := by rw [IntKind.wrap_i64]; omega
      have HR : Aside (-1000000 ≤ p.tmod q ∧ p.tmod q ≤ 1000000) := (show _ ∧ _ from by omega)
      have HM : Aside ((p.tmod q).natAbs < q.natAbs) := (show _ < _ from by omega)
      clear ht hlt
      go_wp2
      go_round
      case rel => exact ⟨q, p.tmod q, rfl, rfl, hq, HR.out, by rw [gcd_step, G.out]⟩
      case measure => have := HM.out; simp only [intOf]; omega

end Go.Proofs.YtdpakhggpgdgbaaGreat
/- Out of the text PolyW: what the draws of polygons need. -/
namespace Go.Proofs.YtdpakhggpgdgbaaGreat
set_option maxRecDepth 20000
open Go.ChangeShapes Go.WideShapes Go.ChangeAt Go.RowKit
set_option linter.unusedVariables false
set_option linter.unusedSimpArgs false
/-- spec's signs, of numbers up to 10^8. -/
theorem l3Sign_at (f : Nat → Int) (h : ∀ j, j < 4 → -100000000 ≤ f j ∧ f j ≤ 100000000) (w : World) : Calls Tryz.prog 39 #[.agg (vec 4 f)] w fun e w' => e = .returned (.int .i64 (sgf f)) ∧ Below w.heap.size w w' :=
  l3Sign_any (f 0) (f 1) (f 2) (f 3) (h 0 (by omega)) (h 1 (by omega)) (h 2 (by omega)) (h 3 (by omega)) w
def box3c (w : World) (a b c : Nat → Int) (T : TypeId) : World := ((w.alloc (.cells (vec 8 a) T)).alloc (.cells (vec 8 b) T)).alloc (.cells (vec 8 c) T)
theorem box3c_facts (w : World) (a b c : Nat → Int) (T : TypeId) : RowAt (box3c w a b c T) w.heap.size 8 T a ∧ RowAt (box3c w a b c T) (w.heap.size + 1) 8 T b ∧ RowAt (box3c w a b c T) (w.heap.size + 1 + 1) 8 T c ∧ Below w.heap.size w (box3c w a b c T) :=
  ⟨((RowAt.newAt rfl rfl).alloc _).alloc _, (RowAt.newAt rfl (by simp)).alloc _, RowAt.newAt rfl (by simp), (((Below.refl _ _).alloc (Nat.le_refl _) _).alloc (by simp) _).alloc (by simp; omega) _⟩
set_option maxHeartbeats 4000000 in
theorem l8On_any (a b c : V) (ha : ∀ j, j < 8 → -((100 : Nat) : Int) ≤ a.up j ∧ a.up j ≤ ((100 : Nat) : Int)) (hb : ∀ j, j < 8 → -((100 : Nat) : Int) ≤ b.up j ∧ b.up j ≤ ((100 : Nat) : Int)) (hc : ∀ j, j < 8 → -((100 : Nat) : Int) ≤ c.up j ∧ c.up j ≤ ((100 : Nat) : Int)) (w : World) :
    Calls Tryz.prog 69 #[pt a.up, pt b.up, pt c.up] w fun e w' => e = .returned (.bool (onS (qv a.up - qv c.up) (qv b.up - qv c.up))) ∧ Below w.heap.size w w' := by
  have sa := vec_size 8 a.up
  have sb := vec_size 8 b.up
  have sc := vec_size 8 c.up
  have X := fun w => specSum_any a.up c.up (-1) (by omega) (fun j hj => by have := ha j hj; omega) (fun j hj => by have := hc j hj; omega) w
  have Y := fun w => specSum_any b.up c.up (-1) (by omega) (fun j hj => by have := hb j hj; omega) (fun j hj => by have := hc j hj; omega) w
  rw [← pt_subV] at X Y
  have hx := sub_small ha hc
  have hy := sub_small hb hc
  rw [← qv_subV, ← qv_subV]
  generalize subV a c = x at *
  generalize subV b c = y at *
  have CR := fun w => l8Cross_any x.up y.up (M := 200) (by omega) hx hy w
  have hcs := crs_small (M := 200) (by omega) hx hy
  have S1 := fun w => l3Sign_at (crs x.up y.up) (fun j hj => by have := hcs j hj; omega) w
  have MI := fun w => specMirror_any x.up (small_inR hx (by omega)) w
  have hm := mir_small hx
  have TI := fun w => specTimes_any (mir x.up) y.up (fun j hj => by have := hm j hj; omega) (small_inR hy (by omega)) w
  have hpm := prd_mir_small (M := 200) (by omega) hx hy
  have RE := fun w => specRe_wide (prd (mir x.up) y.up) (fun j hj => by have := hpm j hj; omega) w
  have hds := dts_small (M := 200) (by omega) hx hy
  have S2 := fun w => l3Sign_at (dts x.up y.up) (fun j hj => by have := hds j hj; omega) w
  have HE : onS (qv x.up) (qv y.up) = (decide (sgf (crs x.up y.up) = 0) && decide (sgf (dts x.up y.up) ≤ 0)) := by unfold onS; rw [sgf_crs, sgf_dts]
  rw [HE]
  have hdts : dts x.up y.up = rea (prd (mir x.up) y.up) := rfl
  rw [← hdts] at RE
  clear HE hcs hds hpm hm hx hy ha hb hc hdts
  generalize sgf (crs x.up y.up) = s at *
  generalize sgf (dts x.up y.up) = t at *
  generalize crs x.up y.up = f1 at *
  generalize dts x.up y.up = f2 at *
  generalize prd (mir x.up) y.up = f3 at *
  generalize mir x.up = f4 at *
  unfold pt at *
  go_enter Tryz.func69, Tryz.ntmps69
  go_upto_region 1 with fail
  show Code.wp _ _ _ _ (box3c w a.up b.up c.up 40)
  obtain ⟨hA, hB, hC, hL⟩ := box3c_facts w a.up b.up c.up 40
  generalize box3c w a.up b.up c.up 40 = W at *
  go_upto_region 2 with (first | (refine load_row (g := w.heap.size) rfl rfl rfl hA Tryz.underlying40 rfl info_cyc ?_) | (refine load_row (g := w.heap.size + 1 + 1) rfl rfl rfl hC Tryz.underlying40 rfl info_cyc ?_))
  refine (X _).mono ?_; rintro e w1 ⟨rfl, hb1⟩
  have hB1 := (hB.below hb1).alloc (.cells (vec 8 x.up) 40)
  have hC1 := (hC.below hb1).alloc (.cells (vec 8 x.up) 40)
  have hL1 := (below_next hL hb1).alloc (below_next hL hb1).size (.cells (vec 8 x.up) 40)
  have hX1 := RowAt.new w1 8 40 x.up
  clear hA hB hC hL hb1 X
  go_upto_region 2 with (refine store_new (ty := 40) (f' := x.up) rfl rfl rfl rfl zero8 info_cyc ?_)
  show Code.wp _ _ _ _ (w1.alloc (.cells (vec 8 x.up) 40))
  generalize w1.alloc (.cells (vec 8 x.up) 40) = W1 at *
  generalize w1.heap.size = gx at *
  go_upto_region 3 with (first | (refine load_row (g := w.heap.size + 1) rfl rfl rfl hB1 Tryz.underlying40 rfl info_cyc ?_) | (refine load_row (g := w.heap.size + 1 + 1) rfl rfl rfl hC1 Tryz.underlying40 rfl info_cyc ?_))
  refine (Y _).mono ?_; rintro e w2 ⟨rfl, hb2⟩
  have hX2 := (hX1.below hb2).alloc (.cells (vec 8 y.up) 40)
  have hL2 := (below_next hL1 hb2).alloc (below_next hL1 hb2).size (.cells (vec 8 y.up) 40)
  have hY2 := RowAt.new w2 8 40 y.up
  clear hB1 hC1 hX1 hL1 hb2 Y
  go_upto_region 3 with (refine store_new (ty := 40) (f' := y.up) rfl rfl rfl rfl zero8 info_cyc ?_)
  show Code.wp _ _ _ _ (w2.alloc (.cells (vec 8 y.up) 40))
  generalize w2.alloc (.cells (vec 8 y.up) 40) = W2 at *
  generalize w2.heap.size = gy at *
  refine wp_region_held_drew (S := fun w' => RowAt w' gx 8 40 x.up ∧ RowAt w' gy 8 40 y.up ∧ Below w.heap.size w w') (by kernel_rfl) ⟨hX2.drew1, hY2.drew1, hL2.drew⟩ (fun hHeld => ?_)
  clear hX2 hY2 hL2
  refine wpAnyH_take (i := 0) (oi := _) (v := .agg (vec 8 x.up)) rfl (by kernel_rfl) (by kernel_rfl) (by kernel_rfl) (fun _ _ _ h => h) (yieldsIf_load_mid (by rfl) _ _ rfl _ _ rfl _ _ ((fun w h => h.1.range)) Tryz.underlying40 rfl (size_cyc8 x.up)) hHeld ?_
  try simp only [Act.put, List.setIfInBounds_toArray, List.set_cons_zero, List.set_cons_succ, List.getElem_toArray, List.getElem_cons_succ, List.getElem_cons_zero]
  refine wpAnyH_take (i := 1) (oi := _) (v := .agg (vec 8 y.up)) rfl (by kernel_rfl) (by kernel_rfl) (by kernel_rfl) (fun _ _ _ h => h) (yieldsIf_load_mid (by rfl) _ _ rfl _ _ rfl _ _ ((fun w h => h.2.1.range)) Tryz.underlying40 rfl (size_cyc8 y.up)) hHeld ?_
  try simp only [Act.put, List.setIfInBounds_toArray, List.set_cons_zero, List.set_cons_succ, List.getElem_toArray, List.getElem_cons_succ, List.getElem_cons_zero]
  refine wpAnyH_ready (rs := [2]) (by kernel_rfl) (by simp) ?_
  refine AllReadyH.cons (o := _) rfl (fun K hK => ?_) AllReadyH.nil
  go_simp
  refine (CR _).mono ?_; rintro e w3 ⟨rfl, hb3⟩
  go_wp2_with fail
  obtain ⟨h1, h2, h3⟩ := hHeld
  refine hK.out _ _ ⟨h1.below hb3, h2.below hb3, below_next h3 hb3⟩ (fun hHeld => ?_)
  clear hK K
  try simp only [Act.put, List.setIfInBounds_toArray, List.set_cons_zero, List.set_cons_succ, List.getElem_toArray, List.getElem_cons_succ, List.getElem_cons_zero]
  clear h1 h2 h3 hb3 CR
  refine wpAnyH_ready (rs := [3]) (by kernel_rfl) (by simp) ?_
  refine AllReadyH.cons (o := _) rfl (fun K hK => ?_) AllReadyH.nil
  go_simp
  refine (S1 _).mono ?_; rintro e w4 ⟨rfl, hb3⟩
  go_wp2_with fail
  obtain ⟨h1, h2, h3⟩ := hHeld
  refine hK.out _ _ ⟨h1.below hb3, h2.below hb3, below_next h3 hb3⟩ (fun hHeld => ?_)
  clear hK K
  try simp only [Act.put, List.setIfInBounds_toArray, List.set_cons_zero, List.set_cons_succ, List.getElem_toArray, List.getElem_cons_succ, List.getElem_cons_zero]
  clear h1 h2 h3 hb3 S1
  by_cases hs : s = 0
  · subst hs
    refine wpAnyH_take (i := 4) (oi := _) (v := .bool true) rfl (by kernel_rfl) (by kernel_rfl) (by kernel_rfl) (fun _ _ _ h => h) (Or.inl ⟨by rfl, fun w h => by go_simp⟩) hHeld ?_
    try simp only [Act.put, List.setIfInBounds_toArray, List.set_cons_zero, List.set_cons_succ, List.getElem_toArray, List.getElem_cons_succ, List.getElem_cons_zero]
    refine wpAnyH_take (i := 5) (oi := _) (v := .bool true) rfl (by kernel_rfl) (by kernel_rfl) (by kernel_rfl) (fun _ _ _ h => h) (Or.inl ⟨by rfl, fun w h => by go_simp⟩) hHeld ?_
    try simp only [Act.put, List.setIfInBounds_toArray, List.set_cons_zero, List.set_cons_succ, List.getElem_toArray, List.getElem_cons_succ, List.getElem_cons_zero]
    refine wpAnyH_take (i := 6) (oi := _) (v := .agg (vec 8 x.up)) rfl (by kernel_rfl) (by kernel_rfl) (by kernel_rfl) (fun _ _ _ h => h) (yieldsIf_load_mid (by rfl) _ _ rfl _ _ rfl _ _ ((fun w h => h.1.range)) Tryz.underlying40 rfl (size_cyc8 x.up)) hHeld ?_
    try simp only [Act.put, List.setIfInBounds_toArray, List.set_cons_zero, List.set_cons_succ, List.getElem_toArray, List.getElem_cons_succ, List.getElem_cons_zero]
    refine wpAnyH_take (i := 8) (oi := _) (v := .agg (vec 8 y.up)) rfl (by kernel_rfl) (by kernel_rfl) (by kernel_rfl) (fun _ _ _ h => h) (yieldsIf_load_mid (by rfl) _ _ rfl _ _ rfl _ _ ((fun w h => h.2.1.range)) Tryz.underlying40 rfl (size_cyc8 y.up)) hHeld ?_
    try simp only [Act.put, List.setIfInBounds_toArray, List.set_cons_zero, List.set_cons_succ, List.getElem_toArray, List.getElem_cons_succ, List.getElem_cons_zero]
    refine wpAnyH_ready (rs := [7]) (by kernel_rfl) (by simp) ?_
    refine AllReadyH.cons (o := _) rfl (fun K hK => ?_) AllReadyH.nil
    go_simp
    refine (MI _).mono ?_; rintro e w5 ⟨rfl, hb3⟩
    go_wp2_with fail
    obtain ⟨h1, h2, h3⟩ := hHeld
    refine hK.out _ _ ⟨h1.below hb3, h2.below hb3, below_next h3 hb3⟩ (fun hHeld => ?_)
    clear hK K
    try simp only [Act.put, List.setIfInBounds_toArray, List.set_cons_zero, List.set_cons_succ, List.getElem_toArray, List.getElem_cons_succ, List.getElem_cons_zero]
    clear h1 h2 h3 hb3 MI
    refine wpAnyH_ready (rs := [9]) (by kernel_rfl) (by simp) ?_
    refine AllReadyH.cons (o := _) rfl (fun K hK => ?_) AllReadyH.nil
    go_simp
    refine (TI _).mono ?_; rintro e w6 ⟨rfl, hb3⟩
    go_wp2_with fail
    obtain ⟨h1, h2, h3⟩ := hHeld
    refine hK.out _ _ ⟨h1.below hb3, h2.below hb3, below_next h3 hb3⟩ (fun hHeld => ?_)
    clear hK K
    try simp only [Act.put, List.setIfInBounds_toArray, List.set_cons_zero, List.set_cons_succ, List.getElem_toArray, List.getElem_cons_succ, List.getElem_cons_zero]
    clear h1 h2 h3 hb3 TI
    refine wpAnyH_ready (rs := [10]) (by kernel_rfl) (by simp) ?_
    refine AllReadyH.cons (o := _) rfl (fun K hK => ?_) AllReadyH.nil
    go_simp
    refine (RE _).mono ?_; rintro e w7 ⟨rfl, hb3⟩
    go_wp2_with fail
    obtain ⟨h1, h2, h3⟩ := hHeld
    refine hK.out _ _ ⟨h1.below hb3, h2.below hb3, below_next h3 hb3⟩ (fun hHeld => ?_)
    clear hK K
    try simp only [Act.put, List.setIfInBounds_toArray, List.set_cons_zero, List.set_cons_succ, List.getElem_toArray, List.getElem_cons_succ, List.getElem_cons_zero]
    clear h1 h2 h3 hb3 RE
    refine wpAnyH_ready (rs := [11]) (by kernel_rfl) (by simp) ?_
    refine AllReadyH.cons (o := _) rfl (fun K hK => ?_) AllReadyH.nil
    go_simp
    refine (S2 _).mono ?_; rintro e w8 ⟨rfl, hb3⟩
    go_wp2_with fail
    obtain ⟨h1, h2, h3⟩ := hHeld
    refine hK.out _ _ ⟨h1.below hb3, h2.below hb3, below_next h3 hb3⟩ (fun hHeld => ?_)
    clear hK K
    try simp only [Act.put, List.setIfInBounds_toArray, List.set_cons_zero, List.set_cons_succ, List.getElem_toArray, List.getElem_cons_succ, List.getElem_cons_zero]
    clear h1 h2 h3 hb3 S2
    refine wpAnyH_take (i := 12) (oi := _) (v := .bool (decide (t ≤ 0))) rfl (by kernel_rfl) (by kernel_rfl) (by kernel_rfl) (fun _ _ _ h => h) (Or.inl ⟨by rfl, fun w h => by go_simp⟩) hHeld ?_
    try simp only [Act.put, List.setIfInBounds_toArray, List.set_cons_zero, List.set_cons_succ, List.getElem_toArray, List.getElem_cons_succ, List.getElem_cons_zero]
    refine wpAnyH_take (i := 13) (oi := _) (v := .bool (decide (t ≤ 0))) rfl (by kernel_rfl) (by kernel_rfl) (by kernel_rfl) (fun _ _ _ h => h) (Or.inl ⟨by rfl, fun w h => by go_simp⟩) hHeld ?_
    try simp only [Act.put, List.setIfInBounds_toArray, List.set_cons_zero, List.set_cons_succ, List.getElem_toArray, List.getElem_cons_succ, List.getElem_cons_zero]
    refine wpAnyH_take (i := 14) (oi := _) (v := .bool (decide (t ≤ 0))) rfl (by kernel_rfl) (by kernel_rfl) (by kernel_rfl) (fun _ _ _ h => h) (Or.inl ⟨by rfl, fun w h => by go_simp⟩) hHeld ?_
    try simp only [Act.put, List.setIfInBounds_toArray, List.set_cons_zero, List.set_cons_succ, List.getElem_toArray, List.getElem_cons_succ, List.getElem_cons_zero]
    refine wpAnyH_done (by kernel_rfl) ?_ _
    have hL3 := hHeld.2.2
    clear hHeld
    go_wp2
    go_ret
    exact ⟨ret_bool (by simp), hL3⟩
  · have hs2 : (s == 0) = false := by simpa using hs
    refine wpAnyH_take (i := 4) (oi := _) (v := .bool false) rfl (by kernel_rfl) (by kernel_rfl) (by kernel_rfl) (fun _ _ _ h => h) (Or.inl ⟨by rfl, fun w h => by go_simp⟩) hHeld ?_
    try simp only [Act.put, List.setIfInBounds_toArray, List.set_cons_zero, List.set_cons_succ, List.getElem_toArray, List.getElem_cons_succ, List.getElem_cons_zero]
    refine wpAnyH_take (i := 5) (oi := _) (v := .bool false) rfl (by kernel_rfl) (by kernel_rfl) (by kernel_rfl) (fun _ _ _ h => h) (Or.inl ⟨by rfl, fun w h => by go_simp⟩) hHeld ?_
    try simp only [Act.put, List.setIfInBounds_toArray, List.set_cons_zero, List.set_cons_succ, List.getElem_toArray, List.getElem_cons_succ, List.getElem_cons_zero]
    refine wpAnyH_take (i := 6) (oi := _) (v := undef) rfl (by kernel_rfl) (by kernel_rfl) (by kernel_rfl) (fun _ _ _ h => h) (Or.inr ⟨by rfl, rfl⟩) hHeld ?_
    try simp only [Act.put, List.setIfInBounds_toArray, List.set_cons_zero, List.set_cons_succ, List.getElem_toArray, List.getElem_cons_succ, List.getElem_cons_zero]
    refine wpAnyH_take (i := 7) (oi := _) (v := undef) rfl (by kernel_rfl) (by kernel_rfl) (by kernel_rfl) (fun _ _ _ h => h) (Or.inr ⟨by rfl, rfl⟩) hHeld ?_
    try simp only [Act.put, List.setIfInBounds_toArray, List.set_cons_zero, List.set_cons_succ, List.getElem_toArray, List.getElem_cons_succ, List.getElem_cons_zero]
    refine wpAnyH_take (i := 8) (oi := _) (v := undef) rfl (by kernel_rfl) (by kernel_rfl) (by kernel_rfl) (fun _ _ _ h => h) (Or.inr ⟨by rfl, rfl⟩) hHeld ?_
    try simp only [Act.put, List.setIfInBounds_toArray, List.set_cons_zero, List.set_cons_succ, List.getElem_toArray, List.getElem_cons_succ, List.getElem_cons_zero]
    refine wpAnyH_take (i := 9) (oi := _) (v := undef) rfl (by kernel_rfl) (by kernel_rfl) (by kernel_rfl) (fun _ _ _ h => h) (Or.inr ⟨by rfl, rfl⟩) hHeld ?_
    try simp only [Act.put, List.setIfInBounds_toArray, List.set_cons_zero, List.set_cons_succ, List.getElem_toArray, List.getElem_cons_succ, List.getElem_cons_zero]
    refine wpAnyH_take (i := 10) (oi := _) (v := undef) rfl (by kernel_rfl) (by kernel_rfl) (by kernel_rfl) (fun _ _ _ h => h) (Or.inr ⟨by rfl, rfl⟩) hHeld ?_
    try simp only [Act.put, List.setIfInBounds_toArray, List.set_cons_zero, List.set_cons_succ, List.getElem_toArray, List.getElem_cons_succ, List.getElem_cons_zero]
    refine wpAnyH_take (i := 11) (oi := _) (v := undef) rfl (by kernel_rfl) (by kernel_rfl) (by kernel_rfl) (fun _ _ _ h => h) (Or.inr ⟨by rfl, rfl⟩) hHeld ?_
    try simp only [Act.put, List.setIfInBounds_toArray, List.set_cons_zero, List.set_cons_succ, List.getElem_toArray, List.getElem_cons_succ, List.getElem_cons_zero]
    refine wpAnyH_take (i := 12) (oi := _) (v := undef) rfl (by kernel_rfl) (by kernel_rfl) (by kernel_rfl) (fun _ _ _ h => h) (Or.inr ⟨by rfl, rfl⟩) hHeld ?_
    try simp only [Act.put, List.setIfInBounds_toArray, List.set_cons_zero, List.set_cons_succ, List.getElem_toArray, List.getElem_cons_succ, List.getElem_cons_zero]
    refine wpAnyH_take (i := 13) (oi := _) (v := .bool false) rfl (by kernel_rfl) (by kernel_rfl) (by kernel_rfl) (fun _ _ _ h => h) (Or.inl ⟨by rfl, fun w h => by go_simp⟩) hHeld ?_
    try simp only [Act.put, List.setIfInBounds_toArray, List.set_cons_zero, List.set_cons_succ, List.getElem_toArray, List.getElem_cons_succ, List.getElem_cons_zero]
    refine wpAnyH_take (i := 14) (oi := _) (v := .bool false) rfl (by kernel_rfl) (by kernel_rfl) (by kernel_rfl) (fun _ _ _ h => h) (Or.inl ⟨by rfl, fun w h => by go_simp⟩) hHeld ?_
    try simp only [Act.put, List.setIfInBounds_toArray, List.set_cons_zero, List.set_cons_succ, List.getElem_toArray, List.getElem_cons_succ, List.getElem_cons_zero]
    refine wpAnyH_done (by kernel_rfl) ?_ _
    have hL3 := hHeld.2.2
    clear hHeld
    go_wp2
    go_ret
    exact ⟨ret_bool (by simp [hs]), hL3⟩

def onK (xs : List V) (c : V) (k : Nat) : Bool := onS (PQ xs k - qv c.up) (PQ xs ((k + 1) % xs.length) - qv c.up)
theorem onP_yes {xs : List V} {c : V} {k : Nat} (h : k < xs.length) (hk : onK xs c k = true) : onP (PQ xs) (qv c.up) xs.length = true :=
  List.any_eq_true.2 ⟨k, List.mem_range.2 h, hk⟩
theorem onP_no {xs : List V} {c : V} (h : ∀ k, k < xs.length → onK xs c k = false) : onP (PQ xs) (qv c.up) xs.length = false :=
  List.any_eq_false.2 fun k hk => by have := h k (List.mem_range.1 hk); unfold onK at this; rw [this]; decide
set_option maxHeartbeats 4000000 in
theorem specPolyOn_any (v : Value) (xs : List V) (c : V) (w : World) (hv : ReadsL encV w v xs) : Calls Tryz.prog 37 #[v, pt c.up] w fun e w' => e = .returned (.bool (onB xs c)) ∧ Below w.heap.size w w' := by
  have sc := vec_size 8 c.up
  have hv1 := hv.below ((Below.refl w.heap.size w).alloc (Nat.le_refl _) (.cells (vec 8 c.up) 40))
  have T := specPolyValid_any v xs _ hv1
  have SM := fun w => l8Small_any c.up 100 (by omega) w
  have hC := RowAt.new w 8 40 c.up
  have hL := (Below.refl w.heap.size w).alloc (Nat.le_refl _) (.cells (vec 8 c.up) 40)
  unfold pt at *
  cases hp : polyOk xs
  · have hF : onB xs c = false := by unfold onB; rw [hp]; rfl
    rw [hF]
    rw [hp] at T
    clear hv hv1 hF
    go_enter Tryz.func37, Tryz.ntmps37
    go_upto_region 1 with fail
    show Code.wp _ _ _ _ (w.alloc (.cells (vec 8 c.up) 40))
    generalize w.alloc (.cells (vec 8 c.up) 40) = W at *
    go_wp2_with fail
    refine T.mono ?_; rintro e w1 ⟨rfl, hb1⟩
    have HL1 := Lib.hid (below_next hL hb1)
    clear T hb1 hC hL
    go_wp2
    go_ret
    exact ⟨rfl, HL1.out⟩
  · rw [hp] at T
    cases hc : smallF 100 c.up
    · have hF : onB xs c = false := by unfold onB; rw [hp, hc]; rfl
      rw [hF]
      rw [hc] at SM
      clear hv hv1 hF
      go_enter Tryz.func37, Tryz.ntmps37
      go_upto_region 1 with fail
      show Code.wp _ _ _ _ (w.alloc (.cells (vec 8 c.up) 40))
      generalize w.alloc (.cells (vec 8 c.up) 40) = W at *
      go_wp2_with fail
      refine T.mono ?_; rintro e w1 ⟨rfl, hb1⟩
      have hC1 := hC.below hb1
      have HL1 := Lib.hid (below_next hL hb1)
      clear T hb1 hC hL
      go_wp2_with (refine load_pt_on (by rfl) rfl rfl hC1.range Tryz.underlying40 rfl info_cyc ?_)
      refine (SM _).mono ?_; rintro e w2 ⟨rfl, hb2⟩
      have HL2 := Lib.hid (below_next HL1.out hb2)
      clear SM hb2 hC1 HL1
      go_wp2
      go_ret
      exact ⟨rfl, HL2.out⟩
    · rw [hc] at SM
      have hln := polyOk_len hp
      have hF : onB xs c = onP (PQ xs) (qv c.up) xs.length := by unfold onB; rw [hp, hc]; rfl
      have HF := Lib.hid hF
      have HX := Lib.hid (polyOk_small hp)
      have HCB := smallF_iff.1 hc
      obtain ⟨g, o, cap, rfl, hc1, hc2, hg, hr⟩ := reads_ptr8 hv (by rintro rfl; simp at hln)
      simp only [maxLen] at hc2
      have HR := Lib.hid hr
      clear hv hv1 hF hr
      obtain ⟨res, hres⟩ : ∃ res, onP (PQ xs) (qv c.up) xs.length = res := ⟨_, rfl⟩
      have HRES := Lib.hid hres
      clear hres
      have hcap : xs.length ≤ 48 := hln.2
      go_enter Tryz.func37, Tryz.ntmps37
      go_upto_region 1 with fail
      show Code.wp _ _ _ _ (w.alloc (.cells (vec 8 c.up) 40))
      generalize w.alloc (.cells (vec 8 c.up) 40) = W at *
      go_wp2_with fail
      refine T.mono ?_; rintro e w1 ⟨rfl, hb1⟩
      have hC1 := hC.below hb1
      have HL1 := Lib.hid (below_next hL hb1)
      clear T hb1 hC hL
      go_wp2_with (refine load_pt_on (by rfl) rfl rfl hC1.range Tryz.underlying40 rfl info_cyc ?_)
      refine (SM _).mono ?_; rintro e w2 ⟨rfl, hb2⟩
      have hC2 := hC1.below hb2
      have HL2 := Lib.hid (below_next HL1.out hb2)
      clear SM hb2 hC1 HL1
      go_wp2
      go_loopw [5] (fun i wr => ∃ k : Nat, k ≤ xs.length ∧ i = .int .i64 k ∧ (∀ p, p < k → onK xs c p = false) ∧ RowAt wr w.heap.size 8 40 c.up ∧ Below w.heap.size w wr) (fun i _ => xs.length - (intOf i).toNat)
      case atStart => exact ⟨0, Nat.zero_le _, rfl, fun p hp => by omega, hC2, HL2.out⟩
      case round =>
        clear hC2 HL2
        obtain ⟨k, hk, rfl, hno, hCr, hbel⟩ := hrel
        have HNO := Lib.hid hno
        clear hno
        by_cases hlt : k < xs.length
        · have hkz : (k : Int) < (xs.length : Int) := by omega
          have hk0 : (0 : Int) ≤ (k : Int) := by omega
          have hrl : (k + 1) % xs.length < xs.length := Nat.mod_lt _ (by omega)
          have HE1 := Lib.hid (cells_part encV_ok HR.out (at_get hlt))
          have HE2 := Lib.hid (cells_part encV_ok HR.out (at_get hrl))
          have ON := fun w => l8On_any (at' xs k) (at' xs ((k + 1) % xs.length)) c (HX.out _ (List.mem_of_getElem? (at_get hlt))) (HX.out _ (List.mem_of_getElem? (at_get hrl))) HCB w
          have hon : onS (qv (at' xs k).up - qv c.up) (qv (at' xs ((k + 1) % xs.length)).up - qv c.up) = onK xs c k := rfl
          rw [hon] at ON
          obtain ⟨r, hrr⟩ : ∃ r, (k + 1) % xs.length = r := ⟨_, rfl⟩
          rw [hrr] at HE2 ON hrl
          have q1 : IntKind.i64.wrap ((k : Int) + 1) = (k : Int) + 1 := by rw [IntKind.wrap_i64]; omega
          have q2 : ((k : Int) + 1).tmod (xs.length : Int) = (r : Int) := by
            rw [Int.tmod_eq_emod_of_nonneg (by omega), ← hrr]; simp
          have q3 : IntKind.i64.wrap (r : Int) = (r : Int) := by rw [IntKind.wrap_i64]; omega
          have q4 : ¬ (xs.length : Int) = 0 := by omega
          have q4c : ¬ xs = [] := by rintro rfl; simp at hln
          have q4b : ((xs.length : Int) == 0) = false := by simpa using q4c
          have q5 : (r : Int) < (xs.length : Int) := by omega
          have q6 : (0 : Int) ≤ (r : Int) := by omega
          obtain ⟨q, hq⟩ : ∃ q, onK xs c k = q := ⟨_, rfl⟩
          rw [hq] at ON
          have HQ := Lib.hid hq
          clear hrr hq hon
          generalize at' xs k = x at *
          generalize at' xs r = y at *
          unfold pt at ON
          go_upto_region 6 with fail
          refine wp_region_held_drew (S := fun w' => RowAt w' w.heap.size 8 40 c.up ∧ Below w.heap.size w w') (by kernel_rfl) ⟨hCr.drew1, hbel.drew⟩ (fun hHeld => ?_)
          clear hCr hbel
          refine wpAnyH_take (i := 0) (oi := _) (v := .slice (some ⟨g, o, none⟩) xs.length cap) rfl (by kernel_rfl) (by kernel_rfl) (by kernel_rfl) (fun _ _ _ h => h) (Or.inl ⟨by rfl, fun w h => by go_simp⟩) hHeld ?_
          try simp only [Act.put, List.setIfInBounds_toArray, List.set_cons_zero, List.set_cons_succ, List.getElem_toArray, List.getElem_cons_succ, List.getElem_cons_zero]
          refine wpAnyH_take (i := 1) (oi := _) (v := .int .i64 k) rfl (by kernel_rfl) (by kernel_rfl) (by kernel_rfl) (fun _ _ _ h => h) (Or.inl ⟨by rfl, fun w h => by go_simp⟩) hHeld ?_
          try simp only [Act.put, List.setIfInBounds_toArray, List.set_cons_zero, List.set_cons_succ, List.getElem_toArray, List.getElem_cons_succ, List.getElem_cons_zero]
          refine wpAnyH_take (i := 2) (oi := _) (v := .pointer (some ⟨g, o + k * 8, none⟩)) rfl (by kernel_rfl) (by kernel_rfl) (by kernel_rfl) (fun _ _ _ h => h) (Or.inl ⟨by rfl, fun w h => by go_simp⟩) hHeld ?_
          try simp only [Act.put, List.setIfInBounds_toArray, List.set_cons_zero, List.set_cons_succ, List.getElem_toArray, List.getElem_cons_succ, List.getElem_cons_zero]
          refine wpAnyH_take (i := 3) (oi := _) (v := .agg (vec 8 x.up)) rfl (by kernel_rfl) (by kernel_rfl) (by kernel_rfl) (fun _ _ _ h => h) (yieldsIf_load_mid (by rfl) _ _ rfl _ _ rfl _ _ ((fun w h => range_kept8 HE1.out hg h.2)) Tryz.underlying40 rfl (size_cyc8 x.up)) hHeld ?_
          try simp only [Act.put, List.setIfInBounds_toArray, List.set_cons_zero, List.set_cons_succ, List.getElem_toArray, List.getElem_cons_succ, List.getElem_cons_zero]
          refine wpAnyH_take (i := 4) (oi := _) (v := .slice (some ⟨g, o, none⟩) xs.length cap) rfl (by kernel_rfl) (by kernel_rfl) (by kernel_rfl) (fun _ _ _ h => h) (Or.inl ⟨by rfl, fun w h => by go_simp⟩) hHeld ?_
          try simp only [Act.put, List.setIfInBounds_toArray, List.set_cons_zero, List.set_cons_succ, List.getElem_toArray, List.getElem_cons_succ, List.getElem_cons_zero]
          refine wpAnyH_take (i := 5) (oi := _) (v := .int .i64 k) rfl (by kernel_rfl) (by kernel_rfl) (by kernel_rfl) (fun _ _ _ h => h) (Or.inl ⟨by rfl, fun w h => by go_simp⟩) hHeld ?_
          try simp only [Act.put, List.setIfInBounds_toArray, List.set_cons_zero, List.set_cons_succ, List.getElem_toArray, List.getElem_cons_succ, List.getElem_cons_zero]
          refine wpAnyH_take (i := 6) (oi := _) (v := .int .i64 ((k : Int) + 1)) rfl (by kernel_rfl) (by kernel_rfl) (by kernel_rfl) (fun _ _ _ h => h) (Or.inl ⟨by rfl, fun w h => by go_simp⟩) hHeld ?_
          try simp only [Act.put, List.setIfInBounds_toArray, List.set_cons_zero, List.set_cons_succ, List.getElem_toArray, List.getElem_cons_succ, List.getElem_cons_zero]
          refine wpAnyH_take (i := 7) (oi := _) (v := .slice (some ⟨g, o, none⟩) xs.length cap) rfl (by kernel_rfl) (by kernel_rfl) (by kernel_rfl) (fun _ _ _ h => h) (Or.inl ⟨by rfl, fun w h => by go_simp⟩) hHeld ?_
          try simp only [Act.put, List.setIfInBounds_toArray, List.set_cons_zero, List.set_cons_succ, List.getElem_toArray, List.getElem_cons_succ, List.getElem_cons_zero]
          refine wpAnyH_take (i := 8) (oi := _) (v := .int .i64 xs.length) rfl (by kernel_rfl) (by kernel_rfl) (by kernel_rfl) (fun _ _ _ h => h) (Or.inl ⟨by rfl, fun w h => by go_simp⟩) hHeld ?_
          try simp only [Act.put, List.setIfInBounds_toArray, List.set_cons_zero, List.set_cons_succ, List.getElem_toArray, List.getElem_cons_succ, List.getElem_cons_zero]
          refine wpAnyH_take (i := 9) (oi := _) (v := .int .i64 r) rfl (by kernel_rfl) (by kernel_rfl) (by kernel_rfl) (fun _ _ _ h => h) (Or.inl ⟨by rfl, fun w h => by go_simp⟩) hHeld ?_
          try simp only [Act.put, List.setIfInBounds_toArray, List.set_cons_zero, List.set_cons_succ, List.getElem_toArray, List.getElem_cons_succ, List.getElem_cons_zero]
          refine wpAnyH_take (i := 10) (oi := _) (v := .pointer (some ⟨g, o + r * 8, none⟩)) rfl (by kernel_rfl) (by kernel_rfl) (by kernel_rfl) (fun _ _ _ h => h) (Or.inl ⟨by rfl, fun w h => by go_simp⟩) hHeld ?_
          try simp only [Act.put, List.setIfInBounds_toArray, List.set_cons_zero, List.set_cons_succ, List.getElem_toArray, List.getElem_cons_succ, List.getElem_cons_zero]
          refine wpAnyH_take (i := 11) (oi := _) (v := .agg (vec 8 y.up)) rfl (by kernel_rfl) (by kernel_rfl) (by kernel_rfl) (fun _ _ _ h => h) (yieldsIf_load_mid (by rfl) _ _ rfl _ _ rfl _ _ ((fun w h => range_kept8 HE2.out hg h.2)) Tryz.underlying40 rfl (size_cyc8 y.up)) hHeld ?_
          try simp only [Act.put, List.setIfInBounds_toArray, List.set_cons_zero, List.set_cons_succ, List.getElem_toArray, List.getElem_cons_succ, List.getElem_cons_zero]
          refine wpAnyH_take (i := 12) (oi := _) (v := .agg (vec 8 c.up)) rfl (by kernel_rfl) (by kernel_rfl) (by kernel_rfl) (fun _ _ _ h => h) (yieldsIf_load_mid (by rfl) _ _ rfl _ _ rfl _ _ ((fun w h => h.1.range)) Tryz.underlying40 rfl (size_cyc8 c.up)) hHeld ?_
          try simp only [Act.put, List.setIfInBounds_toArray, List.set_cons_zero, List.set_cons_succ, List.getElem_toArray, List.getElem_cons_succ, List.getElem_cons_zero]
          refine wpAnyH_ready (rs := [13]) (by kernel_rfl) (by simp) ?_
          refine AllReadyH.cons (o := _) rfl (fun K hK => ?_) AllReadyH.nil
          go_simp
          refine (ON _).mono ?_; rintro e w5 ⟨rfl, hb5⟩
          go_wp2_with fail
          obtain ⟨h1, h2⟩ := hHeld
          refine hK.out _ _ ⟨h1.below hb5, below_next h2 hb5⟩ (fun hHeld => ?_)
          clear hK K
          try simp only [Act.put, List.setIfInBounds_toArray, List.set_cons_zero, List.set_cons_succ, List.getElem_toArray, List.getElem_cons_succ, List.getElem_cons_zero]
          clear h1 h2 hb5 ON
          refine wpAnyH_done (by kernel_rfl) ?_ _
          obtain ⟨hC6, hB6⟩ := hHeld
          have HB6 := Lib.hid hB6
          clear hB6
          cases q
          · go_wp2
            go_roundw
            case rel => exact ⟨k + 1, by omega, by go_num, upto_succ HNO.out HQ.out, hC6, HB6.out⟩
            case measure => simp [intOf]; omega
          · go_wp2
            go_ret
            exact ⟨by rw [HF.out, onP_yes hlt HQ.out]; rfl, HB6.out⟩
        · obtain rfl : k = xs.length := by omega
          have HB6 := Lib.hid hbel
          clear hbel hCr
          go_wp2
          go_ret
          exact ⟨by rw [HF.out, onP_no HNO.out]; rfl, HB6.out⟩

end Go.Proofs.YtdpakhggpgdgbaaGreat
/- Out of the text PolyX: what the draws of polygons need. -/
namespace Go.Proofs.YtdpakhggpgdgbaaGreat
set_option maxRecDepth 20000
open Go.ChangeShapes Go.WideShapes Go.ChangeAt Go.RowKit
set_option linter.unusedVariables false
set_option linter.unusedSimpArgs false
theorem at_stepsV (xs : List V) {k n : Nat} (h : k < n) : at' (stepsV xs n) k = subV (at' xs ((k + 1) % xs.length)) (at' xs k) := by
  unfold at' stepsV
  rw [List.getElem?_map, List.getElem?_range h]
  rfl
theorem qv_stepsV (xs : List V) {k : Nat} (h : k < xs.length) : qv (at' (stepsV xs xs.length) k).up = stp' (PQ xs) xs.length k := by
  rw [at_stepsV xs h, qv_subV]; rfl
theorem stepsV_small {xs : List V} (hs : ∀ x ∈ xs, ∀ j, j < 8 → -((100 : Nat) : Int) ≤ x.up j ∧ x.up j ≤ ((100 : Nat) : Int)) {k : Nat} (h : k < xs.length) : ∀ j, j < 8 → -((200 : Nat) : Int) ≤ (at' (stepsV xs xs.length) k).up j ∧ (at' (stepsV xs xs.length) k).up j ≤ ((200 : Nat) : Int) := by
  rw [at_stepsV xs h]
  exact sub_small (M := 100) (hs _ (List.mem_of_getElem? (at_get (Nat.mod_lt _ (by omega))))) (hs _ (List.mem_of_getElem? (at_get h)))
theorem own_part {w : World} {B T g n cap : Nat} {ys : List V} {i : Nat} {a : V} (h : w.ownsRow B T 8 (.slice (some ⟨g, 0, none⟩) n cap) n (flt encV ys)) (hn : ys.length = n) (hi : ys[i]? = some a) : w.rangeAt g (i * 8) (lst 8 a.up) := by
  have := cells_part encV_ok (ownL_parts h hn).2.1 hi
  rwa [Nat.zero_add] at this
/-- Lists of other elements lie apart. -/
theorem own_apart {w : World} {B1 B2 T1 T2 K1 K2 n m : Nat} {v u : Value} {cs ds : List Value} (h1 : w.ownsRow B1 T1 K1 v n cs) (h2 : w.ownsRow B2 T2 K2 u m ds) (hT : T1 ≠ T2) : ∀ k, v.ownBlock = some k → u.ownBlock ≠ some k := fun k hv hu => by
  rcases h1.2 with ⟨rfl, _⟩ | ⟨g, cap, cur, rfl, _, hg, _⟩
  · cases hv
  · rcases h2.2 with ⟨rfl, _⟩ | ⟨g', cap', cur', rfl, _, hg', _⟩
    · cases hu
    · cases hv; cases hu
      rw [hg] at hg'
      cases hg'
      exact hT rfl
theorem own_shape {w : World} {B T K n : Nat} {v : Value} {cs : List Value} (h : w.ownsRow B T K v n cs) (hn : 1 ≤ n) : ∃ g cap, v = .slice (some ⟨g, 0, none⟩) n cap := by
  rcases h.2 with ⟨_, h0⟩ | ⟨g, cap, cur, rfl, _⟩
  · omega
  · exact ⟨g, cap, rfl⟩
theorem rows_apart {w w' : World} {B T K n : Nat} {v u : Value} {cs : List Value} (h : w.ownsRow B T K v n cs) (hg : w.grownBy w' u.ownBlock) (ha : ∀ k, v.ownBlock = some k → u.ownBlock ≠ some k) : w'.ownsRow B T K v n cs := by
  refine World.ownsRow.kept h hg ?_
  cases hv : v.ownBlock with
  | none => exact .inl rfl
  | some k => exact .inr fun e => ha k hv e.symm

def bendK (xs : List V) (k : Nat) : List Int := (List.range k).map (bnd (PQ xs) xs.length)
theorem bendK_next (xs : List V) (k : Nat) : bendK xs (k + 1) = bendK xs k ++ [bnd (PQ xs) xs.length k] := by simp [bendK, List.range_succ]
theorem bendK_len (xs : List V) (k : Nat) : (bendK xs k).length = k := by simp [bendK]
theorem bendsO_yes {xs : List V} (h : polyOk xs = true) : bendsO xs = some (bendK xs xs.length) := by unfold bendsO; rw [h]; rfl
theorem bendsO_no {xs : List V} (h : polyOk xs = false) : bendsO xs = none := by unfold bendsO; rw [h]; rfl
theorem ty_apart : 40 ≠ 3 := by decide
set_option maxHeartbeats 4000000 in
theorem specPolyBends_any (v : Value) (xs : List V) (w : World) (hv : ReadsL encV w v xs) : Calls Tryz.prog 23 #[v] w (ToldI w (bendsO xs)) := by
  have HB0 := Lib.hid ((Below.refl w.heap.size w).alloc (Nat.le_refl _) (.cells #[] 3))
  have HO0 := Lib.hid (show OwnL encI 1 (w.alloc (.cells #[] 3)) w.heap.size 3 (.slice (some ⟨w.heap.size, 0, none⟩) 0 0) [] from World.ownsRow_made w #[] 0 (Nat.le_refl _) (by simp [maxLen]) (by simp))
  have RV := specPolyValid_any v xs (w.alloc (.cells #[] 3)) (hv.below HB0.out)
  cases hr : polyOk xs
  · rw [hr] at RV
    have HF := Lib.hid (bendsO_no hr)
    have RV := Lib.hid RV
    clear hr hv
    go_enter Tryz.func23, Tryz.ntmps23
    go_wp2_with fail
    refine RV.out.mono ?_; rintro e w1 ⟨rfl, hb1⟩
    have HL1 := Lib.hid (below_next HB0.out hb1)
    have HO1 := Lib.hid (rows_below HO0.out hb1)
    clear RV hb1 HB0 HO0
    go_wp2
    go_ret2
    rw [HF.out]
    exact ⟨HL1.out, _, rfl, HO1.out⟩
  · rw [hr] at RV
    have hln := polyOk_len hr
    have HX := Lib.hid (polyOk_small hr)
    have HF := Lib.hid (bendsO_yes hr)
    obtain ⟨g0, o0, c0, rfl, hc0, hm0, hg0, hrg0⟩ := reads_ptr8 hv (by rintro rfl; simp at hln)
    have ST := fun (w' : World) (h1 : g0 < w'.heap.size) (h2 : w'.rangeAt g0 o0 (flt encV xs)) => l8Steps_any g0 o0 c0 xs w' h1 h2 hc0 hm0 hln.2 hln.1 (fun k hk j hj => by have := HX.out _ (List.mem_of_getElem? (at_get hk)) j hj; omega)
    have HR0 := Lib.hid hrg0
    have RV := Lib.hid RV
    have hcap : xs.length ≤ 48 := hln.2
    clear hr hv hrg0 hm0
    go_enter Tryz.func23, Tryz.ntmps23
    go_wp2_with fail
    refine RV.out.mono ?_; rintro e w1 ⟨rfl, hb1⟩
    have HL1 := Lib.hid (below_next HB0.out hb1)
    have HO1 := Lib.hid (rows_below HO0.out hb1)
    have ST1 := Lib.hid (ST w1 (Nat.lt_of_lt_of_le hg0 HL1.out.size) (cells_below HR0.out hg0 HL1.out))
    clear RV hb1 HB0 HO0 ST HR0
    go_wp2_with fail
    refine ST1.out.mono ?_; rintro e w2 ⟨hb2, v1, rfl, ho2⟩
    have hlv := stepsV_len xs xs.length
    have ho3 : w2.ownsRow w.heap.size 40 8 v1 xs.length (flt encV (stepsV xs xs.length)) := by
      have := rows_mono ho2 HL1.out.size
      rwa [hlv] at this
    obtain ⟨g1, cap1, rfl⟩ := own_shape ho3 hln.1
    have hc1 : xs.length ≤ cap1 ∧ cap1 ≤ 9223372036854775807 := by
      have := (ownL_parts ho3 hlv).2.2
      simp only [maxLen] at this
      omega
    have HO2 := Lib.hid (rows_below HO1.out hb2)
    have HL2 := Lib.hid (below_next HL1.out hb2)
    have HS2 := Lib.hid ho3
    clear ST1 hb2 ho2 ho3 HO1 HL1
    go_wp2
    go_loopw [4, 7] (fun s4 i wr => ∃ k : Nat, k ≤ xs.length ∧ i = .int .i64 k ∧ OwnL encI 1 wr w.heap.size 3 s4 (bendK xs k) ∧ wr.ownsRow w.heap.size 40 8 (.slice (some ⟨g1, 0, none⟩) xs.length cap1) xs.length (flt encV (stepsV xs xs.length)) ∧ Below w.heap.size w wr) (fun _ i _ => xs.length - (intOf i).toNat)
    case atStart => exact ⟨0, Nat.zero_le _, rfl, HO2.out, HS2.out, HL2.out⟩
    case round =>
      clear HO2 HL2 HS2
      obtain ⟨k, hk, rfl, hO, hS, hbel⟩ := hrel
      by_cases hlt : k < xs.length
      · have hkz : (k : Int) < (xs.length : Int) := by omega
        have hk0 : (0 : Int) ≤ (k : Int) := by omega
        obtain ⟨r, hrr⟩ : ∃ r, (k + xs.length - 1) % xs.length = r := ⟨_, rfl⟩
        have hrl : r < xs.length := by rw [← hrr]; exact Nat.mod_lt _ (by omega)
        obtain ⟨m1, hm1⟩ : ∃ m1 : Int, (k : Int) + (xs.length : Int) = m1 := ⟨_, rfl⟩
        have q0 : IntKind.i64.wrap m1 = m1 := by rw [IntKind.wrap_i64]; omega
        have q0b : IntKind.i64.wrap (m1 - 1) = m1 - 1 := by rw [IntKind.wrap_i64]; omega
        have q2 : (m1 - 1).tmod (xs.length : Int) = (r : Int) := by
          rw [Int.tmod_eq_emod_of_nonneg (by omega), ← hrr, ← hm1]
          have e : (k : Int) + (xs.length : Int) - 1 = ((k + xs.length - 1 : Nat) : Int) := by omega
          rw [e]; simp
        have q3 : IntKind.i64.wrap (r : Int) = (r : Int) := by rw [IntKind.wrap_i64]; omega
        have q4 : ¬ (xs.length : Int) = 0 := by omega
        have q4c : ¬ xs = [] := by rintro rfl; simp at hln
        have q4b : ((xs.length : Int) == 0) = false := by simpa using q4c
        have q5 : (r : Int) < (xs.length : Int) := by omega
        have q6 : (0 : Int) ≤ (r : Int) := by omega
        have hek := at_get (xs := stepsV xs xs.length) (k := k) (by rw [hlv]; exact hlt)
        have her := at_get (xs := stepsV xs xs.length) (k := r) (by rw [hlv]; exact hrl)
        have bx := stepsV_small HX.out hrl
        have bY := stepsV_small HX.out hlt
        have CR := fun w => l8Cross_any (at' (stepsV xs xs.length) r).up (at' (stepsV xs xs.length) k).up (M := 200) (by omega) bx bY w
        have hcs := crs_small (M := 200) (by omega) bx bY
        have S1 := fun w => l3Sign_at (crs (at' (stepsV xs xs.length) r).up (at' (stepsV xs xs.length) k).up) (fun j hj => by have := hcs j hj; omega) w
        have hval : sgf (crs (at' (stepsV xs xs.length) r).up (at' (stepsV xs xs.length) k).up) = bnd (PQ xs) xs.length k := by
          rw [sgf_crs, qv_stepsV xs hrl, qv_stepsV xs hlt, ← hrr]; rfl
        rw [hval] at S1
        have HNX := Lib.hid (bendK_next xs k)
        have hsl := bendK_len xs k
        clear bx bY hcs hval hrr
        generalize crs (at' (stepsV xs xs.length) r).up (at' (stepsV xs xs.length) k).up = f1 at *
        generalize bnd (PQ xs) xs.length k = s at *
        generalize at' (stepsV xs xs.length) r = x at *
        generalize at' (stepsV xs xs.length) k = y at *
        generalize stepsV xs xs.length = ys at *
        generalize bendK xs k = L at *
        unfold pt at CR
        go_upto_region 9 with fail
        have hO1 : OwnL encI 1 wr.drew w.heap.size 3 u4 L := World.ownsRow.drew hO
        refine wp_region_held_drew (S := fun w' => w'.ownsRow w.heap.size 40 8 (.slice (some ⟨g1, 0, none⟩) xs.length cap1) xs.length (flt encV ys) ∧ Below w.heap.size w w') (by kernel_rfl) ⟨World.ownsRow.drew hS, hbel.drew⟩ (fun hHeld => ?_)
        clear hO hS hbel
        have hHek := Lib.hid hek
        have hHer := Lib.hid her
        have hHlv := Lib.hid hlv
        clear hek her hlv
        refine wpAnyH_take (i := 0) (oi := _) (v := u4) rfl (by kernel_rfl) (by kernel_rfl) (by kernel_rfl) (fun _ _ _ h => h) (Or.inl ⟨by rfl, fun w h => by go_simp⟩) hHeld ?_
        try simp only [Act.put, List.setIfInBounds_toArray, List.set_cons_zero, List.set_cons_succ, List.getElem_toArray, List.getElem_cons_succ, List.getElem_cons_zero]
        refine wpAnyH_take (i := 1) (oi := _) (v := .slice (some ⟨g1, 0, none⟩) xs.length cap1) rfl (by kernel_rfl) (by kernel_rfl) (by kernel_rfl) (fun _ _ _ h => h) (Or.inl ⟨by rfl, fun w h => by go_simp⟩) hHeld ?_
        try simp only [Act.put, List.setIfInBounds_toArray, List.set_cons_zero, List.set_cons_succ, List.getElem_toArray, List.getElem_cons_succ, List.getElem_cons_zero]
        refine wpAnyH_take (i := 2) (oi := _) (v := .int .i64 k) rfl (by kernel_rfl) (by kernel_rfl) (by kernel_rfl) (fun _ _ _ h => h) (Or.inl ⟨by rfl, fun w h => by go_simp⟩) hHeld ?_
        try simp only [Act.put, List.setIfInBounds_toArray, List.set_cons_zero, List.set_cons_succ, List.getElem_toArray, List.getElem_cons_succ, List.getElem_cons_zero]
        refine wpAnyH_take (i := 3) (oi := _) (v := .int .i64 xs.length) rfl (by kernel_rfl) (by kernel_rfl) (by kernel_rfl) (fun _ _ _ h => h) (Or.inl ⟨by rfl, fun w h => by go_simp⟩) hHeld ?_
        try simp only [Act.put, List.setIfInBounds_toArray, List.set_cons_zero, List.set_cons_succ, List.getElem_toArray, List.getElem_cons_succ, List.getElem_cons_zero]
        refine wpAnyH_take (i := 4) (oi := _) (v := .int .i64 m1) rfl (by kernel_rfl) (by kernel_rfl) (by kernel_rfl) (fun _ _ _ h => h) (Or.inl ⟨by rfl, fun w h => by go_simp⟩) hHeld ?_
        try simp only [Act.put, List.setIfInBounds_toArray, List.set_cons_zero, List.set_cons_succ, List.getElem_toArray, List.getElem_cons_succ, List.getElem_cons_zero]
        refine wpAnyH_take (i := 5) (oi := _) (v := .int .i64 (m1 - 1)) rfl (by kernel_rfl) (by kernel_rfl) (by kernel_rfl) (fun _ _ _ h => h) (Or.inl ⟨by rfl, fun w h => by go_simp⟩) hHeld ?_
        try simp only [Act.put, List.setIfInBounds_toArray, List.set_cons_zero, List.set_cons_succ, List.getElem_toArray, List.getElem_cons_succ, List.getElem_cons_zero]
        refine wpAnyH_take (i := 6) (oi := _) (v := .int .i64 xs.length) rfl (by kernel_rfl) (by kernel_rfl) (by kernel_rfl) (fun _ _ _ h => h) (Or.inl ⟨by rfl, fun w h => by go_simp⟩) hHeld ?_
        try simp only [Act.put, List.setIfInBounds_toArray, List.set_cons_zero, List.set_cons_succ, List.getElem_toArray, List.getElem_cons_succ, List.getElem_cons_zero]
        refine wpAnyH_take (i := 7) (oi := _) (v := .int .i64 r) rfl (by kernel_rfl) (by kernel_rfl) (by kernel_rfl) (fun _ _ _ h => h) (Or.inl ⟨by rfl, fun w h => by go_simp⟩) hHeld ?_
        try simp only [Act.put, List.setIfInBounds_toArray, List.set_cons_zero, List.set_cons_succ, List.getElem_toArray, List.getElem_cons_succ, List.getElem_cons_zero]
        refine wpAnyH_take (i := 8) (oi := _) (v := .pointer (some ⟨g1, r * 8, none⟩)) rfl (by kernel_rfl) (by kernel_rfl) (by kernel_rfl) (fun _ _ _ h => h) (Or.inl ⟨by rfl, fun w h => by go_simp⟩) hHeld ?_
        try simp only [Act.put, List.setIfInBounds_toArray, List.set_cons_zero, List.set_cons_succ, List.getElem_toArray, List.getElem_cons_succ, List.getElem_cons_zero]
        refine wpAnyH_take (i := 9) (oi := _) (v := .agg (vec 8 x.up)) rfl (by kernel_rfl) (by kernel_rfl) (by kernel_rfl) (fun _ _ _ h => h) (yieldsIf_load_mid (by rfl) _ _ rfl _ _ rfl _ _ ((fun w h => own_part h.1 hHlv.out hHer.out)) Tryz.underlying40 rfl (size_cyc8 x.up)) hHeld ?_
        try simp only [Act.put, List.setIfInBounds_toArray, List.set_cons_zero, List.set_cons_succ, List.getElem_toArray, List.getElem_cons_succ, List.getElem_cons_zero]
        refine wpAnyH_take (i := 10) (oi := _) (v := .slice (some ⟨g1, 0, none⟩) xs.length cap1) rfl (by kernel_rfl) (by kernel_rfl) (by kernel_rfl) (fun _ _ _ h => h) (Or.inl ⟨by rfl, fun w h => by go_simp⟩) hHeld ?_
        try simp only [Act.put, List.setIfInBounds_toArray, List.set_cons_zero, List.set_cons_succ, List.getElem_toArray, List.getElem_cons_succ, List.getElem_cons_zero]
        refine wpAnyH_take (i := 11) (oi := _) (v := .int .i64 k) rfl (by kernel_rfl) (by kernel_rfl) (by kernel_rfl) (fun _ _ _ h => h) (Or.inl ⟨by rfl, fun w h => by go_simp⟩) hHeld ?_
        try simp only [Act.put, List.setIfInBounds_toArray, List.set_cons_zero, List.set_cons_succ, List.getElem_toArray, List.getElem_cons_succ, List.getElem_cons_zero]
        refine wpAnyH_take (i := 12) (oi := _) (v := .pointer (some ⟨g1, k * 8, none⟩)) rfl (by kernel_rfl) (by kernel_rfl) (by kernel_rfl) (fun _ _ _ h => h) (Or.inl ⟨by rfl, fun w h => by go_simp⟩) hHeld ?_
        try simp only [Act.put, List.setIfInBounds_toArray, List.set_cons_zero, List.set_cons_succ, List.getElem_toArray, List.getElem_cons_succ, List.getElem_cons_zero]
        refine wpAnyH_take (i := 13) (oi := _) (v := .agg (vec 8 y.up)) rfl (by kernel_rfl) (by kernel_rfl) (by kernel_rfl) (fun _ _ _ h => h) (yieldsIf_load_mid (by rfl) _ _ rfl _ _ rfl _ _ ((fun w h => own_part h.1 hHlv.out hHek.out)) Tryz.underlying40 rfl (size_cyc8 y.up)) hHeld ?_
        try simp only [Act.put, List.setIfInBounds_toArray, List.set_cons_zero, List.set_cons_succ, List.getElem_toArray, List.getElem_cons_succ, List.getElem_cons_zero]
        refine wpAnyH_ready (rs := [14]) (by kernel_rfl) (by simp) ?_
        refine AllReadyH.cons (o := _) rfl (fun K hK => ?_) AllReadyH.nil
        go_simp
        refine (CR _).mono ?_; rintro e w5 ⟨rfl, hb5⟩
        go_wp2_with fail
        have hO5 := rows_below hO1 hb5
        refine hK.out _ _ ⟨rows_below hHeld.1 hb5, below_next hHeld.2 hb5⟩ (fun hHeld => ?_)
        clear hK K
        try simp only [Act.put, List.setIfInBounds_toArray, List.set_cons_zero, List.set_cons_succ, List.getElem_toArray, List.getElem_cons_succ, List.getElem_cons_zero]
        clear hb5 CR hO1
        refine wpAnyH_ready (rs := [15]) (by kernel_rfl) (by simp) ?_
        refine AllReadyH.cons (o := _) rfl (fun K hK => ?_) AllReadyH.nil
        go_simp
        refine (S1 _).mono ?_; rintro e w6 ⟨rfl, hb5⟩
        go_wp2_with fail
        have hO6 := rows_below hO5 hb5
        refine hK.out _ _ ⟨rows_below hHeld.1 hb5, below_next hHeld.2 hb5⟩ (fun hHeld => ?_)
        clear hK K
        try simp only [Act.put, List.setIfInBounds_toArray, List.set_cons_zero, List.set_cons_succ, List.getElem_toArray, List.getElem_cons_succ, List.getElem_cons_zero]
        clear hb5 S1 hO5
        refine wpAnyH_ready (rs := [16]) (by kernel_rfl) (by simp) ?_
        refine AllReadyH.cons (o := _) rfl (fun K hK => ?_) AllReadyH.nil
        go_simp
        have hlit := lit1 w6 s 3
        have hO7 : OwnL encI 1 (w6.alloc (.cells #[.int .i64 s] 3)) w.heap.size 3 u4 L := (show World.ownsRow _ _ _ _ _ _ _ from World.ownsRow.alloc hO6 _)
        refine hK.out _ _ ⟨(show World.ownsRow _ _ _ _ _ _ _ from World.ownsRow.alloc hHeld.1 _), hHeld.2.alloc hHeld.2.size _⟩ (fun hHeld => ?_)
        clear hK K
        try simp only [Act.put, List.setIfInBounds_toArray, List.set_cons_zero, List.set_cons_succ, List.getElem_toArray, List.getElem_cons_succ, List.getElem_cons_zero]
        clear hO6
        refine wpAnyH_ready (rs := [17]) (by kernel_rfl) (by simp) ?_
        refine AllReadyH.cons (o := _) rfl (fun K hK => ?_) AllReadyH.nil
        refine wp_appendL tyI encI_ok rfl rfl rfl (xs := L) hO7 hlit (by rw [hsl]; simp; omega) hHeld.2 hHeld.2.size ?_; intro v2 w7 ho7 hb7 hB7 hgr
        have hS7 := rows_apart hHeld.1 hgr (own_apart hHeld.1 hO7 ty_apart)
        refine hK.out _ _ ⟨hS7, hb7⟩ (fun hHeld => ?_)
        clear hK K
        try simp only [Act.put, List.setIfInBounds_toArray, List.set_cons_zero, List.set_cons_succ, List.getElem_toArray, List.getElem_cons_succ, List.getElem_cons_zero]
        clear hlit hO7 hgr hS7
        refine wpAnyH_take (i := 18) (oi := _) (v := v2) rfl (by kernel_rfl) (by kernel_rfl) (by kernel_rfl) (fun _ _ _ h => h) (Or.inl ⟨by rfl, fun w h => by go_simp⟩) hHeld ?_
        try simp only [Act.put, List.setIfInBounds_toArray, List.set_cons_zero, List.set_cons_succ, List.getElem_toArray, List.getElem_cons_succ, List.getElem_cons_zero]
        refine wpAnyH_done (by kernel_rfl) ?_ _
        obtain ⟨hS8, hB8⟩ := hHeld
        have HO8 := Lib.hid ho7
        have HS8 := Lib.hid hS8
        have HB8 := Lib.hid hB8
        clear ho7 hS8 hB8 hb7 hB7
        go_wp2
        go_roundw
        case rel => exact ⟨k + 1, by omega, by go_num, by rw [HNX.out]; exact HO8.out, HS8.out, HB8.out⟩
        case measure => simp [intOf]; omega
      · obtain rfl : k = xs.length := by omega
        have HO8 := Lib.hid hO
        have HB8 := Lib.hid hbel
        clear hO hbel hS
        go_wp2
        go_ret2
        rw [HF.out]
        exact ⟨HB8.out, _, rfl, HO8.out⟩

end Go.Proofs.YtdpakhggpgdgbaaGreat
