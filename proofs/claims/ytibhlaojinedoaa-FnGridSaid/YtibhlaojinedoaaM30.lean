/-
  Out of the text SymS: what the draws of polygons need.
  Out of the text DrawSym: what the draws of polygons need.
  Out of the text RowH: what the draws of polygons need.
  Out of the text RowX: what the draws of polygons need.
-/
import Derived.Test.YtibhlaojinedoaaM20
import Derived.Test.YtibhlaojinedoaaM18
import Derived.Test.YtibhlaojinedoaaM05
import Derived.Test.YtibhlaojinedoaaM15
import Derived.Test.YtibhlaojinedoaaM22
import Derived.Test.YtibhlaojinedoaaM19
import Derived.Deep.CutBlock
import Derived.Test.YtibhlaojinedoaaM16
import Derived.Handy
import Derived.Test.YtibhlaojinedoaaM17
import Derived.Laws.CopyRow
import Derived.Lib.AppendZeros
import Derived.Test.YtibhlaojinedoaaM04
import Derived.Test.YtibhlaojinedoaaM24
/- Out of the text SymS: what the draws of polygons need. -/
namespace Go.Proofs.Ytibhlaojinedoaa
set_option maxRecDepth 20000
open Go.ChangeShapes Go.WideShapes Go.ChangeAt Go.RowKit
set_option linter.unusedVariables false
set_option linter.unusedSimpArgs false
theorem gcd_step (p q : Int) : Int.gcd q (p.tmod q) = Int.gcd p q := by
  unfold Int.gcd
  rw [Int.natAbs_tmod, Nat.gcd_comm p.natAbs q.natAbs, Nat.gcd_rec q.natAbs p.natAbs, Nat.gcd_comm]
theorem specGcdZ (a b : Int) (ha : -1000000 ≤ a ∧ a ≤ 1000000) (hb : -1000000 ≤ b ∧ b ≤ 1000000) (w : World) :
    Calls Try.prog 57 #[.int .i64 a, .int .i64 b] w fun e w' => e = .returned (.int .i64 ((Int.gcd a b : Nat) : Int)) ∧ w = w' := by
  go_enter Try.func57, Try.ntmps57
  go_wp2
  go_loop [0, 1, 5] (fun x y _ => ∃ p q : Int, x = .int .i64 p ∧ y = .int .i64 q ∧ (-1000000 ≤ p ∧ p ≤ 1000000) ∧ (-1000000 ≤ q ∧ q ≤ 1000000) ∧ Int.gcd p q = Int.gcd a b) (fun _ y _ => (intOf y).natAbs)
  case atStart => exact ⟨a, b, rfl, rfl, ha, hb, rfl⟩
  case round =>
    obtain ⟨p, q, rfl, rfl, hp, hq, hg⟩ := hrel
    have G := Lib.hid hg; clear hg
    by_cases h : q = 0
    · subst h
      go_wp2
      go_ret
      exact ⟨ret_int (by have := G.out; rw [Int.gcd_zero_right] at this; omega), rfl⟩
    · have hq0 : (q != 0) = true := by simpa using h
      have hq2 : (q == 0) = false := by simpa using h
      have ht : (p.tmod q).natAbs = p.natAbs % q.natAbs := Int.natAbs_tmod p q
      have hlt : p.natAbs % q.natAbs < q.natAbs := Nat.mod_lt _ (by omega)
      have w1 : IntKind.i64.wrap (p.tmod q) = p.tmod q := by rw [IntKind.wrap_i64]; omega
      have HR : Aside (-1000000 ≤ p.tmod q ∧ p.tmod q ≤ 1000000) := (show _ ∧ _ from by omega)
      have HM : Aside ((p.tmod q).natAbs < q.natAbs) := (show _ < _ from by omega)
      clear ht hlt
      go_wp2
      go_round
      case rel => exact ⟨q, p.tmod q, rfl, rfl, hq, HR.out, by rw [gcd_step, G.out]⟩
      case measure => have := HM.out; simp only [intOf]; omega

end Go.Proofs.Ytibhlaojinedoaa
/- Out of the text DrawSym: what the draws of polygons need. -/
namespace Go.Proofs.Ytibhlaojinedoaa
set_option maxRecDepth 20000
open Go.ChangeShapes Go.WideShapes Go.ChangeAt Go.RowKit
set_option linter.unusedVariables false
set_option linter.unusedSimpArgs false
theorem gear_any (n : Int) (h0 : 6 ≤ n) (h1 : n ≤ 240) (w : World) : Calls Try.prog 69 #[.int .i64 n] w fun e w' => e = .returned (.bool true) ∧ w = w' := by
  have I := fun w => in_yes n 6 240 h0 h1 w
  go_enter Try.func69, Try.ntmps69
  go_wp2_with fail
  refine (I _).mono ?_; rintro e w1 ⟨rfl, rfl⟩
  go_wp2
  go_ret
  exact ⟨rfl, rfl⟩
theorem ring_gcd (a b : Nat) (ha : 6 ≤ a) (hb : b ≤ 240) (ha2 : a ≤ 240) (w : World) : ∃ g : Nat, 1 ≤ g ∧ g ≤ 240 ∧ ∀ w, Calls Try.prog 57 #[.int .i64 a, .int .i64 b] w fun e w' => e = .returned (.int .i64 g) ∧ w = w' := by
  refine ⟨Nat.gcd a b, Nat.gcd_pos_of_pos_left _ (by omega), Nat.le_trans (Nat.gcd_le_left b (by omega)) ha2, fun w => ?_⟩
  exact specGcdZ a b (by omega) (by omega) w
theorem cusps_any (a b : Nat) (ins : Bool) (ha : 6 ≤ a) (ha2 : a ≤ 240) (hb : 6 ≤ b) (hb2 : b ≤ 240) (w : World) :
    Calls Try.prog 56 #[.int .i64 a, .int .i64 b, .bool ins] w fun e w' => (∃ (n : Int), e = .returned (.tuple #[.int .i64 n, .bool (!(ins && decide (a ≤ b)))])) ∧ w = w' := by
  have G1 := fun w => gear_any (a : Int) (by omega) (by omega) w
  have G2 := fun w => gear_any (b : Int) (by omega) (by omega) w
  obtain ⟨g, hg1, hg2, G⟩ := ring_gcd a b ha hb2 ha2 w
  have hgz : ((g : Int) == 0) = false := by simp; omega
  by_cases hi : ins = true ∧ a ≤ b
  · obtain ⟨rfl, hab⟩ := hi
    have hz : (a : Int) ≤ (b : Int) := by omega
    have e : (!(true && decide (a ≤ b))) = false := by simp [hab]
    rw [e]
    clear e
    go_enter Try.func56, Try.ntmps56
    go_wp2_with fail
    refine (G1 _).mono ?_; rintro e w1 ⟨rfl, rfl⟩
    go_wp2_with fail
    refine (G2 _).mono ?_; rintro e w1 ⟨rfl, rfl⟩
    go_wp2_with fail
    go_ret2
    exact ⟨⟨_, rfl⟩, rfl⟩
  · have e : (!(ins && decide (a ≤ b))) = true := by
      cases ins
      · rfl
      · have : ¬ a ≤ b := fun h => hi ⟨rfl, h⟩
        simp [this]
    rw [e]
    clear e
    cases ins
    · go_enter Try.func56, Try.ntmps56
      go_wp2_with fail
      refine (G1 _).mono ?_; rintro e w1 ⟨rfl, rfl⟩
      go_wp2_with fail
      refine (G2 _).mono ?_; rintro e w1 ⟨rfl, rfl⟩
      go_wp2_with fail
      refine (G _).mono ?_; rintro e w1 ⟨rfl, rfl⟩
      go_wp2_with fail
      go_ret2
      exact ⟨⟨_, rfl⟩, rfl⟩
    · have hz : ¬ (a : Int) ≤ (b : Int) := fun h => hi ⟨rfl, by omega⟩
      go_enter Try.func56, Try.ntmps56
      go_wp2_with fail
      refine (G1 _).mono ?_; rintro e w1 ⟨rfl, rfl⟩
      go_wp2_with fail
      refine (G2 _).mono ?_; rintro e w1 ⟨rfl, rfl⟩
      go_wp2_with fail
      refine (G _).mono ?_; rintro e w1 ⟨rfl, rfl⟩
      go_wp2_with fail
      go_ret2
      exact ⟨⟨_, rfl⟩, rfl⟩
/-- A wheel with a whole radius. -/
def numW (s r : Int) : Wh := ⟨s, dn (gau r 0)⟩
theorem number_any (s r : Int) (w : World) : Calls Try.prog 59 #[.int .i64 s, .int .i64 r] w fun e w' => e = .returned (wh (numW s r)) ∧ Below w.heap.size w w' := by
  have G := fun w => specGaussIn_any r 0 w
  have HO : Aside (RowAt (w.alloc (.cells (vec 9 nul) 87)) w.heap.size 9 87 nul) := RowAt.new _ _ _ _
  have HL : Aside (Below w.heap.size w (w.alloc (.cells (vec 9 nul) 87))) := (Below.refl _ _).alloc (Nat.le_refl _) _
  go_enter Try.func59, Try.ntmps59
  go_upto_region 1 with fail
  show Code.wp _ _ _ _ (w.alloc (.cells (vec 9 nul) 87))
  generalize w.alloc (.cells (vec 9 nul) 87) = W at *
  go_wp2_with fail
  refine (G _).mono ?_; rintro e w1 ⟨rfl, hb1⟩
  have HO1 := Lib.hid (HO.out.below hb1)
  have HL1 := Lib.hid (below_next HL.out hb1)
  have e1 : pt (gau r 0) = .agg (vec 8 (dn (gau r 0)).up) := pt_same fun j hj => (up_dn _ j hj).symm
  rw [e1]
  clear G HO HL hb1 e1
  go_wp2_with (first | (refine build_wheel (T := 87) rfl rfl rfl rfl built_wheel ?_; rw [dn_up]) | (refine store_row (ty := 87) (g := w.heap.size) rfl rfl rfl rfl HO1.out info_wheel ?_))
  refine bodyPost_ret (results_row rfl rfl HO1.out.setRow Try.underlying87 rfl info_wheel) rfl ?_
  exact ⟨rfl, below_setRow HL1.out (by omega) _⟩
theorem big_gau (r : Int) (hr : -1000 ≤ r ∧ r ≤ 1000) : Big (dn (gau r 0)) 4000000 := fun j hj => by
  rw [up_dn _ j hj]
  unfold gau
  split
  · omega
  · split <;> omega

/-- A list of two wheels, made on the spot. -/
theorem fill_two (g : Nat → Value) (f h : Nat → Int) : Instr.fill (fun i => some (i * 9, 9)) ((Array.range (2 * 9)).map g) [(0, .agg (vec 9 f)), (1, .agg (vec 9 h))] = some (vec 9 f ++ vec 9 h) := by
  have h1 : (Array.range (2 * 9)).map g = #[g 0, g 1, g 2, g 3, g 4, g 5, g 6, g 7, g 8, g 9, g 10, g 11, g 12, g 13, g 14, g 15, g 16, g 17] := by
    refine Array.ext (by simp) fun i h1 h2 => ?_
    simp only [Array.size_map, Array.size_range, Nat.reduceMul] at h1
    have : i = 0 ∨ i = 1 ∨ i = 2 ∨ i = 3 ∨ i = 4 ∨ i = 5 ∨ i = 6 ∨ i = 7 ∨ i = 8 ∨ i = 9 ∨ i = 10 ∨ i = 11 ∨ i = 12 ∨ i = 13 ∨ i = 14 ∨ i = 15 ∨ i = 16 ∨ i = 17 := by omega
    rcases this with rfl | rfl | rfl | rfl | rfl | rfl | rfl | rfl | rfl | rfl | rfl | rfl | rfl | rfl | rfl | rfl | rfl | rfl <;> simp
  have h2 : ∀ f : Nat → Int, vec 9 f = #[.int .i64 (f 0), .int .i64 (f 1), .int .i64 (f 2), .int .i64 (f 3), .int .i64 (f 4), .int .i64 (f 5), .int .i64 (f 6), .int .i64 (f 7), .int .i64 (f 8)] := fun f => rfl
  rw [h1, h2 f, h2 h]
  simp [Instr.fill, Value.cells]
theorem run_two {P : Program} {t e : TypeId} (ty : Ty9 P t e) (f h : Nat → Int) (w : World) : (Instr.buildSlice t 2 #[(0, .agg (vec 9 f)), (1, .agg (vec 9 h))]).run P w = .ok (.slice (some ⟨w.heap.size, 0, none⟩) 2 2) (w.alloc (.cells (vec 9 f ++ vec 9 h) e)) := by
  obtain ⟨i, z, hi, hz, hs, hby, hzs⟩ := ty.inf
  have hf := fill_two (fun x => z.cells[x % z.cells.size]!) f h
  simp [Instr.buildSlice, run_underlying ty.sl, sizeOf, typeInfo, zeroValue, hi, hz, hs, Sem.run_bind]
  simp only [Nat.reduceMul] at hf
  simp [hf, newRow]
theorem wp_two9 {P : Program} {o : Oper} {a : Act} {w : World} {K : Act → World → Prop} {Q : Exit → Act → World → Prop} {t e : TypeId} (ty : Ty9 P t e) {x y : Operand} {f h : Nat → Int} (ho : o.op = .buildSlice t 2 #[(0, x), (1, y)]) (hx : a.eval x = .agg (vec 9 f)) (hy : a.eval y = .agg (vec 9 h))
    (k : K (a.put o.dst (.slice (some ⟨w.heap.size, 0, none⟩) 2 2)) (w.alloc (.cells (vec 9 f ++ vec 9 h) e))) : o.wp P a w K Q := by
  unfold Oper.wp execOp
  simp only [ho, List.map_toArray, List.map_cons, List.map_nil, hx, hy, Sem.run_bind, run_two ty, Result.andThen_ok]
  exact k
theorem reads_two (w : World) (c d : Wh) (T : Nat) : Reads (w.alloc (.cells (vec 9 (wf c) ++ vec 9 (wf d)) T)) (.slice (some ⟨w.heap.size, 0, none⟩) 2 2) [c, d] := by
  refine ⟨_, 2, rfl, Nat.le_refl _, by simp [maxLen], (fun h => by cases h), fun _ => ⟨_, _, rfl, by simp, fun j v hv => ?_⟩⟩
  rw [Nat.zero_add, cell_of_row _ _ _ _ _ _ (heap_alloc_new w _)]
  rw [flat_cons, flat_one] at hv
  simpa [vec, enc] using hv

/-- What a ring makes: some list, or none. -/
def Some2 (w : World) (e : Ending) (w' : World) : Prop := ∃ o : Option (List Wh), Told w o e w'
theorem quo_small (a g : Int) (M : Nat) (ha : a.natAbs ≤ M) : (a.tdiv g).natAbs ≤ M := by
  rw [Int.natAbs_tdiv]
  exact Nat.le_trans (Nat.div_le_self _ _) ha

set_option maxHeartbeats 4000000 in
theorem ring_any (a b : Nat) (ins : Bool) (pen : Int) (ha : 6 ≤ a) (ha2 : a ≤ 100) (hb : 6 ≤ b) (hb2 : b ≤ 100) (hp : -100 ≤ pen ∧ pen ≤ 100) (w : World) :
    Calls Try.prog 43 #[.int .i64 a, .int .i64 b, .bool ins, .int .i64 pen] w (Some2 w) := by
  have C := fun w => cusps_any a b ins ha (by omega) hb (by omega) w
  have P := fun w => in_yes pen (-300) 300 (by omega) (by omega) w
  obtain ⟨g, hg1, hg2, G⟩ := ring_gcd a b ha (by omega) (by omega) w
  have hgz : ((g : Int) == 0) = false := by simp; omega
  cases hok : (!(ins && decide (a ≤ b)))
  · rw [hok] at C
    go_enter Try.func43, Try.ntmps43
    go_wp2_with fail
    refine (C _).mono ?_; rintro e w1 ⟨⟨n, rfl⟩, rfl⟩
    go_wp2
    go_ret2
    exact ⟨none, (Below.refl _ _).alloc (Nat.le_refl _) _, _, rfl, own_lit w w.heap.size 87 (Nat.le_refl _)⟩
  · rw [hok] at C
    clear hok
    obtain ⟨s1, hs1⟩ : ∃ s1 : Int, (b : Int).tdiv (g : Int) = s1 := ⟨_, rfl⟩
    have b1 : s1.natAbs ≤ 100 := by rw [← hs1]; exact quo_small _ _ 100 (by omega)
    have q1 : IntKind.i64.wrap s1 = s1 := by rw [IntKind.wrap_i64]; omega
    have hg0 : ¬ (g : Int) = 0 := by omega
    have hgn : ¬ g = 0 := by omega
    cases ins
    · have q2 : IntKind.i64.wrap ((a : Int) + (b : Int)) = (a : Int) + (b : Int) := by rw [IntKind.wrap_i64]; omega
      have q3 : IntKind.i64.wrap (0 - pen) = 0 - pen := by rw [IntKind.wrap_i64]; omega
      obtain ⟨r1, hr1⟩ : ∃ r1 : Int, (a : Int) + (b : Int) = r1 := ⟨_, rfl⟩
      obtain ⟨s2, hs2⟩ : ∃ s2 : Int, r1.tdiv (g : Int) = s2 := ⟨_, rfl⟩
      have b2 : s2.natAbs ≤ 200 := by rw [← hs2]; exact quo_small _ _ 200 (by omega)
      have q4 : IntKind.i64.wrap s2 = s2 := by rw [IntKind.wrap_i64]; omega
      obtain ⟨r2, hr2⟩ : ∃ r2 : Int, 0 - pen = r2 := ⟨_, rfl⟩
      rw [hr1] at q2
      rw [hr2] at q3
      have N1 := fun w => number_any s1 r1 w
      have N2 := fun w => number_any s2 r2 w
      have T := fun (v : Value) (w : World) (hv : Reads w v [numW s1 r1, numW s2 r2]) => l5Tidy_any v [numW s1 r1, numW s2 r2] w hv (by simp) (fun c hc => by
        simp only [List.mem_cons, List.not_mem_nil, or_false] at hc
        rcases hc with rfl | rfl
        · exact big_gau r1 (by omega)
        · exact big_gau r2 (by omega))
      generalize numW s1 r1 = c1 at *
      generalize numW s2 r2 = c2 at *
      generalize tidy true [c1, c2] = o at *
      go_enter Try.func43, Try.ntmps43
      go_wp2_with fail
      refine (C _).mono ?_; rintro e w1 ⟨⟨n, rfl⟩, rfl⟩
      go_wp2_with fail
      refine (P _).mono ?_; rintro e w1 ⟨rfl, rfl⟩
      go_wp2_with fail
      refine (G _).mono ?_; rintro e w1 ⟨rfl, rfl⟩
      clear C P G
      go_upto_region 7 with fail
      refine wp_region_held_drew (S := fun w' => Below w.heap.size w w') (by kernel_rfl) (Below.refl _ w).drew (fun hHeld => ?_)
      refine wpAnyH_take (i := 0) (oi := _) (v := .int .i64 b) rfl (by kernel_rfl) (by kernel_rfl) (by kernel_rfl) (fun _ _ _ h => h) (Or.inl ⟨by rfl, fun w h => by go_simp⟩) hHeld ?_
      try simp only [Act.put, List.setIfInBounds_toArray, List.set_cons_zero, List.set_cons_succ, List.getElem_toArray, List.getElem_cons_succ, List.getElem_cons_zero]
      refine wpAnyH_take (i := 1) (oi := _) (v := .int .i64 g) rfl (by kernel_rfl) (by kernel_rfl) (by kernel_rfl) (fun _ _ _ h => h) (Or.inl ⟨by rfl, fun w h => by go_simp⟩) hHeld ?_
      try simp only [Act.put, List.setIfInBounds_toArray, List.set_cons_zero, List.set_cons_succ, List.getElem_toArray, List.getElem_cons_succ, List.getElem_cons_zero]
      refine wpAnyH_take (i := 2) (oi := _) (v := .int .i64 s1) rfl (by kernel_rfl) (by kernel_rfl) (by kernel_rfl) (fun _ _ _ h => h) (Or.inl ⟨by rfl, fun w h => by go_simp⟩) hHeld ?_
      try simp only [Act.put, List.setIfInBounds_toArray, List.set_cons_zero, List.set_cons_succ, List.getElem_toArray, List.getElem_cons_succ, List.getElem_cons_zero]
      refine wpAnyH_take (i := 3) (oi := _) (v := .int .i64 a) rfl (by kernel_rfl) (by kernel_rfl) (by kernel_rfl) (fun _ _ _ h => h) (Or.inl ⟨by rfl, fun w h => by go_simp⟩) hHeld ?_
      try simp only [Act.put, List.setIfInBounds_toArray, List.set_cons_zero, List.set_cons_succ, List.getElem_toArray, List.getElem_cons_succ, List.getElem_cons_zero]
      refine wpAnyH_take (i := 4) (oi := _) (v := .int .i64 b) rfl (by kernel_rfl) (by kernel_rfl) (by kernel_rfl) (fun _ _ _ h => h) (Or.inl ⟨by rfl, fun w h => by go_simp⟩) hHeld ?_
      try simp only [Act.put, List.setIfInBounds_toArray, List.set_cons_zero, List.set_cons_succ, List.getElem_toArray, List.getElem_cons_succ, List.getElem_cons_zero]
      refine wpAnyH_take (i := 5) (oi := _) (v := .int .i64 r1) rfl (by kernel_rfl) (by kernel_rfl) (by kernel_rfl) (fun _ _ _ h => h) (Or.inl ⟨by rfl, fun w h => by go_simp⟩) hHeld ?_
      try simp only [Act.put, List.setIfInBounds_toArray, List.set_cons_zero, List.set_cons_succ, List.getElem_toArray, List.getElem_cons_succ, List.getElem_cons_zero]
      refine wpAnyH_take (i := 7) (oi := _) (v := .int .i64 a) rfl (by kernel_rfl) (by kernel_rfl) (by kernel_rfl) (fun _ _ _ h => h) (Or.inl ⟨by rfl, fun w h => by go_simp⟩) hHeld ?_
      try simp only [Act.put, List.setIfInBounds_toArray, List.set_cons_zero, List.set_cons_succ, List.getElem_toArray, List.getElem_cons_succ, List.getElem_cons_zero]
      refine wpAnyH_take (i := 8) (oi := _) (v := .int .i64 b) rfl (by kernel_rfl) (by kernel_rfl) (by kernel_rfl) (fun _ _ _ h => h) (Or.inl ⟨by rfl, fun w h => by go_simp⟩) hHeld ?_
      try simp only [Act.put, List.setIfInBounds_toArray, List.set_cons_zero, List.set_cons_succ, List.getElem_toArray, List.getElem_cons_succ, List.getElem_cons_zero]
      refine wpAnyH_take (i := 9) (oi := _) (v := .int .i64 r1) rfl (by kernel_rfl) (by kernel_rfl) (by kernel_rfl) (fun _ _ _ h => h) (Or.inl ⟨by rfl, fun w h => by go_simp⟩) hHeld ?_
      try simp only [Act.put, List.setIfInBounds_toArray, List.set_cons_zero, List.set_cons_succ, List.getElem_toArray, List.getElem_cons_succ, List.getElem_cons_zero]
      refine wpAnyH_take (i := 10) (oi := _) (v := .int .i64 g) rfl (by kernel_rfl) (by kernel_rfl) (by kernel_rfl) (fun _ _ _ h => h) (Or.inl ⟨by rfl, fun w h => by go_simp⟩) hHeld ?_
      try simp only [Act.put, List.setIfInBounds_toArray, List.set_cons_zero, List.set_cons_succ, List.getElem_toArray, List.getElem_cons_succ, List.getElem_cons_zero]
      refine wpAnyH_take (i := 11) (oi := _) (v := .int .i64 s2) rfl (by kernel_rfl) (by kernel_rfl) (by kernel_rfl) (fun _ _ _ h => h) (Or.inl ⟨by rfl, fun w h => by go_simp⟩) hHeld ?_
      try simp only [Act.put, List.setIfInBounds_toArray, List.set_cons_zero, List.set_cons_succ, List.getElem_toArray, List.getElem_cons_succ, List.getElem_cons_zero]
      refine wpAnyH_take (i := 12) (oi := _) (v := .int .i64 pen) rfl (by kernel_rfl) (by kernel_rfl) (by kernel_rfl) (fun _ _ _ h => h) (Or.inl ⟨by rfl, fun w h => by go_simp⟩) hHeld ?_
      try simp only [Act.put, List.setIfInBounds_toArray, List.set_cons_zero, List.set_cons_succ, List.getElem_toArray, List.getElem_cons_succ, List.getElem_cons_zero]
      refine wpAnyH_take (i := 13) (oi := _) (v := .int .i64 r2) rfl (by kernel_rfl) (by kernel_rfl) (by kernel_rfl) (fun _ _ _ h => h) (Or.inl ⟨by rfl, fun w h => by go_simp⟩) hHeld ?_
      try simp only [Act.put, List.setIfInBounds_toArray, List.set_cons_zero, List.set_cons_succ, List.getElem_toArray, List.getElem_cons_succ, List.getElem_cons_zero]
      refine wpAnyH_ready (rs := [6]) (by kernel_rfl) (by simp) ?_
      refine AllReadyH.cons (o := _) rfl (fun K hK => ?_) AllReadyH.nil
      go_simp
      refine (N1 _).mono ?_; rintro e w2 ⟨rfl, hb2⟩
      go_wp2_with fail
      refine hK.out _ _ (below_next hHeld hb2) (fun hHeld => ?_)
      clear hK K
      try simp only [Act.put, List.setIfInBounds_toArray, List.set_cons_zero, List.set_cons_succ, List.getElem_toArray, List.getElem_cons_succ, List.getElem_cons_zero]
      clear hb2 N1
      refine wpAnyH_ready (rs := [14]) (by kernel_rfl) (by simp) ?_
      refine AllReadyH.cons (o := _) rfl (fun K hK => ?_) AllReadyH.nil
      go_simp
      refine (N2 _).mono ?_; rintro e w3 ⟨rfl, hb3⟩
      go_wp2_with fail
      refine hK.out _ _ (below_next hHeld hb3) (fun hHeld => ?_)
      clear hK K
      try simp only [Act.put, List.setIfInBounds_toArray, List.set_cons_zero, List.set_cons_succ, List.getElem_toArray, List.getElem_cons_succ, List.getElem_cons_zero]
      clear hb3 N2
      refine wpAnyH_ready (rs := [15]) (by kernel_rfl) (by simp) ?_
      refine AllReadyH.cons (o := _) rfl (fun K hK => ?_) AllReadyH.nil
      rw [if_pos (by rfl)]
      refine wp_two9 tyW rfl rfl rfl ?_
      have hlit := reads_two w3 c1 c2 87
      refine hK.out _ _ (hHeld.alloc hHeld.size _) (fun hHeld => ?_)
      clear hK K
      try simp only [Act.put, List.setIfInBounds_toArray, List.set_cons_zero, List.set_cons_succ, List.getElem_toArray, List.getElem_cons_succ, List.getElem_cons_zero]
      refine wpAnyH_ready (rs := [16]) (by kernel_rfl) (by simp) ?_
      refine AllReadyH.cons (o := _) rfl (fun K hK => ?_) AllReadyH.nil
      go_simp
      refine (T _ _ hlit).mono ?_; rintro e w4 ⟨hb4, v4, rfl, ho4⟩
      go_wp2_with fail
      have HQ : Aside (Told w o (.returned (.tuple #[v4, .bool o.isSome])) w4) := ⟨below_next hHeld hb4, _, rfl, own_mono ho4 hHeld.size⟩
      refine hK.out _ _ (below_next hHeld hb4) (fun hHeld => ?_)
      clear hK K
      try simp only [Act.put, List.setIfInBounds_toArray, List.set_cons_zero, List.set_cons_succ, List.getElem_toArray, List.getElem_cons_succ, List.getElem_cons_zero]
      clear hb4 ho4 T hlit
      refine wpAnyH_take (i := 17) (oi := _) (v := v4) rfl (by kernel_rfl) (by kernel_rfl) (by kernel_rfl) (fun _ _ _ h => h) (Or.inl ⟨by rfl, fun w h => by go_simp⟩) hHeld ?_
      try simp only [Act.put, List.setIfInBounds_toArray, List.set_cons_zero, List.set_cons_succ, List.getElem_toArray, List.getElem_cons_succ, List.getElem_cons_zero]
      refine wpAnyH_take (i := 18) (oi := _) (v := .bool o.isSome) rfl (by kernel_rfl) (by kernel_rfl) (by kernel_rfl) (fun _ _ _ h => h) (Or.inl ⟨by rfl, fun w h => by go_simp⟩) hHeld ?_
      try simp only [Act.put, List.setIfInBounds_toArray, List.set_cons_zero, List.set_cons_succ, List.getElem_toArray, List.getElem_cons_succ, List.getElem_cons_zero]
      refine wpAnyH_take (i := 19) (oi := _) (v := v4) rfl (by kernel_rfl) (by kernel_rfl) (by kernel_rfl) (fun _ _ _ h => h) (Or.inl ⟨by rfl, fun w h => by go_simp⟩) hHeld ?_
      try simp only [Act.put, List.setIfInBounds_toArray, List.set_cons_zero, List.set_cons_succ, List.getElem_toArray, List.getElem_cons_succ, List.getElem_cons_zero]
      refine wpAnyH_take (i := 20) (oi := _) (v := .bool o.isSome) rfl (by kernel_rfl) (by kernel_rfl) (by kernel_rfl) (fun _ _ _ h => h) (Or.inl ⟨by rfl, fun w h => by go_simp⟩) hHeld ?_
      try simp only [Act.put, List.setIfInBounds_toArray, List.set_cons_zero, List.set_cons_succ, List.getElem_toArray, List.getElem_cons_succ, List.getElem_cons_zero]
      refine wpAnyH_done (by kernel_rfl) ?_ _
      clear hHeld
      go_wp2
      go_ret2
      exact ⟨o, HQ.out⟩
    · have q2 : IntKind.i64.wrap ((a : Int) - (b : Int)) = (a : Int) - (b : Int) := by rw [IntKind.wrap_i64]; omega
      have q3 : IntKind.i64.wrap ((b : Int) - (a : Int)) = (b : Int) - (a : Int) := by rw [IntKind.wrap_i64]; omega
      obtain ⟨r1, hr1⟩ : ∃ r1 : Int, (a : Int) - (b : Int) = r1 := ⟨_, rfl⟩
      obtain ⟨r2, hr2⟩ : ∃ r2 : Int, (b : Int) - (a : Int) = r2 := ⟨_, rfl⟩
      obtain ⟨s2, hs2⟩ : ∃ s2 : Int, r2.tdiv (g : Int) = s2 := ⟨_, rfl⟩
      have b2 : s2.natAbs ≤ 200 := by rw [← hs2]; exact quo_small _ _ 200 (by omega)
      have q4 : IntKind.i64.wrap s2 = s2 := by rw [IntKind.wrap_i64]; omega
      rw [hr1] at q2
      rw [hr2] at q3
      have N1 := fun w => number_any s1 r1 w
      have N2 := fun w => number_any s2 pen w
      have T := fun (v : Value) (w : World) (hv : Reads w v [numW s1 r1, numW s2 pen]) => l5Tidy_any v [numW s1 r1, numW s2 pen] w hv (by simp) (fun c hc => by
        simp only [List.mem_cons, List.not_mem_nil, or_false] at hc
        rcases hc with rfl | rfl
        · exact big_gau r1 (by omega)
        · exact big_gau pen (by omega))
      generalize numW s1 r1 = c1 at *
      generalize numW s2 pen = c2 at *
      generalize tidy true [c1, c2] = o at *
      go_enter Try.func43, Try.ntmps43
      go_wp2_with fail
      refine (C _).mono ?_; rintro e w1 ⟨⟨n, rfl⟩, rfl⟩
      go_wp2_with fail
      refine (P _).mono ?_; rintro e w1 ⟨rfl, rfl⟩
      go_wp2_with fail
      refine (G _).mono ?_; rintro e w1 ⟨rfl, rfl⟩
      clear C P G
      go_upto_region 6 with fail
      refine wp_region_held_drew (S := fun w' => Below w.heap.size w w') (by kernel_rfl) (Below.refl _ w).drew (fun hHeld => ?_)
      refine wpAnyH_take (i := 0) (oi := _) (v := .int .i64 b) rfl (by kernel_rfl) (by kernel_rfl) (by kernel_rfl) (fun _ _ _ h => h) (Or.inl ⟨by rfl, fun w h => by go_simp⟩) hHeld ?_
      try simp only [Act.put, List.setIfInBounds_toArray, List.set_cons_zero, List.set_cons_succ, List.getElem_toArray, List.getElem_cons_succ, List.getElem_cons_zero]
      refine wpAnyH_take (i := 1) (oi := _) (v := .int .i64 g) rfl (by kernel_rfl) (by kernel_rfl) (by kernel_rfl) (fun _ _ _ h => h) (Or.inl ⟨by rfl, fun w h => by go_simp⟩) hHeld ?_
      try simp only [Act.put, List.setIfInBounds_toArray, List.set_cons_zero, List.set_cons_succ, List.getElem_toArray, List.getElem_cons_succ, List.getElem_cons_zero]
      refine wpAnyH_take (i := 2) (oi := _) (v := .int .i64 s1) rfl (by kernel_rfl) (by kernel_rfl) (by kernel_rfl) (fun _ _ _ h => h) (Or.inl ⟨by rfl, fun w h => by go_simp⟩) hHeld ?_
      try simp only [Act.put, List.setIfInBounds_toArray, List.set_cons_zero, List.set_cons_succ, List.getElem_toArray, List.getElem_cons_succ, List.getElem_cons_zero]
      refine wpAnyH_take (i := 3) (oi := _) (v := .int .i64 a) rfl (by kernel_rfl) (by kernel_rfl) (by kernel_rfl) (fun _ _ _ h => h) (Or.inl ⟨by rfl, fun w h => by go_simp⟩) hHeld ?_
      try simp only [Act.put, List.setIfInBounds_toArray, List.set_cons_zero, List.set_cons_succ, List.getElem_toArray, List.getElem_cons_succ, List.getElem_cons_zero]
      refine wpAnyH_take (i := 4) (oi := _) (v := .int .i64 b) rfl (by kernel_rfl) (by kernel_rfl) (by kernel_rfl) (fun _ _ _ h => h) (Or.inl ⟨by rfl, fun w h => by go_simp⟩) hHeld ?_
      try simp only [Act.put, List.setIfInBounds_toArray, List.set_cons_zero, List.set_cons_succ, List.getElem_toArray, List.getElem_cons_succ, List.getElem_cons_zero]
      refine wpAnyH_take (i := 5) (oi := _) (v := .int .i64 r1) rfl (by kernel_rfl) (by kernel_rfl) (by kernel_rfl) (fun _ _ _ h => h) (Or.inl ⟨by rfl, fun w h => by go_simp⟩) hHeld ?_
      try simp only [Act.put, List.setIfInBounds_toArray, List.set_cons_zero, List.set_cons_succ, List.getElem_toArray, List.getElem_cons_succ, List.getElem_cons_zero]
      refine wpAnyH_take (i := 7) (oi := _) (v := .int .i64 b) rfl (by kernel_rfl) (by kernel_rfl) (by kernel_rfl) (fun _ _ _ h => h) (Or.inl ⟨by rfl, fun w h => by go_simp⟩) hHeld ?_
      try simp only [Act.put, List.setIfInBounds_toArray, List.set_cons_zero, List.set_cons_succ, List.getElem_toArray, List.getElem_cons_succ, List.getElem_cons_zero]
      refine wpAnyH_take (i := 8) (oi := _) (v := .int .i64 a) rfl (by kernel_rfl) (by kernel_rfl) (by kernel_rfl) (fun _ _ _ h => h) (Or.inl ⟨by rfl, fun w h => by go_simp⟩) hHeld ?_
      try simp only [Act.put, List.setIfInBounds_toArray, List.set_cons_zero, List.set_cons_succ, List.getElem_toArray, List.getElem_cons_succ, List.getElem_cons_zero]
      refine wpAnyH_take (i := 9) (oi := _) (v := .int .i64 r2) rfl (by kernel_rfl) (by kernel_rfl) (by kernel_rfl) (fun _ _ _ h => h) (Or.inl ⟨by rfl, fun w h => by go_simp⟩) hHeld ?_
      try simp only [Act.put, List.setIfInBounds_toArray, List.set_cons_zero, List.set_cons_succ, List.getElem_toArray, List.getElem_cons_succ, List.getElem_cons_zero]
      refine wpAnyH_take (i := 10) (oi := _) (v := .int .i64 g) rfl (by kernel_rfl) (by kernel_rfl) (by kernel_rfl) (fun _ _ _ h => h) (Or.inl ⟨by rfl, fun w h => by go_simp⟩) hHeld ?_
      try simp only [Act.put, List.setIfInBounds_toArray, List.set_cons_zero, List.set_cons_succ, List.getElem_toArray, List.getElem_cons_succ, List.getElem_cons_zero]
      refine wpAnyH_take (i := 11) (oi := _) (v := .int .i64 s2) rfl (by kernel_rfl) (by kernel_rfl) (by kernel_rfl) (fun _ _ _ h => h) (Or.inl ⟨by rfl, fun w h => by go_simp⟩) hHeld ?_
      try simp only [Act.put, List.setIfInBounds_toArray, List.set_cons_zero, List.set_cons_succ, List.getElem_toArray, List.getElem_cons_succ, List.getElem_cons_zero]
      refine wpAnyH_take (i := 12) (oi := _) (v := .int .i64 pen) rfl (by kernel_rfl) (by kernel_rfl) (by kernel_rfl) (fun _ _ _ h => h) (Or.inl ⟨by rfl, fun w h => by go_simp⟩) hHeld ?_
      try simp only [Act.put, List.setIfInBounds_toArray, List.set_cons_zero, List.set_cons_succ, List.getElem_toArray, List.getElem_cons_succ, List.getElem_cons_zero]
      refine wpAnyH_ready (rs := [6]) (by kernel_rfl) (by simp) ?_
      refine AllReadyH.cons (o := _) rfl (fun K hK => ?_) AllReadyH.nil
      go_simp
      refine (N1 _).mono ?_; rintro e w2 ⟨rfl, hb2⟩
      go_wp2_with fail
      refine hK.out _ _ (below_next hHeld hb2) (fun hHeld => ?_)
      clear hK K
      try simp only [Act.put, List.setIfInBounds_toArray, List.set_cons_zero, List.set_cons_succ, List.getElem_toArray, List.getElem_cons_succ, List.getElem_cons_zero]
      clear hb2 N1
      refine wpAnyH_ready (rs := [13]) (by kernel_rfl) (by simp) ?_
      refine AllReadyH.cons (o := _) rfl (fun K hK => ?_) AllReadyH.nil
      go_simp
      refine (N2 _).mono ?_; rintro e w3 ⟨rfl, hb3⟩
      go_wp2_with fail
      refine hK.out _ _ (below_next hHeld hb3) (fun hHeld => ?_)
      clear hK K
      try simp only [Act.put, List.setIfInBounds_toArray, List.set_cons_zero, List.set_cons_succ, List.getElem_toArray, List.getElem_cons_succ, List.getElem_cons_zero]
      clear hb3 N2
      refine wpAnyH_ready (rs := [14]) (by kernel_rfl) (by simp) ?_
      refine AllReadyH.cons (o := _) rfl (fun K hK => ?_) AllReadyH.nil
      rw [if_pos (by rfl)]
      refine wp_two9 tyW rfl rfl rfl ?_
      have hlit := reads_two w3 c1 c2 87
      refine hK.out _ _ (hHeld.alloc hHeld.size _) (fun hHeld => ?_)
      clear hK K
      try simp only [Act.put, List.setIfInBounds_toArray, List.set_cons_zero, List.set_cons_succ, List.getElem_toArray, List.getElem_cons_succ, List.getElem_cons_zero]
      refine wpAnyH_ready (rs := [15]) (by kernel_rfl) (by simp) ?_
      refine AllReadyH.cons (o := _) rfl (fun K hK => ?_) AllReadyH.nil
      go_simp
      refine (T _ _ hlit).mono ?_; rintro e w4 ⟨hb4, v4, rfl, ho4⟩
      go_wp2_with fail
      have HQ : Aside (Told w o (.returned (.tuple #[v4, .bool o.isSome])) w4) := ⟨below_next hHeld hb4, _, rfl, own_mono ho4 hHeld.size⟩
      refine hK.out _ _ (below_next hHeld hb4) (fun hHeld => ?_)
      clear hK K
      try simp only [Act.put, List.setIfInBounds_toArray, List.set_cons_zero, List.set_cons_succ, List.getElem_toArray, List.getElem_cons_succ, List.getElem_cons_zero]
      clear hb4 ho4 T hlit
      refine wpAnyH_take (i := 16) (oi := _) (v := v4) rfl (by kernel_rfl) (by kernel_rfl) (by kernel_rfl) (fun _ _ _ h => h) (Or.inl ⟨by rfl, fun w h => by go_simp⟩) hHeld ?_
      try simp only [Act.put, List.setIfInBounds_toArray, List.set_cons_zero, List.set_cons_succ, List.getElem_toArray, List.getElem_cons_succ, List.getElem_cons_zero]
      refine wpAnyH_take (i := 17) (oi := _) (v := .bool o.isSome) rfl (by kernel_rfl) (by kernel_rfl) (by kernel_rfl) (fun _ _ _ h => h) (Or.inl ⟨by rfl, fun w h => by go_simp⟩) hHeld ?_
      try simp only [Act.put, List.setIfInBounds_toArray, List.set_cons_zero, List.set_cons_succ, List.getElem_toArray, List.getElem_cons_succ, List.getElem_cons_zero]
      refine wpAnyH_take (i := 18) (oi := _) (v := v4) rfl (by kernel_rfl) (by kernel_rfl) (by kernel_rfl) (fun _ _ _ h => h) (Or.inl ⟨by rfl, fun w h => by go_simp⟩) hHeld ?_
      try simp only [Act.put, List.setIfInBounds_toArray, List.set_cons_zero, List.set_cons_succ, List.getElem_toArray, List.getElem_cons_succ, List.getElem_cons_zero]
      refine wpAnyH_take (i := 19) (oi := _) (v := .bool o.isSome) rfl (by kernel_rfl) (by kernel_rfl) (by kernel_rfl) (fun _ _ _ h => h) (Or.inl ⟨by rfl, fun w h => by go_simp⟩) hHeld ?_
      try simp only [Act.put, List.setIfInBounds_toArray, List.set_cons_zero, List.set_cons_succ, List.getElem_toArray, List.getElem_cons_succ, List.getElem_cons_zero]
      refine wpAnyH_done (by kernel_rfl) ?_ _
      clear hHeld
      go_wp2
      go_ret2
      exact ⟨o, HQ.out⟩

/-- A design drawn off a reader, of whatever length. -/
def DrewX (w : World) (R p c : Nat) (e : Ending) (w' : World) : Prop :=
  ∃ (v : Value) (ws : List Wh) (q : Nat), e = .returned v ∧ q ≤ p + c ∧ Rd w' R q ∧ w.grownBy w' (some R) ∧ Reads w' v ws

set_option maxHeartbeats 4000000 in
theorem design2_drawn (R p : Nat) (w : World) (h : Rd w R p) (hp : p ≤ 700000) :
    Calls Try.prog 31 #[.pointer (some ⟨R, 0, none⟩)] w (DrewX w R p 200) := by
  have hlt := h.lt
  have P1 := Lib.hid (pick_any R p 4 w h (by omega) (by omega))
  clear h
  go_enter Try.func31, Try.ntmps31
  go_wp2_with fail
  refine P1.out.mono ?_; rintro e w1 ⟨n, rfl, n0, n1, hr1, hg1⟩
  clear P1
  go_upto_block 0 with fail
  go_cut [2, 3, 4] from 10 (fun _ _ _ wx => ∃ q, q ≤ p + 5 ∧ Aside (Rd wx R q) ∧ Aside (w.grownBy wx (some R)))
  case first =>
    by_cases e0 : n = 0
    · subst e0
      have D := Lib.hid (design_drawn R (p + 1) w1 hr1 (by omega))
      have HG := Lib.hid hg1
      clear hr1 hg1
      go_wp2_with fail
      refine D.out.mono ?_; rintro e w2 ⟨v2, ws, q, rfl, hq, hl, hr2, hg2, ho2⟩
      have HR2 := Lib.hid hr2
      have HG2 := Lib.hid (only_trans' HG.out hg2)
      have HO := Lib.hid (own_reads ho2)
      clear D hr2 hg2 ho2 HG
      go_wp2
      go_ret
      exact ⟨v2, ws, q, rfl, by omega, HR2.out, HG2.out, HO.out⟩
    · have e0' : (n == 0) = false := by simpa using e0
      by_cases e1 : n = 1
      · subst e1
        have P2 := Lib.hid (pick_any R (p + 1) 30 w1 hr1 (by omega) (by omega))
        have HG1 := Lib.hid hg1
        clear hr1 hg1 e0 e0'
        go_wp2_with fail
        refine P2.out.mono ?_; rintro e w2 ⟨k1, rfl, k10, k11, hr2, hg2⟩
        have P3 := Lib.hid (pick_any R (p + 1 + 1) 12 w2 hr2 (by omega) (by omega))
        have HG2 := Lib.hid (only_trans' HG1.out hg2)
        obtain ⟨a, ha⟩ : ∃ a : Nat, 6 + k1 = (a : Int) := ⟨(6 + k1).toNat, by omega⟩
        have wa : IntKind.i64.wrap (a : Int) = (a : Int) := by rw [IntKind.wrap_i64]; omega
        clear P2 hr2 hg2 HG1
        go_wp2_with fail
        refine P3.out.mono ?_; rintro e w3 ⟨k2, rfl, k20, k21, hr3, hg3⟩
        have P4 := Lib.hid (pick_any R (p + 1 + 1 + 1) 2 w3 hr3 (by omega) (by omega))
        have HG3 := Lib.hid (only_trans' HG2.out hg3)
        obtain ⟨b, hb⟩ : ∃ b : Nat, 6 + k2 = (b : Int) := ⟨(6 + k2).toNat, by omega⟩
        have wb : IntKind.i64.wrap (b : Int) = (b : Int) := by rw [IntKind.wrap_i64]; omega
        clear P3 hr3 hg3 HG2
        go_wp2_with fail
        refine P4.out.mono ?_; rintro e w4 ⟨k3, rfl, k30, k31, hr4, hg4⟩
        have P5 := Lib.hid (pick_any R (p + 1 + 1 + 1 + 1) 20 w4 hr4 (by omega) (by omega))
        have HG4 := Lib.hid (only_trans' HG3.out hg4)
        obtain ⟨ins, hins⟩ : ∃ ins : Bool, (k3 == 0) = ins := ⟨_, rfl⟩
        clear P4 hr4 hg4 HG3
        go_wp2_with fail
        refine P5.out.mono ?_; rintro e w5 ⟨k4, rfl, k40, k41, hr5, hg5⟩
        obtain ⟨pen, hpen⟩ : ∃ pen : Int, k4 - 10 = pen := ⟨_, rfl⟩
        have wp : IntKind.i64.wrap pen = pen := by rw [IntKind.wrap_i64]; omega
        have RG := Lib.hid (ring_any a b ins pen (by omega) (by omega) (by omega) (by omega) (by omega) w5)
        have HR5 := Lib.hid hr5
        have HG5 := Lib.hid (only_trans' HG4.out hg5)
        clear P5 hr5 hg5 HG4
        go_wp2_with fail
        refine RG.out.mono ?_; rintro e w6 ⟨o, hb6, v6, rfl, ho6⟩
        have HR6 := Lib.hid (HR5.out.below hb6)
        have HG6 := Lib.hid (only_trans' HG5.out (only_below hb6 (some R)))
        have HO6 := Lib.hid (own_reads ho6)
        clear RG HR5 HG5 hb6 ho6
        cases o with
        | none =>
          go_wp2
          go_meet
          case rel => exact ⟨p + 1 + 1 + 1 + 1 + 1, by omega, HR6, HG6⟩
        | some L =>
          go_wp2
          go_ret
          exact ⟨v6, L, p + 1 + 1 + 1 + 1 + 1, rfl, by omega, HR6.out, HG6.out, HO6.out⟩
      · have e1' : (n == 1) = false := by simpa using e1
        have HR := Lib.hid hr1
        have HG := Lib.hid hg1
        clear hr1 hg1
        go_wp2
        go_meet
        case rel => exact ⟨p + 1, by omega, HR, HG⟩
  case rest =>
    obtain ⟨q0, hq0, HR0, HG0⟩ := hcut
    clear hr1 hg1
    have P2 := Lib.hid (pick_any R q0 4 _ HR0.out (by omega) (by omega))
    go_wp2_with fail
    refine P2.out.mono ?_; rintro e w2 ⟨k1, rfl, k10, k11, hr2, hg2⟩
    have P3 := Lib.hid (pick_any R (q0 + 1) 5 w2 hr2 (by omega) (by omega))
    have HG2 := Lib.hid (only_trans' HG0.out hg2)
    obtain ⟨st, hst⟩ : ∃ st : Int, 1 + k1 = st := ⟨_, rfl⟩
    have wst : IntKind.i64.wrap st = st := by rw [IntKind.wrap_i64]; omega
    clear P2 hr2 hg2 HG0 HR0
    go_wp2_with fail
    refine P3.out.mono ?_; rintro e w3 ⟨k2, rfl, k20, k21, hr3, hg3⟩
    obtain ⟨fi, hfi⟩ : ∃ fi : Int, k2 - 2 = fi := ⟨_, rfl⟩
    have wfi : IntKind.i64.wrap fi = fi := by rw [IntKind.wrap_i64]; omega
    have hg3a := only_trans' HG2.out hg3
    have hr3a := hr3.alloc (.cells #[] 87)
    have hg3b := only_alloc hg3a (.cells #[] 87)
    have ho3 := own_lit w3 w.heap.size 87 hg3a.size
    have P4 := Lib.hid (pick_any R (q0 + 1 + 1) 3 _ hr3a (by omega) (by omega))
    clear P3 hr3 hg3 HG2 hg3a hr3a
    go_wp2_with fail
    refine P4.out.mono ?_; rintro e w4 ⟨k3, rfl, k30, k31, hr4, hg4⟩
    obtain ⟨mm, hmm⟩ : ∃ mm : Nat, 1 + k3 = (mm : Int) := ⟨(1 + k3).toNat, by omega⟩
    have wmm : IntKind.i64.wrap (mm : Int) = (mm : Int) := by rw [IntKind.wrap_i64]; omega
    have HR4 := Lib.hid hr4
    have HG4 := Lib.hid (only_trans' hg3b hg4)
    have HO4 := Lib.hid (own_kept ho3 hg4 hlt)
    clear P4 hr4 hg4 hg3b ho3
    go_wp2
    go_loopw [7, 9] (fun s7 i wr => ∃ (k : Nat) (ws : List Wh) (q : Nat), k ≤ mm ∧ i = .int .i64 k ∧ ws.length = k ∧ q ≤ p + 8 + 22 * k ∧ Rd wr R q ∧ w.grownBy wr (some R) ∧ Own wr w.heap.size 87 s7 ws) (fun _ i _ => mm - (intOf i).toNat)
    case atStart => exact ⟨0, [], q0 + 1 + 1 + 1, Nat.zero_le _, rfl, rfl, by omega, HR4.out, HG4.out, HO4.out⟩
    case round =>
      obtain ⟨k, ws, q, hk, rfl, hlen, hq, hr, hg, ho⟩ := hrel
      by_cases hkm : k < mm
      · have hkz : (k : Int) < (mm : Int) := by omega
        have P5 := Lib.hid (pick_any R q 5 wr hr (by omega) (by omega))
        go_wp2_with fail
        refine P5.out.mono ?_; rintro e w5 ⟨s, rfl, s0, s1, hr5, hg5⟩
        have hg6 := only_trans' hg hg5
        have ho6 := own_kept ho hg5 hlt
        obtain ⟨u, hu⟩ : ∃ u : Int, s - 2 = u := ⟨_, rfl⟩
        have wu : IntKind.i64.wrap u = u := by rw [IntKind.wrap_i64]; omega
        have hm0 := mul_in2 (x := st) (y := u) 5 5 (by omega) (by omega)
        obtain ⟨m1, hm1⟩ : ∃ m1 : Int, st * u = m1 := ⟨_, rfl⟩
        rw [hm1] at hm0
        obtain ⟨sp, hsp⟩ : ∃ sp : Int, fi + m1 = sp := ⟨_, rfl⟩
        have wm1 : IntKind.i64.wrap m1 = m1 := by rw [IntKind.wrap_i64]; omega
        have wsp : IntKind.i64.wrap sp = sp := by rw [IntKind.wrap_i64]; omega
        have C := Lib.hid (cyc_drawn R (q + 1) w5 hr5 (by omega))
        clear P5 hr hg5 hg ho hr5
        go_wp2_with fail
        refine C.out.mono ?_; rintro e w6 ⟨f, q3, rfl, hq3, hr6, hg7⟩
        have HG7 := Lib.hid (only_trans' hg6 hg7)
        have HO7 := Lib.hid (own_kept ho6 hg7 hlt)
        have HR7 := Lib.hid hr6
        clear C hg6 ho6 hg7 hr6
        go_wp2_with (first | (refine build_wheel rfl rfl rfl rfl built_wheel ?_) | (refine one9 tyW rfl rfl rfl ?_) |
          (refine append_drawn tyW rfl rfl (xs := ws) (ys := [⟨sp, dn f⟩]) rfl rfl (HO7.out.alloc _) (reads_lit _ _ _) (by simp; omega) (only_alloc HG7.out _) (HR7.out.alloc _) hlt ?_; intro v5 w7 ho5 hr5 hg5))
        have HO5 := Lib.hid ho5
        have HR5 := Lib.hid hr5
        have HG5 := Lib.hid hg5
        clear ho5 hr5 hg5 HG7 HO7 HR7
        go_wp2
        go_roundw
        case rel => exact ⟨k + 1, ws ++ [⟨sp, dn f⟩], q3, by omega, by go_num, by simp; omega, by omega, HR5.out, HG5.out, HO5.out⟩
        case measure => simp [intOf]; omega
      · have hkz : ¬ (k : Int) < (mm : Int) := by omega
        have HR := Lib.hid hr
        have HG := Lib.hid hg
        have HO := Lib.hid (own_reads ho)
        clear hr hg ho
        go_wp2
        go_ret
        exact ⟨_, ws, q, rfl, by omega, HR.out, HG.out, HO.out⟩

end Go.Proofs.Ytibhlaojinedoaa
/- Out of the text RowH: what the draws of polygons need. -/
namespace Go.Proofs.Ytibhlaojinedoaa
set_option maxRecDepth 20000
open Go.ChangeShapes Go.WideShapes Go.ChangeAt Go.RowKit
set_option linter.unusedVariables false
set_option linter.unusedSimpArgs false
theorem pointOf_some (a : V) : pointOf (some a) = .tuple #[.agg (vec 8 a.up), .bool true] := rfl
theorem rdO_no {ws : List Wh} {n : Int} (h : rowZ n = false) : rdO ws n = none := by
  unfold rdO; unfold rowZ at h; rw [h]; rfl
theorem rdO_nat {ws : List Wh} {n : Nat} (h : rowLen n = true) : rdO ws n = coll (fun k => atD ws (((k * (24 / n) : Nat)) : Int)) n := by
  have h' := rowZ_nat n
  rw [h] at h'
  unfold rowZ at h'
  unfold rdO
  rw [if_pos h']; rfl
end Go.Proofs.Ytibhlaojinedoaa
/- Out of the text RowX: what the draws of polygons need. -/
namespace Go.Proofs.Ytibhlaojinedoaa
set_option maxRecDepth 20000
open Go.ChangeShapes Go.WideShapes Go.ChangeAt Go.RowKit
set_option linter.unusedVariables false
set_option linter.unusedSimpArgs false
theorem ownL_nilD (w : World) (B : Nat) (T : Nat) (g : Nat) (hg : w.heap.size = g) (hB : B ≤ w.heap.size) : (w.alloc (.cells #[] T)).ownsRow B T 8 (.slice (some ⟨g, 0, none⟩) 0 0) 0 [] := by subst hg; exact ownL_nilB w B T hB
theorem rdO_bad {ws : List Wh} {n : Nat} (h : rowLen n = true) (hv : valid ws = false) : rdO ws n = none := by
  rw [rdO_nat h]
  refine coll_none (k := 0) ?_ (rowLen_in h).1
  unfold atD
  rw [hv]; rfl
set_option maxHeartbeats 3000000 in
theorem specRowOf_any (v : Value) (n : Int) (ws : List Wh) (w : World) (hv : Reads w v ws) : Calls Try.prog 30 #[v, .int .i64 n] w (ToldL 80 w (rdO ws n)) := by
  have hz : Below w.heap.size w (w.alloc (.cells #[] 80)) := (Below.refl _ _).alloc (Nat.le_refl _) _
  have LN := fun w => specLength_any n w
  have DV := specDesignValid_any v ws (w.alloc (.cells #[] 80)) (hv.below hz)
  have HV := Lib.hid hv
  have HO0 := Lib.hid (ownL_nilB w w.heap.size 80 (Nat.le_refl _))
  have HL0 := Lib.hid hz
  clear hz hv
  cases hl : rowZ n
  · rw [hl] at LN
    rw [rdO_no hl]
    clear hl
    go_enter Try.func30, Try.ntmps30
    go_wp2_with fail
    refine (LN _).mono ?_; rintro e w1 ⟨rfl, rfl⟩
    clear LN
    go_wp2
    go_ret2
    exact ⟨HL0.out, _, rfl, HO0.out⟩
  · rw [hl] at LN
    have h1 : 1 ≤ n := by unfold rowZ at hl; simp at hl; exact hl.1
    obtain ⟨m, rfl⟩ : ∃ m : Nat, n = m := ⟨n.toNat, by omega⟩
    rw [rowZ_nat] at hl
    cases hvd : valid ws
    · rw [rdO_bad hl hvd]
      rw [hvd] at DV
      have DV := Lib.hid DV
      clear hl hvd
      go_enter Try.func30, Try.ntmps30
      go_wp2_with fail
      refine (LN _).mono ?_; rintro e w1 ⟨rfl, rfl⟩
      clear LN
      go_wp2_with fail
      refine DV.out.mono ?_; rintro e w2 ⟨rfl, hb2⟩
      have HL1 := Lib.hid (below_next HL0.out hb2)
      have HO1 := Lib.hid (rows_below HO0.out hb2)
      clear DV hb2 HL0 HO0
      go_wp2
      go_ret2
      exact ⟨HL1.out, _, rfl, HO1.out⟩
    · rw [hvd] at DV
      have DV := Lib.hid DV
      rw [rdO_nat hl]
      have h24 := (rowLen_in hl).2.2
      clear hl hvd
      generalize hres : coll (fun k => atD ws (((k * (24 / m) : Nat)) : Int)) m = res
      have HRES := Lib.hid hres
      obtain ⟨q, hq⟩ : ∃ q, 24 / m = q := ⟨_, rfl⟩
      have hq24 : q ≤ 24 := by rw [← hq]; exact Nat.div_le_self 24 m
      rw [hq] at HRES
      have q4 : (24 : Int).tdiv (m : Int) = (q : Int) := by
        rw [Int.tdiv_eq_ediv_of_nonneg (by decide), ← hq]; simp
      have q5 : IntKind.i64.wrap (q : Int) = (q : Int) := by rw [IntKind.wrap_i64]; omega
      have q6 : ¬ (m : Int) = 0 := by omega
      clear hres hq
      go_enter Try.func30, Try.ntmps30
      go_wp2_with fail
      refine (LN _).mono ?_; rintro e w1 ⟨rfl, rfl⟩
      clear LN
      go_wp2_with fail
      refine DV.out.mono ?_; rintro e w2 ⟨rfl, hb2⟩
      have HL1 := Lib.hid (below_next HL0.out hb2)
      have HO1 := Lib.hid (rows_below HO0.out hb2)
      clear DV hb2 HL0 HO0
      go_wp2
      generalize hb : w.heap.size = b at *
      go_loopw [6, 7, 8, 9] (fun s6 i _ _ wr => ∃ (k : Nat) (l : List V), k ≤ m ∧ i = .int .i64 k ∧ coll (fun k => atD ws (((k * q : Nat)) : Int)) k = some l ∧ OwnL encV 8 wr b 80 s6 l ∧ Below b w wr) (fun _ i _ _ _ => m - (intOf i).toNat)
      case atStart => exact ⟨0, [], Nat.zero_le _, rfl, rfl, HO1.out, HL1.out⟩
      case round =>
        clear HO1 HL1
        obtain ⟨k, l, hk, rfl, hl, hO, hbel⟩ := hrel
        have HL := Lib.hid hl
        have HO := Lib.hid hO
        have HB := Lib.hid hbel
        have hZ : b ≤ wr.heap.size := by have := hbel.size; omega
        have hlk := coll_len hl
        clear hl hO hbel
        by_cases hlt : k < m
        · have hkz : (k : Int) < (m : Int) := by omega
          have hk0 : (0 : Int) ≤ (k : Int) := by omega
          have hkq : k * q ≤ 24 * 24 := Nat.mul_le_mul (by omega) hq24
          have q7 : (k : Int) * (q : Int) = ((k * q : Nat) : Int) := by simp
          have q8 : IntKind.i64.wrap ((k : Int) * (q : Int)) = ((k * q : Nat) : Int) := by rw [q7, IntKind.wrap_i64]; omega
          have D := specDesignAt_any v ws ((k * q : Nat) : Int) wr (HV.out.below (HB.out.mono (by omega)))
          have HSTEP := Lib.hid (coll_step HL.out)
          have HNO : Aside (atD ws ((k * q : Nat) : Int) = none → res = none) := (show _ → _ from fun h => by rw [← HRES.out]; exact coll_none (f := fun k => atD ws (((k * q : Nat)) : Int)) h hlt)
          clear q7 hkq
          generalize ((k * q : Nat) : Int) = kq at *
          cases hs : atD ws kq
          · rw [hs, pointOf_none] at D
            have HF : Aside (res = none) := (show res = none from HNO.out hs)
            have D := Lib.hid D
            clear hs HSTEP HNO
            go_wp2_with fail
            refine D.out.mono ?_; rintro e w3 ⟨rfl, hb3⟩
            have hb4 := HB.out.trans (hb3.mono hZ)
            have HB4 := Lib.hid (hb4.alloc (by have := hb4.size; omega) (.cells (vec 8 nul) 80))
            clear D hb3 hb4
            go_wp2_with (refine store_new (ty := 80) rfl rfl rfl rfl zero8 info_cyc ?_)
            go_ret2
            rw [HF.out]
            exact ⟨by rw [hb]; exact HB4.out.alloc (by have := HB4.out.size; omega) _, _, rfl, by rw [hb]; exact ownL_nilD _ _ _ _ (by simp) (by have := HB4.out.size; omega)⟩
          · rename_i a
            rw [hs, pointOf_some] at D
            rw [hs] at HSTEP
            have D := Lib.hid D
            have HC2 : Aside (coll (fun k => atD ws (((k * q : Nat)) : Int)) (k + 1) = some (l ++ [a])) := (show _ = _ from by rw [HSTEP.out]; rfl)
            clear hs HSTEP HNO
            go_wp2_with fail
            refine D.out.mono ?_; rintro e w3 ⟨rfl, hb3⟩
            have HO3 := Lib.hid (World.ownsRow.alloc (rows_below HO.out hb3) (.cells (vec 8 a.up) 80))
            have hb4 := HB.out.trans (hb3.mono hZ)
            have hz4 : b ≤ w3.heap.size := by have := hb4.size; omega
            have HB4 := Lib.hid (hb4.alloc hz4 (.cells (vec 8 a.up) 80))
            have HX4 := Lib.hid (RowAt.new w3 8 80 a.up)
            have hz5 : b ≤ (w3.alloc (.cells (vec 8 a.up) 80)).heap.size := by simp; omega
            clear D hb3 hb4 HO HB
            go_upto_region 8 with (refine store_new (ty := 80) (f' := a.up) rfl rfl rfl rfl zero8 info_cyc ?_)
            show Code.wp _ _ _ _ (w3.alloc (.cells (vec 8 a.up) 80))
            generalize w3.alloc (.cells (vec 8 a.up) 80) = W3 at *
            generalize w3.heap.size = g3 at *
            go_wp2_with (first | (refine load_row (ty := 80) (g := g3) rfl rfl rfl HX4.out Try.underlying80 rfl info_cyc ?_; clear HX4) | (refine one8 tyY rfl rfl rfl ?_) |
              (refine appendL tyY encV_ok rfl rfl rfl rfl (xs := l) (World.ownsRow.alloc HO3.out _) (lit8 _ _ _) (by simp; omega) (HB4.out.alloc hz5 _) (by simp; omega) ?_; intro v2 w4 ho4 hb4 hB4 hgr4))
            go_roundw
            case rel => exact ⟨k + 1, l ++ [a], by omega, by go_num, HC2.out, ho4, hb4⟩
            case measure => simp [intOf]; omega
        · obtain rfl : k = m := by omega
          have HF : Aside (res = some l) := (show res = some l from by rw [← HRES.out]; exact HL.out)
          go_wp2
          go_ret2
          rw [HF.out]
          exact ⟨by rw [hb]; exact HB.out, _, rfl, by rw [hb]; exact HO.out⟩

end Go.Proofs.Ytibhlaojinedoaa
