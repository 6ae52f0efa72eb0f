/-
  Rings: the mathematics (no program): the two wheels of a ring design.
  impl: ring designs.
  spec: rings.
  What the laws say of rings (no program): the fold of a ring design, its first point, two ways to the same curve.
-/
import Derived.Test.YtbdhbkedeglagaaM01
import Derived.Test.YtbdhbkedeglagaaM21
import Derived.Test.YtbdhbkedeglagaaM16
import Derived.Test.YtbdhbkedeglagaaM09
import Derived.Test.YtbdhbkedeglagaaM11
import Derived.Test.YtbdhbkedeglagaaM10
import Derived.Test.YtbdhbkedeglagaaM18
/- Rings: the mathematics (no program): the two wheels of a ring design. -/
namespace Go.Proofs.Ytbdhbkedeglagaa
set_option maxRecDepth 20000
set_option linter.unusedVariables false
set_option linter.unusedSimpArgs false

def ringL (a b : Int) (i : Bool) (p : Int) : List Wh :=
  if i then [numW (b.tdiv (gOf a b : Int)) (a - b), numW ((b - a).tdiv (gOf a b : Int)) p]
  else [numW (b.tdiv (gOf a b : Int)) (a + b), numW ((a + b).tdiv (gOf a b : Int)) (-p)]
def ringO (a b : Int) (i : Bool) (p : Int) : Option (List Wh) := if ringB a b i && penB p then tidy false (ringL a b i p) else none
theorem dn_onl (r : Int) : dn (onl r) = dn (gau r 0) := dn_same fun j _ => by unfold onl gau; split <;> simp
theorem ringL_big {a b : Int} {i : Bool} {p : Int} (h : ringB a b i = true) (hp : penB p = true) : ∀ c ∈ ringL a b i p, Big c.r 4000000 := fun c hc => by
  obtain ⟨h1, h2, h3⟩ := ringB_true.1 h
  have h4 := penB_true.1 hp
  unfold ringL at hc
  split at hc
  · simp only [List.mem_cons, List.not_mem_nil, or_false] at hc
    rcases hc with rfl | rfl
    · exact big_gau _ (by omega)
    · exact big_gau _ (by omega)
  · simp only [List.mem_cons, List.not_mem_nil, or_false] at hc
    rcases hc with rfl | rfl
    · exact big_gau _ (by omega)
    · exact big_gau _ (by omega)
theorem okv_gau {r : Int} (h : -1000000 ≤ r ∧ r ≤ 1000000) : okv (dn (gau r 0)) = true := big_okv fun j hj => by
  rw [up_dn _ j hj]
  unfold gau
  split
  · omega
  · split <;> omega
theorem ringL_ok {a b : Int} {i : Bool} {p : Int} (h : ringB a b i = true) (hp : penB p = true) : ∀ c ∈ ringL a b i p, okv c.r = true := fun c hc => by
  obtain ⟨h1, h2, h3⟩ := ringB_true.1 h
  have h4 := penB_true.1 hp
  unfold ringL at hc
  split at hc
  · simp only [List.mem_cons, List.not_mem_nil, or_false] at hc
    rcases hc with rfl | rfl
    · exact okv_gau (by omega)
    · exact okv_gau (by omega)
  · simp only [List.mem_cons, List.not_mem_nil, or_false] at hc
    rcases hc with rfl | rfl
    · exact okv_gau (by omega)
    · exact okv_gau (by omega)
theorem ring_true {a b : Int} {i : Bool} {p : Int} (h : ringB a b i = true) (hp : penB p = true) : tidy true (ringL a b i p) = ringO a b i p := by
  unfold ringO
  rw [h, hp, tidy_first (ringL_ok h hp)]
  rfl
theorem ring_false {a b : Int} {i : Bool} {p : Int} (h : ringB a b i = true) (hp : penB p = true) : tidy false (ringL a b i p) = ringO a b i p := by
  unfold ringO
  rw [h, hp]
  rfl
end Go.Proofs.Ytbdhbkedeglagaa
/- impl: ring designs. -/
namespace Go.Proofs.Ytbdhbkedeglagaa
set_option maxRecDepth 20000
open Go.ChangeShapes Go.WideShapes Go.ChangeAt Go.RowKit
set_option linter.unusedVariables false
set_option linter.unusedSimpArgs false

theorem circle_num (x y : Nat) (i : Bool) (rad sp : Int) (hx : 1 ≤ x ∧ x ≤ 240) (hy : y ≤ 240) (hs : sp.natAbs ≤ 1000) (w : World) : Calls Try.prog 58 #[rollV x y i, .int .i64 rad, .int .i64 sp] w fun e w' => e = .returned (wh (numW (sp.tdiv (gOf (x : Int) (y : Int) : Nat)) rad)) ∧ Below w.heap.size w w' := by
  have := circle_of x y i rad sp hx hy hs w
  rw [dn_onl] at this
  exact this
theorem own_two (w : World) (B T : Nat) (c d : Wh) (hB : B ≤ w.heap.size) : Own (w.alloc (.cells (vec 9 (wf c) ++ vec 9 (wf d)) T)) B T (.slice (some ⟨w.heap.size, 0, none⟩) 2 2) [c, d] := by
  have hf : flat [c, d] = (vec 9 (wf c) ++ vec 9 (wf d)).toList := by
    rw [flat_cons, flat_one]
    simp [vec, enc]
  show World.ownsRow _ _ _ _ _ _ _
  rw [hf]
  refine ⟨by simp [vec, lst_length], .inr ⟨w.heap.size, 2, _, rfl, hB, heap_alloc_last _ _, by simp, by simp [maxLen], by simp [vec, lst_length], ?_⟩⟩
  rw [List.take_of_length_le (by simp [vec, lst_length])]
def Rolled (w : World) (l : List Wh) (e : Ending) (w' : World) : Prop := Below w.heap.size w w' ∧ ∃ v', e = .returned v' ∧ Own w' w.heap.size 76 v' l

set_option maxHeartbeats 4000000 in
theorem circles_in (x y : Nat) (pen : Int) (hx : 6 ≤ x ∧ x ≤ 240) (hy : 6 ≤ y ∧ y < x) (w : World) : Calls Try.prog 39 #[rollV x y true, .int .i64 pen] w (Rolled w (ringL x y true pen)) := by
  obtain ⟨m, hm⟩ : ∃ m : Int, (x : Int) - (y : Int) = m := ⟨_, rfl⟩
  have m1 : IntKind.i64.wrap m = m := by rw [IntKind.wrap_i64]; omega
  have m2 : IntKind.i64.wrap (-m) = -m := by rw [IntKind.wrap_i64]; omega
  have C1 := fun w => circle_num x y true m y ⟨by omega, by omega⟩ (by omega) (by omega) w
  have C2 := fun w => circle_num x y true pen (-m) ⟨by omega, by omega⟩ (by omega) (by omega) w
  have e : ringL x y true pen = [numW ((y : Int).tdiv (gOf (x : Int) (y : Int) : Nat)) m, numW ((-m).tdiv (gOf (x : Int) (y : Int) : Nat)) pen] := by
    unfold ringL
    rw [if_pos rfl, hm, show -m = (y : Int) - (x : Int) by omega]
  rw [e]
  clear e
  generalize numW ((y : Int).tdiv (gOf (x : Int) (y : Int) : Nat)) m = c1 at *
  generalize numW ((-m).tdiv (gOf (x : Int) (y : Int) : Nat)) pen = c2 at *
  have hR := RollAt.new w x y true 51
  have hL := one_below w (.cells #[.int .i64 (x : Int), .int .i64 (y : Int), .bool true] 51)
  unfold rollV at *
  go_enter Try.func39, Try.ntmps39
  go_upto_region 3 with fail
  show Code.wp _ _ _ _ (w.alloc (.cells #[.int .i64 (x : Int), .int .i64 (y : Int), .bool true] 51))
  generalize (w.alloc (.cells #[.int .i64 (x : Int), .int .i64 (y : Int), .bool true] 51)) = W at *
  refine wp_region_held_drew (S := fun w' => RollAt w' w.heap.size x y true ∧ Below w.heap.size w w') (by kernel_rfl) ⟨hR.drew, hL.drew⟩ (fun hHeld => ?_)
  clear hR hL
  refine wpAnyH_take (i := 0) (oi := _) (v := rollV x y true) rfl (by kernel_rfl) (by kernel_rfl) (by kernel_rfl) (fun _ _ _ h => h) (yieldsIf_load_mid (by rfl) _ _ rfl _ _ rfl [.int .i64 (x : Int), .int .i64 (y : Int), .bool true] _ (fun w h => h.1.2) Try.underlying51 rfl info_roll) hHeld ?_
  try simp only [Act.put, List.setIfInBounds_toArray, List.set_cons_zero, List.set_cons_succ, List.getElem_toArray, List.getElem_cons_succ, List.getElem_cons_zero]
  refine wpAnyH_take (i := 1) (oi := _) (v := .int .i64 m) rfl (by kernel_rfl) (by kernel_rfl) (by kernel_rfl) (fun _ _ _ h => h) (Or.inl ⟨by rfl, fun w h => by go_simp⟩) hHeld ?_
  try simp only [Act.put, List.setIfInBounds_toArray, List.set_cons_zero, List.set_cons_succ, List.getElem_toArray, List.getElem_cons_succ, List.getElem_cons_zero]
  refine wpAnyH_take (i := 2) (oi := _) (v := .pointer (some ⟨w.heap.size, 1, none⟩)) rfl (by kernel_rfl) (by kernel_rfl) (by kernel_rfl) (fun _ _ _ h => h) (Or.inl ⟨by rfl, fun w h => by go_simp⟩) hHeld ?_
  try simp only [Act.put, List.setIfInBounds_toArray, List.set_cons_zero, List.set_cons_succ, List.getElem_toArray, List.getElem_cons_succ, List.getElem_cons_zero]
  refine wpAnyH_take (i := 3) (oi := _) (v := .int .i64 y) rfl (by kernel_rfl) (by kernel_rfl) (by kernel_rfl) (fun _ _ _ h => h) (Or.inl ⟨by rfl, fun w h => by have hcell := (cell_field h.1.2 1 rfl); go_simp⟩) hHeld ?_
  try simp only [Act.put, List.setIfInBounds_toArray, List.set_cons_zero, List.set_cons_succ, List.getElem_toArray, List.getElem_cons_succ, List.getElem_cons_zero]
  refine wpAnyH_take (i := 5) (oi := _) (v := rollV x y true) rfl (by kernel_rfl) (by kernel_rfl) (by kernel_rfl) (fun _ _ _ h => h) (yieldsIf_load_mid (by rfl) _ _ rfl _ _ rfl [.int .i64 (x : Int), .int .i64 (y : Int), .bool true] _ (fun w h => h.1.2) Try.underlying51 rfl info_roll) hHeld ?_
  try simp only [Act.put, List.setIfInBounds_toArray, List.set_cons_zero, List.set_cons_succ, List.getElem_toArray, List.getElem_cons_succ, List.getElem_cons_zero]
  refine wpAnyH_take (i := 6) (oi := _) (v := .int .i64 pen) rfl (by kernel_rfl) (by kernel_rfl) (by kernel_rfl) (fun _ _ _ h => h) (Or.inl ⟨by rfl, fun w h => by go_simp⟩) hHeld ?_
  try simp only [Act.put, List.setIfInBounds_toArray, List.set_cons_zero, List.set_cons_succ, List.getElem_toArray, List.getElem_cons_succ, List.getElem_cons_zero]
  refine wpAnyH_take (i := 7) (oi := _) (v := .int .i64 m) rfl (by kernel_rfl) (by kernel_rfl) (by kernel_rfl) (fun _ _ _ h => h) (Or.inl ⟨by rfl, fun w h => by go_simp⟩) hHeld ?_
  try simp only [Act.put, List.setIfInBounds_toArray, List.set_cons_zero, List.set_cons_succ, List.getElem_toArray, List.getElem_cons_succ, List.getElem_cons_zero]
  refine wpAnyH_take (i := 8) (oi := _) (v := .int .i64 (-m)) rfl (by kernel_rfl) (by kernel_rfl) (by kernel_rfl) (fun _ _ _ h => h) (Or.inl ⟨by rfl, fun w h => by go_simp⟩) hHeld ?_
  try simp only [Act.put, List.setIfInBounds_toArray, List.set_cons_zero, List.set_cons_succ, List.getElem_toArray, List.getElem_cons_succ, List.getElem_cons_zero]
  refine wpAnyH_ready (rs := [4]) (by kernel_rfl) (by simp) ?_
  refine AllReadyH.cons (o := _) rfl (fun K hK => ?_) AllReadyH.nil
  go_simp
  refine (C1 _).mono ?_; rintro e w1 ⟨rfl, hb⟩
  go_wp2_with fail
  obtain ⟨h1, h2⟩ := hHeld
  refine hK.out _ _ ⟨h1.below hb, below_next h2 hb⟩ (fun hHeld => ?_)
  clear hK K
  try simp only [Act.put, List.setIfInBounds_toArray, List.set_cons_zero, List.set_cons_succ, List.getElem_toArray, List.getElem_cons_succ, List.getElem_cons_zero]
  clear h1 h2 hb C1
  refine wpAnyH_ready (rs := [9]) (by kernel_rfl) (by simp) ?_
  refine AllReadyH.cons (o := _) rfl (fun K hK => ?_) AllReadyH.nil
  go_simp
  refine (C2 _).mono ?_; rintro e w2 ⟨rfl, hb⟩
  go_wp2_with fail
  obtain ⟨h1, h2⟩ := hHeld
  refine hK.out _ _ ⟨h1.below hb, below_next h2 hb⟩ (fun hHeld => ?_)
  clear hK K
  try simp only [Act.put, List.setIfInBounds_toArray, List.set_cons_zero, List.set_cons_succ, List.getElem_toArray, List.getElem_cons_succ, List.getElem_cons_zero]
  clear h1 h2 hb C2
  refine wpAnyH_ready (rs := [10]) (by kernel_rfl) (by simp) ?_
  refine AllReadyH.cons (o := _) rfl (fun K hK => ?_) AllReadyH.nil
  rw [if_pos (by rfl)]
  refine wp_two9 tyC rfl rfl rfl ?_
  obtain ⟨h1, h2⟩ := hHeld
  have HQ := Lib.hid (own_two w2 w.heap.size 76 c1 c2 h2.size)
  have HL := Lib.hid (h2.alloc h2.size (.cells (vec 9 (wf c1) ++ vec 9 (wf c2)) 76))
  refine hK.out _ _ ⟨h1.below (one_below _ _), HL.out⟩ (fun hHeld => ?_)
  clear hK K
  try simp only [Act.put, List.setIfInBounds_toArray, List.set_cons_zero, List.set_cons_succ, List.getElem_toArray, List.getElem_cons_succ, List.getElem_cons_zero]
  clear h1 h2
  refine wpAnyH_take (i := 11) (oi := _) (v := .slice (some ⟨w2.heap.size, 0, none⟩) 2 2) rfl (by kernel_rfl) (by kernel_rfl) (by kernel_rfl) (fun _ _ _ h => h) (Or.inl ⟨by rfl, fun w h => by go_simp⟩) hHeld ?_
  try simp only [Act.put, List.setIfInBounds_toArray, List.set_cons_zero, List.set_cons_succ, List.getElem_toArray, List.getElem_cons_succ, List.getElem_cons_zero]
  refine wpAnyH_done (by kernel_rfl) ?_ _
  clear hHeld
  go_wp2
  go_ret
  exact ⟨HL.out, _, rfl, HQ.out⟩

set_option maxHeartbeats 4000000 in
theorem circles_out (x y : Nat) (pen : Int) (hx : 6 ≤ x ∧ x ≤ 240) (hy : 6 ≤ y ∧ y ≤ 240) (hp : -300 ≤ pen ∧ pen ≤ 300) (w : World) : Calls Try.prog 39 #[rollV x y false, .int .i64 pen] w (Rolled w (ringL x y false pen)) := by
  obtain ⟨m, hm⟩ : ∃ m : Int, (x : Int) + (y : Int) = m := ⟨_, rfl⟩
  have m1 : IntKind.i64.wrap m = m := by rw [IntKind.wrap_i64]; omega
  have m2 : IntKind.i64.wrap (-pen) = -pen := by rw [IntKind.wrap_i64]; omega
  have C1 := fun w => circle_num x y false m y ⟨by omega, by omega⟩ (by omega) (by omega) w
  have C2 := fun w => circle_num x y false (-pen) m ⟨by omega, by omega⟩ (by omega) (by omega) w
  have e : ringL x y false pen = [numW ((y : Int).tdiv (gOf (x : Int) (y : Int) : Nat)) m, numW (m.tdiv (gOf (x : Int) (y : Int) : Nat)) (-pen)] := by
    unfold ringL
    rw [if_neg (by decide), hm]
  rw [e]
  clear e
  generalize numW ((y : Int).tdiv (gOf (x : Int) (y : Int) : Nat)) m = c1 at *
  generalize numW (m.tdiv (gOf (x : Int) (y : Int) : Nat)) (-pen) = c2 at *
  have hR := RollAt.new w x y false 51
  have hL := one_below w (.cells #[.int .i64 (x : Int), .int .i64 (y : Int), .bool false] 51)
  unfold rollV at *
  go_enter Try.func39, Try.ntmps39
  go_upto_region 5 with fail
  show Code.wp _ _ _ _ (w.alloc (.cells #[.int .i64 (x : Int), .int .i64 (y : Int), .bool false] 51))
  generalize (w.alloc (.cells #[.int .i64 (x : Int), .int .i64 (y : Int), .bool false] 51)) = W at *
  refine wp_region_held_drew (S := fun w' => RollAt w' w.heap.size x y false ∧ Below w.heap.size w w') (by kernel_rfl) ⟨hR.drew, hL.drew⟩ (fun hHeld => ?_)
  clear hR hL
  refine wpAnyH_take (i := 0) (oi := _) (v := rollV x y false) rfl (by kernel_rfl) (by kernel_rfl) (by kernel_rfl) (fun _ _ _ h => h) (yieldsIf_load_mid (by rfl) _ _ rfl _ _ rfl [.int .i64 (x : Int), .int .i64 (y : Int), .bool false] _ (fun w h => h.1.2) Try.underlying51 rfl info_roll) hHeld ?_
  try simp only [Act.put, List.setIfInBounds_toArray, List.set_cons_zero, List.set_cons_succ, List.getElem_toArray, List.getElem_cons_succ, List.getElem_cons_zero]
  refine wpAnyH_take (i := 1) (oi := _) (v := .int .i64 m) rfl (by kernel_rfl) (by kernel_rfl) (by kernel_rfl) (fun _ _ _ h => h) (Or.inl ⟨by rfl, fun w h => by go_simp⟩) hHeld ?_
  try simp only [Act.put, List.setIfInBounds_toArray, List.set_cons_zero, List.set_cons_succ, List.getElem_toArray, List.getElem_cons_succ, List.getElem_cons_zero]
  refine wpAnyH_take (i := 2) (oi := _) (v := .pointer (some ⟨w.heap.size, 1, none⟩)) rfl (by kernel_rfl) (by kernel_rfl) (by kernel_rfl) (fun _ _ _ h => h) (Or.inl ⟨by rfl, fun w h => by go_simp⟩) hHeld ?_
  try simp only [Act.put, List.setIfInBounds_toArray, List.set_cons_zero, List.set_cons_succ, List.getElem_toArray, List.getElem_cons_succ, List.getElem_cons_zero]
  refine wpAnyH_take (i := 3) (oi := _) (v := .int .i64 y) rfl (by kernel_rfl) (by kernel_rfl) (by kernel_rfl) (fun _ _ _ h => h) (Or.inl ⟨by rfl, fun w h => by have hcell := (cell_field h.1.2 1 rfl); go_simp⟩) hHeld ?_
  try simp only [Act.put, List.setIfInBounds_toArray, List.set_cons_zero, List.set_cons_succ, List.getElem_toArray, List.getElem_cons_succ, List.getElem_cons_zero]
  refine wpAnyH_take (i := 5) (oi := _) (v := rollV x y false) rfl (by kernel_rfl) (by kernel_rfl) (by kernel_rfl) (fun _ _ _ h => h) (yieldsIf_load_mid (by rfl) _ _ rfl _ _ rfl [.int .i64 (x : Int), .int .i64 (y : Int), .bool false] _ (fun w h => h.1.2) Try.underlying51 rfl info_roll) hHeld ?_
  try simp only [Act.put, List.setIfInBounds_toArray, List.set_cons_zero, List.set_cons_succ, List.getElem_toArray, List.getElem_cons_succ, List.getElem_cons_zero]
  refine wpAnyH_take (i := 6) (oi := _) (v := .int .i64 pen) rfl (by kernel_rfl) (by kernel_rfl) (by kernel_rfl) (fun _ _ _ h => h) (Or.inl ⟨by rfl, fun w h => by go_simp⟩) hHeld ?_
  try simp only [Act.put, List.setIfInBounds_toArray, List.set_cons_zero, List.set_cons_succ, List.getElem_toArray, List.getElem_cons_succ, List.getElem_cons_zero]
  refine wpAnyH_take (i := 7) (oi := _) (v := .int .i64 (-pen)) rfl (by kernel_rfl) (by kernel_rfl) (by kernel_rfl) (fun _ _ _ h => h) (Or.inl ⟨by rfl, fun w h => by go_simp⟩) hHeld ?_
  try simp only [Act.put, List.setIfInBounds_toArray, List.set_cons_zero, List.set_cons_succ, List.getElem_toArray, List.getElem_cons_succ, List.getElem_cons_zero]
  refine wpAnyH_take (i := 8) (oi := _) (v := .int .i64 m) rfl (by kernel_rfl) (by kernel_rfl) (by kernel_rfl) (fun _ _ _ h => h) (Or.inl ⟨by rfl, fun w h => by go_simp⟩) hHeld ?_
  try simp only [Act.put, List.setIfInBounds_toArray, List.set_cons_zero, List.set_cons_succ, List.getElem_toArray, List.getElem_cons_succ, List.getElem_cons_zero]
  refine wpAnyH_ready (rs := [4]) (by kernel_rfl) (by simp) ?_
  refine AllReadyH.cons (o := _) rfl (fun K hK => ?_) AllReadyH.nil
  go_simp
  refine (C1 _).mono ?_; rintro e w1 ⟨rfl, hb⟩
  go_wp2_with fail
  obtain ⟨h1, h2⟩ := hHeld
  refine hK.out _ _ ⟨h1.below hb, below_next h2 hb⟩ (fun hHeld => ?_)
  clear hK K
  try simp only [Act.put, List.setIfInBounds_toArray, List.set_cons_zero, List.set_cons_succ, List.getElem_toArray, List.getElem_cons_succ, List.getElem_cons_zero]
  clear h1 h2 hb C1
  refine wpAnyH_ready (rs := [9]) (by kernel_rfl) (by simp) ?_
  refine AllReadyH.cons (o := _) rfl (fun K hK => ?_) AllReadyH.nil
  go_simp
  refine (C2 _).mono ?_; rintro e w2 ⟨rfl, hb⟩
  go_wp2_with fail
  obtain ⟨h1, h2⟩ := hHeld
  refine hK.out _ _ ⟨h1.below hb, below_next h2 hb⟩ (fun hHeld => ?_)
  clear hK K
  try simp only [Act.put, List.setIfInBounds_toArray, List.set_cons_zero, List.set_cons_succ, List.getElem_toArray, List.getElem_cons_succ, List.getElem_cons_zero]
  clear h1 h2 hb C2
  refine wpAnyH_ready (rs := [10]) (by kernel_rfl) (by simp) ?_
  refine AllReadyH.cons (o := _) rfl (fun K hK => ?_) AllReadyH.nil
  rw [if_pos (by rfl)]
  refine wp_two9 tyC rfl rfl rfl ?_
  obtain ⟨h1, h2⟩ := hHeld
  have HQ := Lib.hid (own_two w2 w.heap.size 76 c1 c2 h2.size)
  have HL := Lib.hid (h2.alloc h2.size (.cells (vec 9 (wf c1) ++ vec 9 (wf c2)) 76))
  refine hK.out _ _ ⟨h1.below (one_below _ _), HL.out⟩ (fun hHeld => ?_)
  clear hK K
  try simp only [Act.put, List.setIfInBounds_toArray, List.set_cons_zero, List.set_cons_succ, List.getElem_toArray, List.getElem_cons_succ, List.getElem_cons_zero]
  clear h1 h2
  refine wpAnyH_take (i := 11) (oi := _) (v := .slice (some ⟨w2.heap.size, 0, none⟩) 2 2) rfl (by kernel_rfl) (by kernel_rfl) (by kernel_rfl) (fun _ _ _ h => h) (Or.inl ⟨by rfl, fun w h => by go_simp⟩) hHeld ?_
  try simp only [Act.put, List.setIfInBounds_toArray, List.set_cons_zero, List.set_cons_succ, List.getElem_toArray, List.getElem_cons_succ, List.getElem_cons_zero]
  refine wpAnyH_done (by kernel_rfl) ?_ _
  clear hHeld
  go_wp2
  go_ret
  exact ⟨HL.out, _, rfl, HQ.out⟩

theorem pen_any (p : Int) (w : World) : Calls Try.prog 38 #[.int .i64 p] w fun e w' => e = .returned (.bool (penB p)) ∧ w = w' := by
  cases h : penB p with
  | true =>
    obtain ⟨h1, h2⟩ := penB_true.1 h
    clear h
    go_enter Try.func38, Try.ntmps38
    go_wp2
    go_ret
    exact ⟨rfl, rfl⟩
  | false =>
    have h1 := penB_false h
    clear h
    by_cases h2 : p < -300
    · have h3 : ¬ -300 ≤ p := by omega
      clear h1
      go_enter Try.func38, Try.ntmps38
      go_wp2
      go_ret
      exact ⟨rfl, rfl⟩
    · have h3 : -300 ≤ p := by omega
      have h4 : ¬ p ≤ 300 := by omega
      clear h1
      go_enter Try.func38, Try.ntmps38
      go_wp2
      go_ret
      exact ⟨rfl, rfl⟩

set_option maxHeartbeats 1000000 in
theorem RingDesign_any (a b : Int) (i : Bool) (pen : Int) (w : World) : Calls Try.prog 18 #[.int .i64 a, .int .i64 b, .bool i, .int .i64 pen] w (Told w (ringO a b i pen)) := by
  cases h : ringB a b i with
  | false =>
    have R := rolling_no a b i h w
    have e : ringO a b i pen = none := by unfold ringO; rw [h]; rfl
    rw [e]
    clear h e
    go_enter Try.func18, Try.ntmps18
    go_wp2_with fail
    refine R.mono ?_; rintro e w1 ⟨t, m, rfl, hb⟩
    unfold rollV misV
    go_wp2
    go_ret2
    exact ⟨hb.alloc hb.size _, _, rfl, own_nil _ _ _⟩
  | true =>
    have P := fun w => pen_any pen w
    cases hp : penB pen with
    | false =>
      rw [hp] at P
      have R := rolling_yes a b i h w
      have e : ringO a b i pen = none := by unfold ringO; rw [hp, Bool.and_false]; rfl
      rw [e]
      clear h e hp
      go_enter Try.func18, Try.ntmps18
      go_wp2_with fail
      refine R.mono ?_; rintro e w1 ⟨rfl, hb⟩
      unfold rollV
      go_wp2_with fail
      refine (P _).mono ?_; rintro e w2 ⟨rfl, rfl⟩
      go_wp2
      go_ret2
      exact ⟨hb.alloc hb.size _, _, rfl, own_nil _ _ _⟩
    | true =>
      rw [hp] at P
      have HG := Lib.hid (ringL_big h hp)
      have hlen : (ringL a b i pen).length = 2 := by unfold ringL; split <;> rfl
      have e := ring_false h hp
      obtain ⟨x, y, rfl, rfl, h1, h2, h3, h4, h5⟩ := ring_nat h
      have R := rolling_yes x y i h w
      have hp2 := penB_true.1 hp
      have C : ∀ w, Calls Try.prog 39 #[rollV x y i, .int .i64 pen] w (Rolled w (ringL x y i pen)) := fun w => by
        cases i with
        | true => exact circles_in x y pen ⟨h1, h2⟩ ⟨h3, h5 rfl⟩ w
        | false => exact circles_out x y pen ⟨h1, h2⟩ ⟨h3, h4⟩ hp2 w
      have T := fun v B w (ho : Own w B 76 v (ringL x y i pen)) => tidy_any v B _ w ho (by rw [hlen]; decide) sort_most HG.out
      rw [e] at T
      generalize ringL (x : Int) (y : Int) i pen = l at *
      generalize ringO (x : Int) (y : Int) i pen = o at *
      clear h e hp h5 hlen
      unfold rollV at *
      go_enter Try.func18, Try.ntmps18
      go_wp2_with fail
      refine R.mono ?_; rintro e w1 ⟨rfl, hb⟩
      go_wp2_with fail
      refine (P _).mono ?_; rintro e w2 ⟨rfl, rfl⟩
      have hb1 := hb.alloc hb.size (.cells #[.int .i64 (x : Int), .int .i64 (y : Int), .bool i] 51)
      clear hb
      go_wp2_with fail
      refine (C _).mono ?_; rintro e w3 ⟨hb2, v2, rfl, ho⟩
      have hb3 := below_next hb1 hb2
      clear hb1 hb2 C P R
      have T := T _ _ _ ho
      clear ho
      go_wp2_with fail
      refine T.mono ?_; rintro e w4 ⟨hb4, v4, rfl, ho4⟩
      have H := Lib.hid (show Told w o (.returned (.tuple #[v4, .bool o.isSome])) w4 from ⟨below_next hb3 hb4, v4, rfl, own_mono ho4 hb3.size⟩)
      clear T hb3 hb4 ho4
      go_wp2
      go_ret2
      exact H.out
end Go.Proofs.Ytbdhbkedeglagaa
/- spec: rings. -/
namespace Go.Proofs.Ytbdhbkedeglagaa
set_option maxRecDepth 20000
open Go.ChangeShapes Go.WideShapes Go.ChangeAt Go.RowKit
set_option linter.unusedVariables false
set_option linter.unusedSimpArgs false

theorem gearS_any (n : Int) (w : World) : Calls Try.prog 34 #[.int .i64 n] w fun e w' => e = .returned (.bool (gearB n)) ∧ w = w' := by
  cases h : gearB n with
  | true =>
    obtain ⟨h1, h2⟩ := gearB_true.1 h
    have I := fun w => in_yes n 6 240 h1 h2 w
    clear h
    go_enter Try.func34, Try.ntmps34
    go_wp2_with fail
    refine (I _).mono ?_; rintro e w1 ⟨rfl, rfl⟩
    go_wp2
    go_ret
    exact ⟨rfl, rfl⟩
  | false =>
    have I := fun w => in_no n 6 240 (gearB_false.1 h) w
    clear h
    go_enter Try.func34, Try.ntmps34
    go_wp2_with fail
    refine (I _).mono ?_; rintro e w1 ⟨rfl, rfl⟩
    go_wp2
    go_ret
    exact ⟨rfl, rfl⟩
theorem gear_yes (n : Int) (h : 6 ≤ n ∧ n ≤ 240) (w : World) : Calls Try.prog 34 #[.int .i64 n] w fun e w' => e = .returned (.bool true) ∧ w = w' := by
  have := gearS_any n w
  rwa [gearB_true.2 h] at this
theorem gear_no (n : Int) (h : n < 6 ∨ 240 < n) (w : World) : Calls Try.prog 34 #[.int .i64 n] w fun e w' => e = .returned (.bool false) ∧ w = w' := by
  have := gearS_any n w
  rwa [gearB_false.2 h] at this
theorem ringGcd (x y : Nat) (hx : x ≤ 240) (hy : y ≤ 240) (w : World) : Calls Try.prog 35 #[.int .i64 x, .int .i64 y] w fun e w' => e = .returned (.int .i64 (gOf (x : Int) (y : Int) : Nat)) ∧ w = w' := specGcdZ x y (by omega) (by omega) w
set_option maxHeartbeats 1000000 in
theorem specRingCusps_any (a b : Int) (i : Bool) (w : World) : Calls Try.prog 13 #[.int .i64 a, .int .i64 b, .bool i] w fun e w' => e = .returned (toldN (cuspO a b i)) ∧ w = w' := by
  unfold cuspO
  cases h : ringB a b i with
  | false =>
    rcases ringB_cases h with h1 | ⟨h1, h2⟩ | ⟨h1, h2, rfl, h3⟩
    · have G1 := fun w => gear_no a h1 w
      clear h h1
      go_enter Try.func13, Try.ntmps13
      go_wp2_with fail
      refine (G1 _).mono ?_; rintro e w1 ⟨rfl, rfl⟩
      go_wp2
      go_ret2
      exact ⟨rfl, rfl⟩
    · have G1 := fun w => gear_yes a h1 w
      have G2 := fun w => gear_no b h2 w
      clear h h1 h2
      go_enter Try.func13, Try.ntmps13
      go_wp2_with fail
      refine (G1 _).mono ?_; rintro e w1 ⟨rfl, rfl⟩
      go_wp2_with fail
      refine (G2 _).mono ?_; rintro e w1 ⟨rfl, rfl⟩
      go_wp2
      go_ret2
      exact ⟨rfl, rfl⟩
    · have G1 := fun w => gear_yes a h1 w
      have G2 := fun w => gear_yes b h2 w
      clear h h1 h2
      go_enter Try.func13, Try.ntmps13
      go_wp2_with fail
      refine (G1 _).mono ?_; rintro e w1 ⟨rfl, rfl⟩
      go_wp2_with fail
      refine (G2 _).mono ?_; rintro e w1 ⟨rfl, rfl⟩
      go_wp2
      go_ret2
      exact ⟨rfl, rfl⟩
  | true =>
    obtain ⟨x, y, rfl, rfl, h1, h2, h3, h4, h5⟩ := ring_nat h
    have G1 := fun w => gear_yes (x : Int) (by omega) w
    have G2 := fun w => gear_yes (y : Int) (by omega) w
    have G := fun w => ringGcd x y h2 h4 w
    have g1 := gOf_pos (x := x) (y := y) (by omega)
    generalize gOf (x : Int) (y : Int) = g at *
    have hgz : ((g : Int) == 0) = false := by simp; omega
    have hgn : ¬ (g : Int) = 0 := by omega
    have hgm : ¬ g = 0 := by omega
    obtain ⟨q, hq⟩ : ∃ q : Int, (x : Int).tdiv (g : Int) = q := ⟨_, rfl⟩
    have hq2 : q.natAbs ≤ 240 := by rw [← hq]; exact quo_small _ _ 240 (by omega)
    have hqw : IntKind.i64.wrap q = q := by rw [IntKind.wrap_i64]; omega
    rw [if_pos rfl]
    rw [hq]
    clear h
    cases i
    · clear h5
      go_enter Try.func13, Try.ntmps13
      go_wp2_with fail
      refine (G1 _).mono ?_; rintro e w1 ⟨rfl, rfl⟩
      go_wp2_with fail
      refine (G2 _).mono ?_; rintro e w1 ⟨rfl, rfl⟩
      go_wp2_with fail
      refine (G _).mono ?_; rintro e w1 ⟨rfl, rfl⟩
      go_wp2
      go_ret2
      exact ⟨rfl, rfl⟩
    · have h6 := h5 rfl
      have h7 : ¬ (x : Int) ≤ (y : Int) := by omega
      clear h5
      go_enter Try.func13, Try.ntmps13
      go_wp2_with fail
      refine (G1 _).mono ?_; rintro e w1 ⟨rfl, rfl⟩
      go_wp2_with fail
      refine (G2 _).mono ?_; rintro e w1 ⟨rfl, rfl⟩
      go_wp2_with fail
      refine (G _).mono ?_; rintro e w1 ⟨rfl, rfl⟩
      go_wp2
      go_ret2
      exact ⟨rfl, rfl⟩
set_option maxHeartbeats 1000000 in
theorem specRingRounds_any (a b : Int) (i : Bool) (w : World) : Calls Try.prog 16 #[.int .i64 a, .int .i64 b, .bool i] w fun e w' => e = .returned (toldN (roundO a b i)) ∧ w = w' := by
  have C := fun w => specRingCusps_any a b i w
  unfold cuspO at C
  unfold roundO
  cases h : ringB a b i with
  | false =>
    rw [h, if_neg (by decide), toldN_none] at C
    rw [if_neg (by decide)]
    clear h
    go_enter Try.func16, Try.ntmps16
    go_wp2_with fail
    refine (C _).mono ?_; rintro e w1 ⟨rfl, rfl⟩
    go_wp2
    go_ret2
    exact ⟨rfl, rfl⟩
  | true =>
    rw [h, if_pos rfl, toldN_some] at C
    obtain ⟨x, y, rfl, rfl, h1, h2, h3, h4, h5⟩ := ring_nat h
    have G := fun w => ringGcd x y h2 h4 w
    have g1 := gOf_pos (x := x) (y := y) (by omega)
    generalize gOf (x : Int) (y : Int) = g at *
    have hgz : ((g : Int) == 0) = false := by simp; omega
    have hgn : ¬ (g : Int) = 0 := by omega
    have hgm : ¬ g = 0 := by omega
    obtain ⟨q, hq⟩ : ∃ q : Int, (y : Int).tdiv (g : Int) = q := ⟨_, rfl⟩
    have hq2 : q.natAbs ≤ 240 := by rw [← hq]; exact quo_small _ _ 240 (by omega)
    have hqw : IntKind.i64.wrap q = q := by rw [IntKind.wrap_i64]; omega
    rw [if_pos rfl]
    rw [hq]
    generalize (x : Int).tdiv (g : Int) = q1 at *
    clear h h5
    go_enter Try.func16, Try.ntmps16
    go_wp2_with fail
    refine (C _).mono ?_; rintro e w1 ⟨rfl, rfl⟩
    go_wp2_with fail
    refine (G _).mono ?_; rintro e w1 ⟨rfl, rfl⟩
    go_wp2
    go_ret2
    exact ⟨rfl, rfl⟩

set_option maxHeartbeats 4000000 in
theorem specRing_yes (a b : Nat) (ins : Bool) (pen : Int) (h : ringB (a : Int) (b : Int) ins = true) (hpen : penB pen = true) (w : World) :
    Calls Try.prog 19 #[.int .i64 a, .int .i64 b, .bool ins, .int .i64 pen] w (Told w (ringO (a : Int) (b : Int) ins pen)) := by
  have C := fun w => specRingCusps_any a b ins w
  unfold cuspO at C
  rw [h, if_pos rfl, toldN_some] at C
  generalize (a : Int).tdiv (gOf (a : Int) (b : Int) : Nat) = cusp at *
  have hp := penB_true.1 hpen
  have P := fun w => in_yes pen (-300) 300 (by omega) (by omega) w
  obtain ⟨⟨ha, ha2⟩, ⟨hb, hb2⟩, -⟩ := ringB_true.1 h
  have G := fun w => ringGcd a b (by omega) (by omega) w
  have hg1 := gOf_pos (x := a) (y := b) (by omega)
  obtain ⟨g, hg⟩ : ∃ g, gOf (a : Int) (b : Int) = g := ⟨_, rfl⟩
  rw [hg] at G hg1
  have hgz : ((g : Int) == 0) = false := by simp; omega
  obtain ⟨s1, hs1⟩ : ∃ s1 : Int, (b : Int).tdiv (g : Int) = s1 := ⟨_, rfl⟩
  have b1 : s1.natAbs ≤ 240 := by rw [← hs1]; exact quo_small _ _ 240 (by omega)
  have q1 : IntKind.i64.wrap s1 = s1 := by rw [IntKind.wrap_i64]; omega
  have hg0 : ¬ (g : Int) = 0 := by omega
  have hgn : ¬ g = 0 := by omega
  cases ins
  · have q2 : IntKind.i64.wrap ((a : Int) + (b : Int)) = (a : Int) + (b : Int) := by rw [IntKind.wrap_i64]; omega
    have q3 : IntKind.i64.wrap (0 - pen) = 0 - pen := by rw [IntKind.wrap_i64]; omega
    obtain ⟨r1, hr1⟩ : ∃ r1 : Int, (a : Int) + (b : Int) = r1 := ⟨_, rfl⟩
    obtain ⟨s2, hs2⟩ : ∃ s2 : Int, r1.tdiv (g : Int) = s2 := ⟨_, rfl⟩
    have b2 : s2.natAbs ≤ 480 := by rw [← hs2]; exact quo_small _ _ 480 (by omega)
    have q4 : IntKind.i64.wrap s2 = s2 := by rw [IntKind.wrap_i64]; omega
    obtain ⟨r2, hr2⟩ : ∃ r2 : Int, 0 - pen = r2 := ⟨_, rfl⟩
    rw [hr1] at q2
    rw [hr2] at q3
    have N1 := fun w => number_any s1 r1 w
    have N2 := fun w => number_any s2 r2 w
    have T := fun (v : Value) (w : World) (hv : Reads w v [numW s1 r1, numW s2 r2]) => l5Tidy_any v [numW s1 r1, numW s2 r2] w hv (by simp) (fun c hc => by
      simp only [List.mem_cons, List.not_mem_nil, or_false] at hc
      rcases hc with rfl | rfl
      · exact big_gau r1 (by omega)
      · exact big_gau r2 (by omega))
    have K : tidy true [numW s1 r1, numW s2 r2] = ringO (a : Int) (b : Int) false pen := by
      rw [← ring_true h hpen, ← hs1, ← hr1, ← hs2, ← hr2, ← hr1, Int.zero_sub, ← hg]; rfl
    generalize numW s1 r1 = c1 at *
    generalize numW s2 r2 = c2 at *
    rw [K] at T
    clear K
    generalize ringO (a : Int) (b : Int) _ pen = o at *
    go_enter Try.func19, Try.ntmps19
    go_wp2_with fail
    refine (C _).mono ?_; rintro e w1 ⟨rfl, rfl⟩
    go_wp2_with fail
    refine (P _).mono ?_; rintro e w1 ⟨rfl, rfl⟩
    go_wp2_with fail
    refine (G _).mono ?_; rintro e w1 ⟨rfl, rfl⟩
    clear C P G
    go_upto_region 7 with fail
    refine wp_region_held_drew (S := fun w' => Below w.heap.size w w') (by kernel_rfl) (Below.refl _ w).drew (fun hHeld => ?_)
    refine wpAnyH_take (i := 0) (oi := _) (v := .int .i64 b) rfl (by kernel_rfl) (by kernel_rfl) (by kernel_rfl) (fun _ _ _ h => h) (Or.inl ⟨by rfl, fun w h => by go_simp⟩) hHeld ?_
    try simp only [Act.put, List.setIfInBounds_toArray, List.set_cons_zero, List.set_cons_succ, List.getElem_toArray, List.getElem_cons_succ, List.getElem_cons_zero]
    refine wpAnyH_take (i := 1) (oi := _) (v := .int .i64 g) rfl (by kernel_rfl) (by kernel_rfl) (by kernel_rfl) (fun _ _ _ h => h) (Or.inl ⟨by rfl, fun w h => by go_simp⟩) hHeld ?_
    try simp only [Act.put, List.setIfInBounds_toArray, List.set_cons_zero, List.set_cons_succ, List.getElem_toArray, List.getElem_cons_succ, List.getElem_cons_zero]
    refine wpAnyH_take (i := 2) (oi := _) (v := .int .i64 s1) rfl (by kernel_rfl) (by kernel_rfl) (by kernel_rfl) (fun _ _ _ h => h) (Or.inl ⟨by rfl, fun w h => by go_simp⟩) hHeld ?_
    try simp only [Act.put, List.setIfInBounds_toArray, List.set_cons_zero, List.set_cons_succ, List.getElem_toArray, List.getElem_cons_succ, List.getElem_cons_zero]
    refine wpAnyH_take (i := 3) (oi := _) (v := .int .i64 a) rfl (by kernel_rfl) (by kernel_rfl) (by kernel_rfl) (fun _ _ _ h => h) (Or.inl ⟨by rfl, fun w h => by go_simp⟩) hHeld ?_
    try simp only [Act.put, List.setIfInBounds_toArray, List.set_cons_zero, List.set_cons_succ, List.getElem_toArray, List.getElem_cons_succ, List.getElem_cons_zero]
    refine wpAnyH_take (i := 4) (oi := _) (v := .int .i64 b) rfl (by kernel_rfl) (by kernel_rfl) (by kernel_rfl) (fun _ _ _ h => h) (Or.inl ⟨by rfl, fun w h => by go_simp⟩) hHeld ?_
    try simp only [Act.put, List.setIfInBounds_toArray, List.set_cons_zero, List.set_cons_succ, List.getElem_toArray, List.getElem_cons_succ, List.getElem_cons_zero]
    refine wpAnyH_take (i := 5) (oi := _) (v := .int .i64 r1) rfl (by kernel_rfl) (by kernel_rfl) (by kernel_rfl) (fun _ _ _ h => h) (Or.inl ⟨by rfl, fun w h => by go_simp⟩) hHeld ?_
    try simp only [Act.put, List.setIfInBounds_toArray, List.set_cons_zero, List.set_cons_succ, List.getElem_toArray, List.getElem_cons_succ, List.getElem_cons_zero]
    refine wpAnyH_take (i := 7) (oi := _) (v := .int .i64 a) rfl (by kernel_rfl) (by kernel_rfl) (by kernel_rfl) (fun _ _ _ h => h) (Or.inl ⟨by rfl, fun w h => by go_simp⟩) hHeld ?_
    try simp only [Act.put, List.setIfInBounds_toArray, List.set_cons_zero, List.set_cons_succ, List.getElem_toArray, List.getElem_cons_succ, List.getElem_cons_zero]
    refine wpAnyH_take (i := 8) (oi := _) (v := .int .i64 b) rfl (by kernel_rfl) (by kernel_rfl) (by kernel_rfl) (fun _ _ _ h => h) (Or.inl ⟨by rfl, fun w h => by go_simp⟩) hHeld ?_
    try simp only [Act.put, List.setIfInBounds_toArray, List.set_cons_zero, List.set_cons_succ, List.getElem_toArray, List.getElem_cons_succ, List.getElem_cons_zero]
    refine wpAnyH_take (i := 9) (oi := _) (v := .int .i64 r1) rfl (by kernel_rfl) (by kernel_rfl) (by kernel_rfl) (fun _ _ _ h => h) (Or.inl ⟨by rfl, fun w h => by go_simp⟩) hHeld ?_
    try simp only [Act.put, List.setIfInBounds_toArray, List.set_cons_zero, List.set_cons_succ, List.getElem_toArray, List.getElem_cons_succ, List.getElem_cons_zero]
    refine wpAnyH_take (i := 10) (oi := _) (v := .int .i64 g) rfl (by kernel_rfl) (by kernel_rfl) (by kernel_rfl) (fun _ _ _ h => h) (Or.inl ⟨by rfl, fun w h => by go_simp⟩) hHeld ?_
    try simp only [Act.put, List.setIfInBounds_toArray, List.set_cons_zero, List.set_cons_succ, List.getElem_toArray, List.getElem_cons_succ, List.getElem_cons_zero]
    refine wpAnyH_take (i := 11) (oi := _) (v := .int .i64 s2) rfl (by kernel_rfl) (by kernel_rfl) (by kernel_rfl) (fun _ _ _ h => h) (Or.inl ⟨by rfl, fun w h => by go_simp⟩) hHeld ?_
    try simp only [Act.put, List.setIfInBounds_toArray, List.set_cons_zero, List.set_cons_succ, List.getElem_toArray, List.getElem_cons_succ, List.getElem_cons_zero]
    refine wpAnyH_take (i := 12) (oi := _) (v := .int .i64 pen) rfl (by kernel_rfl) (by kernel_rfl) (by kernel_rfl) (fun _ _ _ h => h) (Or.inl ⟨by rfl, fun w h => by go_simp⟩) hHeld ?_
    try simp only [Act.put, List.setIfInBounds_toArray, List.set_cons_zero, List.set_cons_succ, List.getElem_toArray, List.getElem_cons_succ, List.getElem_cons_zero]
    refine wpAnyH_take (i := 13) (oi := _) (v := .int .i64 r2) rfl (by kernel_rfl) (by kernel_rfl) (by kernel_rfl) (fun _ _ _ h => h) (Or.inl ⟨by rfl, fun w h => by go_simp⟩) hHeld ?_
    try simp only [Act.put, List.setIfInBounds_toArray, List.set_cons_zero, List.set_cons_succ, List.getElem_toArray, List.getElem_cons_succ, List.getElem_cons_zero]
    refine wpAnyH_ready (rs := [6]) (by kernel_rfl) (by simp) ?_
    refine AllReadyH.cons (o := _) rfl (fun K hK => ?_) AllReadyH.nil
    go_simp
    refine (N1 _).mono ?_; rintro e w2 ⟨rfl, hb2⟩
    go_wp2_with fail
    refine hK.out _ _ (below_next hHeld hb2) (fun hHeld => ?_)
    clear hK K
    try simp only [Act.put, List.setIfInBounds_toArray, List.set_cons_zero, List.set_cons_succ, List.getElem_toArray, List.getElem_cons_succ, List.getElem_cons_zero]
    clear hb2 N1
    refine wpAnyH_ready (rs := [14]) (by kernel_rfl) (by simp) ?_
    refine AllReadyH.cons (o := _) rfl (fun K hK => ?_) AllReadyH.nil
    go_simp
    refine (N2 _).mono ?_; rintro e w3 ⟨rfl, hb3⟩
    go_wp2_with fail
    refine hK.out _ _ (below_next hHeld hb3) (fun hHeld => ?_)
    clear hK K
    try simp only [Act.put, List.setIfInBounds_toArray, List.set_cons_zero, List.set_cons_succ, List.getElem_toArray, List.getElem_cons_succ, List.getElem_cons_zero]
    clear hb3 N2
    refine wpAnyH_ready (rs := [15]) (by kernel_rfl) (by simp) ?_
    refine AllReadyH.cons (o := _) rfl (fun K hK => ?_) AllReadyH.nil
    rw [if_pos (by rfl)]
    refine wp_two9 tyW rfl rfl rfl ?_
    have hlit := reads_two w3 c1 c2 67
    refine hK.out _ _ (hHeld.alloc hHeld.size _) (fun hHeld => ?_)
    clear hK K
    try simp only [Act.put, List.setIfInBounds_toArray, List.set_cons_zero, List.set_cons_succ, List.getElem_toArray, List.getElem_cons_succ, List.getElem_cons_zero]
    refine wpAnyH_ready (rs := [16]) (by kernel_rfl) (by simp) ?_
    refine AllReadyH.cons (o := _) rfl (fun K hK => ?_) AllReadyH.nil
    go_simp
    refine (T _ _ hlit).mono ?_; rintro e w4 ⟨hb4, v4, rfl, ho4⟩
    go_wp2_with fail
    have HQ : Aside (Told w o (.returned (.tuple #[v4, .bool o.isSome])) w4) := ⟨below_next hHeld hb4, _, rfl, own_mono ho4 hHeld.size⟩
    refine hK.out _ _ (below_next hHeld hb4) (fun hHeld => ?_)
    clear hK K
    try simp only [Act.put, List.setIfInBounds_toArray, List.set_cons_zero, List.set_cons_succ, List.getElem_toArray, List.getElem_cons_succ, List.getElem_cons_zero]
    clear hb4 ho4 T hlit
    refine wpAnyH_take (i := 17) (oi := _) (v := v4) rfl (by kernel_rfl) (by kernel_rfl) (by kernel_rfl) (fun _ _ _ h => h) (Or.inl ⟨by rfl, fun w h => by go_simp⟩) hHeld ?_
    try simp only [Act.put, List.setIfInBounds_toArray, List.set_cons_zero, List.set_cons_succ, List.getElem_toArray, List.getElem_cons_succ, List.getElem_cons_zero]
    refine wpAnyH_take (i := 18) (oi := _) (v := .bool o.isSome) rfl (by kernel_rfl) (by kernel_rfl) (by kernel_rfl) (fun _ _ _ h => h) (Or.inl ⟨by rfl, fun w h => by go_simp⟩) hHeld ?_
    try simp only [Act.put, List.setIfInBounds_toArray, List.set_cons_zero, List.set_cons_succ, List.getElem_toArray, List.getElem_cons_succ, List.getElem_cons_zero]
    refine wpAnyH_take (i := 19) (oi := _) (v := v4) rfl (by kernel_rfl) (by kernel_rfl) (by kernel_rfl) (fun _ _ _ h => h) (Or.inl ⟨by rfl, fun w h => by go_simp⟩) hHeld ?_
    try simp only [Act.put, List.setIfInBounds_toArray, List.set_cons_zero, List.set_cons_succ, List.getElem_toArray, List.getElem_cons_succ, List.getElem_cons_zero]
    refine wpAnyH_take (i := 20) (oi := _) (v := .bool o.isSome) rfl (by kernel_rfl) (by kernel_rfl) (by kernel_rfl) (fun _ _ _ h => h) (Or.inl ⟨by rfl, fun w h => by go_simp⟩) hHeld ?_
    try simp only [Act.put, List.setIfInBounds_toArray, List.set_cons_zero, List.set_cons_succ, List.getElem_toArray, List.getElem_cons_succ, List.getElem_cons_zero]
    refine wpAnyH_done (by kernel_rfl) ?_ _
    clear hHeld
    go_wp2
    go_ret2
    exact HQ.out
  · have q2 : IntKind.i64.wrap ((a : Int) - (b : Int)) = (a : Int) - (b : Int) := by rw [IntKind.wrap_i64]; omega
    have q3 : IntKind.i64.wrap ((b : Int) - (a : Int)) = (b : Int) - (a : Int) := by rw [IntKind.wrap_i64]; omega
    obtain ⟨r1, hr1⟩ : ∃ r1 : Int, (a : Int) - (b : Int) = r1 := ⟨_, rfl⟩
    obtain ⟨r2, hr2⟩ : ∃ r2 : Int, (b : Int) - (a : Int) = r2 := ⟨_, rfl⟩
    obtain ⟨s2, hs2⟩ : ∃ s2 : Int, r2.tdiv (g : Int) = s2 := ⟨_, rfl⟩
    have b2 : s2.natAbs ≤ 480 := by rw [← hs2]; exact quo_small _ _ 480 (by omega)
    have q4 : IntKind.i64.wrap s2 = s2 := by rw [IntKind.wrap_i64]; omega
    rw [hr1] at q2
    rw [hr2] at q3
    have N1 := fun w => number_any s1 r1 w
    have N2 := fun w => number_any s2 pen w
    have T := fun (v : Value) (w : World) (hv : Reads w v [numW s1 r1, numW s2 pen]) => l5Tidy_any v [numW s1 r1, numW s2 pen] w hv (by simp) (fun c hc => by
      simp only [List.mem_cons, List.not_mem_nil, or_false] at hc
      rcases hc with rfl | rfl
      · exact big_gau r1 (by omega)
      · exact big_gau pen (by omega))
    have K : tidy true [numW s1 r1, numW s2 pen] = ringO (a : Int) (b : Int) true pen := by
      rw [← ring_true h hpen, ← hs1, ← hr1, ← hs2, ← hr2, ← hg]; rfl
    generalize numW s1 r1 = c1 at *
    generalize numW s2 pen = c2 at *
    rw [K] at T
    clear K
    generalize ringO (a : Int) (b : Int) _ pen = o at *
    go_enter Try.func19, Try.ntmps19
    go_wp2_with fail
    refine (C _).mono ?_; rintro e w1 ⟨rfl, rfl⟩
    go_wp2_with fail
    refine (P _).mono ?_; rintro e w1 ⟨rfl, rfl⟩
    go_wp2_with fail
    refine (G _).mono ?_; rintro e w1 ⟨rfl, rfl⟩
    clear C P G
    go_upto_region 6 with fail
    refine wp_region_held_drew (S := fun w' => Below w.heap.size w w') (by kernel_rfl) (Below.refl _ w).drew (fun hHeld => ?_)
    refine wpAnyH_take (i := 0) (oi := _) (v := .int .i64 b) rfl (by kernel_rfl) (by kernel_rfl) (by kernel_rfl) (fun _ _ _ h => h) (Or.inl ⟨by rfl, fun w h => by go_simp⟩) hHeld ?_
    try simp only [Act.put, List.setIfInBounds_toArray, List.set_cons_zero, List.set_cons_succ, List.getElem_toArray, List.getElem_cons_succ, List.getElem_cons_zero]
    refine wpAnyH_take (i := 1) (oi := _) (v := .int .i64 g) rfl (by kernel_rfl) (by kernel_rfl) (by kernel_rfl) (fun _ _ _ h => h) (Or.inl ⟨by rfl, fun w h => by go_simp⟩) hHeld ?_
    try simp only [Act.put, List.setIfInBounds_toArray, List.set_cons_zero, List.set_cons_succ, List.getElem_toArray, List.getElem_cons_succ, List.getElem_cons_zero]
    refine wpAnyH_take (i := 2) (oi := _) (v := .int .i64 s1) rfl (by kernel_rfl) (by kernel_rfl) (by kernel_rfl) (fun _ _ _ h => h) (Or.inl ⟨by rfl, fun w h => by go_simp⟩) hHeld ?_
    try simp only [Act.put, List.setIfInBounds_toArray, List.set_cons_zero, List.set_cons_succ, List.getElem_toArray, List.getElem_cons_succ, List.getElem_cons_zero]
    refine wpAnyH_take (i := 3) (oi := _) (v := .int .i64 a) rfl (by kernel_rfl) (by kernel_rfl) (by kernel_rfl) (fun _ _ _ h => h) (Or.inl ⟨by rfl, fun w h => by go_simp⟩) hHeld ?_
    try simp only [Act.put, List.setIfInBounds_toArray, List.set_cons_zero, List.set_cons_succ, List.getElem_toArray, List.getElem_cons_succ, List.getElem_cons_zero]
    refine wpAnyH_take (i := 4) (oi := _) (v := .int .i64 b) rfl (by kernel_rfl) (by kernel_rfl) (by kernel_rfl) (fun _ _ _ h => h) (Or.inl ⟨by rfl, fun w h => by go_simp⟩) hHeld ?_
    try simp only [Act.put, List.setIfInBounds_toArray, List.set_cons_zero, List.set_cons_succ, List.getElem_toArray, List.getElem_cons_succ, List.getElem_cons_zero]
    refine wpAnyH_take (i := 5) (oi := _) (v := .int .i64 r1) rfl (by kernel_rfl) (by kernel_rfl) (by kernel_rfl) (fun _ _ _ h => h) (Or.inl ⟨by rfl, fun w h => by go_simp⟩) hHeld ?_
    try simp only [Act.put, List.setIfInBounds_toArray, List.set_cons_zero, List.set_cons_succ, List.getElem_toArray, List.getElem_cons_succ, List.getElem_cons_zero]
    refine wpAnyH_take (i := 7) (oi := _) (v := .int .i64 b) rfl (by kernel_rfl) (by kernel_rfl) (by kernel_rfl) (fun _ _ _ h => h) (Or.inl ⟨by rfl, fun w h => by go_simp⟩) hHeld ?_
    try simp only [Act.put, List.setIfInBounds_toArray, List.set_cons_zero, List.set_cons_succ, List.getElem_toArray, List.getElem_cons_succ, List.getElem_cons_zero]
    refine wpAnyH_take (i := 8) (oi := _) (v := .int .i64 a) rfl (by kernel_rfl) (by kernel_rfl) (by kernel_rfl) (fun _ _ _ h => h) (Or.inl ⟨by rfl, fun w h => by go_simp⟩) hHeld ?_
    try simp only [Act.put, List.setIfInBounds_toArray, List.set_cons_zero, List.set_cons_succ, List.getElem_toArray, List.getElem_cons_succ, List.getElem_cons_zero]
    refine wpAnyH_take (i := 9) (oi := _) (v := .int .i64 r2) rfl (by kernel_rfl) (by kernel_rfl) (by kernel_rfl) (fun _ _ _ h => h) (Or.inl ⟨by rfl, fun w h => by go_simp⟩) hHeld ?_
    try simp only [Act.put, List.setIfInBounds_toArray, List.set_cons_zero, List.set_cons_succ, List.getElem_toArray, List.getElem_cons_succ, List.getElem_cons_zero]
    refine wpAnyH_take (i := 10) (oi := _) (v := .int .i64 g) rfl (by kernel_rfl) (by kernel_rfl) (by kernel_rfl) (fun _ _ _ h => h) (Or.inl ⟨by rfl, fun w h => by go_simp⟩) hHeld ?_
    try simp only [Act.put, List.setIfInBounds_toArray, List.set_cons_zero, List.set_cons_succ, List.getElem_toArray, List.getElem_cons_succ, List.getElem_cons_zero]
    refine wpAnyH_take (i := 11) (oi := _) (v := .int .i64 s2) rfl (by kernel_rfl) (by kernel_rfl) (by kernel_rfl) (fun _ _ _ h => h) (Or.inl ⟨by rfl, fun w h => by go_simp⟩) hHeld ?_
    try simp only [Act.put, List.setIfInBounds_toArray, List.set_cons_zero, List.set_cons_succ, List.getElem_toArray, List.getElem_cons_succ, List.getElem_cons_zero]
    refine wpAnyH_take (i := 12) (oi := _) (v := .int .i64 pen) rfl (by kernel_rfl) (by kernel_rfl) (by kernel_rfl) (fun _ _ _ h => h) (Or.inl ⟨by rfl, fun w h => by go_simp⟩) hHeld ?_
    try simp only [Act.put, List.setIfInBounds_toArray, List.set_cons_zero, List.set_cons_succ, List.getElem_toArray, List.getElem_cons_succ, List.getElem_cons_zero]
    refine wpAnyH_ready (rs := [6]) (by kernel_rfl) (by simp) ?_
    refine AllReadyH.cons (o := _) rfl (fun K hK => ?_) AllReadyH.nil
    go_simp
    refine (N1 _).mono ?_; rintro e w2 ⟨rfl, hb2⟩
    go_wp2_with fail
    refine hK.out _ _ (below_next hHeld hb2) (fun hHeld => ?_)
    clear hK K
    try simp only [Act.put, List.setIfInBounds_toArray, List.set_cons_zero, List.set_cons_succ, List.getElem_toArray, List.getElem_cons_succ, List.getElem_cons_zero]
    clear hb2 N1
    refine wpAnyH_ready (rs := [13]) (by kernel_rfl) (by simp) ?_
    refine AllReadyH.cons (o := _) rfl (fun K hK => ?_) AllReadyH.nil
    go_simp
    refine (N2 _).mono ?_; rintro e w3 ⟨rfl, hb3⟩
    go_wp2_with fail
    refine hK.out _ _ (below_next hHeld hb3) (fun hHeld => ?_)
    clear hK K
    try simp only [Act.put, List.setIfInBounds_toArray, List.set_cons_zero, List.set_cons_succ, List.getElem_toArray, List.getElem_cons_succ, List.getElem_cons_zero]
    clear hb3 N2
    refine wpAnyH_ready (rs := [14]) (by kernel_rfl) (by simp) ?_
    refine AllReadyH.cons (o := _) rfl (fun K hK => ?_) AllReadyH.nil
    rw [if_pos (by rfl)]
    refine wp_two9 tyW rfl rfl rfl ?_
    have hlit := reads_two w3 c1 c2 67
    refine hK.out _ _ (hHeld.alloc hHeld.size _) (fun hHeld => ?_)
    clear hK K
    try simp only [Act.put, List.setIfInBounds_toArray, List.set_cons_zero, List.set_cons_succ, List.getElem_toArray, List.getElem_cons_succ, List.getElem_cons_zero]
    refine wpAnyH_ready (rs := [15]) (by kernel_rfl) (by simp) ?_
    refine AllReadyH.cons (o := _) rfl (fun K hK => ?_) AllReadyH.nil
    go_simp
    refine (T _ _ hlit).mono ?_; rintro e w4 ⟨hb4, v4, rfl, ho4⟩
    go_wp2_with fail
    have HQ : Aside (Told w o (.returned (.tuple #[v4, .bool o.isSome])) w4) := ⟨below_next hHeld hb4, _, rfl, own_mono ho4 hHeld.size⟩
    refine hK.out _ _ (below_next hHeld hb4) (fun hHeld => ?_)
    clear hK K
    try simp only [Act.put, List.setIfInBounds_toArray, List.set_cons_zero, List.set_cons_succ, List.getElem_toArray, List.getElem_cons_succ, List.getElem_cons_zero]
    clear hb4 ho4 T hlit
    refine wpAnyH_take (i := 16) (oi := _) (v := v4) rfl (by kernel_rfl) (by kernel_rfl) (by kernel_rfl) (fun _ _ _ h => h) (Or.inl ⟨by rfl, fun w h => by go_simp⟩) hHeld ?_
    try simp only [Act.put, List.setIfInBounds_toArray, List.set_cons_zero, List.set_cons_succ, List.getElem_toArray, List.getElem_cons_succ, List.getElem_cons_zero]
    refine wpAnyH_take (i := 17) (oi := _) (v := .bool o.isSome) rfl (by kernel_rfl) (by kernel_rfl) (by kernel_rfl) (fun _ _ _ h => h) (Or.inl ⟨by rfl, fun w h => by go_simp⟩) hHeld ?_
    try simp only [Act.put, List.setIfInBounds_toArray, List.set_cons_zero, List.set_cons_succ, List.getElem_toArray, List.getElem_cons_succ, List.getElem_cons_zero]
    refine wpAnyH_take (i := 18) (oi := _) (v := v4) rfl (by kernel_rfl) (by kernel_rfl) (by kernel_rfl) (fun _ _ _ h => h) (Or.inl ⟨by rfl, fun w h => by go_simp⟩) hHeld ?_
    try simp only [Act.put, List.setIfInBounds_toArray, List.set_cons_zero, List.set_cons_succ, List.getElem_toArray, List.getElem_cons_succ, List.getElem_cons_zero]
    refine wpAnyH_take (i := 19) (oi := _) (v := .bool o.isSome) rfl (by kernel_rfl) (by kernel_rfl) (by kernel_rfl) (fun _ _ _ h => h) (Or.inl ⟨by rfl, fun w h => by go_simp⟩) hHeld ?_
    try simp only [Act.put, List.setIfInBounds_toArray, List.set_cons_zero, List.set_cons_succ, List.getElem_toArray, List.getElem_cons_succ, List.getElem_cons_zero]
    refine wpAnyH_done (by kernel_rfl) ?_ _
    clear hHeld
    go_wp2
    go_ret2
    exact HQ.out

set_option maxHeartbeats 1000000 in
theorem specRingDesign_any (a b : Int) (i : Bool) (pen : Int) (w : World) : Calls Try.prog 19 #[.int .i64 a, .int .i64 b, .bool i, .int .i64 pen] w (Told w (ringO a b i pen)) := by
  cases h : ringB a b i with
  | false =>
    have e : ringO a b i pen = none := by unfold ringO; rw [h]; rfl
    have C := fun w => specRingCusps_any a b i w
    unfold cuspO at C
    rw [h, if_neg (by decide), toldN_none] at C
    rw [e]
    clear h e
    go_enter Try.func19, Try.ntmps19
    go_wp2_with fail
    refine (C _).mono ?_; rintro e w1 ⟨rfl, rfl⟩
    go_wp2
    go_ret2
    exact ⟨(Below.refl _ _).alloc (Nat.le_refl _) _, _, rfl, own_lit w w.heap.size 67 (Nat.le_refl _)⟩
  | true =>
    cases hp : penB pen with
    | false =>
      have e : ringO a b i pen = none := by unfold ringO; rw [hp, Bool.and_false]; rfl
      have C := fun w => specRingCusps_any a b i w
      unfold cuspO at C
      rw [h, if_pos rfl, toldN_some] at C
      have P := fun w => in_no pen (-300) 300 (penB_false hp) w
      generalize a.tdiv (gOf a b : Nat) = cusp at *
      rw [e]
      clear h e hp
      go_enter Try.func19, Try.ntmps19
      go_wp2_with fail
      refine (C _).mono ?_; rintro e w1 ⟨rfl, rfl⟩
      go_wp2_with fail
      refine (P _).mono ?_; rintro e w1 ⟨rfl, rfl⟩
      go_wp2
      go_ret2
      exact ⟨(Below.refl _ _).alloc (Nat.le_refl _) _, _, rfl, own_lit w w.heap.size 67 (Nat.le_refl _)⟩
    | true =>
      obtain ⟨x, y, rfl, rfl, h1, h2, h3, h4, h5⟩ := ring_nat h
      exact specRing_yes x y i pen h hp w
end Go.Proofs.Ytbdhbkedeglagaa
/- What the laws say of rings (no program): the fold of a ring design, its first point, two ways to the same curve. -/
namespace Go.Proofs.Ytbdhbkedeglagaa
set_option maxRecDepth 20000
set_option linter.unusedVariables false
set_option linter.unusedSimpArgs false

/-! Designs that go back. -/
def bk (A : List Wh) : List Wh := (A.map (fastW (-1))).reverse
theorem bk_bk (A : List Wh) : bk (bk A) = A := by
  unfold bk
  rw [List.map_reverse, List.reverse_reverse, List.map_map]
  have : (fastW (-1) ∘ fastW (-1)) = id := by
    funext c
    refine Wh.same ?_ rfl
    show c.s * -1 * -1 = c.s
    omega
  rw [this, List.map_id]
theorem asc_bk {A : List Wh} (h : Asc A) : Asc (bk A) := by
  unfold bk Asc
  rw [List.pairwise_reverse, List.pairwise_map]
  refine List.Pairwise.imp (fun {a b} hab => ?_) h
  show b.s * -1 < a.s * -1
  omega
theorem pre_few {R : List Wh} (h : Asc R) (s : Int) : (pre s R).length ≤ 1 := by
  by_cases e : ∃ c ∈ R, c.s = s
  · obtain ⟨c, hc, rfl⟩ := e
    rw [pre_head hc h]; simp
  · have : pre s R = [] := by
      unfold pre
      rw [List.filter_eq_nil_iff.2 fun c hc => by simp; exact fun h2 => e ⟨c, hc, h2⟩]
      rfl
    rw [this]; simp
theorem rev_few {α : Type} : ∀ {l : List α}, l.length ≤ 1 → l.reverse = l
  | [], _ => rfl
  | [a], _ => rfl
  | a :: b :: l, h => by simp at h
theorem pre_rev (s : Int) (l : List Wh) : pre s l.reverse = (pre s l).reverse := by
  unfold pre
  rw [List.filter_reverse, List.map_reverse]
theorem tidy_bk {A : List Wh} (h : Tidy A) : Tidy (bk A) := by
  refine ⟨asc_bk h.asc, fun c hc => ?_, ?_⟩
  · unfold bk at hc
    obtain ⟨d, hd, rfl⟩ := List.mem_map.1 (List.mem_reverse.1 hc)
    exact h.nz d hd
  · unfold valid
    rw [Bool.and_eq_true]
    refine ⟨by unfold bk; rw [List.length_reverse, List.length_map]; exact decide_eq_true (valid_len h.ok), List.all_eq_true.2 fun c hc => ?_⟩
    unfold bk at hc
    obtain ⟨d, hd, rfl⟩ := List.mem_map.1 (List.mem_reverse.1 hc)
    have := valid_ok h.ok d hd
    unfold wOk
    show (inS (d.s * -1) && okv d.r) = true
    rw [this.2, Bool.and_true]
    have h2 := this.1
    unfold inS at h2 ⊢
    simp only [Bool.and_eq_true, decide_eq_true_eq] at h2 ⊢
    omega
theorem back_bk {A : List Wh} (h : Tidy A) : dOf (fastW (-1)) A = some (bk A) := by
  unfold dOf
  rw [if_pos h.ok, ← Tidy.again false (tidy_bk h)]
  refine tidy_same fun s => ?_
  have e : A.map (fastW (-1)) = (bk A).reverse := by unfold bk; rw [List.reverse_reverse]
  rw [e, pre_rev, rev_few (pre_few (asc_bk h.asc) s)]

/-! Two rings. -/
def sameR (a b r p q : Int) : Bool := match ringO a b true p, ringO a r true q with
  | some A, some B => eqL (bk A) B
  | _, _ => false
theorem ringO_tidy {a b : Int} {i : Bool} {p : Int} {R : List Wh} (h : ringO a b i p = some R) : ringB a b i = true ∧ penB p = true ∧ tidy false (ringL a b i p) = some R ∧ Tidy R ∧ (∀ s, tot s R = tot s (ringL a b i p)) ∧ ∀ t, pAt t R = pAt t (ringL a b i p) := by
  have h' := h
  unfold ringO at h
  split at h
  · rename_i hb
    rw [Bool.and_eq_true] at hb
    exact ⟨hb.1, hb.2, h, tidy_some h⟩
  · cases h
theorem sameR_swap {a b p q : Int} (h : sameR a b (a - b) p q = true) : sameR a (a - b) b q p = true := by
  unfold sameR at *
  cases h1 : ringO a b true p with
  | none => rw [h1] at h; cases h
  | some A =>
    cases h2 : ringO a (a - b) true q with
    | none => rw [h1, h2] at h; cases h
    | some B =>
      rw [h1, h2] at h
      have e := eqL_true.1 h
      simp only
      rw [← e, bk_bk]
      exact eqL_same rfl
theorem tot_bk {A : List Wh} (h : Tidy A) (s : Int) : tot s (bk A) = tot (-s) A := by
  have h2 := back_bk h
  unfold dOf at h2
  rw [if_pos h.ok] at h2
  rw [(tidy_some h2).2.1 s, tot_back]
theorem tot_two (s : Int) (c d : Wh) : tot s [c, d] = V.add (if c.s = s then c.r else V.zero) (if d.s = s then d.r else V.zero) := by
  show V.add _ (V.add _ (tot s [])) = _
  rw [show tot s [] = V.zero from rfl, V.add_zero]
theorem sameR_two {x y : Nat} (hxy : y < x) (h1 : (ringO (x : Int) (y : Int) true y).isSome = true) (h2 : (ringO (x : Int) ((x : Int) - y) true ((x : Int) - y)).isSome = true) : sameR (x : Int) (y : Int) ((x : Int) - y) y ((x : Int) - y) = true := by
  unfold sameR
  cases hA : ringO (x : Int) (y : Int) true y with
  | none => rw [hA] at h1; cases h1
  | some A =>
    cases hB : ringO (x : Int) ((x : Int) - y) true ((x : Int) - y) with
    | none => rw [hB] at h2; cases h2
    | some B =>
      obtain ⟨-, -, -, tA, sA, -⟩ := ringO_tidy hA
      obtain ⟨-, -, -, tB, sB, -⟩ := ringO_tidy hB
      refine eqL_same (Tidy.unique (tidy_bk tA) tB fun s => ?_)
      rw [tot_bk tA, sA, sB]
      have eg : gOf (x : Int) ((x : Int) - (y : Int)) = gOf (x : Int) (y : Int) := by
        rw [show (x : Int) - (y : Int) = ((x - y : Nat) : Int) by omega, gOf_nat, gOf_nat]
        exact Nat.gcd_self_sub_right (by omega)
      unfold ringL
      rw [if_pos rfl, if_pos rfl, eg, tot_two, tot_two]
      generalize gOf (x : Int) (y : Int) = g
      have e1 : ((y : Int) - (x : Int)).tdiv (g : Int) = -(((x : Int) - (y : Int)).tdiv (g : Int)) := by
        rw [← Int.neg_tdiv]; congr 1; omega
      have e2 : ((x : Int) - (y : Int) - (x : Int)).tdiv (g : Int) = -((y : Int).tdiv (g : Int)) := by
        rw [← Int.neg_tdiv]; congr 1; omega
      rw [e1, e2, show (x : Int) - ((x : Int) - (y : Int)) = (y : Int) by omega]
      generalize ((x : Int) - (y : Int)).tdiv (g : Int) = u
      generalize (y : Int).tdiv (g : Int) = z
      unfold numW
      simp only
      rw [V.add_comm]
      have c1 : (-u = -s) = (u = s) := propext ⟨fun h => by omega, fun h => by omega⟩
      have c2 : (z = -s) = (-z = s) := propext ⟨fun h => by omega, fun h => by omega⟩
      simp only [c1, c2]

/-! The fold and the first point. -/
theorem gau_add (r t : Int) : V.add (dn (gau r 0)) (dn (gau t 0)) = dn (gau (r + t) 0) := by
  rw [← dn_add]
  refine dn_same fun j _ => ?_
  unfold add gau
  split
  · rfl
  · split <;> rfl
theorem pAt_two (t : Int) (c d : Wh) : pAt t [c, d] = V.add (tV (tm t c.s) c.r) (tV (tm t d.s) d.r) := by
  show V.add _ (V.add _ (pAt t [])) = _
  rw [show pAt t [] = V.zero from rfl, V.add_zero]
theorem tm_zero (s : Int) : tm 0 s = 0 := by unfold tm; simp
def firstP2 (a b : Int) (i : Bool) (p : Int) : Int := if i then a - b + p else a + b - p
theorem ring_first {a b : Int} {i : Bool} {p : Int} {R : List Wh} (h : ringO a b i p = some R) : atD R 0 = some (dn (gau (firstP2 a b i p) 0)) ∧ -1000 ≤ firstP2 a b i p ∧ firstP2 a b i p ≤ 1000 := by
  obtain ⟨hB, hp, -, tR, -, pR⟩ := ringO_tidy h
  obtain ⟨h1, h2, h3⟩ := ringB_true.1 hB
  have hp2 := penB_true.1 hp
  have hb : -1000 ≤ firstP2 a b i p ∧ firstP2 a b i p ≤ 1000 := by unfold firstP2; split <;> omega
  have e : pAt 0 R = dn (gau (firstP2 a b i p) 0) := by
    rw [pR 0]
    unfold ringL firstP2
    split
    · rw [pAt_two, tm_zero, tm_zero, tV_none, tV_none]
      exact gau_add _ _
    · rw [pAt_two, tm_zero, tm_zero, tV_none, tV_none]
      show V.add (dn (gau (a + b) 0)) (dn (gau (-p) 0)) = _
      rw [gau_add]
      rfl
  refine ⟨?_, hb⟩
  unfold atD
  rw [tR.ok, e, okv_gau (by omega)]
  rfl
theorem gcdL_two (c d : Wh) (h : c.s < d.s) : foldW [c, d] = (d.s - c.s).toNat := by
  show Nat.gcd (Nat.gcd 0 (gapW c.s c)) (gapW c.s d) = _
  have e : gapW c.s c = 0 := by unfold gapW; omega
  rw [e, Nat.gcd_zero_left, Nat.gcd_zero_left]
  rfl
theorem nz_num (s : Int) {r : Int} (hr : r ≠ 0) : nz (numW s r) = true := by
  cases h : nz (numW s r) with
  | true => rfl
  | false =>
    have h1 := nz_no h
    have h2 : (dn (gau r 0)) ⟨0, by omega⟩ = 0 := by
      have : (numW s r).r = dn (gau r 0) := rfl
      rw [this] at h1
      rw [h1]; rfl
    exact absurd h2 hr
theorem tidy_pair {s t r u : Int} (hst : s < t) (hs : -1000 ≤ s) (ht : t ≤ 1000) (hr : r ≠ 0) (hu : u ≠ 0) (hr2 : -1000 ≤ r ∧ r ≤ 1000) (hu2 : -1000 ≤ u ∧ u ≤ 1000) : Tidy [numW s r, numW t u] := by
  refine ⟨?_, ?_, ?_⟩
  · refine List.pairwise_cons.2 ⟨fun d hd => ?_, List.pairwise_cons.2 ⟨fun d hd => (by cases hd), List.Pairwise.nil⟩⟩
    rw [List.mem_singleton] at hd
    subst hd
    exact hst
  · intro c hc
    simp only [List.mem_cons, List.not_mem_nil, or_false] at hc
    rcases hc with rfl | rfl
    · exact nz_num _ hr
    · exact nz_num _ hu
  · have o1 : wOk (numW s r) = true := by
      show (inS s && okv (dn (gau r 0))) = true
      rw [okv_gau (by omega), Bool.and_true]
      unfold inS
      simp only [Bool.and_eq_true, decide_eq_true_eq]; omega
    have o2 : wOk (numW t u) = true := by
      show (inS t && okv (dn (gau u 0))) = true
      rw [okv_gau (by omega), Bool.and_true]
      unfold inS
      simp only [Bool.and_eq_true, decide_eq_true_eq]; omega
    simp [valid, o1, o2]
theorem div_parts {x y g : Nat} (hg : g ∣ x) (hg2 : g ∣ y) (h0 : 1 ≤ g) : ∃ k l : Nat, x = k * g ∧ y = l * g ∧ (x : Int).tdiv (g : Int) = k ∧ (y : Int).tdiv (g : Int) = l := by
  obtain ⟨k, rfl⟩ := hg
  obtain ⟨l, rfl⟩ := hg2
  refine ⟨k, l, Nat.mul_comm _ _, Nat.mul_comm _ _, ?_, ?_⟩
  · rw [Int.natCast_mul]; exact Int.mul_tdiv_cancel_left _ (by omega)
  · rw [Int.natCast_mul]; exact Int.mul_tdiv_cancel_left _ (by omega)
/-- The ring design has as many folds as cusps. -/
theorem ring_fold {a b : Int} {i : Bool} {p : Int} {R : List Wh} (h : ringO a b i p = some R) (hp0 : p ≠ 0) : ∃ c : Int, cuspO a b i = some c ∧ foldO R = c := by
  obtain ⟨hB, hp, -, tR, sR, -⟩ := ringO_tidy h
  have hp2 := penB_true.1 hp
  have hcu : cuspO a b i = some (a.tdiv (gOf a b : Int)) := by unfold cuspO; rw [hB, if_pos rfl]
  obtain ⟨x, y, rfl, rfl, h1, h2, h3, h4, h5⟩ := ring_nat hB
  refine ⟨_, hcu, ?_⟩
  have hf : foldO R = ((foldW R : Nat) : Int) := by
    unfold foldO tid
    rw [tR.ok, if_pos rfl, Tidy.again false tR]
  rw [hf]
  have g1 := gOf_pos (x := x) (y := y) (by omega)
  obtain ⟨k, l, ex, ey, d1, d2⟩ := div_parts (x := x) (y := y) (g := gOf (x : Int) (y : Int)) (Nat.gcd_dvd_left _ _) (Nat.gcd_dvd_right _ _) g1
  have hk : k ≤ x := by rw [ex]; exact Nat.le_mul_of_pos_right _ g1
  have hl : l ≤ y := by rw [ey]; exact Nat.le_mul_of_pos_right _ g1
  have hk0 : 1 ≤ k := by
    rcases Nat.eq_zero_or_pos k with rfl | h
    · omega
    · exact h
  have hl0 : 1 ≤ l := by
    rcases Nat.eq_zero_or_pos l with rfl | h
    · omega
    · exact h
  unfold ringL at sR
  rw [d1]
  generalize gOf (x : Int) (y : Int) = g at *
  have e1 : ((y : Int) - (x : Int)).tdiv (g : Int) = (l : Int) - (k : Int) := by
    rw [ex, ey, Int.natCast_mul, Int.natCast_mul, ← Int.sub_mul]; exact Int.mul_tdiv_cancel _ (by omega)
  have e2 : ((x : Int) + (y : Int)).tdiv (g : Int) = (k : Int) + (l : Int) := by
    rw [ex, ey, Int.natCast_mul, Int.natCast_mul, ← Int.add_mul]; exact Int.mul_tdiv_cancel _ (by omega)
  cases i with
  | true =>
    have hyx := h5 rfl
    have hlk : l < k := by
      rcases Nat.lt_or_ge l k with h | h
      · exact h
      · have := Nat.mul_le_mul_right g h; omega
    rw [if_pos rfl, d2, e1] at sR
    have tP : Tidy [numW ((l : Int) - k) p, numW (l : Int) ((x : Int) - y)] := tidy_pair (by omega) (by omega) (by omega) hp0 (by omega) (by omega) (by omega)
    have e : R = [numW ((l : Int) - k) p, numW (l : Int) ((x : Int) - y)] := Tidy.unique tR tP fun s => by
      rw [sR s, tot_two, tot_two, V.add_comm]
    rw [e, gcdL_two _ _ (show (l : Int) - k < l by omega)]
    show ((((l : Int) - ((l : Int) - k)).toNat : Nat) : Int) = k
    omega
  | false =>
    rw [if_neg (by decide), d2, e2] at sR
    have tP : Tidy [numW (l : Int) ((x : Int) + y), numW ((k : Int) + l) (-p)] := tidy_pair (by omega) (by omega) (by omega) (by omega) (by omega) (by omega) (by omega)
    have e : R = [numW (l : Int) ((x : Int) + y), numW ((k : Int) + l) (-p)] := Tidy.unique tR tP fun s => sR s
    rw [e, gcdL_two _ _ (show (l : Int) < (k : Int) + l by omega)]
    show (((((k : Int) + l) - (l : Int)).toNat : Nat) : Int) = k
    omega
/-- Cusps and rounds are as ring and wheel. -/
theorem cusp_round {a b : Int} {i : Bool} (h : ringB a b i = true) : ∃ (x y k l g : Nat), a = x ∧ b = y ∧ x = k * g ∧ y = l * g ∧ 1 ≤ g ∧ 1 ≤ k ∧ 1 ≤ l ∧ k ≤ 240 ∧ l ≤ 240 ∧ x ≤ 240 ∧ y ≤ 240 ∧ cuspO a b i = some (k : Int) ∧ roundO a b i = some (l : Int) := by
  have h0 := h
  obtain ⟨x, y, rfl, rfl, h1, h2, h3, h4, h5⟩ := ring_nat h
  have g1 := gOf_pos (x := x) (y := y) (by omega)
  obtain ⟨k, l, ex, ey, d1, d2⟩ := div_parts (x := x) (y := y) (g := gOf (x : Int) (y : Int)) (Nat.gcd_dvd_left _ _) (Nat.gcd_dvd_right _ _) g1
  have hk : k ≤ x := by rw [ex]; exact Nat.le_mul_of_pos_right _ g1
  have hl : l ≤ y := by rw [ey]; exact Nat.le_mul_of_pos_right _ g1
  have hk0 : 1 ≤ k := by
    rcases Nat.eq_zero_or_pos k with rfl | h
    · omega
    · exact h
  have hl0 : 1 ≤ l := by
    rcases Nat.eq_zero_or_pos l with rfl | h
    · omega
    · exact h
  exact ⟨x, y, k, l, _, rfl, rfl, ex, ey, g1, hk0, hl0, by omega, by omega, h2, h4, by unfold cuspO; rw [h0, if_pos rfl, d1], by unfold roundO; rw [h0, if_pos rfl, d2]⟩
end Go.Proofs.Ytbdhbkedeglagaa
