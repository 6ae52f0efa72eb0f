/-
  Both sides: products of designs.
-/
import Derived.Test.YteicmnoafoekcaaWheelSum
namespace Go.Proofs.Yteicmnoafoekcaa
set_option maxRecDepth 20000
open Go.ChangeShapes Go.WideShapes Go.ChangeAt Go.RowKit
set_option linter.unusedVariables false
set_option linter.unusedSimpArgs false

/-- The product of two designs. -/
def okAll (l : List Wh) : Bool := l.all fun c => okv c.r
def dTimes (A B : List Wh) : Option (List Wh) := if valid A && valid B && okAll (pairs A B) then tidy false (pairs A B) else none
theorem dTimes_yes {A B : List Wh} (h : (valid A && valid B) = true) (k : okAll (pairs A B) = true) : dTimes A B = tidy false (pairs A B) := by unfold dTimes; rw [h, k]; rfl
theorem dTimes_no {A B : List Wh} (h : (valid A && valid B) = false) : dTimes A B = none := by unfold dTimes; rw [h]; rfl
theorem pairs_mem {A B : List Wh} {i j : Nat} {c d : Wh} (hc : A[i]? = some c) (hd : B[j]? = some d) : pairW c d ∈ pairs A B :=
  List.mem_flatMap.2 ⟨c, List.mem_of_getElem? hc, List.mem_map.2 ⟨d, List.mem_of_getElem? hd, rfl⟩⟩
theorem dTimes_bad {A B : List Wh} {i j : Nat} {c d : Wh} (hc : A[i]? = some c) (hd : B[j]? = some d) (h : okv (pairW c d).r = false) : dTimes A B = none := by
  have : okAll (pairs A B) = false := by
    cases hx : okAll (pairs A B)
    · rfl
    · unfold okAll at hx
      rw [List.all_eq_true] at hx
      rw [hx _ (pairs_mem hc hd)] at h; cases h
  unfold dTimes; rw [this, Bool.and_false]; rfl
theorem got_within {o : Option (List Wh)} (h : ∀ R, o = some R → valid R = true) : (got o).length ≤ 12 := by
  cases o with
  | none => simp [got]
  | some R => exact valid_len (h R rfl)
theorem dTimes_short (A B : List Wh) : (got (dTimes A B)).length ≤ 12 := got_within fun R h => by
  unfold dTimes at h
  split at h
  · exact (tidy_some h).1.ok
  · cases h
/-- The products of the first k wheels with all, then those of one more with the first j. -/
def upto (A B : List Wh) (k : Nat) : List Wh := pairs (A.take k) B
def upto2 (A B : List Wh) (k : Nat) (c : Wh) (j : Nat) : List Wh := upto A B k ++ (B.take j).map (pairW c)
theorem upto_none (A B : List Wh) : upto A B 0 = [] := rfl
theorem upto_all (A B : List Wh) : upto A B A.length = pairs A B := by unfold upto; rw [List.take_length]
theorem upto2_none (A B : List Wh) (k : Nat) (c : Wh) : upto2 A B k c 0 = upto A B k := by simp [upto2]
theorem upto2_all {A B : List Wh} {k : Nat} {c : Wh} (hc : A[k]? = some c) : upto2 A B k c B.length = upto A B (k + 1) := by
  unfold upto2 upto pairs
  rw [List.take_length, take_next hc, List.flatMap_append]
  simp
theorem upto2_next {A B : List Wh} {k j : Nat} {c d : Wh} (hd : B[j]? = some d) : upto2 A B k c j ++ [pairW c d] = upto2 A B k c (j + 1) := by
  unfold upto2
  rw [take_next hd, List.map_append, List.append_assoc]; rfl
theorem pairs_length (A B : List Wh) : (pairs A B).length = A.length * B.length := by
  induction A with
  | nil => simp [pairs]
  | cons c A ih =>
    have : pairs (c :: A) B = B.map (pairW c) ++ pairs A B := rfl
    rw [this, List.length_append, List.length_map, ih, List.length_cons, Nat.add_mul, Nat.one_mul, Nat.add_comm]
theorem upto2_len {A B : List Wh} (hA : A.length ≤ 12) (hB : B.length ≤ 12) (k j : Nat) (c : Wh) : (upto2 A B k c j).length ≤ 200 := by
  unfold upto2 upto
  rw [List.length_append, pairs_length, List.length_map, List.length_take, List.length_take]
  have h1 : min k A.length * B.length ≤ 12 * 12 := Nat.mul_le_mul (by omega) hB
  omega
theorem upto_len {A B : List Wh} (hA : A.length ≤ 12) (hB : B.length ≤ 12) (k : Nat) : (upto A B k).length ≤ 200 := by
  have := upto2_len hA hB k 0 ⟨0, V.zero⟩
  rwa [upto2_none] at this
theorem upto2_room {A B : List Wh} {k j : Nat} (c : Wh) (hk : k < A.length) (hj : j < B.length) : (upto2 A B k c j).length + 1 ≤ A.length * B.length := by
  have e : (upto2 A B k c j).length = k * B.length + j := by
    unfold upto2 upto
    rw [List.length_append, pairs_length, List.length_map, List.length_take, List.length_take, Nat.min_eq_left (by omega), Nat.min_eq_left (by omega)]
  have h : (k + 1) * B.length ≤ A.length * B.length := Nat.mul_le_mul_right _ hk
  rw [Nat.add_mul, Nat.one_mul] at h
  omega
theorem own_size {w : World} {B T g n cap : Nat} {ws : List Wh} (h : Own w B T (.slice (some ⟨g, 0, none⟩) n cap) ws) : g < w.heap.size := (own_parts h).1
section
variable {P : Program} {t e : TypeId} {ops : Array Oper} {rest : List Oper} {o : Oper} {a : Act} {Q : Exit → Act → World → Prop} {w : World} {B : Nat}
/-- Appending where there is room: the list stays where it is. -/
theorem append_fit9 (ty : Ty9 P t e) (hgd : o.guard = none) {s x : Operand} (hop : o.op = .call { callee := .builtin .append, args := #[s, x], argTypes := #[t, t] })
    {g cap g2 o2 c : Nat} {xs ys : List Wh} (hs : a.eval s = .slice (some ⟨g, 0, none⟩) xs.length cap) (hx : a.eval x = .slice (some ⟨g2, o2, none⟩) ys.length c) (hown : Own w B e (.slice (some ⟨g, 0, none⟩) xs.length cap) xs)
    (hr : w.rangeAt g2 o2 (flat ys)) (hroom : xs.length + ys.length ≤ cap)
    (h : ∀ w', Own w' B e (.slice (some ⟨g, 0, none⟩) (xs ++ ys).length cap) (xs ++ ys) → w.grownBy w' (some g) → wpList P ops Q rest (a.put o.dst (.slice (some ⟨g, 0, none⟩) (xs ++ ys).length cap)) w') : wpList P ops Q (o :: rest) a w := by
  refine wpList_plain hgd fun K hK => ?_
  obtain ⟨i, z, hi, hz, hsz, hby, hzs⟩ := ty.inf
  obtain ⟨w', hr1, ho, hg⟩ := run_append_fits (P := P) w B t o.type e i 9 ty.sl hi hsz g xs.length cap (flat xs) hown ⟨g2, o2, none⟩ ys.length c (flat ys) (flat_length ys) (fun j u hu => by rw [Addr.add_mid]; exact hr j u hu) (flat_oneCell ys) hroom
  unfold Oper.wp execOp
  simp only [hop, resolve, invoke, builtin, Sem.run_bind, Sem.run_pure, Result.andThen_ok, List.map_toArray, List.map_cons, List.map_nil, hs, hx, hr1]
  rw [← flat_append] at ho
  rw [← List.length_append] at ho ⊢
  exact hK _ _ (h w' ho hg)
end
theorem lit_range (w : World) (c : Wh) (T : Nat) : (w.alloc (.cells (vec 9 (wf c)) T)).rangeAt w.heap.size 0 (flat [c]) := fun j v hv => by
  rw [Nat.zero_add, cell_of_row _ _ _ _ _ _ (heap_alloc_new w _)]
  rw [flat_one] at hv
  simpa [vec, enc] using hv
theorem okAll_none : okAll [] = true := rfl
theorem okAll_next {l : List Wh} {c : Wh} (h : okAll l = true) (k : okv c.r = true) : okAll (l ++ [c]) = true := by
  unfold okAll at *
  rw [List.all_append, h]; simp [k]
theorem okAll_mem {l : List Wh} (h : okAll l = true) : ∀ c ∈ l, okv c.r = true := List.all_eq_true.1 h

set_option maxHeartbeats 1000000 in
theorem ctimes_any (c d : Wh) (hc : inS c.s = true) (hd : inS d.s = true) (hr : okv c.r = true) (hq : okv d.r = true) (w : World) :
    Calls Try.prog 78 #[wh c, wh d] w fun e w' => e = .returned (wh (pairW c d)) ∧ Below w.heap.size w w' := by
  have C := fun w => timesV c.r d.r hr hq w
  have e1 : wh (pairW c d) = wh ⟨c.s + d.s, dn (prV c.r d.r).up⟩ := by rw [dn_up]; rfl
  rw [e1]
  generalize prV c.r d.r = r at *
  have b1 := inS_bound hc
  have b2 := inS_bound hd
  have e2 : IntKind.i64.wrap (c.s + d.s) = c.s + d.s := by rw [IntKind.wrap_i64]; omega
  have hA : RowAt (((w.alloc (.cells (vec 9 (wf c)) 68)).alloc (.cells (vec 9 (wf d)) 68)).alloc (.cells (vec 9 nul) 68)) w.heap.size 9 68 (wf c) := ((RowAt.newAt rfl rfl).alloc _).alloc _
  have hB : RowAt (((w.alloc (.cells (vec 9 (wf c)) 68)).alloc (.cells (vec 9 (wf d)) 68)).alloc (.cells (vec 9 nul) 68)) (w.heap.size + 1) 9 68 (wf d) := (RowAt.newAt rfl (by simp)).alloc _
  have hO : RowAt (((w.alloc (.cells (vec 9 (wf c)) 68)).alloc (.cells (vec 9 (wf d)) 68)).alloc (.cells (vec 9 nul) 68)) (w.heap.size + 1 + 1) 9 68 nul := RowAt.newAt rfl (by simp)
  have hL : Below w.heap.size w (((w.alloc (.cells (vec 9 (wf c)) 68)).alloc (.cells (vec 9 (wf d)) 68)).alloc (.cells (vec 9 nul) 68)) := (((Below.refl _ _).alloc (Nat.le_refl _) _).alloc (by simp) _).alloc (by simp; omega) _
  clear b1 b2 hc hd
  go_enter Try.func78, Try.ntmps78
  go_upto_region 1 with fail
  show Code.wp _ _ _ _ (((w.alloc (.cells (vec 9 (wf c)) 68)).alloc (.cells (vec 9 (wf d)) 68)).alloc (.cells (vec 9 nul) 68))
  generalize ((w.alloc (.cells (vec 9 (wf c)) 68)).alloc (.cells (vec 9 (wf d)) 68)).alloc (.cells (vec 9 nul) 68) = W at *
  refine wp_region_held_drew (S := fun w' => RowAt w' w.heap.size 9 68 (wf c) ∧ RowAt w' (w.heap.size + 1) 9 68 (wf d) ∧ (∃ f, RowAt w' (w.heap.size + 1 + 1) 9 68 f) ∧ Below w.heap.size w w') (by kernel_rfl) ⟨hA.drew1, hB.drew1, ⟨_, hO.drew1⟩, hL.drew⟩ (fun hHeld => ?_)
  clear hA hB hO hL
  refine wpAnyH_take (i := 0) (oi := _) (v := .pointer (some ⟨w.heap.size, 0, none⟩)) rfl (by kernel_rfl) (by kernel_rfl) (by kernel_rfl) (fun _ _ _ h => h) (Or.inl ⟨by rfl, fun w h => by go_simp⟩) hHeld ?_
  try simp only [Act.put, List.setIfInBounds_toArray, List.set_cons_zero, List.set_cons_succ, List.getElem_toArray, List.getElem_cons_succ, List.getElem_cons_zero]
  refine wpAnyH_take (i := 1) (oi := _) (v := .int .i64 c.s) rfl (by kernel_rfl) (by kernel_rfl) (by kernel_rfl) (fun _ _ _ h => h) (Or.inl ⟨by rfl, fun w h => by have hcell := row_speed h.1; go_simp⟩) hHeld ?_
  try simp only [Act.put, List.setIfInBounds_toArray, List.set_cons_zero, List.set_cons_succ, List.getElem_toArray, List.getElem_cons_succ, List.getElem_cons_zero]
  refine wpAnyH_take (i := 2) (oi := _) (v := .pointer (some ⟨w.heap.size + 1, 0, none⟩)) rfl (by kernel_rfl) (by kernel_rfl) (by kernel_rfl) (fun _ _ _ h => h) (Or.inl ⟨by rfl, fun w h => by go_simp⟩) hHeld ?_
  try simp only [Act.put, List.setIfInBounds_toArray, List.set_cons_zero, List.set_cons_succ, List.getElem_toArray, List.getElem_cons_succ, List.getElem_cons_zero]
  refine wpAnyH_take (i := 3) (oi := _) (v := .int .i64 d.s) rfl (by kernel_rfl) (by kernel_rfl) (by kernel_rfl) (fun _ _ _ h => h) (Or.inl ⟨by rfl, fun w h => by have hcell := row_speed h.2.1; go_simp⟩) hHeld ?_
  try simp only [Act.put, List.setIfInBounds_toArray, List.set_cons_zero, List.set_cons_succ, List.getElem_toArray, List.getElem_cons_succ, List.getElem_cons_zero]
  refine wpAnyH_take (i := 4) (oi := _) (v := .int .i64 (c.s + d.s)) rfl (by kernel_rfl) (by kernel_rfl) (by kernel_rfl) (fun _ _ _ h => h) (Or.inl ⟨by rfl, fun w h => by go_simp⟩) hHeld ?_
  try simp only [Act.put, List.setIfInBounds_toArray, List.set_cons_zero, List.set_cons_succ, List.getElem_toArray, List.getElem_cons_succ, List.getElem_cons_zero]
  refine wpAnyH_take (i := 5) (oi := _) (v := .pointer (some ⟨w.heap.size, 1, none⟩)) rfl (by kernel_rfl) (by kernel_rfl) (by kernel_rfl) (fun _ _ _ h => h) (Or.inl ⟨by rfl, fun w h => by go_simp⟩) hHeld ?_
  try simp only [Act.put, List.setIfInBounds_toArray, List.set_cons_zero, List.set_cons_succ, List.getElem_toArray, List.getElem_cons_succ, List.getElem_cons_zero]
  refine wpAnyH_take (i := 6) (oi := _) (v := .agg (vec 8 c.r.up)) rfl (by kernel_rfl) (by kernel_rfl) (by kernel_rfl) (fun _ _ _ h => h) (yieldsIf_load_mid (by rfl) _ _ rfl _ _ rfl _ _ ((fun w h => row_radius h.1)) Try.underlying66 rfl (size_exact8 _)) hHeld ?_
  try simp only [Act.put, List.setIfInBounds_toArray, List.set_cons_zero, List.set_cons_succ, List.getElem_toArray, List.getElem_cons_succ, List.getElem_cons_zero]
  refine wpAnyH_take (i := 7) (oi := _) (v := .pointer (some ⟨w.heap.size + 1, 1, none⟩)) rfl (by kernel_rfl) (by kernel_rfl) (by kernel_rfl) (fun _ _ _ h => h) (Or.inl ⟨by rfl, fun w h => by go_simp⟩) hHeld ?_
  try simp only [Act.put, List.setIfInBounds_toArray, List.set_cons_zero, List.set_cons_succ, List.getElem_toArray, List.getElem_cons_succ, List.getElem_cons_zero]
  refine wpAnyH_take (i := 8) (oi := _) (v := .agg (vec 8 d.r.up)) rfl (by kernel_rfl) (by kernel_rfl) (by kernel_rfl) (fun _ _ _ h => h) (yieldsIf_load_mid (by rfl) _ _ rfl _ _ rfl _ _ ((fun w h => row_radius h.2.1)) Try.underlying66 rfl (size_exact8 _)) hHeld ?_
  try simp only [Act.put, List.setIfInBounds_toArray, List.set_cons_zero, List.set_cons_succ, List.getElem_toArray, List.getElem_cons_succ, List.getElem_cons_zero]
  refine wpAnyH_ready (rs := [9]) (by kernel_rfl) (by simp) ?_
  refine AllReadyH.cons (o := _) rfl (fun K hK => ?_) AllReadyH.nil
  go_simp
  refine (C _).mono ?_; rintro e w1 ⟨rfl, hb1⟩
  go_wp2_with fail
  obtain ⟨h1, h1b, ⟨_, h2⟩, h3⟩ := hHeld
  refine hK.out _ _ ⟨h1.below hb1, h1b.below hb1, ⟨_, h2.below hb1⟩, below_next h3 hb1⟩ (fun hHeld => ?_)
  clear hK K
  try simp only [Act.put, List.setIfInBounds_toArray, List.set_cons_zero, List.set_cons_succ, List.getElem_toArray, List.getElem_cons_succ, List.getElem_cons_zero]
  clear h1 h1b h2 h3 hb1
  refine wpAnyH_take (i := 10) (oi := _) (v := wh ⟨c.s + d.s, dn r.up⟩) rfl (by kernel_rfl) (by kernel_rfl) (by kernel_rfl) (fun _ _ _ h => h) (Or.inl ⟨by rfl, fun w h => yields_build built_circle rfl rfl rfl⟩) hHeld ?_
  try simp only [Act.put, List.setIfInBounds_toArray, List.set_cons_zero, List.set_cons_succ, List.getElem_toArray, List.getElem_cons_succ, List.getElem_cons_zero]
  refine wpAnyH_ready (rs := [11]) (by kernel_rfl) (by simp) ?_
  refine AllReadyH.cons (o := _) rfl (fun K hK => ?_) AllReadyH.nil
  rw [if_pos (by rfl)]
  obtain ⟨h1, h1b, ⟨_, h2⟩, h3⟩ := hHeld
  refine store_step (f' := wf ⟨c.s + d.s, dn r.up⟩) rfl rfl rfl h2 info_circle ?_
  have hG := h2.setRow (f' := wf ⟨c.s + d.s, dn r.up⟩)
  have hF := below_setRow h3 (g := w.heap.size + 1 + 1) (by omega) (vec 9 (wf ⟨c.s + d.s, dn r.up⟩))
  refine hK.out _ _ ⟨h1.rowOther _ _ (by omega), h1b.rowOther _ _ (by omega), ⟨_, hG⟩, hF⟩ (fun hHeld => ?_)
  clear hK K
  try simp only [Act.put, List.setIfInBounds_toArray, List.set_cons_zero, List.set_cons_succ, List.getElem_toArray, List.getElem_cons_succ, List.getElem_cons_zero]
  clear h1 h1b h2 h3 hHeld
  refine wpAnyH_done (by kernel_rfl) ?_ _
  go_wp2_with fail
  refine bodyPost_ret (results_row rfl rfl hG Try.underlying68 rfl info_circle) rfl ?_
  exact ⟨rfl, hF⟩


set_option maxHeartbeats 8000000 in
theorem DesignTimes_any (va vb : Value) (A B : List Wh) (w : World) (ha : Reads w va A) (hb : Reads w vb B) : Calls Try.prog 36 #[va, vb] w (Told w (dTimes A B)) := by
  have C := circlesPair_any va vb A B w ha hb
  clear ha hb
  cases hv : (valid A && valid B)
  · rw [hv] at C
    rw [dTimes_no hv]
    have C := Lib.hid C
    clear hv
    go_enter Try.func36, Try.ntmps36
    go_wp2_with fail
    refine C.out.mono ?_; rintro e w1 ⟨hb1, v1, v2, rfl, ho1, ho2⟩
    have HL := Lib.hid hb1
    clear C hb1 ho1 ho2
    go_wp2
    go_ret2
    exact ⟨HL.out, _, rfl, own_nil _ _ _⟩
  · rw [hv] at C
    have hln := pair_len hv
    have HV : Aside (valid A = true ∧ valid B = true) := (show _ ∧ _ from by simpa [Bool.and_eq_true] using hv)
    have HV2 : Aside ((valid A && valid B) = true) := hv
    have HLN : Aside (A.length ≤ 12 ∧ B.length ≤ 12) := hln
    obtain ⟨N, hN⟩ : ∃ N, N = A.length * B.length := ⟨_, rfl⟩
    have HN : Aside (N = A.length * B.length) := hN
    have hN2 : N ≤ 144 := by rw [hN]; exact Nat.mul_le_mul hln.1 hln.2
    have q1 : IntKind.i64.wrap ((A.length : Int) * (B.length : Int)) = (N : Int) := by
      have e : (A.length : Int) * (B.length : Int) = (N : Int) := by rw [hN]; exact (Int.natCast_mul _ _).symm
      rw [e, IntKind.wrap_i64]; omega
    generalize hres : dTimes A B = o
    have HRES : Aside (dTimes A B = o) := hres
    have C := Lib.hid C
    clear hv hln hres hN
    go_enter Try.func36, Try.ntmps36
    go_wp2_with fail
    refine C.out.mono ?_; rintro e w1 ⟨hb1, v1, v2, rfl, ho1, ho2⟩
    obtain ⟨p1, c1, rfl, hc1, hc1m, hp0, hp1⟩ := own_reads ho1
    obtain ⟨p2, c2, rfl, hd1, hd1m, hq0, hq1⟩ := own_reads ho2
    simp only [only_yes, maxLen] at hc1 hc1m hd1 hd1m hp1 hq1
    have HP1 := Lib.hid hp1
    have HP2 := Lib.hid hq1
    have HL := Lib.hid hb1
    clear C ho1 ho2 hp1 hq1 hb1
    simp only [only_yes]
    go_wp2_with (refine make9 (w0 := w1) (B := w1.heap.size) tyC rfl rfl N rfl rfl (by omega) (Below.refl _ _) (Nat.le_refl _) ?_; intro w2 ho2 hb2 hB2; have HO2 := Lib.hid ho2; have HL2 := Lib.hid hb2; have HB2 := Lib.hid hB2; clear ho2 hb2 hB2)
    clear q1
    go_loopw [9, 11, 13, 14, 15, 16, 34] (fun s9 _ _ _ _ _ i wr => ∃ k : Nat, k ≤ A.length ∧ i = .int .i64 k ∧ s9 = .slice (some ⟨w1.heap.size, 0, none⟩) (upto A B k).length N ∧ Own wr w1.heap.size 68 (.slice (some ⟨w1.heap.size, 0, none⟩) (upto A B k).length N) (upto A B k) ∧ w1.heap.size < wr.heap.size ∧ Aside (okAll (upto A B k) = true) ∧ Below w1.heap.size w1 wr ∧ w1.heap.size ≤ wr.heap.size) (fun _ _ _ _ _ _ i _ => A.length - (intOf i).toNat)
    case atStart => exact ⟨0, Nat.zero_le _, rfl, rfl, HO2.out, own_size HO2.out, (show okAll _ = true from rfl), HL2.out, HB2.out⟩
    case round =>
      clear HO2 HL2 HB2
      obtain ⟨k, hk, rfl, rfl, hO, hSZ, HK, hbel, hB⟩ := hrel
      by_cases hlt : k < A.length
      · have hkz : (k : Int) < (A.length : Int) := by omega
        have hk0 : (0 : Int) ≤ (k : Int) := by omega
        obtain ⟨c, hc⟩ : ∃ c, A[k]? = some c := ⟨_, List.getElem?_eq_getElem hlt⟩
        obtain ⟨g1, o1, rfl, hg1, hr1⟩ := HP1.out (by rintro rfl; have := hp0 rfl; omega)
        have HE := Lib.hid (range_kept (range_part hr1 hc) hg1 hbel)
        have HC := Lib.hid hc
        have hcv := valid_ok HV.out.1 c (List.mem_of_getElem? hc)
        have HCV : Aside (inS c.s = true ∧ okv c.r = true) := hcv
        have HX : Aside (RowAt (wr.alloc (.cells (vec 9 (wf c)) 68)) wr.heap.size 9 68 (wf c)) := RowAt.new wr 9 _ _
        have HO : Aside (Own (wr.alloc (.cells (vec 9 (wf c)) 68)) w1.heap.size 68 (.slice (some ⟨w1.heap.size, 0, none⟩) (upto A B k).length N) (upto A B k)) := (show World.ownsRow _ _ _ _ _ _ _ from World.ownsRow.alloc hO _)
        have HLb : Aside (Below w1.heap.size w1 (wr.alloc (.cells (vec 9 (wf c)) 68))) := hbel.alloc hB _
        clear hr1 hO hbel hB hc hcv
        go_upto_region 8 with (first | (refine load_wheel (T := 68) (g := g1) rfl rfl rfl HE.out Try.underlying68 rfl info_circle ?_; clear HE) | (refine store_new (ty := 68) rfl rfl rfl rfl zero9 info_circle ?_))
        show Code.wp _ _ _ _ (wr.alloc (.cells (vec 9 (wf c)) 68))
        generalize wr.alloc (.cells (vec 9 (wf c)) 68) = W at *
        generalize wr.heap.size = gc at *
        have hgc : gc ≠ w1.heap.size := by omega
        clear hSZ
        go_wp2
        go_loopw [9, 13, 14, 15, 16, 40] (fun s9 _ _ _ _ i wx => ∃ j : Nat, j ≤ B.length ∧ i = .int .i64 j ∧ s9 = .slice (some ⟨w1.heap.size, 0, none⟩) (upto2 A B k c j).length N ∧ Own wx w1.heap.size 68 (.slice (some ⟨w1.heap.size, 0, none⟩) (upto2 A B k c j).length N) (upto2 A B k c j) ∧ Aside (okAll (upto2 A B k c j) = true) ∧ RowAt wx gc 9 68 (wf c) ∧ Below w1.heap.size w1 wx ∧ w1.heap.size ≤ wx.heap.size) (fun _ _ _ _ _ i _ => B.length - (intOf i).toNat)
        case atStart => exact ⟨0, Nat.zero_le _, rfl, by rw [upto2_none], by rw [upto2_none]; exact HO.out, (show okAll _ = true from by rw [upto2_none]; exact HK.out), HX.out, HLb.out, HLb.out.size⟩
        case round =>
          clear HX HO HLb HK
          obtain ⟨j, hj, rfl, rfl, hO, HK, hX, hbel, hB⟩ := hrel
          by_cases hlt2 : j < B.length
          · have hjz : (j : Int) < (B.length : Int) := by omega
            have hj0 : (0 : Int) ≤ (j : Int) := by omega
            obtain ⟨d, hd⟩ : ∃ d, B[j]? = some d := ⟨_, List.getElem?_eq_getElem hlt2⟩
            obtain ⟨g2, o2, rfl, hg2, hr2⟩ := HP2.out (by rintro rfl; have := hq0 rfl; omega)
            have HE := Lib.hid (range_kept (range_part hr2 hd) hg2 hbel)
            have HD := Lib.hid hd
            have hdv := valid_ok HV.out.2 d (List.mem_of_getElem? hd)
            have T := fun w => ctimes_any c d HCV.out.1 hdv.1 HCV.out.2 hdv.2 w
            obtain ⟨P, hP⟩ : ∃ P, pairW c d = P := ⟨_, rfl⟩
            rw [hP] at T
            have HPP : Aside (pairW c d = P) := hP
            have TD := fun w => toldV P.r w
            have HX : Aside (RowAt (wr.alloc (.cells (vec 9 (wf d)) 68)) gc 9 68 (wf c)) := hX.alloc _
            have HY : Aside (RowAt (wr.alloc (.cells (vec 9 (wf d)) 68)) wr.heap.size 9 68 (wf d)) := RowAt.new wr 9 _ _
            have HO : Aside (Own (wr.alloc (.cells (vec 9 (wf d)) 68)) w1.heap.size 68 (.slice (some ⟨w1.heap.size, 0, none⟩) (upto2 A B k c j).length N) (upto2 A B k c j)) := (show World.ownsRow _ _ _ _ _ _ _ from World.ownsRow.alloc hO _)
            have HLb : Aside (Below w1.heap.size w1 (wr.alloc (.cells (vec 9 (wf d)) 68))) := hbel.alloc hB _
            clear hr2 hO hbel hB hd hdv hX hP
            go_upto_region 11 with (first | (refine load_wheel (T := 68) (g := g2) rfl rfl rfl HE.out Try.underlying68 rfl info_circle ?_; clear HE) | (refine store_new (ty := 68) rfl rfl rfl rfl zero9 info_circle ?_))
            show Code.wp _ _ _ _ (wr.alloc (.cells (vec 9 (wf d)) 68))
            generalize wr.alloc (.cells (vec 9 (wf d)) 68) = W3 at *
            generalize wr.heap.size = gd at *
            go_wp2_with (first | (refine load_row (ty := 68) (g := gc) rfl rfl rfl HX.out Try.underlying68 rfl info_circle ?_) | (refine load_row (ty := 68) (g := gd) rfl rfl rfl HY.out Try.underlying68 rfl info_circle ?_))
            refine (T _).mono ?_; rintro e w5 ⟨rfl, hb5⟩
            have HX5 : Aside (RowAt (w5.alloc (.cells (vec 9 (wf P)) 68)) gc 9 68 (wf c)) := (HX.out.below hb5).alloc _
            have HZ5 : Aside (RowAt (w5.alloc (.cells (vec 9 (wf P)) 68)) w5.heap.size 9 68 (wf P)) := RowAt.new w5 9 _ _
            have hO5 := own_below HO.out hb5
            have hL5 := below_on HLb.out (Nat.le_refl _) hb5
            have HO5 : Aside (Own (w5.alloc (.cells (vec 9 (wf P)) 68)) w1.heap.size 68 (.slice (some ⟨w1.heap.size, 0, none⟩) (upto2 A B k c j).length N) (upto2 A B k c j)) := (show World.ownsRow _ _ _ _ _ _ _ from World.ownsRow.alloc hO5 _)
            have HL5 : Aside (Below w1.heap.size w1 (w5.alloc (.cells (vec 9 (wf P)) 68))) := hL5.alloc hL5.size _
            clear HX HY HO HLb hb5 hO5 hL5 T
            go_upto_region 12 with (refine store_new (ty := 68) rfl rfl rfl rfl zero9 info_circle ?_)
            show Code.wp _ _ _ _ (w5.alloc (.cells (vec 9 (wf P)) 68))
            generalize w5.alloc (.cells (vec 9 (wf P)) 68) = W5 at *
            generalize w5.heap.size = gp at *
            go_wp2_with (refine load_part (T := 66) (g := gp) rfl rfl rfl (row_radius HZ5.out) Try.underlying66 rfl info_exact ?_)
            refine (TD _).mono ?_; rintro e w6 ⟨rfl, hb6⟩
            obtain ⟨F, hF⟩ : ∃ F : V, (if okv P.r = true then P.r else V.zero) = F := ⟨_, rfl⟩
            rw [hF]
            have HX6 : Aside (RowAt (w6.alloc (.cells (vec 8 F.up) 32)) gc 9 68 (wf c)) := (HX5.out.below hb6).alloc _
            have HZ6 : Aside (RowAt (w6.alloc (.cells (vec 8 F.up) 32)) gp 9 68 (wf P)) := (HZ5.out.below hb6).alloc _
            have hO6 := own_below HO5.out hb6
            have hL6 := below_on HL5.out (Nat.le_refl _) hb6
            have HO6 : Aside (Own (w6.alloc (.cells (vec 8 F.up) 32)) w1.heap.size 68 (.slice (some ⟨w1.heap.size, 0, none⟩) (upto2 A B k c j).length N) (upto2 A B k c j)) := (show World.ownsRow _ _ _ _ _ _ _ from World.ownsRow.alloc hO6 _)
            have HL6 : Aside (Below w1.heap.size w1 (w6.alloc (.cells (vec 8 F.up) 32))) := hL6.alloc hL6.size _
            clear HX5 HZ5 HO5 HL5 hb6 hO6 hL6 TD hF
            cases hbit : okv P.r
            · have HBAD : Aside (o = none) := (show o = none from by rw [← HRES.out]; exact dTimes_bad HC.out HD.out (by rw [HPP.out]; exact hbit))
              clear hbit
              go_upto_region 13 with (refine store_new (ty := 32) rfl rfl rfl rfl zero8 info_cyc ?_)
              show Code.wp _ _ _ _ (w6.alloc (.cells (vec 8 F.up) 32))
              generalize w6.alloc (.cells (vec 8 F.up) 32) = W6 at *
              go_wp2
              go_ret2
              rw [HBAD.out]
              exact ⟨below_next HL.out HL6.out, _, rfl, own_nil _ _ _⟩
            · have HOK : Aside (okv P.r = true) := hbit
              clear hbit
              go_upto_region 13 with (refine store_new (ty := 32) rfl rfl rfl rfl zero8 info_cyc ?_)
              show Code.wp _ _ _ _ (w6.alloc (.cells (vec 8 F.up) 32))
              generalize w6.alloc (.cells (vec 8 F.up) 32) = W6 at *
              go_wp2_with (first | (refine load_row (ty := 68) (g := gp) rfl rfl rfl HZ6.out Try.underlying68 rfl info_circle ?_; clear HZ6) | (refine one9 tyC rfl rfl rfl ?_) |
                (refine append_fit9 (B := w1.heap.size) (xs := upto2 A B k c j) (ys := [P]) tyC rfl rfl rfl rfl (show Own _ _ _ _ _ from World.ownsRow.alloc HO6.out _) (lit_range _ _ _) (by have := upto2_room c hlt hlt2; rw [HN.out]; exact this) ?_; intro w8 ho8 hgr8))
              have hXa := HX6.out.alloc (.cells (vec 9 (wf P)) 68)
              have hX8 := row_grown hXa hgr8 (fun e => hgc (Option.some.inj e))
              have hLa := HL6.out.alloc HL6.out.size (.cells (vec 9 (wf P)) 68)
              have hb8 := below_grown hLa hgr8 hLa.size (fun k hk => by cases hk; exact Nat.le_refl _)
              rw [show [P] = [pairW c d] from by rw [HPP.out], upto2_next HD.out] at ho8
              go_roundw
              case rel => exact ⟨j + 1, by omega, by go_num, by rw [← upto2_next HD.out, List.length_append]; rfl, ho8, (show okAll _ = true from by rw [← upto2_next HD.out, HPP.out]; exact okAll_next HK.out HOK.out), hX8, hb8, hb8.size⟩
              case measure => simp [intOf]; omega
          · obtain rfl : j = B.length := by omega
            rw [upto2_all HC.out] at hO ⊢
            have HK2 : Aside (okAll (upto A B (k + 1)) = true) := (show okAll _ = true from by rw [← upto2_all HC.out]; exact HK.out)
            have HO := Lib.hid hO
            have HLb := Lib.hid hbel
            clear hO hbel hX HK
            go_wp2
            go_roundw
            case rel => exact ⟨k + 1, by omega, by go_num, rfl, HO.out, own_size HO.out, HK2, HLb.out, HLb.out.size⟩
            case measure => simp [intOf]; omega
      · obtain rfl : k = A.length := by omega
        rw [upto_all] at hO HK ⊢
        have T := tidy_any _ _ (pairs A B) wr hO (by have := upto_len HLN.out.1 HLN.out.2 A.length; rw [upto_all] at this; unfold sortMost; omega) sort_most (fun c hc => (big_ok (okAll_mem HK.out c hc)).mono (by omega))
        rw [← dTimes_yes HV2.out HK.out, HRES.out] at T
        have T := Lib.hid T
        have HLb := Lib.hid hbel
        clear hO hbel hB HK
        go_wp2_with fail
        refine T.out.mono ?_; rintro e w7 ⟨hb7, v7, rfl, ho7⟩
        have HQ : Aside (Told w o (.returned (.tuple #[v7, .bool o.isSome])) w7) := ⟨below_next (below_next HL.out HLb.out) hb7, _, rfl, own_mono ho7 (Nat.le_trans HL.out.size HLb.out.size)⟩
        clear T hb7 ho7
        go_wp2
        go_ret2
        exact HQ.out


theorem own_set {w : World} {B T g : Nat} {v : Value} {ws : List Wh} (h : Own w B T v ws) (hg : some g ≠ v.ownBlock) (cs : Array Value) : Own (w.setRow g cs) B T v ws :=
  World.ownsRow.kept h (row := some g) ⟨rfl, rfl, rfl, by simp, fun k _ hk => setRow_other w g k _ (fun e => hk (by simp [e]))⟩ (.inr fun e => hg e.symm)
/-- What the model's product of two valid points answers. -/
theorem specProdV (a b : V) (ha : okv a = true) (hb : okv b = true) (w : World) :
    Calls Try.prog 79 #[pt a.up, pt b.up] w fun e w' => e = .returned (.tuple #[pt (if okv (prV a b) then prV a b else V.zero).up, .bool (okv (prV a b))]) ∧ Below w.heap.size w w' := by
  have h := specProd_any a.up b.up w
  have e : okv (prV a b) = okc (prd a.up b.up) := okv_dn _
  rw [show okc a.up = true from ha, show okc b.up = true from hb] at h
  rw [e]
  cases hk : okc (prd a.up b.up)
  · rw [show (true && true) = true from rfl, ans_bad hk] at h
    rw [if_neg (by decide), zero_up]
    exact h
  · rw [show (true && true) = true from rfl, ans_yes hk, pt_same fun j hj => (up_dn (prd a.up b.up) j hj).symm] at h
    rw [if_pos rfl]
    exact h

set_option maxHeartbeats 16000000 in
theorem specDesignTimes_any (va vb : Value) (A B : List Wh) (w : World) (ha : Reads w va A) (hb : Reads w vb B) : Calls Try.prog 37 #[va, vb] w (Told w (dTimes A B)) := by
  have C := specDesignValid_any va A w ha
  have D := fun w h => specDesignValid_any vb B w h
  have HB := Lib.hid hb
  have NO : valid A = false ∨ valid B = false → dTimes A B = none := fun h => dTimes_no (by rcases h with h | h <;> simp [h])
  have HNO := Lib.hid NO
  clear NO
  generalize hp : valid A = p at C
  generalize hq : valid B = q at D
  have HP : Aside (valid A = p) := hp
  have HQ : Aside (valid B = q) := hq
  clear hp hq
  have C := Lib.hid C
  replace D := fun w h => Lib.hid (D w h)
  cases p
  · rw [HNO.out (.inl HP.out)]
    clear ha hb
    go_enter Try.func37, Try.ntmps37
    go_wp2_with fail
    refine C.out.mono ?_; rintro e w1 ⟨rfl, hb1⟩
    have HT := Lib.hid (show Told w none (.returned (.tuple #[.slice (some ⟨w1.heap.size, 0, none⟩) 0 0, .bool false])) (w1.alloc (.cells #[] 34)) from ⟨hb1.alloc hb1.size _, _, rfl, own_lit w1 w.heap.size 34 hb1.size⟩)
    clear C D hb1 HNO
    go_wp2
    go_ret2
    exact HT.out
  · cases q
    · rw [HNO.out (.inr HQ.out)]
      clear ha hb
      go_enter Try.func37, Try.ntmps37
      go_wp2_with fail
      refine C.out.mono ?_; rintro e w1 ⟨rfl, hb1⟩
      have HL := Lib.hid hb1
      have hr := HB.out.below hb1
      clear C hb1 HNO
      go_wp2_with fail
      refine (D _ hr).out.mono ?_; rintro e w2 ⟨rfl, hb2⟩
      have hb3 := below_next HL.out hb2
      have HT := Lib.hid (show Told w none (.returned (.tuple #[.slice (some ⟨w2.heap.size, 0, none⟩) 0 0, .bool false])) (w2.alloc (.cells #[] 34)) from ⟨hb3.alloc hb3.size _, _, rfl, own_lit w2 w.heap.size 34 hb3.size⟩)
      clear D hr hb2 hb3
      go_wp2
      go_ret2
      exact HT.out
    · have HV2 : Aside ((valid A && valid B) = true) := (show _ = _ from by rw [HP.out, HQ.out]; rfl)
      have HLN : Aside (A.length ≤ 12 ∧ B.length ≤ 12) := (show _ ∧ _ from pair_len HV2.out)
      clear HNO
      generalize hres : dTimes A B = o
      have HRES : Aside (dTimes A B = o) := hres
      clear hres
      obtain ⟨p1, c1, rfl, hc1, hc1m, hp0, hp1⟩ := ha
      obtain ⟨p2, c2, rfl, hd1, hd1m, hq0, hq1⟩ := hb
      simp only [maxLen] at hc1m hd1m
      have HP1 := Lib.hid hp1
      have HP2 := Lib.hid hq1
      clear hp1 hq1
      go_enter Try.func37, Try.ntmps37
      go_wp2_with fail
      refine C.out.mono ?_; rintro e w1 ⟨rfl, hb1⟩
      have HL := Lib.hid hb1
      have hr := HB.out.below hb1
      clear C hb1
      go_wp2_with fail
      refine (D _ hr).out.mono ?_; rintro e w2 ⟨rfl, hb2⟩
      have hb3 := below_next HL.out hb2
      have HL2 := Lib.hid (hb3.alloc hb3.size (.cells #[] 34))
      have HO2 := Lib.hid (own_lit w2 w.heap.size 34 hb3.size)
      clear D hr hb2 hb3 HL HB
      go_wp2
      go_loopg [6, 7] A.length (fun kx s6 i wr => ∃ k : Nat, k ≤ A.length ∧ i = .int .i64 k ∧ A.length - k ≤ kx ∧ Aside (Own wr w.heap.size 34 s6 (upto A B k)) ∧ Aside (okAll (upto A B k) = true) ∧ Aside (Below w.heap.size w wr))
      case atStart => exact ⟨0, Nat.zero_le _, rfl, Nat.le_refl _, (show Own _ _ _ _ _ from HO2.out), (show okAll _ = true from rfl), (show Below _ _ _ from HL2.out)⟩
      case round =>
        clear HO2 HL2
        obtain ⟨k, hk, rfl, hkx, HO, HK, HL⟩ := hrel
        by_cases hlt : k < A.length
        · have hkz : (k : Int) < (A.length : Int) := by omega
          have hk0 : (0 : Int) ≤ (k : Int) := by omega
          obtain ⟨c, hc⟩ : ∃ c, A[k]? = some c := ⟨_, List.getElem?_eq_getElem hlt⟩
          obtain ⟨g1, o1, rfl, hg1, hr1⟩ := HP1.out (by rintro rfl; have := hp0 rfl; omega)
          have HE1 : Aside (g1 < w.heap.size ∧ w.rangeAt g1 (o1 + k * 9) (enc c)) := (show _ ∧ _ from ⟨hg1, range_part hr1 hc⟩)
          have HC := Lib.hid hc
          have HCV : Aside (inS c.s = true ∧ okv c.r = true) := (show _ ∧ _ from valid_ok HP.out c (List.mem_of_getElem? hc))
          clear hr1 hc hg1
          go_wp2
          go_loopg [6, 8] B.length (fun kx s6 i wx => ∃ j : Nat, j ≤ B.length ∧ i = .int .i64 j ∧ B.length - j ≤ kx ∧ Aside (Own wx w.heap.size 34 s6 (upto2 A B k c j)) ∧ Aside (okAll (upto2 A B k c j) = true) ∧ Aside (Below w.heap.size w wx))
          case atStart => exact ⟨0, Nat.zero_le _, rfl, Nat.le_refl _, (show Own _ _ _ _ _ from by rw [upto2_none]; exact HO.out), (show okAll _ = true from by rw [upto2_none]; exact HK.out), HL⟩
          case round =>
            clear HO HK HL
            obtain ⟨j, hj, rfl, hjx, HO, HK, HL⟩ := hrel
            by_cases hlt2 : j < B.length
            · have hjz : (j : Int) < (B.length : Int) := by omega
              have hj0 : (0 : Int) ≤ (j : Int) := by omega
              obtain ⟨d, hd⟩ : ∃ d, B[j]? = some d := ⟨_, List.getElem?_eq_getElem hlt2⟩
              obtain ⟨g2, o2, rfl, hg2, hr2⟩ := HP2.out (by rintro rfl; have := hq0 rfl; omega)
              have HE2 : Aside (g2 < w.heap.size ∧ w.rangeAt g2 (o2 + j * 9) (enc d)) := (show _ ∧ _ from ⟨hg2, range_part hr2 hd⟩)
              have HD := Lib.hid hd
              have hdv := valid_ok HQ.out d (List.mem_of_getElem? hd)
              have T := fun w => specProdV c.r d.r HCV.out.2 hdv.2 w
              have sb1 := inS_bound HCV.out.1
              have sb2 := inS_bound hdv.1
              have q2 : IntKind.i64.wrap (c.s + d.s) = c.s + d.s := by rw [IntKind.wrap_i64]; omega
              obtain ⟨P, hP⟩ : ∃ P, prV c.r d.r = P := ⟨_, rfl⟩
              have HPP : Aside (pairW c d = ⟨c.s + d.s, P⟩) := (show _ = _ from by rw [← hP]; rfl)
              obtain ⟨F, hF⟩ : ∃ F : V, (if okv P = true then P else V.zero) = F := ⟨_, rfl⟩
              rw [hP, hF] at T
              have HF : Aside ((if okv P = true then P else V.zero) = F) := hF
              clear hr2 hd hg2 hdv hP hF sb1 sb2
              obtain ⟨bit, hbit⟩ : ∃ b, okv P = b := ⟨_, rfl⟩
              rw [hbit] at T
              have HBIT : Aside (okv P = bit) := hbit
              replace T := fun w => Lib.hid (T w)
              clear hbit
              go_upto_region 10 with fail
              go_cut [9, 10] (fun s9 s10 wx => ∃ gr : Nat, s9 = .pointer (some ⟨gr, 0, none⟩) ∧ s10 = .bool bit ∧ Aside (some gr ≠ Value.ownBlock u6) ∧ Aside (RowAt wx gr 8 32 F.up) ∧ Aside (Own wx w.heap.size 34 u6 (upto2 A B k c j)) ∧ Aside (Below w.heap.size w wx))
              case first =>
                have hO0 : Own wr.drew w.heap.size 34 u6 (upto2 A B k c j) := (show Own wr _ _ _ _ from HO.out)
                refine wp_region_held_drew (S := fun w' => Below w.heap.size w w') (by kernel_rfl) HL.out.drew (fun hHeld => ?_)
                refine wpAnyH_take (i := 0) (oi := _) (v := .slice (some ⟨g1, o1, none⟩) A.length c1) rfl (by kernel_rfl) (by kernel_rfl) (by kernel_rfl) (fun _ _ _ h => h) (Or.inl ⟨by rfl, fun w h => by go_simp⟩) hHeld ?_
                try simp only [Act.put, List.setIfInBounds_toArray, List.set_cons_zero, List.set_cons_succ, List.getElem_toArray, List.getElem_cons_succ, List.getElem_cons_zero]
                refine wpAnyH_take (i := 1) (oi := _) (v := .int .i64 k) rfl (by kernel_rfl) (by kernel_rfl) (by kernel_rfl) (fun _ _ _ h => h) (Or.inl ⟨by rfl, fun w h => by go_simp⟩) hHeld ?_
                try simp only [Act.put, List.setIfInBounds_toArray, List.set_cons_zero, List.set_cons_succ, List.getElem_toArray, List.getElem_cons_succ, List.getElem_cons_zero]
                refine wpAnyH_take (i := 2) (oi := _) (v := .pointer (some ⟨g1, o1 + k * 9, none⟩)) rfl (by kernel_rfl) (by kernel_rfl) (by kernel_rfl) (fun _ _ _ h => h) (Or.inl ⟨by rfl, fun w h => by go_simp⟩) hHeld ?_
                try simp only [Act.put, List.setIfInBounds_toArray, List.set_cons_zero, List.set_cons_succ, List.getElem_toArray, List.getElem_cons_succ, List.getElem_cons_zero]
                refine wpAnyH_take (i := 3) (oi := _) (v := .pointer (some ⟨g1, o1 + k * 9 + 1, none⟩)) rfl (by kernel_rfl) (by kernel_rfl) (by kernel_rfl) (fun _ _ _ h => h) (Or.inl ⟨by rfl, fun w h => by go_simp⟩) hHeld ?_
                try simp only [Act.put, List.setIfInBounds_toArray, List.set_cons_zero, List.set_cons_succ, List.getElem_toArray, List.getElem_cons_succ, List.getElem_cons_zero]
                refine wpAnyH_take (i := 4) (oi := _) (v := .agg (vec 8 c.r.up)) rfl (by kernel_rfl) (by kernel_rfl) (by kernel_rfl) (fun _ _ _ h => h) (yieldsIf_load_mid (by rfl) _ _ rfl _ _ rfl _ _ ((fun w h => range_radius (range_kept HE1.out.2 HE1.out.1 h))) Try.underlying32 rfl (size_cyc8 _)) hHeld ?_
                try simp only [Act.put, List.setIfInBounds_toArray, List.set_cons_zero, List.set_cons_succ, List.getElem_toArray, List.getElem_cons_succ, List.getElem_cons_zero]
                refine wpAnyH_take (i := 5) (oi := _) (v := .slice (some ⟨g2, o2, none⟩) B.length c2) rfl (by kernel_rfl) (by kernel_rfl) (by kernel_rfl) (fun _ _ _ h => h) (Or.inl ⟨by rfl, fun w h => by go_simp⟩) hHeld ?_
                try simp only [Act.put, List.setIfInBounds_toArray, List.set_cons_zero, List.set_cons_succ, List.getElem_toArray, List.getElem_cons_succ, List.getElem_cons_zero]
                refine wpAnyH_take (i := 6) (oi := _) (v := .int .i64 j) rfl (by kernel_rfl) (by kernel_rfl) (by kernel_rfl) (fun _ _ _ h => h) (Or.inl ⟨by rfl, fun w h => by go_simp⟩) hHeld ?_
                try simp only [Act.put, List.setIfInBounds_toArray, List.set_cons_zero, List.set_cons_succ, List.getElem_toArray, List.getElem_cons_succ, List.getElem_cons_zero]
                refine wpAnyH_take (i := 7) (oi := _) (v := .pointer (some ⟨g2, o2 + j * 9, none⟩)) rfl (by kernel_rfl) (by kernel_rfl) (by kernel_rfl) (fun _ _ _ h => h) (Or.inl ⟨by rfl, fun w h => by go_simp⟩) hHeld ?_
                try simp only [Act.put, List.setIfInBounds_toArray, List.set_cons_zero, List.set_cons_succ, List.getElem_toArray, List.getElem_cons_succ, List.getElem_cons_zero]
                refine wpAnyH_take (i := 8) (oi := _) (v := .pointer (some ⟨g2, o2 + j * 9 + 1, none⟩)) rfl (by kernel_rfl) (by kernel_rfl) (by kernel_rfl) (fun _ _ _ h => h) (Or.inl ⟨by rfl, fun w h => by go_simp⟩) hHeld ?_
                try simp only [Act.put, List.setIfInBounds_toArray, List.set_cons_zero, List.set_cons_succ, List.getElem_toArray, List.getElem_cons_succ, List.getElem_cons_zero]
                refine wpAnyH_take (i := 9) (oi := _) (v := .agg (vec 8 d.r.up)) rfl (by kernel_rfl) (by kernel_rfl) (by kernel_rfl) (fun _ _ _ h => h) (yieldsIf_load_mid (by rfl) _ _ rfl _ _ rfl _ _ ((fun w h => range_radius (range_kept HE2.out.2 HE2.out.1 h))) Try.underlying32 rfl (size_cyc8 _)) hHeld ?_
                try simp only [Act.put, List.setIfInBounds_toArray, List.set_cons_zero, List.set_cons_succ, List.getElem_toArray, List.getElem_cons_succ, List.getElem_cons_zero]
                refine wpAnyH_ready (rs := [10, 14]) (by kernel_rfl) (by simp) ?_
                refine AllReadyH.cons (o := _) rfl (fun K hK => ?_) (AllReadyH.cons (o := _) rfl (fun K hK => ?_) AllReadyH.nil)
                · go_simp
                  refine (T _).out.mono ?_; rintro e w5 ⟨rfl, hb5⟩
                  go_wp2_with fail
                  have hO5 := own_below hO0 hb5
                  have hz5 : w.heap.size ≤ w5.heap.size := (below_on hHeld (Nat.le_refl _) hb5).size
                  refine hK.out _ _ (below_on hHeld (Nat.le_refl _) hb5) (fun hHeld => ?_)
                  clear hK K
                  try simp only [Act.put, List.setIfInBounds_toArray, List.set_cons_zero, List.set_cons_succ, List.getElem_toArray, List.getElem_cons_succ, List.getElem_cons_zero]
                  clear hb5 hO0
                  refine wpAnyH_take (i := 11) (oi := _) (v := .tuple #[pt F.up, .bool bit]) rfl (by kernel_rfl) (by kernel_rfl) (by kernel_rfl) (fun _ _ _ h => h) (Or.inl ⟨by rfl, fun w h => by go_simp⟩) hHeld ?_
                  try simp only [Act.put, List.setIfInBounds_toArray, List.set_cons_zero, List.set_cons_succ, List.getElem_toArray, List.getElem_cons_succ, List.getElem_cons_zero]
                  refine wpAnyH_take (i := 12) (oi := _) (v := pt F.up) rfl (by kernel_rfl) (by kernel_rfl) (by kernel_rfl) (fun _ _ _ h => h) (Or.inl ⟨by rfl, fun w h => by go_simp⟩) hHeld ?_
                  try simp only [Act.put, List.setIfInBounds_toArray, List.set_cons_zero, List.set_cons_succ, List.getElem_toArray, List.getElem_cons_succ, List.getElem_cons_zero]
                  refine wpAnyH_take (i := 13) (oi := _) (v := .bool bit) rfl (by kernel_rfl) (by kernel_rfl) (by kernel_rfl) (fun _ _ _ h => h) (Or.inl ⟨by rfl, fun w h => by go_simp⟩) hHeld ?_
                  try simp only [Act.put, List.setIfInBounds_toArray, List.set_cons_zero, List.set_cons_succ, List.getElem_toArray, List.getElem_cons_succ, List.getElem_cons_zero]
                  refine wpAnyH_ready (rs := [14]) (by kernel_rfl) (by simp) ?_
                  refine AllReadyH.cons (o := _) rfl (fun K hK => ?_) AllReadyH.nil
                  go_simp
                  show K _ (w5.alloc (.cells (vec 8 nul) 32))
                  have hX := RowAt.new w5 8 32 nul
                  have hO6 : Own (w5.alloc (.cells (vec 8 nul) 32)) w.heap.size 34 u6 (upto2 A B k c j) := (show World.ownsRow _ _ _ _ _ _ _ from World.ownsRow.alloc hO5 _)
                  have hne := own_not hO5 (Nat.le_refl _)
                  refine hK.out _ _ (hHeld.alloc hz5 _) (fun hHeld => ?_)
                  clear hK K
                  try simp only [Act.put, List.setIfInBounds_toArray, List.set_cons_zero, List.set_cons_succ, List.getElem_toArray, List.getElem_cons_succ, List.getElem_cons_zero]
                  clear hO5
                  generalize w5.heap.size = gr at *
                  generalize w5.alloc (.cells (vec 8 nul) 32) = W6 at *
                  refine wpAnyH_ready (rs := [15]) (by kernel_rfl) (by simp) ?_
                  refine AllReadyH.cons (o := _) rfl (fun K hK => ?_) AllReadyH.nil
                  rw [if_pos (by rfl)]
                  refine store_step (f' := F.up) rfl rfl rfl hX info_cyc ?_
                  have hR8 := hX.setRow (f' := F.up)
                  have hO8 := own_set hO6 hne (vec 8 F.up)
                  have hL8 := below_setRow hHeld (g := gr) hz5 (vec 8 F.up)
                  refine hK.out _ _ hL8 (fun hHeld => ?_)
                  clear hK K
                  try simp only [Act.put, List.setIfInBounds_toArray, List.set_cons_zero, List.set_cons_succ, List.getElem_toArray, List.getElem_cons_succ, List.getElem_cons_zero]
                  refine wpAnyH_take (i := 16) (oi := _) (v := .bool bit) rfl (by kernel_rfl) (by kernel_rfl) (by kernel_rfl) (fun _ _ _ h => h) (Or.inl ⟨by rfl, fun w h => by go_simp⟩) hHeld ?_
                  try simp only [Act.put, List.setIfInBounds_toArray, List.set_cons_zero, List.set_cons_succ, List.getElem_toArray, List.getElem_cons_succ, List.getElem_cons_zero]
                  refine wpAnyH_done (by kernel_rfl) ?_ _
                  have HR8 : Aside (RowAt (W6.setRow gr (vec 8 F.up)) gr 8 32 F.up) := hR8
                  have HO8 : Aside (Own (W6.setRow gr (vec 8 F.up)) w.heap.size 34 u6 (upto2 A B k c j)) := hO8
                  have HL8 : Aside (Below w.heap.size w (W6.setRow gr (vec 8 F.up))) := hL8
                  have HNE : Aside (some gr ≠ Value.ownBlock u6) := hne
                  clear hX hR8 hO8 hL8 hne hO6 hHeld
                  go_wp2_with fail
                  go_meet
                  case rel => exact ⟨gr, rfl, rfl, HNE, HR8, HO8, HL8⟩
                · go_simp
                  show K _ (wr.alloc (.cells (vec 8 nul) 32)).drew
                  have hX : RowAt (wr.alloc (.cells (vec 8 nul) 32)).drew wr.heap.size 8 32 nul := (RowAt.new wr 8 32 nul).drew1
                  have hO6 : Own (wr.alloc (.cells (vec 8 nul) 32)).drew w.heap.size 34 u6 (upto2 A B k c j) := (show World.ownsRow _ _ _ _ _ _ _ from World.ownsRow.drew (World.ownsRow.alloc HO.out _))
                  have hne := own_not HO.out (Nat.le_refl _)
                  have hz5 := HL.out.size
                  refine hK.out _ _ ((HL.out.alloc HL.out.size _).drew) (fun hHeld => ?_)
                  clear hK K
                  try simp only [Act.put, List.setIfInBounds_toArray, List.set_cons_zero, List.set_cons_succ, List.getElem_toArray, List.getElem_cons_succ, List.getElem_cons_zero]
                  clear hO0
                  generalize wr.heap.size = gr at *
                  generalize (wr.alloc (.cells (vec 8 nul) 32)).drew = W6 at *
                  refine wpAnyH_ready (rs := [10]) (by kernel_rfl) (by simp) ?_
                  refine AllReadyH.cons (o := _) rfl (fun K hK => ?_) AllReadyH.nil
                  go_simp
                  refine (T _).out.mono ?_; rintro e w5 ⟨rfl, hb5⟩
                  go_wp2_with fail
                  replace hX := hX.below hb5
                  replace hO6 := own_below hO6 hb5
                  refine hK.out _ _ (below_on hHeld (Nat.le_refl _) hb5) (fun hHeld => ?_)
                  clear hK K
                  try simp only [Act.put, List.setIfInBounds_toArray, List.set_cons_zero, List.set_cons_succ, List.getElem_toArray, List.getElem_cons_succ, List.getElem_cons_zero]
                  clear hb5
                  refine wpAnyH_take (i := 11) (oi := _) (v := .tuple #[pt F.up, .bool bit]) rfl (by kernel_rfl) (by kernel_rfl) (by kernel_rfl) (fun _ _ _ h => h) (Or.inl ⟨by rfl, fun w h => by go_simp⟩) hHeld ?_
                  try simp only [Act.put, List.setIfInBounds_toArray, List.set_cons_zero, List.set_cons_succ, List.getElem_toArray, List.getElem_cons_succ, List.getElem_cons_zero]
                  refine wpAnyH_take (i := 12) (oi := _) (v := pt F.up) rfl (by kernel_rfl) (by kernel_rfl) (by kernel_rfl) (fun _ _ _ h => h) (Or.inl ⟨by rfl, fun w h => by go_simp⟩) hHeld ?_
                  try simp only [Act.put, List.setIfInBounds_toArray, List.set_cons_zero, List.set_cons_succ, List.getElem_toArray, List.getElem_cons_succ, List.getElem_cons_zero]
                  refine wpAnyH_take (i := 13) (oi := _) (v := .bool bit) rfl (by kernel_rfl) (by kernel_rfl) (by kernel_rfl) (fun _ _ _ h => h) (Or.inl ⟨by rfl, fun w h => by go_simp⟩) hHeld ?_
                  try simp only [Act.put, List.setIfInBounds_toArray, List.set_cons_zero, List.set_cons_succ, List.getElem_toArray, List.getElem_cons_succ, List.getElem_cons_zero]
                  refine wpAnyH_ready (rs := [15]) (by kernel_rfl) (by simp) ?_
                  refine AllReadyH.cons (o := _) rfl (fun K hK => ?_) AllReadyH.nil
                  rw [if_pos (by rfl)]
                  refine store_step (f' := F.up) rfl rfl rfl hX info_cyc ?_
                  have hR8 := hX.setRow (f' := F.up)
                  have hO8 := own_set hO6 hne (vec 8 F.up)
                  have hL8 := below_setRow hHeld (g := gr) hz5 (vec 8 F.up)
                  refine hK.out _ _ hL8 (fun hHeld => ?_)
                  clear hK K
                  try simp only [Act.put, List.setIfInBounds_toArray, List.set_cons_zero, List.set_cons_succ, List.getElem_toArray, List.getElem_cons_succ, List.getElem_cons_zero]
                  refine wpAnyH_take (i := 16) (oi := _) (v := .bool bit) rfl (by kernel_rfl) (by kernel_rfl) (by kernel_rfl) (fun _ _ _ h => h) (Or.inl ⟨by rfl, fun w h => by go_simp⟩) hHeld ?_
                  try simp only [Act.put, List.setIfInBounds_toArray, List.set_cons_zero, List.set_cons_succ, List.getElem_toArray, List.getElem_cons_succ, List.getElem_cons_zero]
                  refine wpAnyH_done (by kernel_rfl) ?_ _
                  have HR8 : Aside (RowAt (w5.setRow gr (vec 8 F.up)) gr 8 32 F.up) := hR8
                  have HO8 : Aside (Own (w5.setRow gr (vec 8 F.up)) w.heap.size 34 u6 (upto2 A B k c j)) := hO8
                  have HL8 : Aside (Below w.heap.size w (w5.setRow gr (vec 8 F.up))) := hL8
                  have HNE : Aside (some gr ≠ Value.ownBlock u6) := hne
                  clear hX hR8 hO8 hL8 hne hO6 hHeld
                  go_wp2_with fail
                  go_meet
                  case rel => exact ⟨gr, rfl, rfl, HNE, HR8, HO8, HL8⟩
              case rest =>
              clear HO HL
              obtain ⟨gr, rfl, rfl, HNE, HR, HO, HL⟩ := hcut
              cases bit
              · have HBAD : Aside (o = none) := (show o = none from by rw [← HRES.out]; exact dTimes_bad HC.out HD.out (by rw [HPP.out]; exact HBIT.out))
                have HT := Lib.hid (show Told w none (.returned (.tuple #[.slice (some ⟨wc.heap.size, 0, none⟩) 0 0, .bool false])) (wc.alloc (.cells #[] 34)) from ⟨HL.out.alloc HL.out.size _, _, rfl, own_lit wc w.heap.size 34 HL.out.size⟩)
                clear HO HR T
                go_wp2
                go_ret2
                rw [HBAD.out]
                exact HT.out
              · have hFP : P = F := by rw [← HF.out, if_pos HBIT.out]
                clear HF
                subst hFP
                have HOK : Aside (okv P = true) := HBIT.out
                clear T HBIT
                have hO0 : Own wc.drew w.heap.size 34 u6 (upto2 A B k c j) := (show Own wc _ _ _ _ from HO.out)
                have hz5 : w.heap.size ≤ wc.drew.heap.size := HL.out.size
                go_upto_region 13 with fail
                refine wp_region_held_drew (S := fun w' => Below w.heap.size w w' ∧ RowAt w' gr 8 32 P.up) (by kernel_rfl) ⟨HL.out.drew, HR.out.drew1⟩ (fun hHeld => ?_)
                refine wpAnyH_take (i := 0) (oi := _) (v := u6) rfl (by kernel_rfl) (by kernel_rfl) (by kernel_rfl) (fun _ _ _ h => h) (Or.inl ⟨by rfl, fun w h => by go_simp⟩) hHeld ?_
                try simp only [Act.put, List.setIfInBounds_toArray, List.set_cons_zero, List.set_cons_succ, List.getElem_toArray, List.getElem_cons_succ, List.getElem_cons_zero]
                refine wpAnyH_take (i := 1) (oi := _) (v := .slice (some ⟨g1, o1, none⟩) A.length c1) rfl (by kernel_rfl) (by kernel_rfl) (by kernel_rfl) (fun _ _ _ h => h) (Or.inl ⟨by rfl, fun w h => by go_simp⟩) hHeld ?_
                try simp only [Act.put, List.setIfInBounds_toArray, List.set_cons_zero, List.set_cons_succ, List.getElem_toArray, List.getElem_cons_succ, List.getElem_cons_zero]
                refine wpAnyH_take (i := 2) (oi := _) (v := .int .i64 k) rfl (by kernel_rfl) (by kernel_rfl) (by kernel_rfl) (fun _ _ _ h => h) (Or.inl ⟨by rfl, fun w h => by go_simp⟩) hHeld ?_
                try simp only [Act.put, List.setIfInBounds_toArray, List.set_cons_zero, List.set_cons_succ, List.getElem_toArray, List.getElem_cons_succ, List.getElem_cons_zero]
                refine wpAnyH_take (i := 3) (oi := _) (v := .pointer (some ⟨g1, o1 + k * 9, none⟩)) rfl (by kernel_rfl) (by kernel_rfl) (by kernel_rfl) (fun _ _ _ h => h) (Or.inl ⟨by rfl, fun w h => by go_simp⟩) hHeld ?_
                try simp only [Act.put, List.setIfInBounds_toArray, List.set_cons_zero, List.set_cons_succ, List.getElem_toArray, List.getElem_cons_succ, List.getElem_cons_zero]
                refine wpAnyH_take (i := 4) (oi := _) (v := .pointer (some ⟨g1, o1 + k * 9, none⟩)) rfl (by kernel_rfl) (by kernel_rfl) (by kernel_rfl) (fun _ _ _ h => h) (Or.inl ⟨by rfl, fun w h => by go_simp⟩) hHeld ?_
                try simp only [Act.put, List.setIfInBounds_toArray, List.set_cons_zero, List.set_cons_succ, List.getElem_toArray, List.getElem_cons_succ, List.getElem_cons_zero]
                refine wpAnyH_take (i := 5) (oi := _) (v := .int .i64 c.s) rfl (by kernel_rfl) (by kernel_rfl) (by kernel_rfl) (fun _ _ _ h => h) (Or.inl ⟨by rfl, fun w h => by have hcell := (range_speed (range_kept HE1.out.2 HE1.out.1 h.1)); go_simp⟩) hHeld ?_
                try simp only [Act.put, List.setIfInBounds_toArray, List.set_cons_zero, List.set_cons_succ, List.getElem_toArray, List.getElem_cons_succ, List.getElem_cons_zero]
                refine wpAnyH_take (i := 6) (oi := _) (v := .slice (some ⟨g2, o2, none⟩) B.length c2) rfl (by kernel_rfl) (by kernel_rfl) (by kernel_rfl) (fun _ _ _ h => h) (Or.inl ⟨by rfl, fun w h => by go_simp⟩) hHeld ?_
                try simp only [Act.put, List.setIfInBounds_toArray, List.set_cons_zero, List.set_cons_succ, List.getElem_toArray, List.getElem_cons_succ, List.getElem_cons_zero]
                refine wpAnyH_take (i := 7) (oi := _) (v := .int .i64 j) rfl (by kernel_rfl) (by kernel_rfl) (by kernel_rfl) (fun _ _ _ h => h) (Or.inl ⟨by rfl, fun w h => by go_simp⟩) hHeld ?_
                try simp only [Act.put, List.setIfInBounds_toArray, List.set_cons_zero, List.set_cons_succ, List.getElem_toArray, List.getElem_cons_succ, List.getElem_cons_zero]
                refine wpAnyH_take (i := 8) (oi := _) (v := .pointer (some ⟨g2, o2 + j * 9, none⟩)) rfl (by kernel_rfl) (by kernel_rfl) (by kernel_rfl) (fun _ _ _ h => h) (Or.inl ⟨by rfl, fun w h => by go_simp⟩) hHeld ?_
                try simp only [Act.put, List.setIfInBounds_toArray, List.set_cons_zero, List.set_cons_succ, List.getElem_toArray, List.getElem_cons_succ, List.getElem_cons_zero]
                refine wpAnyH_take (i := 9) (oi := _) (v := .pointer (some ⟨g2, o2 + j * 9, none⟩)) rfl (by kernel_rfl) (by kernel_rfl) (by kernel_rfl) (fun _ _ _ h => h) (Or.inl ⟨by rfl, fun w h => by go_simp⟩) hHeld ?_
                try simp only [Act.put, List.setIfInBounds_toArray, List.set_cons_zero, List.set_cons_succ, List.getElem_toArray, List.getElem_cons_succ, List.getElem_cons_zero]
                refine wpAnyH_take (i := 10) (oi := _) (v := .int .i64 d.s) rfl (by kernel_rfl) (by kernel_rfl) (by kernel_rfl) (fun _ _ _ h => h) (Or.inl ⟨by rfl, fun w h => by have hcell := (range_speed (range_kept HE2.out.2 HE2.out.1 h.1)); go_simp⟩) hHeld ?_
                try simp only [Act.put, List.setIfInBounds_toArray, List.set_cons_zero, List.set_cons_succ, List.getElem_toArray, List.getElem_cons_succ, List.getElem_cons_zero]
                refine wpAnyH_take (i := 11) (oi := _) (v := .int .i64 (c.s + d.s)) rfl (by kernel_rfl) (by kernel_rfl) (by kernel_rfl) (fun _ _ _ h => h) (Or.inl ⟨by rfl, fun w h => by go_simp⟩) hHeld ?_
                try simp only [Act.put, List.setIfInBounds_toArray, List.set_cons_zero, List.set_cons_succ, List.getElem_toArray, List.getElem_cons_succ, List.getElem_cons_zero]
                refine wpAnyH_take (i := 12) (oi := _) (v := .agg (vec 8 P.up)) rfl (by kernel_rfl) (by kernel_rfl) (by kernel_rfl) (fun _ _ _ h => h) (yieldsIf_load_mid (by rfl) _ _ rfl _ _ rfl _ _ ((fun w h => h.2.range)) Try.underlying32 rfl (size_cyc8 _)) hHeld ?_
                try simp only [Act.put, List.setIfInBounds_toArray, List.set_cons_zero, List.set_cons_succ, List.getElem_toArray, List.getElem_cons_succ, List.getElem_cons_zero]
                refine wpAnyH_take (i := 13) (oi := _) (v := .agg (vec 9 (wf ⟨c.s + d.s, P⟩))) rfl (by kernel_rfl) (by kernel_rfl) (by kernel_rfl) (fun _ _ _ h => h) (Or.inl ⟨by rfl, fun w h => by have e : wh ⟨c.s + d.s, P⟩ = wh ⟨c.s + d.s, dn P.up⟩ := (by rw [dn_up]); show _ = Result.ok (Next.value (wh ⟨c.s + d.s, P⟩)) w; rw [e]; exact yields_build built_wheel rfl rfl rfl⟩) hHeld ?_
                try simp only [Act.put, List.setIfInBounds_toArray, List.set_cons_zero, List.set_cons_succ, List.getElem_toArray, List.getElem_cons_succ, List.getElem_cons_zero]
                refine wpAnyH_ready (rs := [14]) (by kernel_rfl) (by simp) ?_
                refine AllReadyH.cons (o := _) rfl (fun K hK => ?_) AllReadyH.nil
                rw [if_pos (by rfl)]
                refine wp_one9 tyW rfl rfl ?_
                have hlit := reads_lit wc.drew ⟨c.s + d.s, P⟩ 34
                have hO6 : Own (wc.drew.alloc (.cells (vec 9 (wf ⟨c.s + d.s, P⟩)) 34)) w.heap.size 34 u6 (upto2 A B k c j) := (show World.ownsRow _ _ _ _ _ _ _ from World.ownsRow.alloc hO0 _)
                refine hK.out _ _ ⟨hHeld.1.alloc hz5 _, hHeld.2.alloc _⟩ (fun hHeld => ?_)
                clear hK K
                try simp only [Act.put, List.setIfInBounds_toArray, List.set_cons_zero, List.set_cons_succ, List.getElem_toArray, List.getElem_cons_succ, List.getElem_cons_zero]
                clear hO0
                have hz6 := hHeld.1.size
                refine wpAnyH_ready (rs := [15]) (by kernel_rfl) (by simp) ?_
                refine AllReadyH.cons (o := _) rfl (fun K hK => ?_) AllReadyH.nil
                refine wp_append_list2 tyW rfl (xs := upto2 A B k c j) (ys := [⟨c.s + d.s, P⟩]) rfl rfl hO6 hlit (by have := upto2_len HLN.out.1 HLN.out.2 k j c; simp; omega) hHeld.1 hz6 ?_; intro v2 w6 ho6 hb6 hB6 hgr
                refine hK.out _ _ ⟨hb6, row_grown hHeld.2 hgr HNE.out⟩ (fun hHeld => ?_)
                clear hK K
                try simp only [Act.put, List.setIfInBounds_toArray, List.set_cons_zero, List.set_cons_succ, List.getElem_toArray, List.getElem_cons_succ, List.getElem_cons_zero]
                clear hlit hO6 hgr
                refine wpAnyH_take (i := 16) (oi := _) (v := v2) rfl (by kernel_rfl) (by kernel_rfl) (by kernel_rfl) (fun _ _ _ h => h) (Or.inl ⟨by rfl, fun w h => by go_simp⟩) hHeld ?_
                try simp only [Act.put, List.setIfInBounds_toArray, List.set_cons_zero, List.set_cons_succ, List.getElem_toArray, List.getElem_cons_succ, List.getElem_cons_zero]
                refine wpAnyH_done (by kernel_rfl) ?_ _
                rw [← HPP.out, upto2_next HD.out] at ho6
                have HO6 : Aside (Own w6 w.heap.size 34 v2 (upto2 A B k c (j + 1))) := ho6
                have HL6 : Aside (Below w.heap.size w w6) := hb6
                have HK6 : Aside (okAll (upto2 A B k c (j + 1)) = true) := (show okAll _ = true from by rw [← upto2_next HD.out, HPP.out]; exact okAll_next HK.out HOK.out)
                clear ho6 hb6 hB6 hHeld
                go_wp2
                go_roundg (B.length - (j + 1))
                case measure => omega
                case rel => exact ⟨j + 1, by omega, by go_num, Nat.le_refl _, HO6, HK6, HL6⟩
            · obtain rfl : j = B.length := by omega
              have HO6 : Aside (Own wr w.heap.size 34 u6 (upto A B (k + 1))) := (show Own _ _ _ _ _ from by rw [← upto2_all HC.out]; exact HO.out)
              have HK6 : Aside (okAll (upto A B (k + 1)) = true) := (show okAll _ = true from by rw [← upto2_all HC.out]; exact HK.out)
              clear HO HK
              go_wp2
              go_roundg (A.length - (k + 1))
              case measure => omega
              case rel => exact ⟨k + 1, by omega, by go_num, Nat.le_refl _, HO6, HK6, HL⟩
        · obtain rfl : k = A.length := by omega
          have hO := HO.out
          have hK := HK.out
          rw [upto_all] at hO hK
          have TT := l5Tidy_any u6 (pairs A B) wr (own_reads hO) (by have := upto_len HLN.out.1 HLN.out.2 A.length; rw [upto_all] at this; omega) (fun c hc => (big_ok (okAll_mem hK c hc)).mono (by omega))
          rw [tidy_first (okAll_mem hK), ← dTimes_yes HV2.out hK, HRES.out] at TT
          have TT := Lib.hid TT
          clear hO hK HO HK
          go_wp2_with fail
          refine TT.out.mono ?_; rintro e w7 ⟨hb7, v7, rfl, ho7⟩
          have HQ7 : Aside (Told w o (.returned (.tuple #[v7, .bool o.isSome])) w7) := ⟨below_next HL.out hb7, _, rfl, own_mono ho7 HL.out.size⟩
          clear TT hb7 ho7
          go_wp2
          go_ret2
          exact HQ7.out

end Go.Proofs.Yteicmnoafoekcaa
