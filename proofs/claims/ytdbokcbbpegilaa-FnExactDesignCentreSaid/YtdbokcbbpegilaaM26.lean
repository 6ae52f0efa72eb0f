/-
  impl: circles that lead to others, circles that stay.
  impl: all pairs of turns.
  impl: the least pair of turns that leads a design to another.
-/
import Derived.Test.YtdbokcbbpegilaaM19
import Derived.Test.YtdbokcbbpegilaaM24
import Derived.Test.YtdbokcbbpegilaaM18
import Derived.Sort.CutIn
/- impl: circles that lead to others, circles that stay. -/
namespace Go.Proofs.Ytdbokcbbpegilaa
set_option maxRecDepth 20000
open Go.ChangeShapes Go.WideShapes Go.ChangeAt Go.RowKit
set_option linter.unusedVariables false
set_option linter.unusedSimpArgs false

theorem equal_exact9 (a b : Nat → Int) (w : World) : (Op.equalIn 9999 70 (.agg (vec 8 a)) (.agg (vec 8 b))).run Try.prog w = .ok (eqv 8 a b) w := by
  obtain ⟨i, hi⟩ := Option.isSome_iff_exists.1 some_i64
  exact equal_vec (d := 9997) Try.underlying70 hi cells_i64 Try.underlying2 key_i64 w
theorem agg_exact (w : World) : (isAgg 70).run Try.prog w = .ok true w := by rfl
theorem sizeof_exact (w : World) : (Go.sizeOf 70).run Try.prog w = .ok 8 w := by rfl
theorem part_exact (f : Nat → Int) (w : World) : (part 70 (vec 9 f) 1).run Try.prog w = .ok (.agg (vec 8 (fun j => f (j + 1)))) w := by
  simp [part, Sem.run_bind, agg_exact, sizeof_exact, vec_tail]
theorem equal_circle (f g : Nat → Int) (w : World) : (Op.equalIn 10000 72 (.agg (vec 9 f)) (.agg (vec 9 g))).run Try.prog w = .ok (eqv 9 f g) w := by
  have hF := Try.underlying72
  have hf : Try.prog.underlying 72 = some (.struct (Try.prog.fieldsOf 72)) := by simp [Program.fieldsOf, hF]
  rw [run_equalIn_struct w 9999 72 _ _ hf (by kernel_rfl)]
  simp only [Program.fieldsOf, hF]
  simp only [Op.eqFields]
  rw [if_pos (by decide), if_pos (by decide)]
  simp only [Sem.run_bind, run_part_plain (w := w) key_int (vec_at f (k := 0) (n := 9) (by omega)), run_part_plain (w := w) key_int (vec_at g (k := 0) (n := 9) (by omega)), Result.andThen_ok, run_equalIn_int w 9998 3 .i64 .i64 (f 0) (g 0) Try.underlying3]
  rw [eqv_nine]
  cases h : (f 0 == g 0)
  · simp
  · simp [part_exact, equal_exact9]
    cases eqv 8 (fun j => f (j + 1)) (fun j => g (j + 1)) <;> simp
theorem equal_cir (a b : Wh) (w : World) : (Op.equalIn 10000 72 (.agg (vec 9 (wf a))) (.agg (vec 9 (wf b)))).run Try.prog w = .ok (eqW a b) w := equal_circle _ _ w

/-- Two circles by value. -/
def boxCC (w : World) (c d : Wh) : World := (w.alloc (.cells (vec 9 (wf c)) 72)).alloc (.cells (vec 9 (wf d)) 72)
theorem boxCC_facts (w : World) (c d : Wh) : RowAt (boxCC w c d) w.heap.size 9 72 (wf c) ∧ RowAt (boxCC w c d) (w.heap.size + 1) 9 72 (wf d) ∧ Below w.heap.size w (boxCC w c d) :=
  ⟨(RowAt.newAt rfl rfl).alloc _, RowAt.newAt rfl (by simp), ((Below.refl _ _).alloc (Nat.le_refl _) _).alloc (by simp) _⟩

set_option maxHeartbeats 2000000 in
theorem leadsTo_any (c d : Wh) (a b : Nat) (ha : a ≤ 23) (hb : b ≤ 23) (hs : inS c.s = true) (hr : okv c.r = true) (w : World) :
    Calls Try.prog 115 #[wh c, wh d, .int .i64 a, .int .i64 b] w fun e w' => e = .returned (.bool (leadW a b c d)) ∧ Below w.heap.size w w' := by
  have C := fun w => clater_any c a ha hs hr w
  unfold leadW
  generalize laterW a c = l at *
  have VA := fun w => validOf l.r w
  obtain ⟨hA, hD, hL⟩ := boxCC_facts w c d
  have E := equal_cir (turnW b l) d
  go_enter Try.func115, Try.ntmps115
  go_upto_region 1 with fail
  show Code.wp _ _ _ _ (boxCC w c d)
  generalize boxCC w c d = W at *
  have HA := Lib.hid hA
  have HD := Lib.hid hD
  have HL := Lib.hid hL
  clear hA hD hL hs hr
  go_upto_region 2 with (first | (refine load_row (ty := 72) rfl rfl rfl HA.out Try.underlying72 rfl info_circle ?_) | (refine store_new (ty := 72) (f' := wf l) rfl rfl rfl rfl zero9 info_circle ?_))
  refine (C _).mono ?_; rintro e w1 ⟨rfl, hb1⟩
  have hD1 := (HD.out.below hb1).alloc (.cells (vec 9 (wf l)) 72)
  have hL1 := below_next HL.out (hb1.alloc hb1.size (.cells (vec 9 (wf l)) 72))
  have hX1 := RowAt.new w1 9 72 (wf l)
  clear C HA HD HL hb1
  go_upto_region 2 with (first | (refine store_new (ty := 72) (f' := wf l) rfl rfl rfl rfl zero9 info_circle ?_))
  show Code.wp _ _ _ _ (w1.alloc (.cells (vec 9 (wf l)) 72))
  generalize w1.alloc (.cells (vec 9 (wf l)) 72) = W1 at *
  generalize w1.heap.size = g1 at *
  refine wp_region_held_drew (S := fun w' => RowAt w' (w.heap.size + 1) 9 72 (wf d) ∧ RowAt w' g1 9 72 (wf l) ∧ Below w.heap.size w w') (by kernel_rfl) ⟨hD1.drew1, hX1.drew1, hL1.drew⟩ (fun hHeld => ?_)
  clear hD1 hL1 hX1
  refine wpAnyH_take (i := 0) (oi := _) (v := .pointer (some ⟨g1, 1, none⟩)) rfl (by kernel_rfl) (by kernel_rfl) (by kernel_rfl) (fun _ _ _ h => h) (Or.inl ⟨by rfl, fun w h => by go_simp⟩) hHeld ?_
  try simp only [Act.put, List.setIfInBounds_toArray, List.set_cons_zero, List.set_cons_succ, List.getElem_toArray, List.getElem_cons_succ, List.getElem_cons_zero]
  refine wpAnyH_take (i := 1) (oi := _) (v := .agg (vec 8 l.r.up)) rfl (by kernel_rfl) (by kernel_rfl) (by kernel_rfl) (fun _ _ _ h => h) (yieldsIf_load_mid (by rfl) _ _ rfl _ _ rfl _ _ ((fun w h => row_radius h.2.1)) Try.underlying70 rfl (size_exact8 _)) hHeld ?_
  try simp only [Act.put, List.setIfInBounds_toArray, List.set_cons_zero, List.set_cons_succ, List.getElem_toArray, List.getElem_cons_succ, List.getElem_cons_zero]
  refine wpAnyH_ready (rs := [2]) (by kernel_rfl) (by simp) ?_
  refine AllReadyH.cons (o := _) rfl (fun K hK => ?_) AllReadyH.nil
  go_simp
  refine (VA _).mono ?_; rintro e w2 ⟨rfl, hb2⟩
  go_wp2_with fail
  obtain ⟨h1, h2, h3⟩ := hHeld
  refine hK.out _ _ ⟨h1.below hb2, h2.below hb2, below_next h3 hb2⟩ (fun hHeld => ?_)
  clear hK K
  try simp only [Act.put, List.setIfInBounds_toArray, List.set_cons_zero, List.set_cons_succ, List.getElem_toArray, List.getElem_cons_succ, List.getElem_cons_zero]
  clear h1 h2 h3 hb2 VA
  cases hk : okv l.r
  · refine wpAnyH_take (i := 3) (oi := _) (v := .bool false) rfl (by kernel_rfl) (by kernel_rfl) (by kernel_rfl) (fun _ _ _ h => h) (Or.inl ⟨by rfl, fun w h => by go_simp⟩) hHeld ?_
    try simp only [Act.put, List.setIfInBounds_toArray, List.set_cons_zero, List.set_cons_succ, List.getElem_toArray, List.getElem_cons_succ, List.getElem_cons_zero]
    refine wpAnyH_take (i := 4) (oi := _) (v := undef) rfl (by kernel_rfl) (by kernel_rfl) (by kernel_rfl) (fun _ _ _ h => h) (Or.inr ⟨by rfl, rfl⟩) hHeld ?_
    try simp only [Act.put, List.setIfInBounds_toArray, List.set_cons_zero, List.set_cons_succ, List.getElem_toArray, List.getElem_cons_succ, List.getElem_cons_zero]
    refine wpAnyH_take (i := 5) (oi := _) (v := undef) rfl (by kernel_rfl) (by kernel_rfl) (by kernel_rfl) (fun _ _ _ h => h) (Or.inr ⟨by rfl, rfl⟩) hHeld ?_
    try simp only [Act.put, List.setIfInBounds_toArray, List.set_cons_zero, List.set_cons_succ, List.getElem_toArray, List.getElem_cons_succ, List.getElem_cons_zero]
    refine wpAnyH_take (i := 6) (oi := _) (v := undef) rfl (by kernel_rfl) (by kernel_rfl) (by kernel_rfl) (fun _ _ _ h => h) (Or.inr ⟨by rfl, rfl⟩) hHeld ?_
    try simp only [Act.put, List.setIfInBounds_toArray, List.set_cons_zero, List.set_cons_succ, List.getElem_toArray, List.getElem_cons_succ, List.getElem_cons_zero]
    refine wpAnyH_take (i := 7) (oi := _) (v := undef) rfl (by kernel_rfl) (by kernel_rfl) (by kernel_rfl) (fun _ _ _ h => h) (Or.inr ⟨by rfl, rfl⟩) hHeld ?_
    try simp only [Act.put, List.setIfInBounds_toArray, List.set_cons_zero, List.set_cons_succ, List.getElem_toArray, List.getElem_cons_succ, List.getElem_cons_zero]
    refine wpAnyH_take (i := 8) (oi := _) (v := undef) rfl (by kernel_rfl) (by kernel_rfl) (by kernel_rfl) (fun _ _ _ h => h) (Or.inr ⟨by rfl, rfl⟩) hHeld ?_
    try simp only [Act.put, List.setIfInBounds_toArray, List.set_cons_zero, List.set_cons_succ, List.getElem_toArray, List.getElem_cons_succ, List.getElem_cons_zero]
    refine wpAnyH_take (i := 9) (oi := _) (v := .bool false) rfl (by kernel_rfl) (by kernel_rfl) (by kernel_rfl) (fun _ _ _ h => h) (Or.inl ⟨by rfl, fun w h => by go_simp⟩) hHeld ?_
    try simp only [Act.put, List.setIfInBounds_toArray, List.set_cons_zero, List.set_cons_succ, List.getElem_toArray, List.getElem_cons_succ, List.getElem_cons_zero]
    refine wpAnyH_take (i := 10) (oi := _) (v := .bool false) rfl (by kernel_rfl) (by kernel_rfl) (by kernel_rfl) (fun _ _ _ h => h) (Or.inl ⟨by rfl, fun w h => by go_simp⟩) hHeld ?_
    try simp only [Act.put, List.setIfInBounds_toArray, List.set_cons_zero, List.set_cons_succ, List.getElem_toArray, List.getElem_cons_succ, List.getElem_cons_zero]
    refine wpAnyH_done (by kernel_rfl) ?_ _
    have HL := Lib.hid hHeld.2.2
    clear hHeld
    go_wp2
    go_ret
    exact ⟨by rw [hk]; rfl, HL.out⟩
  · have T := fun w => cturned_any l b hb hk w
    obtain ⟨t, ht⟩ : ∃ t, turnW b l = t := ⟨_, rfl⟩
    rw [ht] at T E
    have HT := Lib.hid ht
    clear ht
    refine wpAnyH_take (i := 3) (oi := _) (v := .bool true) rfl (by kernel_rfl) (by kernel_rfl) (by kernel_rfl) (fun _ _ _ h => h) (Or.inl ⟨by rfl, fun w h => by go_simp⟩) hHeld ?_
    try simp only [Act.put, List.setIfInBounds_toArray, List.set_cons_zero, List.set_cons_succ, List.getElem_toArray, List.getElem_cons_succ, List.getElem_cons_zero]
    refine wpAnyH_take (i := 4) (oi := _) (v := .agg (vec 9 (wf l))) rfl (by kernel_rfl) (by kernel_rfl) (by kernel_rfl) (fun _ _ _ h => h) (yieldsIf_load_mid (by rfl) _ _ rfl _ _ rfl _ _ ((fun w h => h.2.1.range)) Try.underlying72 rfl (size_circle l)) hHeld ?_
    try simp only [Act.put, List.setIfInBounds_toArray, List.set_cons_zero, List.set_cons_succ, List.getElem_toArray, List.getElem_cons_succ, List.getElem_cons_zero]
    refine wpAnyH_take (i := 5) (oi := _) (v := .int .i64 b) rfl (by kernel_rfl) (by kernel_rfl) (by kernel_rfl) (fun _ _ _ h => h) (Or.inl ⟨by rfl, fun w h => by go_simp⟩) hHeld ?_
    try simp only [Act.put, List.setIfInBounds_toArray, List.set_cons_zero, List.set_cons_succ, List.getElem_toArray, List.getElem_cons_succ, List.getElem_cons_zero]
    refine wpAnyH_take (i := 7) (oi := _) (v := .agg (vec 9 (wf d))) rfl (by kernel_rfl) (by kernel_rfl) (by kernel_rfl) (fun _ _ _ h => h) (yieldsIf_load_mid (by rfl) _ _ rfl _ _ rfl _ _ ((fun w h => h.1.range)) Try.underlying72 rfl (size_circle d)) hHeld ?_
    try simp only [Act.put, List.setIfInBounds_toArray, List.set_cons_zero, List.set_cons_succ, List.getElem_toArray, List.getElem_cons_succ, List.getElem_cons_zero]
    refine wpAnyH_ready (rs := [6]) (by kernel_rfl) (by simp) ?_
    refine AllReadyH.cons (o := _) rfl (fun K hK => ?_) AllReadyH.nil
    go_simp
    refine (T _).mono ?_; rintro e w2 ⟨rfl, hb2⟩
    go_wp2_with fail
    obtain ⟨h1, h2, h3⟩ := hHeld
    refine hK.out _ _ ⟨h1.below hb2, h2.below hb2, below_next h3 hb2⟩ (fun hHeld => ?_)
    clear hK K
    try simp only [Act.put, List.setIfInBounds_toArray, List.set_cons_zero, List.set_cons_succ, List.getElem_toArray, List.getElem_cons_succ, List.getElem_cons_zero]
    clear h1 h2 h3 hb2 T
    refine wpAnyH_take (i := 8) (oi := _) (v := .bool (eqW t d)) rfl (by kernel_rfl) (by kernel_rfl) (by kernel_rfl) (fun _ _ _ h => h) (Or.inl ⟨by rfl, fun w h => by go_simp⟩) hHeld ?_
    try simp only [Act.put, List.setIfInBounds_toArray, List.set_cons_zero, List.set_cons_succ, List.getElem_toArray, List.getElem_cons_succ, List.getElem_cons_zero]
    refine wpAnyH_take (i := 9) (oi := _) (v := .bool (eqW t d)) rfl (by kernel_rfl) (by kernel_rfl) (by kernel_rfl) (fun _ _ _ h => h) (Or.inl ⟨by rfl, fun w h => by go_simp⟩) hHeld ?_
    try simp only [Act.put, List.setIfInBounds_toArray, List.set_cons_zero, List.set_cons_succ, List.getElem_toArray, List.getElem_cons_succ, List.getElem_cons_zero]
    refine wpAnyH_take (i := 10) (oi := _) (v := .bool (eqW t d)) rfl (by kernel_rfl) (by kernel_rfl) (by kernel_rfl) (fun _ _ _ h => h) (Or.inl ⟨by rfl, fun w h => by go_simp⟩) hHeld ?_
    try simp only [Act.put, List.setIfInBounds_toArray, List.set_cons_zero, List.set_cons_succ, List.getElem_toArray, List.getElem_cons_succ, List.getElem_cons_zero]
    refine wpAnyH_done (by kernel_rfl) ?_ _
    have HL := Lib.hid hHeld.2.2
    clear hHeld E
    go_wp2
    go_ret
    exact ⟨by rw [hk, HT.out]; rfl, HL.out⟩

set_option maxHeartbeats 2000000 in
theorem isStill_any (c : Wh) (a b : Nat) (ha : a ≤ 23) (hb : b ≤ 23) (hs : inS c.s = true) (hr : okv c.r = true) (w : World) :
    Calls Try.prog 116 #[wh c, .int .i64 a, .int .i64 b] w fun e w' => e = .returned (.bool (stillW a b c)) ∧ Below w.heap.size w w' := by
  have C := fun w => cturned_any c b hb hr w
  have T := fun w => clater_any c a ha hs hr w
  have e1 : stillW a b c = (okv (turnW b c).r && eqW (turnW b c) (laterW a c)) := rfl
  rw [e1]
  clear e1
  generalize laterW a c = t at *
  generalize turnW b c = l at *
  have VA := fun w => validOf l.r w
  have hA : RowAt (w.alloc (.cells (vec 9 (wf c)) 72)) w.heap.size 9 72 (wf c) := RowAt.new _ _ _ _
  have hL : Below w.heap.size w (w.alloc (.cells (vec 9 (wf c)) 72)) := (Below.refl _ _).alloc (Nat.le_refl _) _
  have E := equal_cir l t
  go_enter Try.func116, Try.ntmps116
  go_upto_region 1 with fail
  show Code.wp _ _ _ _ (w.alloc (.cells (vec 9 (wf c)) 72))
  generalize w.alloc (.cells (vec 9 (wf c)) 72) = W at *
  have HA := Lib.hid hA
  have HL := Lib.hid hL
  clear hA hL hs hr
  go_upto_region 2 with (first | (refine load_row (ty := 72) rfl rfl rfl HA.out Try.underlying72 rfl info_circle ?_) | (refine store_new (ty := 72) (f' := wf l) rfl rfl rfl rfl zero9 info_circle ?_))
  refine (C _).mono ?_; rintro e w1 ⟨rfl, hb1⟩
  have hD1 := (HA.out.below hb1).alloc (.cells (vec 9 (wf l)) 72)
  have hL1 := below_next HL.out (hb1.alloc hb1.size (.cells (vec 9 (wf l)) 72))
  have hX1 := RowAt.new w1 9 72 (wf l)
  clear C HA HL hb1
  go_upto_region 2 with (first | (refine store_new (ty := 72) (f' := wf l) rfl rfl rfl rfl zero9 info_circle ?_))
  show Code.wp _ _ _ _ (w1.alloc (.cells (vec 9 (wf l)) 72))
  generalize w1.alloc (.cells (vec 9 (wf l)) 72) = W1 at *
  generalize w1.heap.size = g1 at *
  refine wp_region_held_drew (S := fun w' => RowAt w' w.heap.size 9 72 (wf c) ∧ RowAt w' g1 9 72 (wf l) ∧ Below w.heap.size w w') (by kernel_rfl) ⟨hD1.drew1, hX1.drew1, hL1.drew⟩ (fun hHeld => ?_)
  clear hD1 hL1 hX1
  refine wpAnyH_take (i := 0) (oi := _) (v := .pointer (some ⟨g1, 1, none⟩)) rfl (by kernel_rfl) (by kernel_rfl) (by kernel_rfl) (fun _ _ _ h => h) (Or.inl ⟨by rfl, fun w h => by go_simp⟩) hHeld ?_
  try simp only [Act.put, List.setIfInBounds_toArray, List.set_cons_zero, List.set_cons_succ, List.getElem_toArray, List.getElem_cons_succ, List.getElem_cons_zero]
  refine wpAnyH_take (i := 1) (oi := _) (v := .agg (vec 8 l.r.up)) rfl (by kernel_rfl) (by kernel_rfl) (by kernel_rfl) (fun _ _ _ h => h) (yieldsIf_load_mid (by rfl) _ _ rfl _ _ rfl _ _ ((fun w h => row_radius h.2.1)) Try.underlying70 rfl (size_exact8 _)) hHeld ?_
  try simp only [Act.put, List.setIfInBounds_toArray, List.set_cons_zero, List.set_cons_succ, List.getElem_toArray, List.getElem_cons_succ, List.getElem_cons_zero]
  refine wpAnyH_ready (rs := [2]) (by kernel_rfl) (by simp) ?_
  refine AllReadyH.cons (o := _) rfl (fun K hK => ?_) AllReadyH.nil
  go_simp
  refine (VA _).mono ?_; rintro e w2 ⟨rfl, hb2⟩
  go_wp2_with fail
  obtain ⟨h1, h2, h3⟩ := hHeld
  refine hK.out _ _ ⟨h1.below hb2, h2.below hb2, below_next h3 hb2⟩ (fun hHeld => ?_)
  clear hK K
  try simp only [Act.put, List.setIfInBounds_toArray, List.set_cons_zero, List.set_cons_succ, List.getElem_toArray, List.getElem_cons_succ, List.getElem_cons_zero]
  clear h1 h2 h3 hb2 VA
  cases hk : okv l.r
  · refine wpAnyH_take (i := 3) (oi := _) (v := .bool false) rfl (by kernel_rfl) (by kernel_rfl) (by kernel_rfl) (fun _ _ _ h => h) (Or.inl ⟨by rfl, fun w h => by go_simp⟩) hHeld ?_
    try simp only [Act.put, List.setIfInBounds_toArray, List.set_cons_zero, List.set_cons_succ, List.getElem_toArray, List.getElem_cons_succ, List.getElem_cons_zero]
    refine wpAnyH_take (i := 4) (oi := _) (v := undef) rfl (by kernel_rfl) (by kernel_rfl) (by kernel_rfl) (fun _ _ _ h => h) (Or.inr ⟨by rfl, rfl⟩) hHeld ?_
    try simp only [Act.put, List.setIfInBounds_toArray, List.set_cons_zero, List.set_cons_succ, List.getElem_toArray, List.getElem_cons_succ, List.getElem_cons_zero]
    refine wpAnyH_take (i := 5) (oi := _) (v := undef) rfl (by kernel_rfl) (by kernel_rfl) (by kernel_rfl) (fun _ _ _ h => h) (Or.inr ⟨by rfl, rfl⟩) hHeld ?_
    try simp only [Act.put, List.setIfInBounds_toArray, List.set_cons_zero, List.set_cons_succ, List.getElem_toArray, List.getElem_cons_succ, List.getElem_cons_zero]
    refine wpAnyH_take (i := 6) (oi := _) (v := undef) rfl (by kernel_rfl) (by kernel_rfl) (by kernel_rfl) (fun _ _ _ h => h) (Or.inr ⟨by rfl, rfl⟩) hHeld ?_
    try simp only [Act.put, List.setIfInBounds_toArray, List.set_cons_zero, List.set_cons_succ, List.getElem_toArray, List.getElem_cons_succ, List.getElem_cons_zero]
    refine wpAnyH_take (i := 7) (oi := _) (v := undef) rfl (by kernel_rfl) (by kernel_rfl) (by kernel_rfl) (fun _ _ _ h => h) (Or.inr ⟨by rfl, rfl⟩) hHeld ?_
    try simp only [Act.put, List.setIfInBounds_toArray, List.set_cons_zero, List.set_cons_succ, List.getElem_toArray, List.getElem_cons_succ, List.getElem_cons_zero]
    refine wpAnyH_take (i := 8) (oi := _) (v := undef) rfl (by kernel_rfl) (by kernel_rfl) (by kernel_rfl) (fun _ _ _ h => h) (Or.inr ⟨by rfl, rfl⟩) hHeld ?_
    try simp only [Act.put, List.setIfInBounds_toArray, List.set_cons_zero, List.set_cons_succ, List.getElem_toArray, List.getElem_cons_succ, List.getElem_cons_zero]
    refine wpAnyH_take (i := 9) (oi := _) (v := .bool false) rfl (by kernel_rfl) (by kernel_rfl) (by kernel_rfl) (fun _ _ _ h => h) (Or.inl ⟨by rfl, fun w h => by go_simp⟩) hHeld ?_
    try simp only [Act.put, List.setIfInBounds_toArray, List.set_cons_zero, List.set_cons_succ, List.getElem_toArray, List.getElem_cons_succ, List.getElem_cons_zero]
    refine wpAnyH_take (i := 10) (oi := _) (v := .bool false) rfl (by kernel_rfl) (by kernel_rfl) (by kernel_rfl) (fun _ _ _ h => h) (Or.inl ⟨by rfl, fun w h => by go_simp⟩) hHeld ?_
    try simp only [Act.put, List.setIfInBounds_toArray, List.set_cons_zero, List.set_cons_succ, List.getElem_toArray, List.getElem_cons_succ, List.getElem_cons_zero]
    refine wpAnyH_done (by kernel_rfl) ?_ _
    have HL := Lib.hid hHeld.2.2
    clear hHeld
    go_wp2
    go_ret
    exact ⟨by rw [hk]; rfl, HL.out⟩
  · refine wpAnyH_take (i := 3) (oi := _) (v := .bool true) rfl (by kernel_rfl) (by kernel_rfl) (by kernel_rfl) (fun _ _ _ h => h) (Or.inl ⟨by rfl, fun w h => by go_simp⟩) hHeld ?_
    try simp only [Act.put, List.setIfInBounds_toArray, List.set_cons_zero, List.set_cons_succ, List.getElem_toArray, List.getElem_cons_succ, List.getElem_cons_zero]
    refine wpAnyH_take (i := 4) (oi := _) (v := .agg (vec 9 (wf l))) rfl (by kernel_rfl) (by kernel_rfl) (by kernel_rfl) (fun _ _ _ h => h) (yieldsIf_load_mid (by rfl) _ _ rfl _ _ rfl _ _ ((fun w h => h.2.1.range)) Try.underlying72 rfl (size_circle l)) hHeld ?_
    try simp only [Act.put, List.setIfInBounds_toArray, List.set_cons_zero, List.set_cons_succ, List.getElem_toArray, List.getElem_cons_succ, List.getElem_cons_zero]
    refine wpAnyH_take (i := 5) (oi := _) (v := .agg (vec 9 (wf c))) rfl (by kernel_rfl) (by kernel_rfl) (by kernel_rfl) (fun _ _ _ h => h) (yieldsIf_load_mid (by rfl) _ _ rfl _ _ rfl _ _ ((fun w h => h.1.range)) Try.underlying72 rfl (size_circle c)) hHeld ?_
    try simp only [Act.put, List.setIfInBounds_toArray, List.set_cons_zero, List.set_cons_succ, List.getElem_toArray, List.getElem_cons_succ, List.getElem_cons_zero]
    refine wpAnyH_take (i := 6) (oi := _) (v := .int .i64 a) rfl (by kernel_rfl) (by kernel_rfl) (by kernel_rfl) (fun _ _ _ h => h) (Or.inl ⟨by rfl, fun w h => by go_simp⟩) hHeld ?_
    try simp only [Act.put, List.setIfInBounds_toArray, List.set_cons_zero, List.set_cons_succ, List.getElem_toArray, List.getElem_cons_succ, List.getElem_cons_zero]
    refine wpAnyH_ready (rs := [7]) (by kernel_rfl) (by simp) ?_
    refine AllReadyH.cons (o := _) rfl (fun K hK => ?_) AllReadyH.nil
    go_simp
    refine (T _).mono ?_; rintro e w2 ⟨rfl, hb2⟩
    go_wp2_with fail
    obtain ⟨h1, h2, h3⟩ := hHeld
    refine hK.out _ _ ⟨h1.below hb2, h2.below hb2, below_next h3 hb2⟩ (fun hHeld => ?_)
    clear hK K
    try simp only [Act.put, List.setIfInBounds_toArray, List.set_cons_zero, List.set_cons_succ, List.getElem_toArray, List.getElem_cons_succ, List.getElem_cons_zero]
    clear h1 h2 h3 hb2 T
    refine wpAnyH_take (i := 8) (oi := _) (v := .bool (eqW l t)) rfl (by kernel_rfl) (by kernel_rfl) (by kernel_rfl) (fun _ _ _ h => h) (Or.inl ⟨by rfl, fun w h => by go_simp⟩) hHeld ?_
    try simp only [Act.put, List.setIfInBounds_toArray, List.set_cons_zero, List.set_cons_succ, List.getElem_toArray, List.getElem_cons_succ, List.getElem_cons_zero]
    refine wpAnyH_take (i := 9) (oi := _) (v := .bool (eqW l t)) rfl (by kernel_rfl) (by kernel_rfl) (by kernel_rfl) (fun _ _ _ h => h) (Or.inl ⟨by rfl, fun w h => by go_simp⟩) hHeld ?_
    try simp only [Act.put, List.setIfInBounds_toArray, List.set_cons_zero, List.set_cons_succ, List.getElem_toArray, List.getElem_cons_succ, List.getElem_cons_zero]
    refine wpAnyH_take (i := 10) (oi := _) (v := .bool (eqW l t)) rfl (by kernel_rfl) (by kernel_rfl) (by kernel_rfl) (fun _ _ _ h => h) (Or.inl ⟨by rfl, fun w h => by go_simp⟩) hHeld ?_
    try simp only [Act.put, List.setIfInBounds_toArray, List.set_cons_zero, List.set_cons_succ, List.getElem_toArray, List.getElem_cons_succ, List.getElem_cons_zero]
    refine wpAnyH_done (by kernel_rfl) ?_ _
    have HL := Lib.hid hHeld.2.2
    clear hHeld E
    go_wp2
    go_ret
    exact ⟨by rw [hk]; rfl, HL.out⟩

end Go.Proofs.Ytdbokcbbpegilaa
/- impl: all pairs of turns. -/
namespace Go.Proofs.Ytdbokcbbpegilaa
set_option maxRecDepth 20000
open Go.ChangeShapes Go.WideShapes Go.ChangeAt Go.RowKit
set_option linter.unusedVariables false
set_option linter.unusedSimpArgs false
attribute [local go_sem] Oper.semAt_some

/-! All pairs of turns. -/
abbrev PT := Fin 24 × Fin 24
def encP (x : PT) : Array Value := #[.int .i64 ((x.1.1 : Nat) : Int), .int .i64 ((x.2.1 : Nat) : Int)]
def pairAt (n : Nat) : PT := (⟨n / 24 % 24, Nat.mod_lt _ (by omega)⟩, ⟨n % 24, Nat.mod_lt _ (by omega)⟩)
def pairsTo (n : Nat) : List PT := (List.range n).map pairAt
theorem pairsTo_len (n : Nat) : (pairsTo n).length = n := by simp [pairsTo]
theorem pairAt_is {a b : Nat} (ha : a < 24) (hb : b < 24) : pairAt (24 * a + b) = (⟨a, ha⟩, ⟨b, hb⟩) := by
  unfold pairAt
  refine Prod.ext (Fin.ext ?_) (Fin.ext ?_)
  · show (24 * a + b) / 24 % 24 = a
    omega
  · show (24 * a + b) % 24 = b
    omega
theorem pairsTo_next {a b : Nat} (ha : a < 24) (hb : b < 24) : pairsTo (24 * a + b) ++ [(⟨a, ha⟩, ⟨b, hb⟩)] = pairsTo (24 * a + b + 1) := by
  unfold pairsTo
  rw [List.range_succ, List.map_append, List.map_singleton, pairAt_is ha hb]

set_option maxHeartbeats 2000000 in
theorem turnPairs_stops (n : Nat) (hn : 1 ≤ n) (w : World) : SeqStopsK Fence.wide n Try.prog 114 #[] encP (fun _ _ => True) (fun xs => xs = pairsTo 576) (fun pre => ∃ m, m < 576 ∧ pre = pairsTo (m + 1)) 576 w := fun l J Jx W _ _ _ hY h0 => by
  refine callsIn_of_wp Try.func114 rfl trivial ?_ rfl
  simp only [Try.ntmps114, List.size_toArray, List.length_cons, List.length_nil, Nat.reduceAdd, Nat.reduceSub, Array.replicate_succ, Array.replicate_zero, List.push_toArray, List.append_toArray, List.nil_append, List.cons_append]
  gi_wp2
  gi_loopw [2, 3, 4, 7] (fun _ _ f _ wr => ∃ a : Nat, a ≤ 24 ∧ f = .int .i64 a ∧ J (pairsTo (24 * a)) wr) (fun _ _ f _ _ => 24 - (intOf f).toNat)
  case atStart => exact ⟨0, by omega, rfl, h0⟩
  case round =>
    obtain ⟨a, ha, rfl, hJ⟩ := hrel
    by_cases hlt : a < 24
    · have hlz : (a : Int) < 24 := by omega
      gi_wp2
      gi_loopw [3, 7] (fun _ s wr => ∃ b : Nat, b ≤ 24 ∧ s = .int .i64 b ∧ J (pairsTo (24 * a + b)) wr) (fun _ s _ => 24 - (intOf s).toNat)
      case atStart => exact ⟨0, by omega, rfl, hJ⟩
      case round =>
        obtain ⟨b, hb, rfl, hJ2⟩ := hrel
        by_cases hlt2 : b < 24
        · have hlz2 : (b : Int) < 24 := by omega
          obtain ⟨fn, tmps, assign, body, hy, hR⟩ := hY (pairsTo (24 * a + b)) (⟨a, hlt⟩, ⟨b, hlt2⟩) _ hJ2 (by rw [pairsTo_len]; omega)
          rw [pairsTo_next hlt hlt2] at hR
          dsimp only [encP] at hy
          gi_wp2
          refine hR.mono ?_
          rintro e W3 (⟨rfl, hJ3, _⟩ | ⟨rfl, hx3⟩)
          · gi_wp2
            go_roundw
            case rel => exact ⟨b + 1, by omega, by go_num, hJ3⟩
            case measure => simp [intOf]; omega
          · gi_wp2
            refine bodyPost_ret (results_none rfl _ _ _) rfl ?_
            exact ⟨⟨_, rfl⟩, .inr ⟨_, ⟨24 * a + b, by omega, rfl⟩, hx3⟩⟩
        · obtain rfl : b = 24 := by omega
          gi_wp2
          go_roundw
          case rel => exact ⟨a + 1, by omega, by go_num, by rw [show 24 * (a + 1) = 24 * a + 24 from by omega]; exact hJ2⟩
          case measure => simp [intOf]; omega
    · obtain rfl : a = 24 := by omega
      gi_wp2
      go_end0
      exact ⟨⟨_, rfl⟩, .inl ⟨_, rfl, hJ⟩⟩

end Go.Proofs.Ytdbokcbbpegilaa
/- impl: the least pair of turns that leads a design to another. -/
namespace Go.Proofs.Ytdbokcbbpegilaa
set_option maxRecDepth 20000
open Go.ChangeShapes Go.WideShapes Go.ChangeAt Go.RowKit
set_option linter.unusedVariables false
set_option linter.unusedSimpArgs false
attribute [local go_sem] Oper.semAt_some

/-! What the function's own cells hold. -/
structure Box4 (n : Nat) (v1 v2 : Value) (num : Int) (fd : Bool) (W : World) : Prop where
  c1 : W.cell? ⟨n, 0, none⟩ = some v1
  c2 : W.cell? ⟨n + 1, 0, none⟩ = some v2
  c3 : W.cell? ⟨n + 1 + 1, 0, none⟩ = some (.int .i64 num)
  f3 : W.frozen? ⟨n + 1 + 1, 0, none⟩ = false
  c4 : W.cell? ⟨n + 1 + 1 + 1, 0, none⟩ = some (.bool fd)
  f4 : W.frozen? ⟨n + 1 + 1 + 1, 0, none⟩ = false
theorem Box4.keep {n : Nat} {v1 v2 : Value} {num : Int} {fd : Bool} {A B : World} {row : Option Nat} (h : Box4 n v1 v2 num fd A) (hg : A.grownBy B row) (hr : ∀ r, row = some r → ∃ o : Obj, A.heap[r]? = some o ∧ o.isCells = false) : Box4 n v1 v2 num fd B :=
  ⟨cell_kept h.c1 hg hr, cell_kept h.c2 hg hr, cell_kept h.c3 hg hr, (frozen_kept h.c3 hg hr).trans h.f3, cell_kept h.c4 hg hr, (frozen_kept h.c4 hg hr).trans h.f4⟩
theorem Box4.below {n : Nat} {v1 v2 : Value} {num : Int} {fd : Bool} {A B : World} (h : Box4 n v1 v2 num fd A) (hb : Below A.heap.size A B) : Box4 n v1 v2 num fd B :=
  h.keep (row := none) ⟨hb.os, hb.tape, hb.output, hb.size, fun k hk _ => hb.block k hk⟩ (fun r e => by cases e)
theorem Box4.found {n : Nat} {v1 v2 : Value} {num : Int} {fd : Bool} {A : World} (h : Box4 n v1 v2 num fd A) (m : Int) : Box4 n v1 v2 m true ((A.setCell ⟨n + 1 + 1, 0, none⟩ (.int .i64 m)).setCell ⟨n + 1 + 1 + 1, 0, none⟩ (.bool true)) := by
  refine ⟨?_, ?_, ?_, ?_, ?_, ?_⟩
  · rw [World.cell?_setCell_other _ _ _ _ (by simp), World.cell?_setCell_other _ _ _ _ (by simp)]; exact h.c1
  · rw [World.cell?_setCell_other _ _ _ _ (by simp), World.cell?_setCell_other _ _ _ _ (by simp)]; exact h.c2
  · rw [World.cell?_setCell_other _ _ _ _ (by simp)]; exact World.cell?_setCell_same' _ _ _ (by rw [h.c3]; rfl)
  · rw [World.frozen?_setCell, World.frozen?_setCell]; exact h.f3
  · exact World.cell?_setCell_same' _ _ _ (by rw [World.cell?_setCell_other _ _ _ _ (by simp), h.c4]; rfl)
  · rw [World.frozen?_setCell, World.frozen?_setCell]; exact h.f4
def box4W (w : World) (v1 v2 : Value) : World := (((w.alloc (.cells #[v1] 76)).alloc (.cells #[v2] 76)).alloc (.cells #[.int .i64 0] 3)).alloc (.cells #[.bool false] 4)
theorem box4W_size (w : World) (v1 v2 : Value) : (box4W w v1 v2).heap.size = w.heap.size + 4 := by simp [box4W]
theorem box4W_below (w : World) (v1 v2 : Value) : Below w.heap.size w (box4W w v1 v2) := ((((Below.refl _ w).alloc (Nat.le_refl _) _).alloc (by simp) _).alloc (by simp; omega) _).alloc (by simp; omega) _
theorem box_here (w : World) (v : Value) (T : TypeId) : (w.alloc (.cells #[v] T)).cell? ⟨w.heap.size, 0, none⟩ = some v ∧ (w.alloc (.cells #[v] T)).frozen? ⟨w.heap.size, 0, none⟩ = false :=
  ⟨by rw [cell_of_row _ _ _ _ _ _ (heap_alloc_new w _)]; rfl, frozen_of_row _ _ _ _ _ (heap_alloc_new w _)⟩
theorem box_on {w : World} {g : Nat} {v : Value} (o : Obj) (h : w.cell? ⟨g, 0, none⟩ = some v ∧ w.frozen? ⟨g, 0, none⟩ = false) : (w.alloc o).cell? ⟨g, 0, none⟩ = some v ∧ (w.alloc o).frozen? ⟨g, 0, none⟩ = false := by
  have hb : Below w.heap.size w (w.alloc o) := (Below.refl _ w).alloc (Nat.le_refl _) o
  have hl : g < w.heap.size := World.block_lt_of_cell? w _ h.1
  exact ⟨(hb.cell (p := ⟨g, 0, none⟩) hl).trans h.1, (hb.frozen (p := ⟨g, 0, none⟩) hl).trans h.2⟩
theorem box4W_holds (w : World) (v1 v2 : Value) : Box4 w.heap.size v1 v2 0 false (box4W w v1 v2) := by
  have c0 := box_here w v1 76
  have c1 := box_here (w.alloc (.cells #[v1] 76)) v2 76
  have c2 := box_here ((w.alloc (.cells #[v1] 76)).alloc (.cells #[v2] 76)) (.int .i64 0) 3
  have c3 := box_here (((w.alloc (.cells #[v1] 76)).alloc (.cells #[v2] 76)).alloc (.cells #[.int .i64 0] 3)) (.bool false) 4
  simp only [World.size_alloc] at c1 c2 c3
  have d0 := box_on (.cells #[.bool false] 4) (box_on (.cells #[.int .i64 0] 3) (box_on (.cells #[v2] 76) c0))
  have d1 := box_on (.cells #[.bool false] 4) (box_on (.cells #[.int .i64 0] 3) c1)
  have d2 := box_on (.cells #[.bool false] 4) c2
  exact ⟨d0.1, d1.1, d2.1, d2.2, c3.1, c3.2⟩

def leadP (X Y : List Wh) (x : PT) : Bool := leadL x.1.1 x.2.1 X Y
theorem leadP_at (X Y : List Wh) {n : Nat} (h : n < 576) : leadP X Y (pairAt n) = akinP X Y n := by
  unfold leadP akinP pairAt
  show leadL (n / 24 % 24) (n % 24) X Y = _
  rw [show n / 24 % 24 = n / 24 from by omega]
theorem akin_none {X Y : List Wh} (h : ∀ x ∈ pairsTo 576, leadP X Y x = false) : akinO X Y = none := by
  unfold akinO
  have go : ∀ n, n ≤ 576 → firstP (akinP X Y) n = none := fun n => by
    induction n with
    | zero => intro _; rfl
    | succ n ih =>
      intro hn
      refine firstP_no (ih (by omega)) ?_
      rw [← leadP_at X Y (by omega)]
      exact h _ (List.mem_map.2 ⟨n, by simp; omega, rfl⟩)
  exact go 576 (Nat.le_refl _)
theorem pairsTo_last {m : Nat} {q : List PT} {x : PT} (h : pairsTo (m + 1) = q ++ [x]) : q = pairsTo m ∧ x = pairAt m := by
  unfold pairsTo at h
  rw [List.range_succ, List.map_append, List.map_singleton] at h
  have := List.append_inj' h rfl
  exact ⟨this.1.symm, by simpa using this.2.symm⟩
theorem akin_some {X Y : List Wh} {m : Nat} (hm : m < 576) {q : List PT} {x : PT} (h : pairsTo (m + 1) = q ++ [x]) (hq : ∀ y ∈ q, leadP X Y y = false) (hx : leadP X Y x = true) : akinO X Y = some (24 * x.1.1 + x.2.1) := by
  obtain ⟨rfl, rfl⟩ := pairsTo_last h
  rw [leadP_at X Y hm] at hx
  have go : ∀ n, n ≤ m → firstP (akinP X Y) n = none := fun n => by
    induction n with
    | zero => intro _; rfl
    | succ n ih =>
      intro hn
      refine firstP_no (ih (by omega)) ?_
      rw [← leadP_at X Y (by omega)]
      exact hq _ (List.mem_map.2 ⟨n, by simp; omega, rfl⟩)
  have h1 := firstP_on (firstP_yes (go m (Nat.le_refl _)) hx) (show m + 1 ≤ 576 by omega)
  unfold akinO
  rw [h1]
  congr 1
  show m = 24 * (m / 24 % 24) + m % 24
  omega
/-- The first wheels lead to each other. -/
def leadK (a b : Nat) (X Y : List Wh) (k : Nat) : Prop := ∀ i c d, i < k → X[i]? = some c → Y[i]? = some d → leadW a b c d = true
theorem leadL_of {a b : Nat} : ∀ {X Y : List Wh}, X.length = Y.length → leadK a b X Y X.length → leadL a b X Y = true
  | [], [], _, _ => rfl
  | [], d :: ds, h, _ => by simp at h
  | c :: cs, [], h, _ => by simp at h
  | c :: cs, d :: ds, h, hk => by
    unfold leadL
    rw [hk 0 c d (by simp) rfl rfl, leadL_of (by simpa using h) fun i c' d' hi hc hd => hk (i + 1) c' d' (by simp; omega) (by simpa using hc) (by simpa using hd)]
    rfl
theorem leadL_no {a b : Nat} {X Y : List Wh} {k : Nat} {c d : Wh} (hc : X[k]? = some c) (hd : Y[k]? = some d) (h : leadW a b c d = false) : leadL a b X Y = false := by
  induction X generalizing Y k with
  | nil => simp at hc
  | cons e X ih =>
    cases Y with
    | nil => simp at hd
    | cons f Y =>
      unfold leadL
      cases k with
      | zero =>
        simp only [List.getElem?_cons_zero, Option.some.injEq] at hc hd
        subst hc; subst hd
        rw [h]; rfl
      | succ k =>
        rw [ih (by simpa using hc) (by simpa using hd), Bool.and_false]

theorem leastPair_len (v1 v2 : Value) (X Y : List Wh) (w : World) (h1 : Reads w v1 X) (h2 : Reads w v2 Y) (hl : ¬ X.length = Y.length) :
    Calls Try.prog 74 #[v1, v2] w fun e w' => e = .returned (.tuple #[.int .i64 0, .bool false]) ∧ Below w.heap.size w w' := by
  obtain ⟨p1, cap1, rfl, _⟩ := h1
  obtain ⟨p2, cap2, rfl, _⟩ := h2
  have hne : ((X.length : Int) != (Y.length : Int)) = true := by simp; omega
  go_enter Try.func74, Try.ntmps74
  go_wp2
  go_step3
  go_wp2
  rw [Exit.noGoto_ret]
  go_ret2
  exact ⟨rfl, ((Below.refl _ w).alloc (Nat.le_refl _) _).alloc (by simp) _⟩

set_option maxHeartbeats 4000000 in
theorem leastPair_any (v1 v2 : Value) (X Y : List Wh) (w : World) (h1 : Reads w v1 X) (h2 : Reads w v2 Y) (hX : ∀ c ∈ X, inS c.s = true ∧ okv c.r = true) (hl : X.length = Y.length) (hn : X.length ≤ 12) :
    Calls Try.prog 74 #[v1, v2] w fun e w' => e = .returned (.tuple #[.int .i64 (((akinO X Y).getD 0 : Nat) : Int), .bool (akinO X Y).isSome]) ∧ Below w.heap.size w w' := by
  obtain ⟨p1, cap1, rfl, hc1, hc2, hp0, hp⟩ := h1
  obtain ⟨p2, cap2, rfl, hd1, hd2, hq0, hq⟩ := h2
  simp only [maxLen] at hc2 hd2
  obtain ⟨m, hm⟩ : ∃ m, X.length = m := ⟨_, rfl⟩
  rw [← hl] at hd1 ⊢
  rw [hm] at hl hc1 hd1 hn ⊢
  have HM := Lib.hid hm
  have HML := Lib.hid hl
  have HX := Lib.hid hX
  have HP := Lib.hid hp
  have HQ := Lib.hid hq
  clear hm hl hX hp hq
  refine (callsIn_wide (n := 3)).1 (callsIn_of_wp_marks Try.func74 rfl trivial ?_ rfl)
  refine (wpIn_wide (n := 3)).2 ?_
  simp only [Try.ntmps74, List.size_toArray, List.length_cons, List.length_nil, Nat.reduceAdd, Nat.reduceSub, Array.replicate_succ, Array.replicate_zero, List.push_toArray, List.append_toArray, List.nil_append, List.cons_append]
  go_wp2
  go_step3
  go_wp2
  go_step3
  go_wp2
  show Code.wp _ _ _ _ (box4W w (.slice p1 m cap1) (.slice p2 m cap2))
  have hB4 := box4W_holds w (.slice p1 m cap1) (.slice p2 m cap2)
  have hB0 := box4W_below w (.slice p1 m cap1) (.slice p2 m cap2)
  have hsz := box4W_size w (.slice p1 m cap1) (.slice p2 m cap2)
  generalize box4W w (.slice p1 m cap1) (.slice p2 m cap2) = W0 at *
  refine (wpIn_wide (n := 3)).1 ?_
  refine wpIn_rangeFunc_ownF rfl (by omega) (gf := 114) (lb := #[]) rfl trivial (enters_of Try.func114 (by kernel_rfl) rfl) (turnPairs_stops _ (by omega) W0) (fun _ _ => trivial) (fun _ _ _ _ _ _ _ _ => trivial) (Below.refl _ _) (fun _ => rfl)
    (fun pre W => (Box4 w.heap.size (.slice p1 m cap1) (.slice p2 m cap2) 0 false W ∧ ∀ x ∈ pre, leadP X Y x = false) ∧ Below w.heap.size w W)
    (fun c pre W => (c = .exit 0 ∧ ∃ q x, pre = q ++ [x] ∧ (∀ y ∈ q, leadP X Y y = false) ∧ leadP X Y x = true ∧ Box4 w.heap.size (.slice p1 m cap1) (.slice p2 m cap2) (24 * (x.1.1 : Int) + (x.2.1 : Int)) true W) ∧ Below w.heap.size w W)
    (OwnFrom.and (Own.from (fun s A B row hs hg hr => ⟨hs.1.keep hg hr, hs.2⟩) _) (ownFrom_below (Nat.le_refl _) (by omega)))
    (fun c => OwnFrom.and (Own.from (fun s A B row hs hg hr => by obtain ⟨e, q, x, h1, h2, h3, h4⟩ := hs; exact ⟨e, q, x, h1, h2, h3, h4.keep hg hr⟩) _) (ownFrom_below (Nat.le_refl _) (by omega)))
    ⟨⟨hB4, fun x hx => by cases hx⟩, hB0⟩
    (fun x => { tmps := #[.slice p1 m cap1, .slice p2 m cap2, .pointer (some { block := w.heap.size, off := 0 }), .pointer (some { block := w.heap.size + 1, off := 0 }), .int .i64 0, .bool false, .pointer (some { block := w.heap.size + 1 + 1, off := 0 }), .pointer (some { block := w.heap.size + 1 + 1 + 1, off := 0 }), .int .i64 x.1.1, .int .i64 x.2.1, undef, undef, .slice p1 m cap1, .int .i64 m, .slice p2 m cap2, .int .i64 m, .bool false, .int .i64 x.1.1, .int .i64 x.2.1, undef, undef, undef, undef, undef, undef, undef, undef, undef, undef, undef, undef, undef, undef, undef, undef, undef, undef, undef, undef, undef, undef, undef], defers := [] }) ?assign ?body ?done ?stop
  case assign =>
    intro l x W K hK
    dsimp only [encP]
    gi_wp2
    exact hK
  case body =>
    rintro l pre ⟨⟨a, ha⟩, ⟨b, hb⟩⟩ W ⟨⟨hB4, hpre⟩, hBel⟩ _
    have c1 := hB4.c1
    dsimp only
    gi_wp2
    clear c1
    gi_loopw [10, 11, 21] (fun _ _ i wr => ∃ k : Nat, k ≤ m ∧ i = .int .i64 k ∧ Aside (leadK a b X Y k) ∧ Aside (Box4 w.heap.size (.slice p1 m cap1) (.slice p2 m cap2) 0 false wr) ∧ Aside (Below W.heap.size W wr)) (fun _ _ i _ => m - (intOf i).toNat)
    case atStart => exact ⟨0, Nat.zero_le _, rfl, Lib.hid (fun i _ _ h => absurd h (Nat.not_lt_zero i)), Lib.hid hB4, Lib.hid (Below.refl _ _)⟩
    case round =>
      obtain ⟨k, hk, rfl, hK, hB, hL⟩ := hrel
      have HPRE := Lib.hid hpre
      have HBEL := Lib.hid hBel
      clear hpre hBel hB4 hB0
      by_cases hlt : k < m
      · have hkz : (k : Int) < (m : Int) := by omega
        have hk0 : (0 : Int) ≤ (k : Int) := by omega
        obtain ⟨c, hc⟩ : ∃ c, X[k]? = some c := ⟨_, List.getElem?_eq_getElem (by have := HM.out; omega)⟩
        obtain ⟨d, hd⟩ : ∃ d, Y[k]? = some d := ⟨_, List.getElem?_eq_getElem (by have := HML.out; omega)⟩
        obtain ⟨g, o, rfl, hg, hr⟩ := HP.out (by rintro rfl; have := hp0 rfl; omega)
        obtain ⟨g', o', rfl, hg', hr'⟩ := HQ.out (by rintro rfl; have := hq0 rfl; omega)
        have hall : Below w.heap.size w wr := HBEL.out.trans (hL.out.mono HBEL.out.size)
        have HE := Lib.hid (range_part (range_kept hr hg hall) hc)
        have hE2 := range_part (range_kept hr' hg' hall) hd
        have hcv := HX.out c (List.mem_of_getElem? hc)
        have LT := fun w => leadsTo_any c d a b (by omega) (by omega) hcv.1 hcv.2 w
        have HC := Lib.hid hc
        have HD := Lib.hid hd
        clear hr hr' hg hg' hcv hall hc hd
        gi_upto_region 8 with fail
        refine region_in (by rintro ⟨_, _, h⟩; exact h) rfl ?_
        go_wp2_with (first | (refine load_wheel (T := 72) rfl rfl rfl HE.out Try.underlying72 rfl info_circle ?_) | (refine store_new (ty := 72) rfl rfl rfl rfl zero9 info_circle ?_))
        show Code.wpIn _ _ _ _ _ _ (wr.alloc (.cells (vec 9 (wf c)) 72))
        have HE2 := Lib.hid (range_kept hE2 (World.block_lt_of_cell? wr ⟨g', o' + k * 9, none⟩ (range_speed hE2)) ((Below.refl wr.heap.size wr).alloc (Nat.le_refl _) (.cells (vec 9 (wf c)) 72)))
        have hX := RowAt.new wr 9 72 (wf c)
        have hL1 := hL.out.alloc hL.out.size (.cells (vec 9 (wf c)) 72)
        have hB1 := hB.out.below ((Below.refl wr.heap.size wr).alloc (Nat.le_refl _) (.cells (vec 9 (wf c)) 72))
        clear hE2 hL hB HE
        generalize wr.alloc (.cells (vec 9 (wf c)) 72) = W1 at *
        generalize wr.heap.size = g1 at *
        obtain ⟨r, hr⟩ : ∃ r, leadW a b c d = r := ⟨_, rfl⟩
        rw [hr] at LT
        have HR := Lib.hid hr
        have HL1 := Lib.hid hL1
        have HB1 := Lib.hid hB1
        clear hr
        gi_upto_region 9 with fail
        refine drawn_in (S := fun w' => RowAt w' g1 9 72 (wf c) ∧ w'.cell? ⟨w.heap.size + 1, 0, none⟩ = some (.slice (some ⟨g', o', none⟩) m cap2) ∧ w'.rangeAt g' (o' + k * 9) (enc d) ∧ Below W1.heap.size W1 w') ?hno (by rfl) (by kernel_rfl) ⟨hX.drew1, hB1.c2, HE2.out, (Below.refl _ _).drew⟩ (fun hHeld => ?_)
        case hno => rintro ⟨_, _, h⟩; exact h
        clear hX hL1 hB1 HE2
        refine wpAnyH_take (i := 0) (oi := _) (v := .agg (vec 9 (wf c))) rfl (by kernel_rfl) (by kernel_rfl) (by kernel_rfl) (fun _ _ _ h => h) (yieldsIf_load_mid (by rfl) _ _ rfl _ _ rfl _ _ ((fun w h => h.1.range)) Try.underlying72 rfl (size_circle c)) hHeld ?_
        try simp only [Act.put, List.setIfInBounds_toArray, List.set_cons_zero, List.set_cons_succ, List.getElem_toArray, List.getElem_cons_succ, List.getElem_cons_zero]
        refine wpAnyH_take (i := 1) (oi := _) (v := .slice (some ⟨g', o', none⟩) m cap2) rfl (by kernel_rfl) (by kernel_rfl) (by kernel_rfl) (fun _ _ _ h => h) (Or.inl ⟨by rfl, fun w h => by have hcell := h.2.1; go_simp⟩) hHeld ?_
        try simp only [Act.put, List.setIfInBounds_toArray, List.set_cons_zero, List.set_cons_succ, List.getElem_toArray, List.getElem_cons_succ, List.getElem_cons_zero]
        refine wpAnyH_take (i := 2) (oi := _) (v := .int .i64 k) rfl (by kernel_rfl) (by kernel_rfl) (by kernel_rfl) (fun _ _ _ h => h) (Or.inl ⟨by rfl, fun w h => by go_simp⟩) hHeld ?_
        try simp only [Act.put, List.setIfInBounds_toArray, List.set_cons_zero, List.set_cons_succ, List.getElem_toArray, List.getElem_cons_succ, List.getElem_cons_zero]
        refine wpAnyH_take (i := 3) (oi := _) (v := .pointer (some ⟨g', o' + k * 9, none⟩)) rfl (by kernel_rfl) (by kernel_rfl) (by kernel_rfl) (fun _ _ _ h => h) (Or.inl ⟨by rfl, fun w h => by go_simp⟩) hHeld ?_
        try simp only [Act.put, List.setIfInBounds_toArray, List.set_cons_zero, List.set_cons_succ, List.getElem_toArray, List.getElem_cons_succ, List.getElem_cons_zero]
        refine wpAnyH_take (i := 4) (oi := _) (v := .agg (vec 9 (wf d))) rfl (by kernel_rfl) (by kernel_rfl) (by kernel_rfl) (fun _ _ _ h => h) (yieldsIf_load_mid (by rfl) _ _ rfl _ _ rfl _ _ ((fun w h => h.2.2.1)) Try.underlying72 rfl (size_circle d)) hHeld ?_
        try simp only [Act.put, List.setIfInBounds_toArray, List.set_cons_zero, List.set_cons_succ, List.getElem_toArray, List.getElem_cons_succ, List.getElem_cons_zero]
        refine wpAnyH_take (i := 5) (oi := _) (v := .int .i64 a) rfl (by kernel_rfl) (by kernel_rfl) (by kernel_rfl) (fun _ _ _ h => h) (Or.inl ⟨by rfl, fun w h => by go_simp⟩) hHeld ?_
        try simp only [Act.put, List.setIfInBounds_toArray, List.set_cons_zero, List.set_cons_succ, List.getElem_toArray, List.getElem_cons_succ, List.getElem_cons_zero]
        refine wpAnyH_take (i := 6) (oi := _) (v := .int .i64 b) rfl (by kernel_rfl) (by kernel_rfl) (by kernel_rfl) (fun _ _ _ h => h) (Or.inl ⟨by rfl, fun w h => by go_simp⟩) hHeld ?_
        try simp only [Act.put, List.setIfInBounds_toArray, List.set_cons_zero, List.set_cons_succ, List.getElem_toArray, List.getElem_cons_succ, List.getElem_cons_zero]
        refine wpAnyH_ready (rs := [7]) (by kernel_rfl) (by simp) ?_
        refine AllReadyH.cons (o := _) rfl (fun K hK => ?_) AllReadyH.nil
        go_simp
        refine (LT _).mono ?_; rintro e w2 ⟨rfl, hb2⟩
        go_wp2_with fail
        obtain ⟨q1, q2, q3, q4⟩ := hHeld
        refine hK.out _ _ ⟨q1.below hb2, (hb2.cell (p := ⟨w.heap.size + 1, 0, none⟩) (World.block_lt_of_cell? _ _ q2)).trans q2, range_kept q3 (World.block_lt_of_cell? _ _ (range_speed q3)) hb2, below_next q4 hb2⟩ (fun hHeld => ?_)
        clear hK K
        try simp only [Act.put, List.setIfInBounds_toArray, List.set_cons_zero, List.set_cons_succ, List.getElem_toArray, List.getElem_cons_succ, List.getElem_cons_zero]
        clear q1 q2 q3 q4 hb2 LT
        refine wpAnyH_take (i := 8) (oi := _) (v := .bool (!r)) rfl (by kernel_rfl) (by kernel_rfl) (by kernel_rfl) (fun _ _ _ h => h) (Or.inl ⟨by rfl, fun w h => by go_simp⟩) hHeld ?_
        try simp only [Act.put, List.setIfInBounds_toArray, List.set_cons_zero, List.set_cons_succ, List.getElem_toArray, List.getElem_cons_succ, List.getElem_cons_zero]
        refine wpAnyH_done (by kernel_rfl) ?_ _
        have HL2 := Lib.hid (HL1.out.trans (hHeld.2.2.2.mono HL1.out.size))
        have HB2 := Lib.hid (HB1.out.below hHeld.2.2.2)
        clear hHeld HL1 HB1
        cases r
        · gi_wp2
          refine ⟨keeps_below HL2.out, trivial, ⟨HB2.out, fun y hy => ?_⟩, HBEL.out.trans (HL2.out.mono HBEL.out.size)⟩
          rcases List.mem_append.1 hy with h | h
          · exact HPRE.out y h
          · rw [List.mem_singleton.1 h]
            exact leadL_no HC.out HD.out HR.out
        · gi_wp2
          refine ⟨⟨k + 1, by omega, by go_num, Lib.hid (fun i c' d' hi hc hd => ?_), HB2, HL2⟩, by simp [intOf]; omega⟩
          by_cases e : i = k
          · subst e
            rw [HC.out] at hc
            rw [HD.out] at hd
            rw [← Option.some.inj hc, ← Option.some.inj hd]
            exact HR.out
          · exact hK.out i c' d' (by omega) hc hd
      · have hkm : k = m := by omega
        subst hkm
        have c3 := hB.out.c3
        have f3 := hB.out.f3
        have c4 := hB.out.c4
        have f4 := hB.out.f4
        obtain ⟨n1, hn1⟩ : ∃ n1 : Int, 24 * (a : Int) = n1 := ⟨_, rfl⟩
        obtain ⟨n2, hn2⟩ : ∃ n2 : Int, n1 + (b : Int) = n2 := ⟨_, rfl⟩
        have w1 : IntKind.i64.wrap n1 = n1 := by rw [IntKind.wrap_i64]; omega
        have w2 : IntKind.i64.wrap n2 = n2 := by rw [IntKind.wrap_i64]; omega
        have HN : Aside (24 * (a : Int) + (b : Int) = n2) := (show _ = _ from by rw [hn1, hn2])
        have c4' : (wr.setCell ⟨w.heap.size + 1 + 1, 0, none⟩ (.int .i64 n2)).cell? ⟨w.heap.size + 1 + 1 + 1, 0, none⟩ = some (.bool false) := (World.cell?_setCell_other _ _ _ _ (by simp)).trans c4
        clear c4
        gi_wp2
        refine ⟨(keeps_below hL.out).trans ((KeepsOthers.setCell _ _ _).trans (KeepsOthers.setCell _ _ _)), ⟨rfl, pre, (⟨a, ha⟩, ⟨b, hb⟩), rfl, HPRE.out, leadL_of (HM.out.trans HML.out) (by rw [HM.out]; exact hK.out), ?_⟩, ?_⟩
        · have := hB.out.found n2
          rw [← HN.out] at this ⊢
          exact this
        · exact ((HBEL.out.trans (hL.out.mono HBEL.out.size)).setCell (p := ⟨w.heap.size + 1 + 1, 0, none⟩) (by simp; omega) _).setCell (p := ⟨w.heap.size + 1 + 1 + 1, 0, none⟩) (by simp; omega) _
  case done =>
    rintro D ys W hD rfl ⟨⟨hB4, hno⟩, hB⟩ hK
    have c3 := hB4.c3
    have c4 := hB4.c4
    have HA := Lib.hid (akin_none hno)
    have HB := Lib.hid hB
    clear hB hno
    go_wp2
    go_quiet (fail)
    go_wp2
    rw [Exit.noGoto_ret]
    refine ⟨by simp, .inl ⟨_, _, rfl, run_takeDeferred (w := W.drewN nq) hK, ?_⟩⟩
    exact ⟨_, results_tmp2 rfl _ _ _, by rw [HA.out]; rfl, (below_drewN HB.out nq).trans (belowK_b (w := w) (Nat.le_refl _) (W.drewN nq) D _ _ (by omega) hK rfl rfl)⟩
  case stop =>
    rintro D c pre W hD ⟨mm, hmm, rfl⟩ ⟨⟨rfl, q, x, hq, hno, hyes, hB4⟩, hB⟩ hK
    have c3 := hB4.c3
    have c4 := hB4.c4
    have HA := Lib.hid (akin_some hmm hq hno hyes)
    have HB := Lib.hid hB
    clear hB hno hyes hq
    refine (wpIn_wide (n := 3)).2 ?_
    go_wp2
    go_quiet (fail)
    go_wp2
    rw [Exit.noGoto_ret]
    refine ⟨by simp, .inl ⟨_, _, rfl, run_takeDeferred (w := W.drewN nq) hK, ?_⟩⟩
    exact ⟨_, results_tmp2 rfl _ _ _, by rw [HA.out]; rfl, (below_drewN HB.out nq).trans (belowK_b (w := w) (Nat.le_refl _) (W.drewN nq) D _ _ (by omega) hK rfl rfl)⟩

end Go.Proofs.Ytdbokcbbpegilaa
