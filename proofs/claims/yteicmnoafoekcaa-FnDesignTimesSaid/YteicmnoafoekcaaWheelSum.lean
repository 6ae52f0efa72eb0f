/-
  Both sides: two designs together, and their sum.
-/
import Derived.Test.YteicmnoafoekcaaWheelX
import Derived.Lib.AppendZeros
namespace Go.Proofs.Yteicmnoafoekcaa
set_option maxRecDepth 20000
open Go.ChangeShapes Go.WideShapes Go.ChangeAt Go.RowKit
set_option linter.unusedVariables false
set_option linter.unusedSimpArgs false

theorem only_and_no {b c : Bool} {A : List Wh} (h : (b && c) = false) : only (b && c) A = [] := by rw [h]; rfl
set_option maxHeartbeats 1000000 in
/-- Two designs to calculate with. -/
theorem circlesPair_any (va vb : Value) (A B : List Wh) (w : World) (ha : Reads w va A) (hb : Reads w vb B) :
    Calls Try.prog 75 #[va, vb] w fun e w' => Below w.heap.size w w' ∧ ∃ v1 v2, e = .returned (.tuple #[v1, v2, .bool (valid A && valid B)]) ∧ Own w' w.heap.size 68 v1 (only (valid A && valid B) A) ∧ Own w' w.heap.size 68 v2 (only (valid A && valid B) B) := by
  have C := Lib.hid (circlesOf_any va A w ha)
  have HB := Lib.hid hb
  clear ha hb
  have D := fun w h => circlesOf_any vb B w h
  generalize valid A = p at *
  generalize valid B = q at *
  replace D := fun w h => Lib.hid (D w h)
  go_enter Try.func75, Try.ntmps75
  go_wp2_with fail
  refine C.out.mono ?_; rintro e w1 ⟨hb1, v1, rfl, ho1⟩
  have HB1 := Lib.hid hb1
  have HO1 := Lib.hid ho1
  have hr := HB.out.below hb1
  clear C hb1 ho1
  go_wp2_with fail
  refine (D _ hr).out.mono ?_; rintro e w2 ⟨hb2, v2, rfl, ho2⟩
  have HL := Lib.hid (below_next HB1.out hb2)
  have HO2 := Lib.hid (own_below HO1.out hb2)
  have HO3 := Lib.hid (own_mono ho2 HB1.out.size)
  clear D hb2 ho2 hr HB1 HO1
  cases p
  · go_wp2
    go_ret3
    exact ⟨HL.out, _, _, rfl, own_nil _ _ _, own_nil _ _ _⟩
  · cases q
    · go_wp2
      go_ret3
      exact ⟨HL.out, _, _, rfl, own_nil _ _ _, own_nil _ _ _⟩
    · go_wp2
      go_ret3
      exact ⟨HL.out, _, _, rfl, HO2.out, HO3.out⟩

/-- Zero wheels, and no more. -/
theorem zeros_size (n m : Nat) : (Builtin.zeroCells (vec 9 nul) n ++ Builtin.zeroCells (vec 9 nul) m).size = (n + m) * 9 := by
  rw [Array.size_append, size_zeroCells, size_zeroCells, vec_size, ← Nat.add_mul]
theorem run_grow_zeros (n : Nat) (h0 : 0 < n) (hn : n ≤ 1000000) (w : World) : ∃ cap cur, n ≤ cap ∧ cap ≤ maxLen ∧ cur.size = cap * 9 ∧ ∀ ty, (Builtin.append_ #[57, 3] ty #[.slice none 0 0, .int .i64 n]).run Try.prog w =
      .ok (.slice (some ⟨w.heap.size, 0, none⟩) n cap) (w.drew.alloc (.cells cur 68)) := by
  have h : (Try.prog.info? 68).map (fun i => (i.zero, i.size, i.bytes)) = some (some (.agg (vec 9 nul)), 9, 72) := by kernel_rfl
  obtain ⟨i, hi, e1, e2, e3⟩ := info_parts h
  have hge := grownCap_ge w n 0 68
  have hle := grownCap_le_maxLen w n 0 68 (by simp only [maxLen]; omega)
  refine ⟨grownCap w n 0 68, _, hge, hle, ?_, fun ty => Lib.run_append_nil_zeros (P := Try.prog) w 57 3 ty 68 i _ .i64 .i64 Try.underlying57 Try.underlying3 hi e1 n h0 (by omega) (by omega) (by rw [e3]; omega)⟩
  show (Builtin.zeroCells (vec 9 nul) n ++ Builtin.zeroCells (vec 9 nul) _).size = _
  rw [zeros_size]; congr 1; omega
theorem grow_none (w : World) : Calls Try.prog 110 #[.slice none 0 0, .int .i64 0] w fun e w' => e = .returned (.slice none 0 0) ∧ w = w' := by
  go_enter Try.func110, Try.ntmps110
  go_wp2
  go_ret
  exact ⟨rfl, rfl⟩
set_option maxHeartbeats 1000000 in
theorem grow_some (n : Nat) (h0 : 0 < n) (hn : n ≤ 1000000) (w : World) : Calls Try.prog 110 #[.slice none 0 0, .int .i64 n] w fun e w' => Below w.heap.size w w' ∧ ∃ v', e = .returned v' ∧ Own w' w.heap.size 68 v' [] := by
  obtain ⟨cap, cur, hc1, hc2, hcs, hrun⟩ := run_grow_zeros n h0 hn w
  simp only [maxLen] at hc2
  have HR := Lib.hid hrun
  have HO := Lib.hid (World.ownsRow_made (e := 68) (size := 9) (base := w.heap.size) w.drew cur cap (Nat.le_refl _) (by simp only [maxLen]; omega) hcs)
  have HL := Lib.hid (show Below w.heap.size w (w.drew.alloc (.cells cur 68)) from (Below.refl w.heap.size w).drew.alloc (Nat.le_refl _) _)
  clear hrun hcs
  have n0 : ¬ (n : Int) < 0 := by omega
  have n1 : (0 : Int) < (n : Int) := by omega
  have n2 : IntKind.i64.wrap ((n : Int) - 0) = (n : Int) := by rw [IntKind.wrap_i64]; omega
  have n3 : IntKind.i64.wrap (n : Int) = (n : Int) := by rw [IntKind.wrap_i64]; omega
  have c0 : (0 : Int) ≤ (cap : Int) := by omega
  go_enter Try.func110, Try.ntmps110
  go_wp2_with (refine Lib.wpList_append_run _ rfl _ _ _ _ rfl _ _ rfl rfl _ _ (HR.out _) ?_)
  go_ret
  exact ⟨HL.out, _, rfl, HO.out⟩
theorem grow_any (n : Nat) (hn : n ≤ 1000000) (w : World) : Calls Try.prog 110 #[.slice none 0 0, .int .i64 n] w fun e w' => Below w.heap.size w w' ∧ ∃ v', e = .returned v' ∧ Own w' w.heap.size 68 v' [] := by
  rcases Nat.eq_zero_or_pos n with rfl | h
  · refine (grow_none w).mono ?_
    rintro e w' ⟨rfl, rfl⟩
    exact ⟨Below.refl _ _, _, rfl, own_nil _ _ _⟩
  · exact grow_some n h hn w

theorem cell_kept {w w' : World} {B G k : Nat} {v : Value} (h : w.cell? ⟨G, k, none⟩ = some v) (hG : G < B) (hb : Below B w w') : w'.cell? ⟨G, k, none⟩ = some v := (World.cell?_of_block (hb.block G hG)).trans h
set_option maxHeartbeats 4000000 in
/-- slices.Concat of two lists. -/
theorem concat_any (G : Nat) (va vb : Value) (A B : List Wh) (w : World) (hG : G < w.heap.size) (h1 : w.cell? ⟨G, 0, none⟩ = some va) (h2 : w.cell? ⟨G, 1, none⟩ = some vb) (ha : Reads w va A) (hb : Reads w vb B) (hn : A.length + B.length ≤ 1000000) :
    Calls Try.prog 76 #[.slice (some ⟨G, 0, none⟩) 2 2] w fun e w' => Below w.heap.size w w' ∧ ∃ v', e = .returned v' ∧ Own w' w.heap.size 68 v' (A ++ B) := by
  have HA := Lib.hid ha
  have HB := Lib.hid hb
  have H1 := Lib.hid h1
  have H2 := Lib.hid h2
  obtain ⟨p1, c1, rfl, -, -, -, -⟩ := ha
  obtain ⟨p2, c2, rfl, -, -, -, -⟩ := hb
  have q1 : IntKind.i64.wrap (0 + (A.length : Int)) = (A.length : Int) := by rw [IntKind.wrap_i64]; omega
  have q1b : IntKind.i64.wrap (A.length : Int) = (A.length : Int) := by rw [IntKind.wrap_i64]; omega
  have n1 : ¬ (A.length : Int) < 0 := by omega
  obtain ⟨sz, hsz⟩ : ∃ sz, sz = A.length + B.length := ⟨_, rfl⟩
  have q2 : IntKind.i64.wrap ((A.length : Int) + (B.length : Int)) = (sz : Int) := by rw [IntKind.wrap_i64]; omega
  have n2 : ¬ (sz : Int) < 0 := by omega
  have GR := fun w => Lib.hid (grow_any sz (by omega) w)
  have HZ : Aside (A.length + B.length ≤ 1000000) := hn
  clear hsz hn
  go_enter Try.func76, Try.ntmps76
  go_wp2
  refine wp_loop_rounds 3 ?_
  rw [rounds_succ]
  go_wp2
  rw [rounds_succ]
  go_wp2
  rw [rounds_succ]
  go_wp2_with fail
  refine (GR _).out.mono ?_; rintro e w1 ⟨hb1, v1, rfl, ho1⟩
  have HL := Lib.hid hb1
  have HO := Lib.hid ho1
  clear hb1 ho1 GR h1 h2 q1 q1b n1 q2 n2
  have h1 := cell_kept H1.out hG HL.out
  have h2 := cell_kept H2.out hG HL.out
  go_wp2
  refine wp_loop_rounds 3 ?_
  rw [rounds_succ]
  go_wp2_with (refine append9 (w0 := w) (B := w.heap.size) tyC rfl rfl (v := v1) (xs := []) (ys := A) rfl rfl HO.out (HA.out.below HL.out) (by have := HZ.out; simp; omega) HL.out HL.out.size ?_; intro v2 w2 ho2 hb2 hB2; have HO2 := Lib.hid ho2; have HL2 := Lib.hid hb2; clear ho2 hb2 hB2 h1 h2 HO HL; have h2 := cell_kept H2.out hG HL2.out)
  rw [rounds_succ]
  go_wp2_with (refine append9 (w0 := w) (B := w.heap.size) tyC rfl rfl (v := v2) (xs := [] ++ A) (ys := B) rfl rfl HO2.out (HB.out.below HL2.out) (by have := HZ.out; simp; omega) HL2.out HL2.out.size ?_; intro v3 w3 ho3 hb3 hB3; have HO3 := Lib.hid ho3; have HL3 := Lib.hid hb3; clear ho3 hb3 hB3 h2 HO2 HL2)
  rw [rounds_succ]
  go_wp2
  go_ret
  exact ⟨HL3.out, _, rfl, by have := HO3.out; simpa using this⟩

/-- The sum of two designs. -/
def dSum (A B : List Wh) : Option (List Wh) := if valid A && valid B then tidy false (A ++ B) else none
theorem dSum_yes {A B : List Wh} (h : (valid A && valid B) = true) : dSum A B = tidy false (A ++ B) := by unfold dSum; rw [if_pos h]
theorem dSum_no {A B : List Wh} (h : (valid A && valid B) = false) : dSum A B = none := by unfold dSum; rw [h]; rfl
theorem dSum_short (A B : List Wh) : (got (dSum A B)).length ≤ 12 := by
  cases h : valid A && valid B
  · rw [dSum_no h]; simp [got]
  · rw [dSum_yes h]
    cases ht : tidy false (A ++ B) with
    | none => simp [got]
    | some R => exact valid_len (tidy_some ht).1.ok
theorem pair_big {A B : List Wh} (h : (valid A && valid B) = true) : ∀ c ∈ A ++ B, okv c.r = true := fun c hc => by
  rw [Bool.and_eq_true] at h
  rcases List.mem_append.1 hc with hc | hc
  · exact (valid_ok h.1 c hc).2
  · exact (valid_ok h.2 c hc).2
theorem pair_len {A B : List Wh} (h : (valid A && valid B) = true) : A.length ≤ 12 ∧ B.length ≤ 12 := by
  rw [Bool.and_eq_true] at h
  exact ⟨valid_len h.1, valid_len h.2⟩

set_option maxHeartbeats 2000000 in
theorem DesignSum_any (va vb : Value) (A B : List Wh) (w : World) (ha : Reads w va A) (hb : Reads w vb B) : Calls Try.prog 32 #[va, vb] w (Told w (dSum A B)) := by
  have C := circlesPair_any va vb A B w ha hb
  clear ha hb
  cases hv : (valid A && valid B)
  · rw [hv] at C
    rw [dSum_no hv]
    have C := Lib.hid C
    clear hv
    go_enter Try.func32, Try.ntmps32
    go_wp2_with fail
    refine C.out.mono ?_; rintro e w1 ⟨hb1, v1, v2, rfl, ho1, ho2⟩
    have HL := Lib.hid hb1
    clear C hb1 ho1 ho2
    go_wp2
    go_ret2
    exact ⟨HL.out, _, rfl, own_nil _ _ _⟩
  · rw [hv] at C
    rw [dSum_yes hv]
    have HV : Aside ((valid A && valid B) = true) := hv
    have C := Lib.hid C
    clear hv
    generalize hres : tidy false (A ++ B) = o
    have HRES : Aside (tidy false (A ++ B) = o) := hres
    clear hres
    go_enter Try.func32, Try.ntmps32
    go_wp2_with fail
    refine C.out.mono ?_; rintro e w1 ⟨hb1, v1, v2, rfl, ho1, ho2⟩
    have HL0 := Lib.hid hb1
    have r1 := own_reads ho1
    have r2 := own_reads ho2
    rw [only_yes] at r1 r2
    have R1 := Lib.hid r1
    have R2 := Lib.hid r2
    obtain ⟨p1, c1, rfl, -⟩ := r1
    obtain ⟨p2, c2, rfl, -⟩ := r2
    clear C hb1 ho1 ho2
    go_wp2_with fail
    have hx1 : (w1.alloc (.cells #[.slice p1 A.length c1, .slice p2 B.length c2] 57)).cell? ⟨w1.heap.size, 0, none⟩ = some (.slice p1 A.length c1) := by rw [cell_of_row _ _ _ _ _ _ (heap_alloc_new w1 _)]; rfl
    have hx2 : (w1.alloc (.cells #[.slice p1 A.length c1, .slice p2 B.length c2] 57)).cell? ⟨w1.heap.size, 1, none⟩ = some (.slice p2 B.length c2) := by rw [cell_of_row _ _ _ _ _ _ (heap_alloc_new w1 _)]; rfl
    have hln := pair_len HV.out
    refine (concat_any w1.heap.size _ _ A B (w1.alloc (.cells #[.slice p1 A.length c1, .slice p2 B.length c2] 57)) (by simp) hx1 hx2 (R1.out.below ((Below.refl _ _).alloc (Nat.le_refl _) _)) (R2.out.below ((Below.refl _ _).alloc (Nat.le_refl _) _)) (by omega)).mono ?_
    rintro e w2 ⟨hb2, v3, rfl, ho3⟩
    have T := tidy_any v3 _ (A ++ B) w2 ho3 (by rw [List.length_append]; unfold sortMost; omega) sort_most (fun c hc => (big_ok (pair_big HV.out c hc)).mono (by omega))
    rw [HRES.out] at T
    have T := Lib.hid T
    have HL2 := Lib.hid (below_next (HL0.out.alloc HL0.out.size (.cells #[.slice p1 A.length c1, .slice p2 B.length c2] 57)) hb2)
    clear hx1 hx2 hb2 ho3 R1 R2 HL0 hln
    go_wp2_with fail
    refine T.out.mono ?_; rintro e w3 ⟨hb3, v4, rfl, ho4⟩
    have HQ : Aside (Told w o (.returned (.tuple #[v4, .bool o.isSome])) w3) := ⟨below_next HL2.out hb3, _, rfl, own_mono ho4 HL2.out.size⟩
    clear T hb3 ho4
    go_wp2
    go_ret2
    exact HQ.out

set_option maxHeartbeats 2000000 in
theorem specDesignSum_any (va vb : Value) (A B : List Wh) (w : World) (ha : Reads w va A) (hb : Reads w vb B) : Calls Try.prog 33 #[va, vb] w (Told w (dSum A B)) := by
  have C := specDesignValid_any va A w ha
  have D := fun w h => specDesignValid_any vb B w h
  have HA := Lib.hid ha
  have HB := Lib.hid hb
  have NO : valid A = false ∨ valid B = false → dSum A B = none := fun h => dSum_no (by rcases h with h | h <;> simp [h])
  have YES : valid A = true → valid B = true → dSum A B = tidy false (A ++ B) ∧ (valid A && valid B) = true := fun h k => ⟨dSum_yes (by rw [h, k]; rfl), by rw [h, k]; rfl⟩
  have HNO := Lib.hid NO
  have HYES := Lib.hid YES
  clear ha hb NO YES
  generalize hp : valid A = p at C
  generalize hq : valid B = q at D
  have HP : Aside (valid A = p) := hp
  have HQ : Aside (valid B = q) := hq
  clear hp hq
  have C := Lib.hid C
  replace D := fun w h => Lib.hid (D w h)
  cases p
  · rw [HNO.out (.inl HP.out)]
    go_enter Try.func33, Try.ntmps33
    go_wp2_with fail
    refine C.out.mono ?_; rintro e w1 ⟨rfl, hb1⟩
    have HT := Lib.hid (show Told w none (.returned (.tuple #[.slice (some ⟨w1.heap.size, 0, none⟩) 0 0, .bool false])) (w1.alloc (.cells #[] 34)) from ⟨hb1.alloc hb1.size _, _, rfl, own_lit w1 w.heap.size 34 hb1.size⟩)
    clear C D hb1 HNO HYES
    go_wp2
    go_ret2
    exact HT.out
  · cases q
    · rw [HNO.out (.inr HQ.out)]
      go_enter Try.func33, Try.ntmps33
      go_wp2_with fail
      refine C.out.mono ?_; rintro e w1 ⟨rfl, hb1⟩
      have HL := Lib.hid hb1
      have hr := HB.out.below hb1
      clear C hb1 HNO HYES
      go_wp2_with fail
      refine (D _ hr).out.mono ?_; rintro e w2 ⟨rfl, hb2⟩
      have hb3 := below_next HL.out hb2
      have HT := Lib.hid (show Told w none (.returned (.tuple #[.slice (some ⟨w2.heap.size, 0, none⟩) 0 0, .bool false])) (w2.alloc (.cells #[] 34)) from ⟨hb3.alloc hb3.size _, _, rfl, own_lit w2 w.heap.size 34 hb3.size⟩)
      clear D hr hb2 hb3
      go_wp2
      go_ret2
      exact HT.out
    · obtain ⟨e1, e2⟩ := HYES.out HP.out HQ.out
      rw [e1]
      have HV : Aside ((valid A && valid B) = true) := e2
      have hln := pair_len e2
      have HLN : Aside (A.length ≤ 12 ∧ B.length ≤ 12) := hln
      clear e1 e2 HNO HYES hln
      generalize hres : tidy false (A ++ B) = o
      have HRES : Aside (tidy false (A ++ B) = o) := hres
      clear hres
      go_enter Try.func33, Try.ntmps33
      go_wp2_with fail
      refine C.out.mono ?_; rintro e w1 ⟨rfl, hb1⟩
      have HL := Lib.hid hb1
      have hr := HB.out.below hb1
      clear C hb1
      go_wp2_with fail
      refine (D _ hr).out.mono ?_; rintro e w2 ⟨rfl, hb2⟩
      have hb3 := below_next HL.out hb2
      have HL2 := Lib.hid (hb3.alloc hb3.size (.cells #[] 34))
      have HO2 := Lib.hid (own_lit w2 w.heap.size 34 hb3.size)
      clear D hr hb2 hb3 HL
      go_wp2_with (first | (refine append9 (w0 := w) (B := w.heap.size) tyW rfl rfl (xs := []) (ys := A) rfl rfl HO2.out (HA.out.below HL2.out) (by have := HLN.out; simp; omega) HL2.out HL2.out.size ?_; intro v3 w3 ho3 hb3 hB3; have HO3 := Lib.hid ho3; have HL3 := Lib.hid hb3; clear ho3 hb3 hB3 HO2 HL2) | (refine append9 (w0 := w) (B := w.heap.size) tyW rfl rfl (xs := [] ++ A) (ys := B) rfl rfl HO3.out (HB.out.below HL3.out) (by have := HLN.out; simp; omega) HL3.out HL3.out.size ?_; intro v4 w4 ho4 hb4 hB4; have HO4 := Lib.hid ho4; have HL4 := Lib.hid hb4; clear ho4 hb4 hB4 HO3 HL3))
      have T := l5Tidy_any v4 (A ++ B) _ (own_reads (by have := HO4.out; simpa using this)) (by have := HLN.out; rw [List.length_append]; omega) (fun c hc => (big_ok (pair_big HV.out c hc)).mono (by omega))
      rw [tidy_first (pair_big HV.out), HRES.out] at T
      have T := Lib.hid T
      refine T.out.mono ?_; rintro e w5 ⟨hb5, v5, rfl, ho5⟩
      have HQ2 : Aside (Told w o (.returned (.tuple #[v5, .bool o.isSome])) w5) := ⟨below_next HL4.out hb5, _, rfl, own_mono ho5 HL4.out.size⟩
      clear T hb5 ho5
      go_wp2
      go_ret2
      exact HQ2.out

end Go.Proofs.Yteicmnoafoekcaa
