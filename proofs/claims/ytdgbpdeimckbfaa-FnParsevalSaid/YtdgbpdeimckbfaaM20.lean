/-
  impl: rows shifted: two parts of a list put together.
  Rows of designs, designs of rows: what the functions answer, and what their laws then say (no program).
-/
import Derived.Test.YtdgbpdeimckbfaaM17
import Derived.Lib.AppendZeros
import Derived.Test.YtdgbpdeimckbfaaM16
import Derived.Test.YtdgbpdeimckbfaaM12
/- impl: rows shifted: two parts of a list put together. -/
namespace Go.Proofs.Ytdgbpdeimckbfaa
set_option maxRecDepth 20000
open Go.ChangeShapes Go.WideShapes Go.ChangeAt Go.RowKit
set_option linter.unusedVariables false
set_option linter.unusedSimpArgs false

theorem zeros8_size (n : Nat) : (Builtin.zeroCells (vec 8 nul) n).size = n * 8 := by simp [Builtin.zeroCells, vec_size]
theorem run_grow8 (n : Nat) (h0 : 0 < n) (hn : n ≤ 1000000) (w : World) :
    ∃ (cap : Nat) (cur : Array Value), n ≤ cap ∧ cap ≤ maxLen ∧ cur.size = cap * 8 ∧ ∀ ty, (Builtin.append_ #[74, 3] ty #[.slice none 0 0, .int .i64 n]).run Try.prog w = .ok (.slice (some ⟨w.heap.size, 0, none⟩) n cap) (w.drew.alloc (.cells cur 92)) := by
  have h : (Try.prog.info? 92).map (fun i => (i.zero, i.size, i.bytes)) = some (some (.agg (vec 8 nul)), 8, 64) := by kernel_rfl
  obtain ⟨i, hi, e1, e2, e3⟩ := info_parts h
  have hge := grownCap_ge w n 0 92
  have hle := grownCap_le_maxLen w n 0 92 (by simp only [maxLen]; omega)
  refine ⟨grownCap w n 0 92, _, hge, hle, ?_, fun ty => Lib.run_append_nil_zeros (P := Try.prog) w 74 3 ty 92 i _ .i64 .i64 Try.underlying74 Try.underlying3 hi e1 n h0 (by omega) (by omega) (by rw [e3]; omega)⟩
  show (Builtin.zeroCells (vec 8 nul) n ++ Builtin.zeroCells (vec 8 nul) _).size = _
  rw [Array.size_append, zeros8_size, zeros8_size, ← Nat.add_mul]; congr 1; omega
set_option maxHeartbeats 1000000 in
theorem grow8_some (n : Nat) (h0 : 0 < n) (hn : n ≤ 1000000) (w : World) : Calls Try.prog 162 #[.slice none 0 0, .int .i64 n] w fun e w' => Below w.heap.size w w' ∧ ∃ v', e = .returned v' ∧ OwnL encV 8 w' w.heap.size 92 v' [] := by
  obtain ⟨cap, cur, hc1, hc2, hcs, hrun⟩ := run_grow8 n h0 hn w
  simp only [maxLen] at hc2
  have HR := Lib.hid hrun
  have HO := Lib.hid (World.ownsRow_made (e := 92) (size := 8) (base := w.heap.size) w.drew cur cap (Nat.le_refl _) (by simp only [maxLen]; omega) hcs)
  have HL := Lib.hid (show Below w.heap.size w (w.drew.alloc (.cells cur 92)) from (Below.refl w.heap.size w).drew.alloc (Nat.le_refl _) _)
  clear hrun hcs
  have n0 : ¬ (n : Int) < 0 := by omega
  have n1 : (0 : Int) < (n : Int) := by omega
  have n2 : IntKind.i64.wrap ((n : Int) - 0) = (n : Int) := by rw [IntKind.wrap_i64]; omega
  have n3 : IntKind.i64.wrap (n : Int) = (n : Int) := by rw [IntKind.wrap_i64]; omega
  have c0 : (0 : Int) ≤ (cap : Int) := by omega
  go_enter Try.func162, Try.ntmps162
  go_wp2_with (refine Lib.wpList_append_run _ rfl _ _ _ _ rfl _ _ rfl rfl _ _ (HR.out _) ?_)
  go_ret
  exact ⟨HL.out, _, rfl, HO.out⟩
theorem cellK {w w' : World} {B G k : Nat} {v : Value} (h : w.cell? ⟨G, k, none⟩ = some v) (hG : G < B) (hb : Below B w w') : w'.cell? ⟨G, k, none⟩ = some v := (World.cell?_of_block (hb.block G hG)).trans h
set_option maxHeartbeats 4000000 in
/-- slices.Concat of two lists. -/
theorem concat8_any (G : Nat) (va vb : Value) (A B : List V) (w : World) (hG : G < w.heap.size) (h1 : w.cell? ⟨G, 0, none⟩ = some va) (h2 : w.cell? ⟨G, 1, none⟩ = some vb) (ha : ReadsL encV w va A) (hb : ReadsL encV w vb B) (hn : A.length + B.length ≤ 1000000) (h0 : 0 < A.length + B.length) :
    Calls Try.prog 118 #[.slice (some ⟨G, 0, none⟩) 2 2] w fun e w' => Below w.heap.size w w' ∧ ∃ v', e = .returned v' ∧ OwnL encV 8 w' w.heap.size 92 v' (A ++ B) := by
  have HA := Lib.hid ha
  have HB := Lib.hid hb
  have H1 := Lib.hid h1
  have H2 := Lib.hid h2
  obtain ⟨p1, c1, rfl, -, -, -, -⟩ := ha
  obtain ⟨p2, c2, rfl, -, -, -, -⟩ := hb
  have q1 : IntKind.i64.wrap (0 + (A.length : Int)) = (A.length : Int) := by rw [IntKind.wrap_i64]; omega
  have q1b : IntKind.i64.wrap (A.length : Int) = (A.length : Int) := by rw [IntKind.wrap_i64]; omega
  have n1 : ¬ (A.length : Int) < 0 := by omega
  obtain ⟨sz, hsz⟩ : ∃ sz, sz = A.length + B.length := ⟨_, rfl⟩
  have q2 : IntKind.i64.wrap ((A.length : Int) + (B.length : Int)) = (sz : Int) := by rw [IntKind.wrap_i64]; omega
  have n2 : ¬ (sz : Int) < 0 := by omega
  have GR := fun w => Lib.hid (grow8_some sz (by omega) (by omega) w)
  have HZ : Aside (A.length + B.length ≤ 1000000) := hn
  clear hsz hn h0
  go_enter Try.func118, Try.ntmps118
  go_wp2
  refine wp_loop_rounds 3 ?_
  rw [rounds_succ]
  go_wp2
  rw [rounds_succ]
  go_wp2
  rw [rounds_succ]
  go_wp2_with fail
  refine (GR _).out.mono ?_; rintro e w1 ⟨hb1, v1, rfl, ho1⟩
  have HL := Lib.hid hb1
  have HO := Lib.hid ho1
  clear hb1 ho1 GR h1 h2 q1 q1b n1 q2 n2
  have h1 := cellK H1.out hG HL.out
  have h2 := cellK H2.out hG HL.out
  go_wp2
  refine wp_loop_rounds 3 ?_
  rw [rounds_succ]
  go_wp2_with (refine appendL (w0 := w) (B := w.heap.size) tyX encV_ok rfl rfl (v := v1) (xs := []) (ys := A) rfl rfl HO.out (HA.out.below HL.out) (by have := HZ.out; simp; omega) HL.out HL.out.size ?_; intro v2 w2 ho2 hb2 hB2 hgg2; have HO2 := Lib.hid ho2; have HL2 := Lib.hid hb2; clear ho2 hb2 hB2 hgg2 h1 h2 HO HL; have h2 := cellK H2.out hG HL2.out)
  rw [rounds_succ]
  go_wp2_with (refine appendL (w0 := w) (B := w.heap.size) tyX encV_ok rfl rfl (v := v2) (xs := [] ++ A) (ys := B) rfl rfl HO2.out (HB.out.below HL2.out) (by have := HZ.out; simp; omega) HL2.out HL2.out.size ?_; intro v3 w3 ho3 hb3 hB3 hgg3; have HO3 := Lib.hid ho3; have HL3 := Lib.hid hb3; clear ho3 hb3 hB3 hgg3 h2 HO2 HL2)
  rw [rounds_succ]
  go_wp2
  go_ret
  exact ⟨HL3.out, _, rfl, by have := HO3.out; simpa using this⟩

theorem shL_parts {xs : List V} {m : Nat} (h : m < xs.length) : xs.drop m ++ xs.take m = shL m xs := list_same (by rw [shL_len, List.length_append, List.length_drop, List.length_take]; omega) fun i hi => by
  rw [List.length_append, List.length_drop, List.length_take] at hi
  have hi' : i < xs.length := by omega
  rw [shL_at m hi']
  unfold at'
  by_cases h1 : i < xs.length - m
  · rw [List.getElem?_append_left (by rw [List.length_drop]; exact h1), List.getElem?_drop, Nat.mod_eq_of_lt (by omega), Nat.add_comm]
  · rw [List.getElem?_append_right (by rw [List.length_drop]; omega), List.length_drop, List.getElem?_take, if_pos (by omega)]
    have e : (i + m) % xs.length = i - (xs.length - m) := by
      rw [show i + m = i - (xs.length - m) + xs.length by omega, Nat.add_mod_right, Nat.mod_eq_of_lt (by omega)]
    rw [e]
theorem shL_mod (m : Nat) (xs : List V) : shL (m % xs.length) xs = shL m xs := by
  unfold shL
  refine List.map_congr_left fun k _ => ?_
  congr 1
  rw [Nat.add_mod_mod]

set_option maxHeartbeats 2000000 in
theorem shifted_any (g o cap : Nat) (xs : List V) (m : Nat) (w : World) (hg : g < w.heap.size) (hr : w.rangeAt g o (flt encV xs)) (hc : xs.length ≤ cap) (hm : cap ≤ maxLen) (h1 : 1 ≤ xs.length) (hn : xs.length ≤ 1000) (hm2 : m ≤ 1000) :
    Calls Try.prog 73 #[.slice (some ⟨g, o, none⟩) xs.length cap, .int .i64 m] w fun e w' => Below w.heap.size w w' ∧ ∃ v', e = .returned v' ∧ OwnL encV 8 w' w.heap.size 92 v' (shL m xs) := by
  obtain ⟨f, hf⟩ : ∃ f, m % xs.length = f := ⟨_, rfl⟩
  have hfl : f < xs.length := by rw [← hf]; exact Nat.mod_lt _ (by omega)
  have q1 : (m : Int).tmod (xs.length : Int) = (f : Int) := by
    rw [Int.tmod_eq_emod_of_nonneg (by omega), ← hf]; simp
  have q0 : ¬ (xs.length : Int) = 0 := by omega
  have q2 : IntKind.i64.wrap (f : Int) = (f : Int) := by rw [IntKind.wrap_i64]; omega
  rw [← shL_mod, hf, ← shL_parts hfl]
  have HR := Lib.hid hr
  have HM := Lib.hid hm
  simp only [maxLen] at hm
  have hz1 : (f : Int) ≤ (xs.length : Int) := by omega
  have hz2 : (f : Int) ≤ (cap : Int) := by omega
  have hz3 : (0 : Int) ≤ (f : Int) := by omega
  have hcf : ¬ cap = f := by omega
  clear hf hr
  go_enter Try.func73, Try.ntmps73
  go_upto_region 2 with fail
  refine wp_region_held_drew (S := fun w' => True) (by kernel_rfl) trivial (fun hHeld => ?_)
  refine wpAnyH_take (i := 0) (oi := _) (v := .slice (some ⟨g, o, none⟩) xs.length cap) rfl (by kernel_rfl) (by kernel_rfl) (by kernel_rfl) (fun _ _ _ h => h) (Or.inl ⟨by rfl, fun w h => by go_simp⟩) hHeld ?_
  try simp only [Act.put, List.setIfInBounds_toArray, List.set_cons_zero, List.set_cons_succ, List.getElem_toArray, List.getElem_cons_succ, List.getElem_cons_zero]
  refine wpAnyH_take (i := 1) (oi := _) (v := .int .i64 f) rfl (by kernel_rfl) (by kernel_rfl) (by kernel_rfl) (fun _ _ _ h => h) (Or.inl ⟨by rfl, fun w h => by go_simp⟩) hHeld ?_
  try simp only [Act.put, List.setIfInBounds_toArray, List.set_cons_zero, List.set_cons_succ, List.getElem_toArray, List.getElem_cons_succ, List.getElem_cons_zero]
  refine wpAnyH_take (i := 2) (oi := _) (v := .slice (some ⟨g, o + f * 8, none⟩) (xs.length - f) (cap - f)) rfl (by kernel_rfl) (by kernel_rfl) (by kernel_rfl) (fun _ _ _ h => h) (Or.inl ⟨by rfl, fun w h => by go_simp⟩) hHeld ?_
  try simp only [Act.put, List.setIfInBounds_toArray, List.set_cons_zero, List.set_cons_succ, List.getElem_toArray, List.getElem_cons_succ, List.getElem_cons_zero]
  refine wpAnyH_take (i := 3) (oi := _) (v := .slice (some ⟨g, o, none⟩) xs.length cap) rfl (by kernel_rfl) (by kernel_rfl) (by kernel_rfl) (fun _ _ _ h => h) (Or.inl ⟨by rfl, fun w h => by go_simp⟩) hHeld ?_
  try simp only [Act.put, List.setIfInBounds_toArray, List.set_cons_zero, List.set_cons_succ, List.getElem_toArray, List.getElem_cons_succ, List.getElem_cons_zero]
  refine wpAnyH_take (i := 4) (oi := _) (v := .int .i64 f) rfl (by kernel_rfl) (by kernel_rfl) (by kernel_rfl) (fun _ _ _ h => h) (Or.inl ⟨by rfl, fun w h => by go_simp⟩) hHeld ?_
  try simp only [Act.put, List.setIfInBounds_toArray, List.set_cons_zero, List.set_cons_succ, List.getElem_toArray, List.getElem_cons_succ, List.getElem_cons_zero]
  refine wpAnyH_take (i := 5) (oi := _) (v := .slice (some ⟨g, o, none⟩) f cap) rfl (by kernel_rfl) (by kernel_rfl) (by kernel_rfl) (fun _ _ _ h => h) (Or.inl ⟨by rfl, fun w h => by go_simp⟩) hHeld ?_
  try simp only [Act.put, List.setIfInBounds_toArray, List.set_cons_zero, List.set_cons_succ, List.getElem_toArray, List.getElem_cons_succ, List.getElem_cons_zero]
  refine wpAnyH_ready (rs := [6]) (by kernel_rfl) (by simp) ?_
  refine AllReadyH.cons (o := _) rfl (fun K hK => ?_) AllReadyH.nil
  rw [if_pos (by rfl)]
  go_simp
  have hx1 : (w.drew.alloc (.cells #[.slice (some ⟨g, o + f * 8, none⟩) (xs.length - f) (cap - f), .slice (some ⟨g, o, none⟩) f cap] 74)).cell? ⟨w.heap.size, 0, none⟩ = some (.slice (some ⟨g, o + f * 8, none⟩) (xs.length - f) (cap - f)) := by
    have := cell_of_row _ w.drew.heap.size 0 _ _ _ (heap_alloc_new w.drew (.cells #[.slice (some ⟨g, o + f * 8, none⟩) (xs.length - f) (cap - f), .slice (some ⟨g, o, none⟩) f cap] 74))
    exact this
  have hx2 : (w.drew.alloc (.cells #[.slice (some ⟨g, o + f * 8, none⟩) (xs.length - f) (cap - f), .slice (some ⟨g, o, none⟩) f cap] 74)).cell? ⟨w.heap.size, 1, none⟩ = some (.slice (some ⟨g, o, none⟩) f cap) := by
    have := cell_of_row _ w.drew.heap.size 1 _ _ _ (heap_alloc_new w.drew (.cells #[.slice (some ⟨g, o + f * 8, none⟩) (xs.length - f) (cap - f), .slice (some ⟨g, o, none⟩) f cap] 74))
    exact this
  have hb0 : Below w.heap.size w (w.drew.alloc (.cells #[.slice (some ⟨g, o + f * 8, none⟩) (xs.length - f) (cap - f), .slice (some ⟨g, o, none⟩) f cap] 74)) := (Below.refl _ _).drew.alloc (Nat.le_refl _) _
  have hsz : w.heap.size < (w.drew.alloc (.cells #[.slice (some ⟨g, o + f * 8, none⟩) (xs.length - f) (cap - f), .slice (some ⟨g, o, none⟩) f cap] 74)).heap.size := by simp
  have rd : ReadsL encV (w.drew.alloc (.cells #[.slice (some ⟨g, o + f * 8, none⟩) (xs.length - f) (cap - f), .slice (some ⟨g, o, none⟩) f cap] 74)) (.slice (some ⟨g, o + f * 8, none⟩) (xs.length - f) (cap - f)) (xs.drop f) :=
    ⟨_, cap - f, by rw [List.length_drop], by rw [List.length_drop]; omega, by have := HM.out; omega, (fun h => by cases h), fun _ => ⟨g, _, rfl, by omega, fun j v hv => by
      rw [flt_drop encV_ok, List.getElem?_drop] at hv
      rw [Nat.add_assoc]
      exact cells_below HR.out hg hb0 _ v hv⟩⟩
  have rt : ReadsL encV (w.drew.alloc (.cells #[.slice (some ⟨g, o + f * 8, none⟩) (xs.length - f) (cap - f), .slice (some ⟨g, o, none⟩) f cap] 74)) (.slice (some ⟨g, o, none⟩) f cap) (xs.take f) :=
    ⟨_, cap, by rw [List.length_take, Nat.min_eq_left (by omega)], by rw [List.length_take]; omega, HM.out, (fun h => by cases h), fun _ => ⟨g, o, rfl, by omega, fun j v hv => by
      rw [flt_take encV_ok, List.getElem?_take] at hv
      split at hv
      · exact cells_below HR.out hg hb0 j v hv
      · cases hv⟩⟩
  have CC := concat8_any w.heap.size _ _ (xs.drop f) (xs.take f) _ hsz hx1 hx2 rd rt (by rw [List.length_drop, List.length_take]; omega) (by rw [List.length_drop, List.length_take]; omega)
  have CC := Lib.hid CC
  have HB0 := Lib.hid hb0
  clear hx1 hx2 rd rt hsz hb0
  refine hK.out _ _ trivial (fun hHeld => ?_)
  clear hK K
  try simp only [Act.put, List.setIfInBounds_toArray, List.set_cons_zero, List.set_cons_succ, List.getElem_toArray, List.getElem_cons_succ, List.getElem_cons_zero]
  refine wpAnyH_ready (rs := [7]) (by kernel_rfl) (by simp) ?_
  refine AllReadyH.cons (o := _) rfl (fun K hK => ?_) AllReadyH.nil
  go_simp
  refine CC.out.mono ?_; rintro e w2 ⟨hb2, v2, rfl, ho2⟩
  have HL := Lib.hid (below_next HB0.out hb2)
  have HO := Lib.hid (rows_mono ho2 (show w.heap.size ≤ _ from HB0.out.size))
  clear CC HB0 hb2 ho2
  go_wp2_with fail
  refine hK.out _ _ trivial (fun hHeld => ?_)
  clear hK K
  try simp only [Act.put, List.setIfInBounds_toArray, List.set_cons_zero, List.set_cons_succ, List.getElem_toArray, List.getElem_cons_succ, List.getElem_cons_zero]
  refine wpAnyH_take (i := 8) (oi := _) (v := v2) rfl (by kernel_rfl) (by kernel_rfl) (by kernel_rfl) (fun _ _ _ h => h) (Or.inl ⟨by rfl, fun w h => by go_simp⟩) hHeld ?_
  try simp only [Act.put, List.setIfInBounds_toArray, List.set_cons_zero, List.set_cons_succ, List.getElem_toArray, List.getElem_cons_succ, List.getElem_cons_zero]
  refine wpAnyH_done (by kernel_rfl) ?_ _
  go_wp2
  go_ret
  exact ⟨HL.out, _, rfl, HO.out⟩
end Go.Proofs.Ytdgbpdeimckbfaa
/- Rows of designs, designs of rows: what the functions answer, and what their laws then say (no program). -/
namespace Go.Proofs.Ytdgbpdeimckbfaa
set_option maxRecDepth 20000
set_option linter.unusedVariables false
set_option linter.unusedSimpArgs false

/-! Rows of designs, designs of rows. -/
def rdO (ws : List Wh) (n : Int) : Option (List V) := if decide (1 ≤ n) && rowLen n.toNat then coll (fun k => atD ws (((k * (24 / n.toNat) : Nat)) : Int)) n.toNat else none
theorem atD_in {ws : List Wh} {t : Int} {a : V} (h : atD ws t = some a) : valid ws = true ∧ a = pAt t ws ∧ okv a = true := by
  unfold atD at h
  split at h
  · rename_i hv
    split at h
    · rename_i hk
      have e := Option.some.inj h
      rw [Bool.and_eq_true] at hv
      exact ⟨hv.1, e.symm, by rw [← e]; exact hk⟩
    · cases h
  · cases h
theorem rdO_some {ws : List Wh} {n : Int} {xs : List V} (h : rdO ws n = some xs) : ∃ m : Nat, n = m ∧ rowLen m = true ∧ xs.length = m ∧ valid ws = true ∧ rowOk xs = true ∧ ∀ k, k < m → atD ws ((k * (24 / m) : Nat) : Int) = some (at' xs k) ∧ at' xs k = pAt ((k * (24 / m) : Nat) : Int) ws := by
  unfold rdO at h
  split at h
  · rename_i hc
    simp only [Bool.and_eq_true, decide_eq_true_eq] at hc
    have hl := coll_len h
    have h1 := (rowLen_in hc.2).1
    refine ⟨n.toNat, by omega, hc.2, hl, (atD_in (coll_at' h (k := 0) (by omega))).1, rowOk_of (by rw [hl]; exact hc.2) fun i hi => ?_, fun k hk => ⟨coll_at' h hk, (atD_in (coll_at' h hk)).2.1⟩⟩
    exact (atD_in (coll_at' h (by rw [← hl]; exact hi))).2.2
  · cases h
theorem pAt_round {t t' : Int} (h : t % 24 = t' % 24) : ∀ ws : List Wh, pAt t ws = pAt t' ws
  | [] => rfl
  | w :: ws => by
    show V.add (tV (tm t w.s) w.r) (pAt t ws) = V.add (tV (tm t' w.s) w.r) (pAt t' ws)
    rw [pAt_round h ws, tm_mod (by rw [Int.mul_emod, h, ← Int.mul_emod] : t * w.s % 24 = t' * w.s % 24)]
theorem pAt_later (t u : Int) : ∀ ws : List Wh, pAt t (ws.map (laterW u)) = pAt (t + u) ws
  | [] => rfl
  | w :: ws => by
    show V.add (tV (tm t w.s) (tV (tm u w.s) w.r)) (pAt t (ws.map (laterW u))) = V.add (tV (tm (t + u) w.s) w.r) (pAt (t + u) ws)
    rw [pAt_later t u ws, tV_more]
    congr 1
    refine tV_same _ ?_
    unfold tm
    have : (t + u) * w.s = t * w.s + u * w.s := Int.add_mul _ _ _
    rw [this]
    omega
theorem say_later {ws R : List Wh} {n : Int} {u : Int} {xs ys zs : List V} (hR : ∀ t, pAt t R = pAt t (ws.map (laterW u))) (hu : u = 24 / n % 24) (h : rdO ws n = some xs) (h2 : rdO R n = some ys) (h3 : shO 1 xs = some zs) : ys = zs := by
  obtain ⟨m, rfl, hm, hl, _, _, hx⟩ := rdO_some h
  obtain ⟨m', e, _, hl2, _, _, hy⟩ := rdO_some h2
  obtain rfl : m = m' := by omega
  obtain ⟨_, n1, _, e1, rfl⟩ := shO_some h3
  obtain rfl : n1 = 1 := by omega
  have hp := rowLen_part hm
  have hm1 := (rowLen_in hm).1
  refine list_same (by rw [shL_len]; omega) fun k hk => ?_
  rw [shL_at 1 (by omega), hl, (hy k (by omega)).2, hR, pAt_later, (hx ((k + 1) % m) (Nat.mod_lt _ (by omega))).2]
  refine pAt_round ?_ ws
  rw [hu]
  have e24 : (24 : Int) / (m : Int) = ((24 / m : Nat) : Int) := by simp
  rw [e24]
  generalize 24 / m = q at *
  by_cases hk1 : k + 1 < m
  · rw [Nat.mod_eq_of_lt hk1, Nat.add_mul]
    omega
  · obtain rfl : k + 1 = m := by omega
    rw [Nat.mod_self]
    have : k * q + q = 24 := by rw [← hp, Nat.mul_add, Nat.mul_comm q k, Nat.mul_one]
    omega
/-- The speed of a row's wheel j. -/
def spd (n j : Nat) : Int := if 2 * j > n then (j : Int) - n else j
def wheelsOf (T : List V) : List Wh := (List.range T.length).map fun j => ⟨spd T.length j, at' T j⟩
theorem pAt_range (t : Int) (g : Nat → Wh) : ∀ n, pAt t ((List.range n).map g) = sig (fun j => tV (tm t (g j).s) (g j).r) n
  | 0 => rfl
  | n + 1 => by
    rw [List.range_succ, List.map_append, pAt_append, pAt_range t g n]
    show V.add _ (V.add _ V.zero) = V.add _ _
    rw [V.add_zero]
theorem pAt_wheels {T : List V} (h : rowLen T.length = true) (k : Nat) : pAt ((k * (24 / T.length) : Nat) : Int) (wheelsOf T) = tr (fw T.length) T.length (at' T) k := by
  unfold wheelsOf
  rw [pAt_range]
  unfold tr
  refine sig_same _ fun j hj => ?_
  show tV (tm _ (spd T.length j)) (at' T j) = tV _ (at' T j)
  refine tV_same _ ?_
  have hp := rowLen_part h
  have e : ((k * (24 / T.length) : Nat) : Int) * spd T.length j % 24 = ((fw T.length * (k * j) : Nat) : Int) % 24 := by
    have e1 : ((fw T.length * (k * j) : Nat) : Int) = ((k * (24 / T.length) : Nat) : Int) * (j : Int) := by
      rw [← Int.natCast_mul]
      congr 1
      show 24 / T.length * (k * j) = _
      rw [← Nat.mul_assoc, Nat.mul_comm (24 / T.length) k]
    rw [e1]
    unfold spd
    split
    · have e2 : ((k * (24 / T.length) : Nat) : Int) * (T.length : Int) = (k : Int) * 24 := by
        rw [← Int.natCast_mul, Nat.mul_assoc, hp]; simp
      rw [Int.mul_sub, e2]
      omega
    · rfl
  unfold tm
  omega
def rwO (xs : List V) : Option (List Wh) := if decide (xs.length ≤ 12) then (trF xs).bind fun T => tidy false (wheelsOf T) else none
theorem rwO_some {xs : List V} {R : List Wh} (h : rwO xs = some R) : ∃ T, trF xs = some T ∧ tidy false (wheelsOf T) = some R := by
  unfold rwO at h
  split at h
  · exact Option.bind_eq_some_iff.1 h
  · cases h
theorem say_design {xs ys us : List V} {R : List Wh} (h : rwO xs = some R) (h2 : rdO R xs.length = some ys) (h3 : scO xs.length xs = some us) : ys = us := by
  obtain ⟨T, hT, hR⟩ := rwO_some h
  obtain ⟨k, hl, hTk, hy⟩ := trO_some hT
  obtain ⟨m, e, hm, hl2, _, _, hx⟩ := rdO_some h2
  obtain rfl : xs.length = m := by omega
  obtain ⟨hl3, hu⟩ := scO_some h3
  refine list_same (by omega) fun i hi => ?_
  rw [hu i (by omega), (hx i (by omega)).2, (tidy_some hR).2.2]
  have := pAt_wheels (T := T) (by rw [hl]; exact rowOk_len k) i
  rw [hl] at this
  rw [this, tr_same hy i]
  exact tr_forth (rowOk_len k) _ (by omega)
end Go.Proofs.Ytdgbpdeimckbfaa
