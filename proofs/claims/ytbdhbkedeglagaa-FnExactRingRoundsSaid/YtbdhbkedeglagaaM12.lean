/-
  The exact laws' helpers on lists of wheels: compared, marked, held.
-/
import Derived.Test.YtbdhbkedeglagaaM11
/- The exact laws' helpers on lists of wheels: compared, marked, held. -/
namespace Go.Proofs.Ytbdhbkedeglagaa
set_option maxRecDepth 20000
open Go.ChangeShapes Go.WideShapes Go.ChangeAt Go.RowKit
set_option linter.unusedVariables false
set_option linter.unusedSimpArgs false

/-! Compared. -/
set_option maxHeartbeats 1000000 in
theorem eqWheel_yes (c : Wh) (w : World) : Calls Try.prog 55 #[wh c, wh c] w fun e w' => e = .returned (.bool true) ∧ Below w.heap.size w w' := by
  have P := fun w => eqCyc_yes c.r.up w
  have HA := Lib.hid (show RowAt ((w.alloc (.cells (vec 9 (wf c)) 67)).alloc (.cells (vec 9 (wf c)) 67)) w.heap.size 9 67 (wf c) from (RowAt.newAt rfl rfl).alloc _)
  have HB := Lib.hid (show RowAt ((w.alloc (.cells (vec 9 (wf c)) 67)).alloc (.cells (vec 9 (wf c)) 67)) (w.heap.size + 1) 9 67 (wf c) from RowAt.newAt rfl (by simp))
  have HL := Lib.hid (show Below w.heap.size w ((w.alloc (.cells (vec 9 (wf c)) 67)).alloc (.cells (vec 9 (wf c)) 67)) from ((Below.refl _ _).alloc (Nat.le_refl _) _).alloc (by simp) _)
  go_enter Try.func55, Try.ntmps55
  go_upto_region 1 with fail
  show Code.wp _ _ _ _ ((w.alloc (.cells (vec 9 (wf c)) 67)).alloc (.cells (vec 9 (wf c)) 67))
  generalize (w.alloc (.cells (vec 9 (wf c)) 67)).alloc (.cells (vec 9 (wf c)) 67) = W at *
  have cA := row_speed HA.out
  have cB := row_speed HB.out
  have hne : (c.s != c.s) = false := by simp
  go_wp2_with (first | (refine load_part (T := 36) (g := w.heap.size) rfl rfl rfl (row_radius HA.out) Try.underlying36 rfl info_cyc ?_) | (refine load_part (T := 36) (g := w.heap.size + 1) rfl rfl rfl (row_radius HB.out) Try.underlying36 rfl info_cyc ?_))
  refine (P _).mono ?_; rintro e w2 ⟨rfl, hb2⟩
  have hL2 := Lib.hid (below_next HL.out hb2)
  clear HA HB HL hb2 P cA cB hne
  go_wp2
  go_ret
  exact ⟨rfl, hL2.out⟩

set_option maxHeartbeats 2000000 in
theorem eqWheels_yes (va vb : Value) (L : List Wh) (w : World) (ha : Reads w va L) (hb : Reads w vb L) : Calls Try.prog 27 #[va, vb] w fun e w' => e = .returned (.bool true) ∧ Below w.heap.size w w' := by
  obtain ⟨p, cap, rfl, hc1, hc2, hp0, hp⟩ := ha
  obtain ⟨q, cap2, rfl, hd1, hd2, hq0, hq⟩ := hb
  simp only [maxLen] at hc2
  have hlb : ((L.length : Int) != (L.length : Int)) = false := by simp
  have HP := Lib.hid hp
  have HQ := Lib.hid hq
  clear hp hq
  go_enter Try.func27, Try.ntmps27
  go_wp2
  go_loopw [5] (fun i wr => ∃ k : Nat, k ≤ L.length ∧ i = .int .i64 k ∧ Below w.heap.size w wr) (fun i _ => L.length - (intOf i).toNat)
  case atStart => exact ⟨0, Nat.zero_le _, rfl, Below.refl _ _⟩
  case round =>
    obtain ⟨k, hk, rfl, hbel⟩ := hrel
    have HL := Lib.hid hbel
    clear hbel
    by_cases hlt : k < L.length
    · have hkz : (k : Int) < (L.length : Int) := by omega
      have hk0 : (0 : Int) ≤ (k : Int) := by omega
      obtain ⟨c, hc⟩ : ∃ c, L[k]? = some c := ⟨_, List.getElem?_eq_getElem hlt⟩
      obtain ⟨g, o, rfl, hg, hr⟩ := HP.out (by rintro rfl; have := hp0 rfl; omega)
      obtain ⟨g2, o2, rfl, hg2, hr2⟩ := HQ.out (by rintro rfl; have := hq0 rfl; omega)
      have HE : Aside (g < w.heap.size ∧ w.rangeAt g (o + k * 9) (enc c)) := (show _ ∧ _ from ⟨hg, range_part hr hc⟩)
      have HE2 : Aside (g2 < w.heap.size ∧ w.rangeAt g2 (o2 + k * 9) (enc c)) := (show _ ∧ _ from ⟨hg2, range_part hr2 hc⟩)
      have T := fun w => eqWheel_yes c w
      clear hr hr2 hc hg hg2
      go_upto_region 6 with fail
      refine wp_region_held_drew (S := fun w' => Below w.heap.size w w') (by kernel_rfl) HL.out.drew (fun hHeld => ?_)
      refine wpAnyH_take (i := 0) (oi := _) (v := .slice (some ⟨g, o, none⟩) L.length cap) rfl (by kernel_rfl) (by kernel_rfl) (by kernel_rfl) (fun _ _ _ h => h) (Or.inl ⟨by rfl, fun w h => by go_simp⟩) hHeld ?_
      try simp only [Act.put, List.setIfInBounds_toArray, List.set_cons_zero, List.set_cons_succ, List.getElem_toArray, List.getElem_cons_succ, List.getElem_cons_zero]
      refine wpAnyH_take (i := 1) (oi := _) (v := .int .i64 k) rfl (by kernel_rfl) (by kernel_rfl) (by kernel_rfl) (fun _ _ _ h => h) (Or.inl ⟨by rfl, fun w h => by go_simp⟩) hHeld ?_
      try simp only [Act.put, List.setIfInBounds_toArray, List.set_cons_zero, List.set_cons_succ, List.getElem_toArray, List.getElem_cons_succ, List.getElem_cons_zero]
      refine wpAnyH_take (i := 2) (oi := _) (v := .pointer (some ⟨g, o + k * 9, none⟩)) rfl (by kernel_rfl) (by kernel_rfl) (by kernel_rfl) (fun _ _ _ h => h) (Or.inl ⟨by rfl, fun w h => by go_simp⟩) hHeld ?_
      try simp only [Act.put, List.setIfInBounds_toArray, List.set_cons_zero, List.set_cons_succ, List.getElem_toArray, List.getElem_cons_succ, List.getElem_cons_zero]
      refine wpAnyH_take (i := 3) (oi := _) (v := .agg (vec 9 (wf c))) rfl (by kernel_rfl) (by kernel_rfl) (by kernel_rfl) (fun _ _ _ h => h) (yieldsIf_load_mid (by rfl) _ _ rfl _ _ rfl _ _ ((fun w h => range_kept HE.out.2 HE.out.1 h)) Try.underlying67 rfl (size_wheel c)) hHeld ?_
      try simp only [Act.put, List.setIfInBounds_toArray, List.set_cons_zero, List.set_cons_succ, List.getElem_toArray, List.getElem_cons_succ, List.getElem_cons_zero]
      refine wpAnyH_take (i := 4) (oi := _) (v := .slice (some ⟨g2, o2, none⟩) L.length cap2) rfl (by kernel_rfl) (by kernel_rfl) (by kernel_rfl) (fun _ _ _ h => h) (Or.inl ⟨by rfl, fun w h => by go_simp⟩) hHeld ?_
      try simp only [Act.put, List.setIfInBounds_toArray, List.set_cons_zero, List.set_cons_succ, List.getElem_toArray, List.getElem_cons_succ, List.getElem_cons_zero]
      refine wpAnyH_take (i := 5) (oi := _) (v := .int .i64 k) rfl (by kernel_rfl) (by kernel_rfl) (by kernel_rfl) (fun _ _ _ h => h) (Or.inl ⟨by rfl, fun w h => by go_simp⟩) hHeld ?_
      try simp only [Act.put, List.setIfInBounds_toArray, List.set_cons_zero, List.set_cons_succ, List.getElem_toArray, List.getElem_cons_succ, List.getElem_cons_zero]
      refine wpAnyH_take (i := 6) (oi := _) (v := .pointer (some ⟨g2, o2 + k * 9, none⟩)) rfl (by kernel_rfl) (by kernel_rfl) (by kernel_rfl) (fun _ _ _ h => h) (Or.inl ⟨by rfl, fun w h => by go_simp⟩) hHeld ?_
      try simp only [Act.put, List.setIfInBounds_toArray, List.set_cons_zero, List.set_cons_succ, List.getElem_toArray, List.getElem_cons_succ, List.getElem_cons_zero]
      refine wpAnyH_take (i := 7) (oi := _) (v := .agg (vec 9 (wf c))) rfl (by kernel_rfl) (by kernel_rfl) (by kernel_rfl) (fun _ _ _ h => h) (yieldsIf_load_mid (by rfl) _ _ rfl _ _ rfl _ _ ((fun w h => range_kept HE2.out.2 HE2.out.1 h)) Try.underlying67 rfl (size_wheel c)) hHeld ?_
      try simp only [Act.put, List.setIfInBounds_toArray, List.set_cons_zero, List.set_cons_succ, List.getElem_toArray, List.getElem_cons_succ, List.getElem_cons_zero]
      refine wpAnyH_ready (rs := [8]) (by kernel_rfl) (by simp) ?_
      refine AllReadyH.cons (o := _) rfl (fun K hK => ?_) AllReadyH.nil
      go_simp
      refine (T _).mono ?_; rintro e w5 ⟨rfl, hb5⟩
      go_wp2_with fail
      refine hK.out _ _ (below_next hHeld hb5) (fun hHeld => ?_)
      clear hK K
      try simp only [Act.put, List.setIfInBounds_toArray, List.set_cons_zero, List.set_cons_succ, List.getElem_toArray, List.getElem_cons_succ, List.getElem_cons_zero]
      clear hb5 T
      refine wpAnyH_take (i := 9) (oi := _) (v := .bool false) rfl (by kernel_rfl) (by kernel_rfl) (by kernel_rfl) (fun _ _ _ h => h) (Or.inl ⟨by rfl, fun w h => by go_simp⟩) hHeld ?_
      try simp only [Act.put, List.setIfInBounds_toArray, List.set_cons_zero, List.set_cons_succ, List.getElem_toArray, List.getElem_cons_succ, List.getElem_cons_zero]
      refine wpAnyH_done (by kernel_rfl) ?_ _
      have HL5 := Lib.hid hHeld
      clear hHeld
      go_wp2
      go_roundw
      case rel => exact ⟨k + 1, by omega, by go_num, HL5.out⟩
      case measure => simp [intOf]; omega
    · obtain rfl : k = L.length := by omega
      go_wp2
      go_ret
      exact ⟨rfl, HL.out⟩

/-! Marked and held. -/
/-- The marks k0, k0 + 1, .. -/
def mk9 (k0 m : Nat) : List Value := (List.range m).map fun (p : Nat) => Value.int .i64 ((k0 + p : Nat) : Int)
theorem mk9_len (k0 m : Nat) : (mk9 k0 m).length = m := by simp [mk9]
theorem mk9_at {k0 m p : Nat} (h : p < m) : (mk9 k0 m)[p]? = some (.int .i64 ((k0 + p : Nat) : Int)) := by simp [mk9, h]
theorem mk9_next (k0 m : Nat) : mk9 k0 (m + 1) = mk9 k0 m ++ [.int .i64 ((k0 + m : Nat) : Int)] := by simp [mk9, List.range_succ]
/-- The first p cells are marks. -/
def mkd (k0 : Nat) (ws : List Wh) (p : Nat) : List Value := mk9 k0 p ++ (flat ws).drop p
theorem mkd_none (k0 : Nat) (ws : List Wh) : mkd k0 ws 0 = flat ws := rfl
theorem mkd_all (k0 : Nat) (ws : List Wh) : mkd k0 ws (ws.length * 9) = mk9 k0 (ws.length * 9) := by
  unfold mkd
  rw [List.drop_of_length_le (by rw [flat_length]; omega), List.append_nil]
theorem mkd_old {k0 : Nat} {ws : List Wh} {p : Nat} (h : p < ws.length * 9) : ∃ z, (mkd k0 ws p)[p]? = some (.int .i64 z) := by
  obtain ⟨c, hc⟩ : ∃ c, ws[p / 9]? = some c := ⟨_, List.getElem?_eq_getElem (by omega)⟩
  have h1 := flat_at hc (p % 9) (by omega)
  rw [show p / 9 * 9 + p % 9 = p from by omega, enc_at _ _ (by omega)] at h1
  refine ⟨wf c (p % 9), ?_⟩
  unfold mkd
  rw [List.getElem?_append_right (by rw [mk9_len]; omega), mk9_len, Nat.sub_self, List.getElem?_drop, Nat.add_zero, h1]
theorem mkd_step {k0 : Nat} {ws : List Wh} {p : Nat} (h : p < ws.length * 9) : (mkd k0 ws p).set p (.int .i64 ((k0 + p : Nat) : Int)) = mkd k0 ws (p + 1) := by
  have e : (flat ws).drop p = (flat ws)[p]'(by rw [flat_length]; exact h) :: (flat ws).drop (p + 1) := List.drop_eq_getElem_cons _
  unfold mkd
  rw [e, mk9_next, List.set_append_right _ _ (by rw [mk9_len]; omega), mk9_len, Nat.sub_self, List.set_cons_zero, List.append_assoc]
  rfl
theorem grown_trans {a b c : World} {row : Option Nat} (h : a.grownBy b row) (k : b.grownBy c row) : a.grownBy c row :=
  ⟨k.os.trans h.os, k.tape.trans h.tape, k.output.trans h.output, Nat.le_trans h.size k.size, fun i hi hne => (k.block i (Nat.lt_of_lt_of_le hi h.size) hne).trans (h.block i hi hne)⟩

set_option maxHeartbeats 2000000 in
theorem mark_own (k0 B g n cap : Nat) (hk0 : k0 ≤ 100000000) (ws : List Wh) (w : World) (hn : ws.length = n) (ho : w.ownsRow B 67 9 (.slice (some ⟨g, 0, none⟩) n cap) n (flat ws)) (hm : n ≤ 1048576) :
    Calls Try.prog 28 #[.slice (some ⟨g, 0, none⟩) n cap, .int .i64 k0] w fun e w' => e = .returned (.int .i64 ((k0 + n * 9 : Nat) : Int)) ∧ w'.ownsRow B 67 9 (.slice (some ⟨g, 0, none⟩) n cap) n (mk9 k0 (n * 9)) ∧ w.grownBy w' (some g) := by
  go_enter Try.func28, Try.ntmps28
  go_wp2_with fail
  go_loopw [1, 5, 6] (fun ks i _ wr => ∃ k : Nat, k ≤ n ∧ i = .int .i64 k ∧ ks = .int .i64 ((k0 + k * 9 : Nat) : Int) ∧ wr.ownsRow B 67 9 (.slice (some ⟨g, 0, none⟩) n cap) n (mkd k0 ws (k * 9)) ∧ w.grownBy wr (some g)) (fun _ i _ _ => n - (intOf i).toNat)
  case atStart => exact ⟨0, Nat.zero_le _, rfl, rfl, by rw [Nat.zero_mul, mkd_none]; exact ho, World.grownBy.refl _ _⟩
  case round =>
    clear ho
    obtain ⟨k, hk, rfl, rfl, hO, hg⟩ := hrel
    by_cases hlt : k < n
    · have hkz : (k : Int) < (n : Int) := by omega
      have hk0 : (0 : Int) ≤ (k : Int) := by omega
      obtain ⟨z, hz⟩ := mkd_old (k0 := k0) (ws := ws) (p := k * 9) (by omega)
      have hcell : wr.cell? ⟨g, k * 9, none⟩ = some (.int .i64 z) := by rw [hO.cellAt (k * 9) (by omega), hz]
      have hfr := hO.frozenAt (k * 9)
      have q1 : IntKind.i64.wrap (((k0 + k * 9 : Nat) : Int) + 1) = ((k0 + (k * 9 + 1) : Nat) : Int) := by rw [IntKind.wrap_i64]; omega
      obtain ⟨h1, h2⟩ := hO.stored (k * 9) (.int .i64 ((k0 + k * 9 : Nat) : Int))
      rw [mkd_step (by omega)] at h1
      have H1 := Lib.hid h1
      have H2 := Lib.hid (grown_trans hg h2)
      clear h1 h2 hO hg hz
      go_wp2_with fail
      go_loopw [1, 6] (fun ks j wr => ∃ m : Nat, m ≤ 8 ∧ j = .int .i64 m ∧ ks = .int .i64 ((k0 + (k * 9 + 1 + m) : Nat) : Int) ∧ wr.ownsRow B 67 9 (.slice (some ⟨g, 0, none⟩) n cap) n (mkd k0 ws (k * 9 + 1 + m)) ∧ w.grownBy wr (some g)) (fun _ j _ => 8 - (intOf j).toNat)
      case atStart => exact ⟨0, Nat.zero_le _, rfl, by go_num, H1.out, H2.out⟩
      case round =>
        clear H1 H2 hcell hfr q1
        obtain ⟨m, hm8, rfl, rfl, hO, hg⟩ := hrel
        by_cases hlt8 : m < 8
        · have hmz : (m : Int) < 8 := by omega
          have hm0 : (0 : Int) ≤ (m : Int) := by omega
          obtain ⟨z, hz⟩ := mkd_old (k0 := k0) (ws := ws) (p := k * 9 + 1 + m) (by omega)
          have hcell : wr.cell? ⟨g, k * 9 + 1 + m, none⟩ = some (.int .i64 z) := by rw [hO.cellAt (k * 9 + 1 + m) (by omega), hz]
          have hfr := hO.frozenAt (k * 9 + 1 + m)
          have q1 : IntKind.i64.wrap (((k0 + (k * 9 + 1 + m) : Nat) : Int) + 1) = ((k0 + (k * 9 + 1 + (m + 1)) : Nat) : Int) := by rw [IntKind.wrap_i64]; omega
          obtain ⟨h1, h2⟩ := hO.stored (k * 9 + 1 + m) (.int .i64 ((k0 + (k * 9 + 1 + m) : Nat) : Int))
          rw [mkd_step (by omega)] at h1
          have H1 := Lib.hid h1
          have H2 := Lib.hid (grown_trans hg h2)
          clear h1 h2 hO hg hz
          go_wp2_with fail
          go_roundw
          case rel => exact ⟨m + 1, by omega, by go_num, by go_num, H1.out, H2.out⟩
          case measure => simp [intOf]; omega
        · obtain rfl : m = 8 := by omega
          have H1 := Lib.hid hO
          have H2 := Lib.hid hg
          clear hO hg
          go_wp2_with fail
          go_roundw
          case rel => exact ⟨k + 1, by omega, by go_num, by go_num, by rw [show (k + 1) * 9 = k * 9 + 1 + 8 from by omega]; exact H1.out, H2.out⟩
          case measure => simp [intOf]; omega
    · obtain rfl : k = n := by omega
      rw [← hn, mkd_all, hn] at hO
      have H1 := Lib.hid hO
      have H2 := Lib.hid hg
      clear hO hg
      go_wp2_with fail
      go_ret
      exact ⟨rfl, H1.out, H2.out⟩
theorem mark_nil (k0 : Nat) (w : World) : Calls Try.prog 28 #[.slice none 0 0, .int .i64 k0] w fun e w' => e = .returned (.int .i64 k0) ∧ w = w' := by
  go_enter Try.func28, Try.ntmps28
  go_wp2_with fail
  refine wp_loop_rounds 1 ?_
  rw [rounds_succ]
  go_wp2_with fail
  go_ret
  exact ⟨rfl, rfl⟩
theorem mark_any (k0 : Nat) (hk0 : k0 ≤ 100000000) (v : Value) (B : Nat) (ws : List Wh) (w : World) (ho : Own w B 67 v ws) (hm : ws.length ≤ 1048576) :
    Calls Try.prog 28 #[v, .int .i64 k0] w fun e w' => e = .returned (.int .i64 ((k0 + ws.length * 9 : Nat) : Int)) ∧ w'.ownsRow B 67 9 v ws.length (mk9 k0 (ws.length * 9)) ∧ w.grownBy w' v.ownBlock := by
  have h2 := ho.2
  rcases h2 with ⟨rfl, h0⟩ | ⟨g, cap, cur, rfl, _⟩
  · refine (mark_nil k0 w).mono ?_
    rintro e w' ⟨rfl, rfl⟩
    refine ⟨by rw [h0]; rfl, ?_, World.grownBy.refl _ _⟩
    rw [h0, Nat.zero_mul]; exact World.ownsRow_nil _ _ _ _
  · exact mark_own k0 B g ws.length cap hk0 ws w rfl ho hm

set_option maxHeartbeats 2000000 in
theorem held_own (k0 B g n cap : Nat) (hk0 : k0 ≤ 100000000) (w : World) (ho : w.ownsRow B 67 9 (.slice (some ⟨g, 0, none⟩) n cap) n (mk9 k0 (n * 9))) (hm : n ≤ 1048576) :
    Calls Try.prog 29 #[.slice (some ⟨g, 0, none⟩) n cap, .int .i64 k0] w fun e w' => e = .returned (.int .i64 ((k0 + n * 9 : Nat) : Int)) ∧ w = w' := by
  have HO := Lib.hid ho
  clear ho
  go_enter Try.func29, Try.ntmps29
  go_wp2_with fail
  go_loop [1, 5, 6] (fun ks i _ => ∃ k : Nat, k ≤ n ∧ i = .int .i64 k ∧ ks = .int .i64 ((k0 + k * 9 : Nat) : Int)) (fun _ i _ => n - (intOf i).toNat)
  case atStart => exact ⟨0, Nat.zero_le _, rfl, rfl⟩
  case round =>
    obtain ⟨k, hk, rfl, rfl⟩ := hrel
    by_cases hlt : k < n
    · have hkz : (k : Int) < (n : Int) := by omega
      have hk0 : (0 : Int) ≤ (k : Int) := by omega
      have hcell : w.cell? ⟨g, k * 9, none⟩ = some (.int .i64 ((k0 + k * 9 : Nat) : Int)) := by
        rw [HO.out.cellAt (k * 9) (by omega), mk9_at (by omega)]
      have q1 : IntKind.i64.wrap (((k0 + k * 9 : Nat) : Int) + 1) = ((k0 + (k * 9 + 1) : Nat) : Int) := by rw [IntKind.wrap_i64]; omega
      have hne : (((k0 + k * 9 : Nat) : Int) != ((k0 + k * 9 : Nat) : Int)) = false := by simp
      go_wp2_with fail
      go_loop [1, 6] (fun ks j => ∃ m : Nat, m ≤ 8 ∧ j = .int .i64 m ∧ ks = .int .i64 ((k0 + (k * 9 + 1 + m) : Nat) : Int)) (fun _ j => 8 - (intOf j).toNat)
      case atStart => exact ⟨0, Nat.zero_le _, rfl, by go_num⟩
      case round =>
        clear hcell q1 hne
        obtain ⟨m, hm8, rfl, rfl⟩ := hrel
        by_cases hlt8 : m < 8
        · have hmz : (m : Int) < 8 := by omega
          have hm0 : (0 : Int) ≤ (m : Int) := by omega
          have hcell : w.cell? ⟨g, k * 9 + 1 + m, none⟩ = some (.int .i64 ((k0 + (k * 9 + 1 + m) : Nat) : Int)) := by
            rw [HO.out.cellAt (k * 9 + 1 + m) (by omega), mk9_at (by omega)]
          have q1 : IntKind.i64.wrap (((k0 + (k * 9 + 1 + m) : Nat) : Int) + 1) = ((k0 + (k * 9 + 1 + (m + 1)) : Nat) : Int) := by rw [IntKind.wrap_i64]; omega
          have hne : (((k0 + (k * 9 + 1 + m) : Nat) : Int) != ((k0 + (k * 9 + 1 + m) : Nat) : Int)) = false := by simp
          go_wp2_with fail
          go_round
          case rel => exact ⟨m + 1, by omega, by go_num, by go_num⟩
          case measure => simp [intOf]; omega
        · obtain rfl : m = 8 := by omega
          go_wp2_with fail
          go_round
          case rel => exact ⟨k + 1, by omega, by go_num, by go_num⟩
          case measure => simp [intOf]; omega
    · obtain rfl : k = n := by omega
      go_wp2_with fail
      go_ret
      exact ⟨rfl, rfl⟩
theorem held_nil (k0 : Nat) (w : World) : Calls Try.prog 29 #[.slice none 0 0, .int .i64 k0] w fun e w' => e = .returned (.int .i64 k0) ∧ w = w' := by
  go_enter Try.func29, Try.ntmps29
  go_wp2_with fail
  refine wp_loop_rounds 1 ?_
  rw [rounds_succ]
  go_wp2_with fail
  go_ret
  exact ⟨rfl, rfl⟩
theorem held_any (k0 : Nat) (hk0 : k0 ≤ 100000000) (v : Value) (B n : Nat) (w : World) (ho : w.ownsRow B 67 9 v n (mk9 k0 (n * 9))) (hm : n ≤ 1048576) :
    Calls Try.prog 29 #[v, .int .i64 k0] w fun e w' => e = .returned (.int .i64 ((k0 + n * 9 : Nat) : Int)) ∧ w = w' := by
  have h2 := ho.2
  rcases h2 with ⟨rfl, rfl⟩ | ⟨g, cap, cur, rfl, _⟩
  · exact held_nil k0 w
  · exact held_own k0 B g n cap hk0 w ho hm

end Go.Proofs.Ytbdhbkedeglagaa
