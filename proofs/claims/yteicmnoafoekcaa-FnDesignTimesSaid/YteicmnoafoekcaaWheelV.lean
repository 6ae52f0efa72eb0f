/-
  Designs compared.
-/
import Derived.Test.YteicmnoafoekcaaWheelU
namespace Go.Proofs.Yteicmnoafoekcaa
set_option maxRecDepth 20000
open Go.ChangeShapes Go.WideShapes Go.ChangeAt Go.RowKit
set_option linter.unusedVariables false
set_option linter.unusedSimpArgs false

theorem equal_nine (a b : Wh) (w : World) : (Op.equalIn 10000 34 (.agg (vec 9 (wf a))) (.agg (vec 9 (wf b)))).run Try.prog w = .ok (eqW a b) w := equal_wheel _ _ w
theorem take_same {a b : List Wh} {k : Nat} {c d : Wh} (h : a.take k = b.take k) (hc : a[k]? = some c) (hd : b[k]? = some d) (e : eqW c d = true) : a.take (k + 1) = b.take (k + 1) := by
  rw [take_next hc, take_next hd, h, eqW_true.1 e]
theorem not_same {a b : List Wh} {k : Nat} {c d : Wh} (hc : a[k]? = some c) (hd : b[k]? = some d) (e : eqW c d = false) : eqL a b = false := eqL_not (by
  rintro rfl
  rw [hc] at hd
  obtain rfl := Option.some.inj hd
  rw [eqW_true.2 rfl] at e
  cases e)
theorem len_same {a b : List Wh} (h : ¬ a.length = b.length) : eqL a b = false := eqL_not (by rintro rfl; exact h rfl)
/-- The tidy form of a design. -/
def tid (ws : List Wh) : Option (List Wh) := if valid ws then tidy false ws else none
/-- Whether two designs are the same when tidy. -/
def sameD (a b : List Wh) : Bool := (tid a).isSome && (tid b).isSome && eqL (got (tid a)) (got (tid b))

set_option maxHeartbeats 2000000 in
theorem l5Equal_any (va vb : Value) (a b : List Wh) (w : World) (ha : Reads w va a) (hb : Reads w vb b) : Calls Try.prog 87 #[va, vb] w fun e w' => e = .returned (.bool (eqL a b)) ∧ Below w.heap.size w w' := by
  obtain ⟨p, cap, rfl, hc1, hc2, hp0, hp⟩ := ha
  obtain ⟨q, cap2, rfl, hd1, hd2, hq0, hq⟩ := hb
  simp only [maxLen] at hc2 hd2
  by_cases hl : a.length = b.length
  · have hlz : (a.length : Int) = (b.length : Int) := by omega
    have hlb : ((a.length : Int) == (b.length : Int)) = true := by simpa using hlz
    have HP := Lib.hid hp
    have HQ := Lib.hid hq
    generalize hres : eqL a b = res
    have HRES := Lib.hid hres
    clear hp hq hres hlz
    have HLL := Lib.hid hl
    clear hl
    go_enter Try.func87, Try.ntmps87
    go_wp2
    go_loopw [5] (fun i wr => ∃ k : Nat, k ≤ a.length ∧ i = .int .i64 k ∧ a.take k = b.take k ∧ Below w.heap.size w wr) (fun i _ => a.length - (intOf i).toNat)
    case atStart => exact ⟨0, Nat.zero_le _, rfl, rfl, Below.refl _ _⟩
    case round =>
      obtain ⟨k, hk, rfl, hall, hbel⟩ := hrel
      have HA := Lib.hid hall
      have HL := Lib.hid hbel
      clear hall hbel
      by_cases hlt : k < a.length
      · have hkz : (k : Int) < (a.length : Int) := by omega
        have hkb : (k : Int) < (b.length : Int) := by have := HLL.out; omega
        have hk0 : (0 : Int) ≤ (k : Int) := by omega
        have hlt2 : k < b.length := by have := HLL.out; omega
        obtain ⟨c, hc⟩ : ∃ c, a[k]? = some c := ⟨_, List.getElem?_eq_getElem hlt⟩
        obtain ⟨d, hd⟩ : ∃ d, b[k]? = some d := ⟨_, List.getElem?_eq_getElem hlt2⟩
        obtain ⟨g, o, rfl, hg, hr⟩ := HP.out (by rintro rfl; have := hp0 rfl; omega)
        obtain ⟨g2, o2, rfl, hg2, hr2⟩ := HQ.out (by rintro rfl; have := hq0 rfl; omega)
        have HE := Lib.hid (range_part (range_below hr hg HL.out) hc)
        have HE2 := Lib.hid (range_part (range_below hr2 hg2 HL.out) hd)
        have HC := Lib.hid hc
        have HD := Lib.hid hd
        have E := equal_nine c d
        clear hr hr2 hc hd hlt2
        generalize hcd : eqW c d = bit at *
        have HCD := Lib.hid hcd
        clear hcd
        go_upto_region 6 with fail
        refine wp_region_held_drew (S := fun w' => w' = wr.drew) (by kernel_rfl) rfl (fun hHeld => ?_)
        refine wpAnyH_take (i := 0) (oi := _) (v := .slice (some ⟨g, o, none⟩) a.length cap) rfl (by kernel_rfl) (by kernel_rfl) (by kernel_rfl) (fun _ _ _ h => h) (Or.inl ⟨by rfl, fun w h => by go_simp⟩) hHeld ?_
        try simp only [Act.put, List.setIfInBounds_toArray, List.set_cons_zero, List.set_cons_succ, List.getElem_toArray, List.getElem_cons_succ, List.getElem_cons_zero]
        refine wpAnyH_take (i := 1) (oi := _) (v := .int .i64 k) rfl (by kernel_rfl) (by kernel_rfl) (by kernel_rfl) (fun _ _ _ h => h) (Or.inl ⟨by rfl, fun w h => by go_simp⟩) hHeld ?_
        try simp only [Act.put, List.setIfInBounds_toArray, List.set_cons_zero, List.set_cons_succ, List.getElem_toArray, List.getElem_cons_succ, List.getElem_cons_zero]
        refine wpAnyH_take (i := 2) (oi := _) (v := .pointer (some ⟨g, o + k * 9, none⟩)) rfl (by kernel_rfl) (by kernel_rfl) (by kernel_rfl) (fun _ _ _ h => h) (Or.inl ⟨by rfl, fun w h => by go_simp⟩) hHeld ?_
        try simp only [Act.put, List.setIfInBounds_toArray, List.set_cons_zero, List.set_cons_succ, List.getElem_toArray, List.getElem_cons_succ, List.getElem_cons_zero]
        refine wpAnyH_take (i := 3) (oi := _) (v := .agg (vec 9 (wf c))) rfl (by kernel_rfl) (by kernel_rfl) (by kernel_rfl) (fun _ _ _ h => h) (yieldsIf_load_mid (by rfl) _ _ rfl _ _ rfl _ _ ((fun w h => by rw [h]; exact HE.out)) Try.underlying34 rfl (size_wheel c)) hHeld ?_
        try simp only [Act.put, List.setIfInBounds_toArray, List.set_cons_zero, List.set_cons_succ, List.getElem_toArray, List.getElem_cons_succ, List.getElem_cons_zero]
        refine wpAnyH_take (i := 4) (oi := _) (v := .slice (some ⟨g2, o2, none⟩) b.length cap2) rfl (by kernel_rfl) (by kernel_rfl) (by kernel_rfl) (fun _ _ _ h => h) (Or.inl ⟨by rfl, fun w h => by go_simp⟩) hHeld ?_
        try simp only [Act.put, List.setIfInBounds_toArray, List.set_cons_zero, List.set_cons_succ, List.getElem_toArray, List.getElem_cons_succ, List.getElem_cons_zero]
        refine wpAnyH_take (i := 5) (oi := _) (v := .int .i64 k) rfl (by kernel_rfl) (by kernel_rfl) (by kernel_rfl) (fun _ _ _ h => h) (Or.inl ⟨by rfl, fun w h => by go_simp⟩) hHeld ?_
        try simp only [Act.put, List.setIfInBounds_toArray, List.set_cons_zero, List.set_cons_succ, List.getElem_toArray, List.getElem_cons_succ, List.getElem_cons_zero]
        refine wpAnyH_take (i := 6) (oi := _) (v := .pointer (some ⟨g2, o2 + k * 9, none⟩)) rfl (by kernel_rfl) (by kernel_rfl) (by kernel_rfl) (fun _ _ _ h => h) (Or.inl ⟨by rfl, fun w h => by go_simp⟩) hHeld ?_
        try simp only [Act.put, List.setIfInBounds_toArray, List.set_cons_zero, List.set_cons_succ, List.getElem_toArray, List.getElem_cons_succ, List.getElem_cons_zero]
        refine wpAnyH_take (i := 7) (oi := _) (v := .agg (vec 9 (wf d))) rfl (by kernel_rfl) (by kernel_rfl) (by kernel_rfl) (fun _ _ _ h => h) (yieldsIf_load_mid (by rfl) _ _ rfl _ _ rfl _ _ ((fun w h => by rw [h]; exact HE2.out)) Try.underlying34 rfl (size_wheel d)) hHeld ?_
        try simp only [Act.put, List.setIfInBounds_toArray, List.set_cons_zero, List.set_cons_succ, List.getElem_toArray, List.getElem_cons_succ, List.getElem_cons_zero]
        refine wpAnyH_take (i := 8) (oi := _) (v := .bool (!bit)) rfl (by kernel_rfl) (by kernel_rfl) (by kernel_rfl) (fun _ _ _ h => h) (Or.inl ⟨by rfl, fun w h => by go_simp⟩) hHeld ?_
        try simp only [Act.put, List.setIfInBounds_toArray, List.set_cons_zero, List.set_cons_succ, List.getElem_toArray, List.getElem_cons_succ, List.getElem_cons_zero]
        clear hHeld
        refine wpAnyH_done (by kernel_rfl) ?_ _
        cases bit
        · have HF : Aside (false = res) := (show false = res from by rw [← HRES.out]; exact (not_same HC.out HD.out HCD.out).symm)
          go_wp2
          go_ret
          rw [← HF.out]
          exact ⟨rfl, HL.out.drew⟩
        · go_wp2
          go_roundw
          case rel => exact ⟨k + 1, by omega, by go_num, take_same HA.out HC.out HD.out HCD.out, HL.out.drew⟩
          case measure => simp [intOf]; omega
      · obtain rfl : k = a.length := by omega
        have HF : Aside (true = res) := (show true = res from by
          have h1 := HA.out
          rw [List.take_length, HLL.out, List.take_length] at h1
          rw [← HRES.out]; exact (eqL_same h1).symm)
        go_wp2
        go_ret
        rw [← HF.out]
        exact ⟨rfl, HL.out⟩
  · have hlb : ((a.length : Int) == (b.length : Int)) = false := by simpa using (show ¬ (a.length : Int) = (b.length : Int) from by omega)
    rw [len_same hl]
    clear hp hq hl
    go_enter Try.func87, Try.ntmps87
    go_wp2
    go_ret
    exact ⟨rfl, Below.refl _ _⟩

set_option maxHeartbeats 2000000 in
theorem slicesEqual_any (va vb : Value) (a b : List Wh) (w : World) (ha : Reads w va a) (hb : Reads w vb b) : Calls Try.prog 86 #[va, vb] w fun e w' => e = .returned (.bool (eqL a b)) ∧ Below w.heap.size w w' := by
  obtain ⟨p, cap, rfl, hc1, hc2, hp0, hp⟩ := ha
  obtain ⟨q, cap2, rfl, hd1, hd2, hq0, hq⟩ := hb
  simp only [maxLen] at hc2 hd2
  by_cases hl : a.length = b.length
  · have hlz : (a.length : Int) = (b.length : Int) := by omega
    have hlb : ((a.length : Int) == (b.length : Int)) = true := by simpa using hlz
    have HP := Lib.hid hp
    have HQ := Lib.hid hq
    generalize hres : eqL a b = res
    have HRES := Lib.hid hres
    clear hp hq hres hlz
    have HLL := Lib.hid hl
    clear hl
    go_enter Try.func86, Try.ntmps86
    go_wp2
    go_loopw [5, 13] (fun _ i wr => ∃ k : Nat, k ≤ a.length ∧ i = .int .i64 k ∧ a.take k = b.take k ∧ Below w.heap.size w wr) (fun _ i _ => a.length - (intOf i).toNat)
    case atStart => exact ⟨0, Nat.zero_le _, rfl, rfl, Below.refl _ _⟩
    case round =>
      obtain ⟨k, hk, rfl, hall, hbel⟩ := hrel
      have HA := Lib.hid hall
      have HL := Lib.hid hbel
      clear hall hbel
      by_cases hlt : k < a.length
      · have hkz : (k : Int) < (a.length : Int) := by omega
        have hkb : (k : Int) < (b.length : Int) := by have := HLL.out; omega
        have hk0 : (0 : Int) ≤ (k : Int) := by omega
        have hlt2 : k < b.length := by have := HLL.out; omega
        obtain ⟨c, hc⟩ : ∃ c, a[k]? = some c := ⟨_, List.getElem?_eq_getElem hlt⟩
        obtain ⟨d, hd⟩ : ∃ d, b[k]? = some d := ⟨_, List.getElem?_eq_getElem hlt2⟩
        obtain ⟨g, o, rfl, hg, hr⟩ := HP.out (by rintro rfl; have := hp0 rfl; omega)
        obtain ⟨g2, o2, rfl, hg2, hr2⟩ := HQ.out (by rintro rfl; have := hq0 rfl; omega)
        have HE := Lib.hid (range_part (range_below hr hg HL.out) hc)
        have HE2 := Lib.hid (range_part (range_below hr2 hg2 HL.out) hd)
        have HC := Lib.hid hc
        have HD := Lib.hid hd
        have E := equal_nine c d
        clear hr hr2 hc hd hlt2
        generalize hcd : eqW c d = bit at *
        have HCD := Lib.hid hcd
        clear hcd
        go_upto_region 6 with fail
        refine wp_region_held_drew (S := fun w' => w' = wr.drew) (by kernel_rfl) rfl (fun hHeld => ?_)
        refine wpAnyH_take (i := 0) (oi := _) (v := .slice (some ⟨g, o, none⟩) a.length cap) rfl (by kernel_rfl) (by kernel_rfl) (by kernel_rfl) (fun _ _ _ h => h) (Or.inl ⟨by rfl, fun w h => by go_simp⟩) hHeld ?_
        try simp only [Act.put, List.setIfInBounds_toArray, List.set_cons_zero, List.set_cons_succ, List.getElem_toArray, List.getElem_cons_succ, List.getElem_cons_zero]
        refine wpAnyH_take (i := 1) (oi := _) (v := .int .i64 k) rfl (by kernel_rfl) (by kernel_rfl) (by kernel_rfl) (fun _ _ _ h => h) (Or.inl ⟨by rfl, fun w h => by go_simp⟩) hHeld ?_
        try simp only [Act.put, List.setIfInBounds_toArray, List.set_cons_zero, List.set_cons_succ, List.getElem_toArray, List.getElem_cons_succ, List.getElem_cons_zero]
        refine wpAnyH_take (i := 2) (oi := _) (v := .pointer (some ⟨g, o + k * 9, none⟩)) rfl (by kernel_rfl) (by kernel_rfl) (by kernel_rfl) (fun _ _ _ h => h) (Or.inl ⟨by rfl, fun w h => by go_simp⟩) hHeld ?_
        try simp only [Act.put, List.setIfInBounds_toArray, List.set_cons_zero, List.set_cons_succ, List.getElem_toArray, List.getElem_cons_succ, List.getElem_cons_zero]
        refine wpAnyH_take (i := 3) (oi := _) (v := .agg (vec 9 (wf c))) rfl (by kernel_rfl) (by kernel_rfl) (by kernel_rfl) (fun _ _ _ h => h) (yieldsIf_load_mid (by rfl) _ _ rfl _ _ rfl _ _ ((fun w h => by rw [h]; exact HE.out)) Try.underlying34 rfl (size_wheel c)) hHeld ?_
        try simp only [Act.put, List.setIfInBounds_toArray, List.set_cons_zero, List.set_cons_succ, List.getElem_toArray, List.getElem_cons_succ, List.getElem_cons_zero]
        refine wpAnyH_take (i := 4) (oi := _) (v := .slice (some ⟨g2, o2, none⟩) b.length cap2) rfl (by kernel_rfl) (by kernel_rfl) (by kernel_rfl) (fun _ _ _ h => h) (Or.inl ⟨by rfl, fun w h => by go_simp⟩) hHeld ?_
        try simp only [Act.put, List.setIfInBounds_toArray, List.set_cons_zero, List.set_cons_succ, List.getElem_toArray, List.getElem_cons_succ, List.getElem_cons_zero]
        refine wpAnyH_take (i := 5) (oi := _) (v := .int .i64 k) rfl (by kernel_rfl) (by kernel_rfl) (by kernel_rfl) (fun _ _ _ h => h) (Or.inl ⟨by rfl, fun w h => by go_simp⟩) hHeld ?_
        try simp only [Act.put, List.setIfInBounds_toArray, List.set_cons_zero, List.set_cons_succ, List.getElem_toArray, List.getElem_cons_succ, List.getElem_cons_zero]
        refine wpAnyH_take (i := 6) (oi := _) (v := .pointer (some ⟨g2, o2 + k * 9, none⟩)) rfl (by kernel_rfl) (by kernel_rfl) (by kernel_rfl) (fun _ _ _ h => h) (Or.inl ⟨by rfl, fun w h => by go_simp⟩) hHeld ?_
        try simp only [Act.put, List.setIfInBounds_toArray, List.set_cons_zero, List.set_cons_succ, List.getElem_toArray, List.getElem_cons_succ, List.getElem_cons_zero]
        refine wpAnyH_take (i := 7) (oi := _) (v := .agg (vec 9 (wf d))) rfl (by kernel_rfl) (by kernel_rfl) (by kernel_rfl) (fun _ _ _ h => h) (yieldsIf_load_mid (by rfl) _ _ rfl _ _ rfl _ _ ((fun w h => by rw [h]; exact HE2.out)) Try.underlying34 rfl (size_wheel d)) hHeld ?_
        try simp only [Act.put, List.setIfInBounds_toArray, List.set_cons_zero, List.set_cons_succ, List.getElem_toArray, List.getElem_cons_succ, List.getElem_cons_zero]
        refine wpAnyH_take (i := 8) (oi := _) (v := .bool (!bit)) rfl (by kernel_rfl) (by kernel_rfl) (by kernel_rfl) (fun _ _ _ h => h) (Or.inl ⟨by rfl, fun w h => by go_simp⟩) hHeld ?_
        try simp only [Act.put, List.setIfInBounds_toArray, List.set_cons_zero, List.set_cons_succ, List.getElem_toArray, List.getElem_cons_succ, List.getElem_cons_zero]
        clear hHeld
        refine wpAnyH_done (by kernel_rfl) ?_ _
        cases bit
        · have HF : Aside (false = res) := (show false = res from by rw [← HRES.out]; exact (not_same HC.out HD.out HCD.out).symm)
          go_wp2
          go_ret
          rw [← HF.out]
          exact ⟨rfl, HL.out.drew⟩
        · go_wp2
          go_roundw
          case rel => exact ⟨k + 1, by omega, by go_num, take_same HA.out HC.out HD.out HCD.out, HL.out.drew⟩
          case measure => simp [intOf]; omega
      · obtain rfl : k = a.length := by omega
        have HF : Aside (true = res) := (show true = res from by
          have h1 := HA.out
          rw [List.take_length, HLL.out, List.take_length] at h1
          rw [← HRES.out]; exact (eqL_same h1).symm)
        go_wp2
        go_ret
        rw [← HF.out]
        exact ⟨rfl, HL.out⟩
  · have hlb : ((a.length : Int) == (b.length : Int)) = false := by simpa using (show ¬ (a.length : Int) = (b.length : Int) from by omega)
    rw [len_same hl]
    clear hp hq hl
    go_enter Try.func86, Try.ntmps86
    go_wp2
    go_ret
    exact ⟨rfl, Below.refl _ _⟩

theorem tid_eq (ws : List Wh) : tid ws = if valid ws then tidy false ws else none := rfl

set_option maxHeartbeats 2000000 in
theorem specDesignSame_any (va vb : Value) (a b : List Wh) (w : World) (ha : Reads w va a) (hb : Reads w vb b) : Calls Try.prog 47 #[va, vb] w fun e w' => e = .returned (.bool (sameD a b)) ∧ Below w.heap.size w w' := by
  have TA := specDesignTidy_any va a w ha
  have TB := fun w2 (h : Below w.heap.size w w2) => specDesignTidy_any vb b w2 (hb.below h)
  unfold sameD
  rw [← tid_eq] at TA
  have TB : ∀ w2 (h : Below w.heap.size w w2), Calls Try.prog 24 #[vb] w2 (Told w2 (tid b)) := TB
  generalize tid a = x at *
  generalize tid b = y at *
  have TA := Lib.hid TA
  have TB := Lib.hid TB
  clear ha hb
  cases x with
  | none =>
    go_enter Try.func47, Try.ntmps47
    go_wp2_with fail
    refine TA.out.mono ?_; rintro e w1 ⟨hb1, v1, rfl, ho1⟩
    go_wp2_with fail
    refine (TB.out _ hb1).mono ?_; rintro e w2 ⟨hb2, v2, rfl, ho2⟩
    have HB := Lib.hid (below_next hb1 hb2)
    clear TA TB hb1 hb2 ho1 ho2
    cases y <;> (go_wp2; go_ret; exact ⟨rfl, HB.out⟩)
  | some x =>
    cases y with
    | none =>
      go_enter Try.func47, Try.ntmps47
      go_wp2_with fail
      refine TA.out.mono ?_; rintro e w1 ⟨hb1, v1, rfl, ho1⟩
      go_wp2_with fail
      refine (TB.out _ hb1).mono ?_; rintro e w2 ⟨hb2, v2, rfl, ho2⟩
      have HB := Lib.hid (below_next hb1 hb2)
      clear TA TB hb1 hb2 ho1 ho2
      go_wp2
      go_ret
      exact ⟨rfl, HB.out⟩
    | some y =>
      show Calls _ _ _ _ fun e w' => e = .returned (.bool (eqL x y)) ∧ _
      have E := fun v1 v2 w2 h1 h2 => l5Equal_any v1 v2 x y w2 h1 h2
      generalize eqL x y = r at *
      go_enter Try.func47, Try.ntmps47
      go_wp2_with fail
      refine TA.out.mono ?_; rintro e w1 ⟨hb1, v1, rfl, ho1⟩
      go_wp2_with fail
      refine (TB.out _ hb1).mono ?_; rintro e w2 ⟨hb2, v2, rfl, ho2⟩
      have HB := Lib.hid (below_next hb1 hb2)
      have E := E v1 v2 w2 (own_reads (own_below ho1 hb2)) (own_reads ho2)
      clear TA TB hb1 hb2 ho1 ho2
      go_wp2_with fail
      refine E.mono ?_; rintro e w3 ⟨rfl, hb3⟩
      have HB3 := Lib.hid (below_next HB.out hb3)
      clear hb3 E HB
      go_wp2
      go_ret
      exact ⟨rfl, HB3.out⟩

set_option maxHeartbeats 2000000 in
theorem DesignSame_any (va vb : Value) (a b : List Wh) (w : World) (ha : Reads w va a) (hb : Reads w vb b) : Calls Try.prog 46 #[va, vb] w fun e w' => e = .returned (.bool (sameD a b)) ∧ Below w.heap.size w w' := by
  have TA := DesignTidy_any va a w ha
  have TB := fun w2 (h : Below w.heap.size w w2) => DesignTidy_any vb b w2 (hb.below h)
  unfold sameD
  rw [← tid_eq] at TA
  have TB : ∀ w2 (h : Below w.heap.size w w2), Calls Try.prog 23 #[vb] w2 (Told w2 (tid b)) := TB
  generalize tid a = x at *
  generalize tid b = y at *
  have TA := Lib.hid TA
  have TB := Lib.hid TB
  clear ha hb
  cases x with
  | none =>
    go_enter Try.func46, Try.ntmps46
    go_wp2_with fail
    refine TA.out.mono ?_; rintro e w1 ⟨hb1, v1, rfl, ho1⟩
    go_wp2_with fail
    refine (TB.out _ hb1).mono ?_; rintro e w2 ⟨hb2, v2, rfl, ho2⟩
    have HB := Lib.hid (below_next hb1 hb2)
    clear TA TB hb1 hb2 ho1 ho2
    cases y <;> (go_wp2; go_ret; exact ⟨rfl, HB.out⟩)
  | some x =>
    cases y with
    | none =>
      go_enter Try.func46, Try.ntmps46
      go_wp2_with fail
      refine TA.out.mono ?_; rintro e w1 ⟨hb1, v1, rfl, ho1⟩
      go_wp2_with fail
      refine (TB.out _ hb1).mono ?_; rintro e w2 ⟨hb2, v2, rfl, ho2⟩
      have HB := Lib.hid (below_next hb1 hb2)
      clear TA TB hb1 hb2 ho1 ho2
      go_wp2
      go_ret
      exact ⟨rfl, HB.out⟩
    | some y =>
      show Calls _ _ _ _ fun e w' => e = .returned (.bool (eqL x y)) ∧ _
      have E := fun v1 v2 w2 h1 h2 => slicesEqual_any v1 v2 x y w2 h1 h2
      generalize eqL x y = r at *
      go_enter Try.func46, Try.ntmps46
      go_wp2_with fail
      refine TA.out.mono ?_; rintro e w1 ⟨hb1, v1, rfl, ho1⟩
      go_wp2_with fail
      refine (TB.out _ hb1).mono ?_; rintro e w2 ⟨hb2, v2, rfl, ho2⟩
      have HB := Lib.hid (below_next hb1 hb2)
      have E := E v1 v2 w2 (own_reads (own_below ho1 hb2)) (own_reads ho2)
      clear TA TB hb1 hb2 ho1 ho2
      go_wp2_with fail
      refine E.mono ?_; rintro e w3 ⟨rfl, hb3⟩
      have HB3 := Lib.hid (below_next HB.out hb3)
      clear hb3 E HB
      go_wp2
      go_ret
      exact ⟨rfl, HB3.out⟩

end Go.Proofs.Yteicmnoafoekcaa
