/-
  The walk of the law FnTidy.
-/
import Derived.Test.YteicmnoafoekcaaLawWheelBase
namespace Go.Proofs.Yteicmnoafoekcaa
set_option maxRecDepth 20000
open Go.ChangeShapes Go.WideShapes Go.ChangeAt Go.RowKit
set_option linter.unusedVariables false
set_option linter.unusedSimpArgs false

set_option maxHeartbeats 8000000 in
theorem lawFnTidy_walk (v : Value) (w : World) (h : CodeAt w v) : Calls Try.prog 4 #[v] w (Fine w) := by
  have D := Lib.hid (drawDesignTidy v w h)
  obtain ⟨pa, pn, pc, rfl, hpn⟩ := code_length h
  clear h
  by_cases hbig : 1048576 < pn
  · have hb : (1048576 : Int) < (pn : Int) := by omega
    go_enter Try.func4, Try.ntmps4
    go_wp2_with fail
    go_ret
    exact fine_same ⟨rfl, rfl⟩
  have hb : ¬ (1048576 : Int) < (pn : Int) := by omega
  go_enter Try.func4, Try.ntmps4
  go_wp2_with fail
  refine D.out.mono ?_; rintro e w1 ⟨v2, ws, rfl, hR, hL⟩
  clear D

  have T1 : Calls Try.prog 23 #[v2] w1 (Told w1 (tid ws)) := DesignTidy_any v2 ws w1 hR
  have T2 : ∀ w (h : Reads w v2 ws), Calls Try.prog 24 #[v2] w (Told w (tid ws)) := fun w h => specDesignTidy_any v2 ws w h
  cases hx : tid ws with
  | none =>
    rw [hx] at T1 T2
    go_wp2_with fail
    refine (T1).mono ?_; rintro e w2 ⟨hbw2, v3, rfl, ho⟩
    replace hR := hR.below hbw2
    replace hL := below_next hL hbw2
    have hO : Reads w2 v3 [] := own_reads ho
    clear ho hbw2
    go_wp2_with fail
    refine (T2 _ hR).mono ?_; rintro e w3 ⟨hbw3, v4, rfl, ho⟩
    replace hR := hR.below hbw3
    replace hO := hO.below hbw3
    replace hL := below_next hL hbw3
    have hW : Reads w3 v4 [] := own_reads ho
    clear ho hbw3
    clear T1 T2
    go_wp2_with fail
    refine (same_self v3 v4 _ _ hO hW).mono ?_; rintro e w4 ⟨rfl, hbw4⟩
    replace hR := hR.below hbw4
    replace hO := hO.below hbw4
    replace hW := hW.below hbw4
    replace hL := below_next hL hbw4
    clear hbw4
    go_wp2_with fail
    refine (same_self v3 v4 _ _ hO hW).mono ?_; rintro e w5 ⟨rfl, hbw5⟩
    replace hR := hR.below hbw5
    replace hO := hO.below hbw5
    replace hW := hW.below hbw5
    replace hL := below_next hL hbw5
    clear hbw5
    go_wp2
    go_ret
    exact ⟨rfl, hL⟩
  | some R =>
    obtain ⟨hvd, htd, -, hpa⟩ := tid_some hx
    rw [hx] at T1 T2
    go_wp2_with fail
    refine (T1).mono ?_; rintro e w2 ⟨hbw2, v3, rfl, ho⟩
    replace hR := hR.below hbw2
    replace hL := below_next hL hbw2
    have hO : Reads w2 v3 R := own_reads ho
    clear ho hbw2
    go_wp2_with fail
    refine (T2 _ hR).mono ?_; rintro e w3 ⟨hbw3, v4, rfl, ho⟩
    replace hR := hR.below hbw3
    replace hO := hO.below hbw3
    replace hL := below_next hL hbw3
    have hW : Reads w3 v4 R := own_reads ho
    clear ho hbw3
    clear T1 T2
    go_wp2_with fail
    refine (same_self v3 v4 _ _ hO hW).mono ?_; rintro e w4 ⟨rfl, hbw4⟩
    replace hR := hR.below hbw4
    replace hO := hO.below hbw4
    replace hW := hW.below hbw4
    replace hL := below_next hL hbw4
    clear hbw4
    have T3 : Calls Try.prog 23 #[v3] w4 (Told w4 (tid R)) := DesignTidy_any v3 R w4 hO
    rw [tid_again htd] at T3
    go_wp2_with fail
    refine (T3).mono ?_; rintro e w5 ⟨hbw5, v5, rfl, ho⟩
    replace hR := hR.below hbw5
    replace hO := hO.below hbw5
    replace hW := hW.below hbw5
    replace hL := below_next hL hbw5
    have hX : Reads w5 v5 R := own_reads ho
    clear ho hbw5
    clear T3 hW
    have HTD := Lib.hid htd
    have HPA := Lib.hid hpa
    have HX := Lib.hid hx
    clear htd hpa hx hvd
    obtain ⟨pR, capR, rfl, hc1, hc2, hp0, hp⟩ := hO
    have hO : Reads w5 (.slice pR R.length capR) R := ⟨pR, capR, rfl, hc1, hc2, hp0, hp⟩
    simp only [maxLen] at hc2
    have HP := Lib.hid hp
    clear hp
    go_wp2
    go_loopw [10] (fun i wr => ∃ k : Nat, k ≤ R.length ∧ i = .int .i64 k ∧ Below w5.heap.size w5 wr) (fun i _ => R.length - (intOf i).toNat)
    case atStart => exact ⟨0, Nat.zero_le _, rfl, Below.refl _ _⟩
    case round =>
      obtain ⟨k, hk, rfl, hbel⟩ := hrel
      have HL := Lib.hid hbel
      clear hbel
      by_cases hlt : k < R.length
      · have hkz : (k : Int) < (R.length : Int) := by omega
        have hk0 : (0 : Int) ≤ (k : Int) := by omega
        obtain ⟨c, hc⟩ : ∃ c, R[k]? = some c := ⟨_, List.getElem?_eq_getElem hlt⟩
        obtain ⟨g, o, rfl, hg, hr⟩ := HP.out (by rintro rfl; have := hp0 rfl; omega)
        have HE := Lib.hid (range_part (range_below hr hg HL.out) hc)
        have E := equal_nz c
        rw [HTD.out.nz c (List.mem_of_getElem? hc)] at E
        by_cases hk1 : k = 0
        · subst hk1
          clear hr
          go_upto_region 12 with fail
          refine wp_region_held_drew (S := fun w' => w' = wr.drew) (by kernel_rfl) rfl (fun hHeld => ?_)
          refine wpAnyH_take (i := 0) (oi := _) (v := .slice (some ⟨g, o, none⟩) R.length capR) rfl (by kernel_rfl) (by kernel_rfl) (by kernel_rfl) (fun _ _ _ h => h) (Or.inl ⟨by rfl, fun w h => by go_simp⟩) hHeld ?_
          try simp only [Act.put, List.setIfInBounds_toArray, List.set_cons_zero, List.set_cons_succ, List.getElem_toArray, List.getElem_cons_succ, List.getElem_cons_zero]
          refine wpAnyH_take (i := 1) (oi := _) (v := .int .i64 0) rfl (by kernel_rfl) (by kernel_rfl) (by kernel_rfl) (fun _ _ _ h => h) (Or.inl ⟨by rfl, fun w h => by go_simp⟩) hHeld ?_
          try simp only [Act.put, List.setIfInBounds_toArray, List.set_cons_zero, List.set_cons_succ, List.getElem_toArray, List.getElem_cons_succ, List.getElem_cons_zero]
          refine wpAnyH_take (i := 2) (oi := _) (v := .pointer (some ⟨g, o, none⟩)) rfl (by kernel_rfl) (by kernel_rfl) (by kernel_rfl) (fun _ _ _ h => h) (Or.inl ⟨by rfl, fun w h => by go_simp⟩) hHeld ?_
          try simp only [Act.put, List.setIfInBounds_toArray, List.set_cons_zero, List.set_cons_succ, List.getElem_toArray, List.getElem_cons_succ, List.getElem_cons_zero]
          refine wpAnyH_take (i := 3) (oi := _) (v := .pointer (some ⟨g, o + 1, none⟩)) rfl (by kernel_rfl) (by kernel_rfl) (by kernel_rfl) (fun _ _ _ h => h) (Or.inl ⟨by rfl, fun w h => by go_simp⟩) hHeld ?_
          try simp only [Act.put, List.setIfInBounds_toArray, List.set_cons_zero, List.set_cons_succ, List.getElem_toArray, List.getElem_cons_succ, List.getElem_cons_zero]
          refine wpAnyH_take (i := 4) (oi := _) (v := .agg (vec 8 c.r.up)) rfl (by kernel_rfl) (by kernel_rfl) (by kernel_rfl) (fun _ _ _ h => h) (yieldsIf_load_mid (by rfl) _ _ rfl _ _ rfl _ _ ((fun w h => by rw [h]; exact range_radius (by have := HE.out; rw [Nat.zero_mul, Nat.add_zero] at this; exact this))) Try.underlying32 rfl (size_cyc8 _)) hHeld ?_
          try simp only [Act.put, List.setIfInBounds_toArray, List.set_cons_zero, List.set_cons_succ, List.getElem_toArray, List.getElem_cons_succ, List.getElem_cons_zero]
          refine wpAnyH_take (i := 5) (oi := _) (v := .agg #[.int .i64 0, .int .i64 0, .int .i64 0, .int .i64 0, .int .i64 0, .int .i64 0, .int .i64 0, .int .i64 0]) rfl (by kernel_rfl) (by kernel_rfl) (by kernel_rfl) (fun _ _ _ h => h) (Or.inl ⟨by rfl, fun w h => by go_simp⟩) hHeld ?_
          try simp only [Act.put, List.setIfInBounds_toArray, List.set_cons_zero, List.set_cons_succ, List.getElem_toArray, List.getElem_cons_succ, List.getElem_cons_zero]
          refine wpAnyH_take (i := 6) (oi := _) (v := .bool false) rfl (by kernel_rfl) (by kernel_rfl) (by kernel_rfl) (fun _ _ _ h => h) (Or.inl ⟨by rfl, fun w h => by go_simp⟩) hHeld ?_
          try simp only [Act.put, List.setIfInBounds_toArray, List.set_cons_zero, List.set_cons_succ, List.getElem_toArray, List.getElem_cons_succ, List.getElem_cons_zero]
          refine wpAnyH_take (i := 7) (oi := _) (v := .bool false) rfl (by kernel_rfl) (by kernel_rfl) (by kernel_rfl) (fun _ _ _ h => h) (Or.inl ⟨by rfl, fun w h => by go_simp⟩) hHeld ?_
          try simp only [Act.put, List.setIfInBounds_toArray, List.set_cons_zero, List.set_cons_succ, List.getElem_toArray, List.getElem_cons_succ, List.getElem_cons_zero]
          refine wpAnyH_take (i := 8) (oi := _) (v := .int .i64 0) rfl (by kernel_rfl) (by kernel_rfl) (by kernel_rfl) (fun _ _ _ h => h) (Or.inl ⟨by rfl, fun w h => by go_simp⟩) hHeld ?_
          try simp only [Act.put, List.setIfInBounds_toArray, List.set_cons_zero, List.set_cons_succ, List.getElem_toArray, List.getElem_cons_succ, List.getElem_cons_zero]
          refine wpAnyH_take (i := 9) (oi := _) (v := .bool false) rfl (by kernel_rfl) (by kernel_rfl) (by kernel_rfl) (fun _ _ _ h => h) (Or.inl ⟨by rfl, fun w h => by go_simp⟩) hHeld ?_
          try simp only [Act.put, List.setIfInBounds_toArray, List.set_cons_zero, List.set_cons_succ, List.getElem_toArray, List.getElem_cons_succ, List.getElem_cons_zero]
          refine wpAnyH_take (i := 10) (oi := _) (v := .bool false) rfl (by kernel_rfl) (by kernel_rfl) (by kernel_rfl) (fun _ _ _ h => h) (Or.inl ⟨by rfl, fun w h => by go_simp⟩) hHeld ?_
          try simp only [Act.put, List.setIfInBounds_toArray, List.set_cons_zero, List.set_cons_succ, List.getElem_toArray, List.getElem_cons_succ, List.getElem_cons_zero]
          refine wpAnyH_take (i := 11) (oi := _) (v := undef) rfl (by kernel_rfl) (by kernel_rfl) (by kernel_rfl) (fun _ _ _ h => h) (Or.inr ⟨by rfl, rfl⟩) hHeld ?_
          try simp only [Act.put, List.setIfInBounds_toArray, List.set_cons_zero, List.set_cons_succ, List.getElem_toArray, List.getElem_cons_succ, List.getElem_cons_zero]
          refine wpAnyH_take (i := 12) (oi := _) (v := undef) rfl (by kernel_rfl) (by kernel_rfl) (by kernel_rfl) (fun _ _ _ h => h) (Or.inr ⟨by rfl, rfl⟩) hHeld ?_
          try simp only [Act.put, List.setIfInBounds_toArray, List.set_cons_zero, List.set_cons_succ, List.getElem_toArray, List.getElem_cons_succ, List.getElem_cons_zero]
          refine wpAnyH_take (i := 13) (oi := _) (v := undef) rfl (by kernel_rfl) (by kernel_rfl) (by kernel_rfl) (fun _ _ _ h => h) (Or.inr ⟨by rfl, rfl⟩) hHeld ?_
          try simp only [Act.put, List.setIfInBounds_toArray, List.set_cons_zero, List.set_cons_succ, List.getElem_toArray, List.getElem_cons_succ, List.getElem_cons_zero]
          refine wpAnyH_take (i := 14) (oi := _) (v := undef) rfl (by kernel_rfl) (by kernel_rfl) (by kernel_rfl) (fun _ _ _ h => h) (Or.inr ⟨by rfl, rfl⟩) hHeld ?_
          try simp only [Act.put, List.setIfInBounds_toArray, List.set_cons_zero, List.set_cons_succ, List.getElem_toArray, List.getElem_cons_succ, List.getElem_cons_zero]
          refine wpAnyH_take (i := 15) (oi := _) (v := undef) rfl (by kernel_rfl) (by kernel_rfl) (by kernel_rfl) (fun _ _ _ h => h) (Or.inr ⟨by rfl, rfl⟩) hHeld ?_
          try simp only [Act.put, List.setIfInBounds_toArray, List.set_cons_zero, List.set_cons_succ, List.getElem_toArray, List.getElem_cons_succ, List.getElem_cons_zero]
          refine wpAnyH_take (i := 16) (oi := _) (v := undef) rfl (by kernel_rfl) (by kernel_rfl) (by kernel_rfl) (fun _ _ _ h => h) (Or.inr ⟨by rfl, rfl⟩) hHeld ?_
          try simp only [Act.put, List.setIfInBounds_toArray, List.set_cons_zero, List.set_cons_succ, List.getElem_toArray, List.getElem_cons_succ, List.getElem_cons_zero]
          refine wpAnyH_take (i := 17) (oi := _) (v := undef) rfl (by kernel_rfl) (by kernel_rfl) (by kernel_rfl) (fun _ _ _ h => h) (Or.inr ⟨by rfl, rfl⟩) hHeld ?_
          try simp only [Act.put, List.setIfInBounds_toArray, List.set_cons_zero, List.set_cons_succ, List.getElem_toArray, List.getElem_cons_succ, List.getElem_cons_zero]
          refine wpAnyH_take (i := 18) (oi := _) (v := undef) rfl (by kernel_rfl) (by kernel_rfl) (by kernel_rfl) (fun _ _ _ h => h) (Or.inr ⟨by rfl, rfl⟩) hHeld ?_
          try simp only [Act.put, List.setIfInBounds_toArray, List.set_cons_zero, List.set_cons_succ, List.getElem_toArray, List.getElem_cons_succ, List.getElem_cons_zero]
          refine wpAnyH_take (i := 19) (oi := _) (v := undef) rfl (by kernel_rfl) (by kernel_rfl) (by kernel_rfl) (fun _ _ _ h => h) (Or.inr ⟨by rfl, rfl⟩) hHeld ?_
          try simp only [Act.put, List.setIfInBounds_toArray, List.set_cons_zero, List.set_cons_succ, List.getElem_toArray, List.getElem_cons_succ, List.getElem_cons_zero]
          refine wpAnyH_take (i := 20) (oi := _) (v := undef) rfl (by kernel_rfl) (by kernel_rfl) (by kernel_rfl) (fun _ _ _ h => h) (Or.inr ⟨by rfl, rfl⟩) hHeld ?_
          try simp only [Act.put, List.setIfInBounds_toArray, List.set_cons_zero, List.set_cons_succ, List.getElem_toArray, List.getElem_cons_succ, List.getElem_cons_zero]
          refine wpAnyH_take (i := 21) (oi := _) (v := undef) rfl (by kernel_rfl) (by kernel_rfl) (by kernel_rfl) (fun _ _ _ h => h) (Or.inr ⟨by rfl, rfl⟩) hHeld ?_
          try simp only [Act.put, List.setIfInBounds_toArray, List.set_cons_zero, List.set_cons_succ, List.getElem_toArray, List.getElem_cons_succ, List.getElem_cons_zero]
          refine wpAnyH_take (i := 22) (oi := _) (v := undef) rfl (by kernel_rfl) (by kernel_rfl) (by kernel_rfl) (fun _ _ _ h => h) (Or.inr ⟨by rfl, rfl⟩) hHeld ?_
          try simp only [Act.put, List.setIfInBounds_toArray, List.set_cons_zero, List.set_cons_succ, List.getElem_toArray, List.getElem_cons_succ, List.getElem_cons_zero]
          refine wpAnyH_take (i := 23) (oi := _) (v := .bool false) rfl (by kernel_rfl) (by kernel_rfl) (by kernel_rfl) (fun _ _ _ h => h) (Or.inl ⟨by rfl, fun w h => by go_simp⟩) hHeld ?_
          try simp only [Act.put, List.setIfInBounds_toArray, List.set_cons_zero, List.set_cons_succ, List.getElem_toArray, List.getElem_cons_succ, List.getElem_cons_zero]
          refine wpAnyH_take (i := 24) (oi := _) (v := .bool false) rfl (by kernel_rfl) (by kernel_rfl) (by kernel_rfl) (fun _ _ _ h => h) (Or.inl ⟨by rfl, fun w h => by go_simp⟩) hHeld ?_
          try simp only [Act.put, List.setIfInBounds_toArray, List.set_cons_zero, List.set_cons_succ, List.getElem_toArray, List.getElem_cons_succ, List.getElem_cons_zero]
          clear hHeld
          refine wpAnyH_done (by kernel_rfl) ?_ _
          go_wp2
          go_roundw
          case rel => exact ⟨1, by omega, by go_num, HL.out.drew⟩
          case measure => simp [intOf]; omega
        · obtain ⟨m, rfl⟩ : ∃ m, k = m + 1 := ⟨k - 1, by omega⟩
          obtain ⟨d, hd⟩ : ∃ d, R[m]? = some d := ⟨_, List.getElem?_eq_getElem (by omega)⟩
          have HE2 := Lib.hid (range_part (range_below hr hg HL.out) hd)
          have hdc : d.s < c.s := by
            have ha := HTD.out.asc
            obtain ⟨i1, e1⟩ := List.getElem?_eq_some_iff.1 hd
            obtain ⟨i2, e2⟩ := List.getElem?_eq_some_iff.1 hc
            have := List.pairwise_iff_getElem.1 ha m (m + 1) i1 i2 (by omega)
            rw [e1, e2] at this; exact this
          have hdc2 : ¬ c.s ≤ d.s := by omega
          have q1 : IntKind.i64.wrap ((m : Int) + 1 - 1) = (m : Int) := by rw [IntKind.wrap_i64]; omega
          have q1' : IntKind.i64.wrap (m : Int) = (m : Int) := by rw [IntKind.wrap_i64]; omega
          have q2 : (0 : Int) ≤ (m : Int) := by omega
          have q3 : (m : Int) < (R.length : Int) := by omega
          have q4 : (0 : Int) < (m : Int) + 1 := by omega
          have q5 : (m : Int) + 1 < (R.length : Int) := by omega
          have q6 : (0 : Int) ≤ (m : Int) + 1 := by omega
          clear hr hc hd
          go_upto_region 12 with fail
          refine wp_region_held_drew (S := fun w' => w' = wr.drew) (by kernel_rfl) rfl (fun hHeld => ?_)
          refine wpAnyH_take (i := 0) (oi := _) (v := .slice (some ⟨g, o, none⟩) R.length capR) rfl (by kernel_rfl) (by kernel_rfl) (by kernel_rfl) (fun _ _ _ h => h) (Or.inl ⟨by rfl, fun w h => by go_simp⟩) hHeld ?_
          try simp only [Act.put, List.setIfInBounds_toArray, List.set_cons_zero, List.set_cons_succ, List.getElem_toArray, List.getElem_cons_succ, List.getElem_cons_zero]
          refine wpAnyH_take (i := 1) (oi := _) (v := .int .i64 ((m : Int) + 1)) rfl (by kernel_rfl) (by kernel_rfl) (by kernel_rfl) (fun _ _ _ h => h) (Or.inl ⟨by rfl, fun w h => by go_simp⟩) hHeld ?_
          try simp only [Act.put, List.setIfInBounds_toArray, List.set_cons_zero, List.set_cons_succ, List.getElem_toArray, List.getElem_cons_succ, List.getElem_cons_zero]
          refine wpAnyH_take (i := 2) (oi := _) (v := .pointer (some ⟨g, o + (m + 1) * 9, none⟩)) rfl (by kernel_rfl) (by kernel_rfl) (by kernel_rfl) (fun _ _ _ h => h) (Or.inl ⟨by rfl, fun w h => by go_simp⟩) hHeld ?_
          try simp only [Act.put, List.setIfInBounds_toArray, List.set_cons_zero, List.set_cons_succ, List.getElem_toArray, List.getElem_cons_succ, List.getElem_cons_zero]
          refine wpAnyH_take (i := 3) (oi := _) (v := .pointer (some ⟨g, o + (m + 1) * 9 + 1, none⟩)) rfl (by kernel_rfl) (by kernel_rfl) (by kernel_rfl) (fun _ _ _ h => h) (Or.inl ⟨by rfl, fun w h => by go_simp⟩) hHeld ?_
          try simp only [Act.put, List.setIfInBounds_toArray, List.set_cons_zero, List.set_cons_succ, List.getElem_toArray, List.getElem_cons_succ, List.getElem_cons_zero]
          refine wpAnyH_take (i := 4) (oi := _) (v := .agg (vec 8 c.r.up)) rfl (by kernel_rfl) (by kernel_rfl) (by kernel_rfl) (fun _ _ _ h => h) (yieldsIf_load_mid (by rfl) _ _ rfl _ _ rfl _ _ ((fun w h => by rw [h]; exact range_radius HE.out)) Try.underlying32 rfl (size_cyc8 _)) hHeld ?_
          try simp only [Act.put, List.setIfInBounds_toArray, List.set_cons_zero, List.set_cons_succ, List.getElem_toArray, List.getElem_cons_succ, List.getElem_cons_zero]
          refine wpAnyH_take (i := 5) (oi := _) (v := .agg #[.int .i64 0, .int .i64 0, .int .i64 0, .int .i64 0, .int .i64 0, .int .i64 0, .int .i64 0, .int .i64 0]) rfl (by kernel_rfl) (by kernel_rfl) (by kernel_rfl) (fun _ _ _ h => h) (Or.inl ⟨by rfl, fun w h => by go_simp⟩) hHeld ?_
          try simp only [Act.put, List.setIfInBounds_toArray, List.set_cons_zero, List.set_cons_succ, List.getElem_toArray, List.getElem_cons_succ, List.getElem_cons_zero]
          refine wpAnyH_take (i := 6) (oi := _) (v := .bool false) rfl (by kernel_rfl) (by kernel_rfl) (by kernel_rfl) (fun _ _ _ h => h) (Or.inl ⟨by rfl, fun w h => by go_simp⟩) hHeld ?_
          try simp only [Act.put, List.setIfInBounds_toArray, List.set_cons_zero, List.set_cons_succ, List.getElem_toArray, List.getElem_cons_succ, List.getElem_cons_zero]
          refine wpAnyH_take (i := 7) (oi := _) (v := .bool false) rfl (by kernel_rfl) (by kernel_rfl) (by kernel_rfl) (fun _ _ _ h => h) (Or.inl ⟨by rfl, fun w h => by go_simp⟩) hHeld ?_
          try simp only [Act.put, List.setIfInBounds_toArray, List.set_cons_zero, List.set_cons_succ, List.getElem_toArray, List.getElem_cons_succ, List.getElem_cons_zero]
          refine wpAnyH_take (i := 8) (oi := _) (v := .int .i64 ((m : Int) + 1)) rfl (by kernel_rfl) (by kernel_rfl) (by kernel_rfl) (fun _ _ _ h => h) (Or.inl ⟨by rfl, fun w h => by go_simp⟩) hHeld ?_
          try simp only [Act.put, List.setIfInBounds_toArray, List.set_cons_zero, List.set_cons_succ, List.getElem_toArray, List.getElem_cons_succ, List.getElem_cons_zero]
          refine wpAnyH_take (i := 9) (oi := _) (v := .bool true) rfl (by kernel_rfl) (by kernel_rfl) (by kernel_rfl) (fun _ _ _ h => h) (Or.inl ⟨by rfl, fun w h => by go_simp⟩) hHeld ?_
          try simp only [Act.put, List.setIfInBounds_toArray, List.set_cons_zero, List.set_cons_succ, List.getElem_toArray, List.getElem_cons_succ, List.getElem_cons_zero]
          refine wpAnyH_take (i := 10) (oi := _) (v := .bool true) rfl (by kernel_rfl) (by kernel_rfl) (by kernel_rfl) (fun _ _ _ h => h) (Or.inl ⟨by rfl, fun w h => by go_simp⟩) hHeld ?_
          try simp only [Act.put, List.setIfInBounds_toArray, List.set_cons_zero, List.set_cons_succ, List.getElem_toArray, List.getElem_cons_succ, List.getElem_cons_zero]
          refine wpAnyH_take (i := 11) (oi := _) (v := .slice (some ⟨g, o, none⟩) R.length capR) rfl (by kernel_rfl) (by kernel_rfl) (by kernel_rfl) (fun _ _ _ h => h) (Or.inl ⟨by rfl, fun w h => by go_simp⟩) hHeld ?_
          try simp only [Act.put, List.setIfInBounds_toArray, List.set_cons_zero, List.set_cons_succ, List.getElem_toArray, List.getElem_cons_succ, List.getElem_cons_zero]
          refine wpAnyH_take (i := 12) (oi := _) (v := .int .i64 ((m : Int) + 1)) rfl (by kernel_rfl) (by kernel_rfl) (by kernel_rfl) (fun _ _ _ h => h) (Or.inl ⟨by rfl, fun w h => by go_simp⟩) hHeld ?_
          try simp only [Act.put, List.setIfInBounds_toArray, List.set_cons_zero, List.set_cons_succ, List.getElem_toArray, List.getElem_cons_succ, List.getElem_cons_zero]
          refine wpAnyH_take (i := 13) (oi := _) (v := .pointer (some ⟨g, o + (m + 1) * 9, none⟩)) rfl (by kernel_rfl) (by kernel_rfl) (by kernel_rfl) (fun _ _ _ h => h) (Or.inl ⟨by rfl, fun w h => by go_simp⟩) hHeld ?_
          try simp only [Act.put, List.setIfInBounds_toArray, List.set_cons_zero, List.set_cons_succ, List.getElem_toArray, List.getElem_cons_succ, List.getElem_cons_zero]
          refine wpAnyH_take (i := 14) (oi := _) (v := .pointer (some ⟨g, o + (m + 1) * 9, none⟩)) rfl (by kernel_rfl) (by kernel_rfl) (by kernel_rfl) (fun _ _ _ h => h) (Or.inl ⟨by rfl, fun w h => by go_simp⟩) hHeld ?_
          try simp only [Act.put, List.setIfInBounds_toArray, List.set_cons_zero, List.set_cons_succ, List.getElem_toArray, List.getElem_cons_succ, List.getElem_cons_zero]
          refine wpAnyH_take (i := 15) (oi := _) (v := .int .i64 c.s) rfl (by kernel_rfl) (by kernel_rfl) (by kernel_rfl) (fun _ _ _ h => h) (Or.inl ⟨by rfl, fun w h => by have hcell := (show wr.drew.cell? ⟨g, o + (m + 1) * 9, none⟩ = some (.int .i64 c.s) from range_speed HE.out); go_simp⟩) hHeld ?_
          try simp only [Act.put, List.setIfInBounds_toArray, List.set_cons_zero, List.set_cons_succ, List.getElem_toArray, List.getElem_cons_succ, List.getElem_cons_zero]
          refine wpAnyH_take (i := 16) (oi := _) (v := .slice (some ⟨g, o, none⟩) R.length capR) rfl (by kernel_rfl) (by kernel_rfl) (by kernel_rfl) (fun _ _ _ h => h) (Or.inl ⟨by rfl, fun w h => by go_simp⟩) hHeld ?_
          try simp only [Act.put, List.setIfInBounds_toArray, List.set_cons_zero, List.set_cons_succ, List.getElem_toArray, List.getElem_cons_succ, List.getElem_cons_zero]
          refine wpAnyH_take (i := 17) (oi := _) (v := .int .i64 ((m : Int) + 1)) rfl (by kernel_rfl) (by kernel_rfl) (by kernel_rfl) (fun _ _ _ h => h) (Or.inl ⟨by rfl, fun w h => by go_simp⟩) hHeld ?_
          try simp only [Act.put, List.setIfInBounds_toArray, List.set_cons_zero, List.set_cons_succ, List.getElem_toArray, List.getElem_cons_succ, List.getElem_cons_zero]
          refine wpAnyH_take (i := 18) (oi := _) (v := .int .i64 m) rfl (by kernel_rfl) (by kernel_rfl) (by kernel_rfl) (fun _ _ _ h => h) (Or.inl ⟨by rfl, fun w h => by go_simp⟩) hHeld ?_
          try simp only [Act.put, List.setIfInBounds_toArray, List.set_cons_zero, List.set_cons_succ, List.getElem_toArray, List.getElem_cons_succ, List.getElem_cons_zero]
          refine wpAnyH_take (i := 19) (oi := _) (v := .pointer (some ⟨g, o + m * 9, none⟩)) rfl (by kernel_rfl) (by kernel_rfl) (by kernel_rfl) (fun _ _ _ h => h) (Or.inl ⟨by rfl, fun w h => by go_simp⟩) hHeld ?_
          try simp only [Act.put, List.setIfInBounds_toArray, List.set_cons_zero, List.set_cons_succ, List.getElem_toArray, List.getElem_cons_succ, List.getElem_cons_zero]
          refine wpAnyH_take (i := 20) (oi := _) (v := .pointer (some ⟨g, o + m * 9, none⟩)) rfl (by kernel_rfl) (by kernel_rfl) (by kernel_rfl) (fun _ _ _ h => h) (Or.inl ⟨by rfl, fun w h => by go_simp⟩) hHeld ?_
          try simp only [Act.put, List.setIfInBounds_toArray, List.set_cons_zero, List.set_cons_succ, List.getElem_toArray, List.getElem_cons_succ, List.getElem_cons_zero]
          refine wpAnyH_take (i := 21) (oi := _) (v := .int .i64 d.s) rfl (by kernel_rfl) (by kernel_rfl) (by kernel_rfl) (fun _ _ _ h => h) (Or.inl ⟨by rfl, fun w h => by have hcell := (show wr.drew.cell? ⟨g, o + m * 9, none⟩ = some (.int .i64 d.s) from range_speed HE2.out); go_simp⟩) hHeld ?_
          try simp only [Act.put, List.setIfInBounds_toArray, List.set_cons_zero, List.set_cons_succ, List.getElem_toArray, List.getElem_cons_succ, List.getElem_cons_zero]
          refine wpAnyH_take (i := 22) (oi := _) (v := .bool false) rfl (by kernel_rfl) (by kernel_rfl) (by kernel_rfl) (fun _ _ _ h => h) (Or.inl ⟨by rfl, fun w h => by go_simp⟩) hHeld ?_
          try simp only [Act.put, List.setIfInBounds_toArray, List.set_cons_zero, List.set_cons_succ, List.getElem_toArray, List.getElem_cons_succ, List.getElem_cons_zero]
          refine wpAnyH_take (i := 23) (oi := _) (v := .bool false) rfl (by kernel_rfl) (by kernel_rfl) (by kernel_rfl) (fun _ _ _ h => h) (Or.inl ⟨by rfl, fun w h => by go_simp⟩) hHeld ?_
          try simp only [Act.put, List.setIfInBounds_toArray, List.set_cons_zero, List.set_cons_succ, List.getElem_toArray, List.getElem_cons_succ, List.getElem_cons_zero]
          refine wpAnyH_take (i := 24) (oi := _) (v := .bool false) rfl (by kernel_rfl) (by kernel_rfl) (by kernel_rfl) (fun _ _ _ h => h) (Or.inl ⟨by rfl, fun w h => by go_simp⟩) hHeld ?_
          try simp only [Act.put, List.setIfInBounds_toArray, List.set_cons_zero, List.set_cons_succ, List.getElem_toArray, List.getElem_cons_succ, List.getElem_cons_zero]
          clear hHeld
          refine wpAnyH_done (by kernel_rfl) ?_ _
          go_wp2
          go_roundw
          case rel => exact ⟨m + 1 + 1, by omega, by go_num, HL.out.drew⟩
          case measure => simp [intOf]; omega
      · have hkr : k = R.length := by omega
        have hkz : ¬ (k : Int) < (R.length : Int) := by omega
        clear hkr
        replace hR := hR.below HL.out
        replace hO := hO.below HL.out
        replace hX := hX.below HL.out
        replace hL := below_next hL HL.out
        clear HL
        go_wp2
        go_loopw [11] (fun i w8 => ∃ t : Nat, t ≤ 30 ∧ i = .int .i64 t ∧ Below wr.heap.size wr w8) (fun i _ => 30 - (intOf i).toNat)
        case atStart => exact ⟨0, Nat.zero_le _, rfl, Below.refl _ _⟩
        case round =>
          rename_i w8
          obtain ⟨t, ht, rfl, hbel⟩ := hrel
          replace hR := hR.below hbel
          replace hO := hO.below hbel
          replace hX := hX.below hbel
          replace hL := below_next hL hbel
          by_cases htz : (t : Int) < 24
          · obtain ⟨f, q, hf, hf2⟩ := know_at ws t
            obtain ⟨f', q', hg, hg2⟩ := know_at R t
            have A := fun w h => DesignAt_any v2 ws t w h
            have B := fun w (h : Reads w (.slice pR R.length capR) R) => DesignAt_any (.slice pR R.length capR) R t w h
            rw [hf] at A
            rw [hg] at B
            have EQ := fun w => equal_cyc f f' w
            have hff : q = true → q' = true → eqv 8 f f' = true := fun h1 h2 => by
              rw [(hf2 h1).2.2, (hg2 h2).2.2, HPA.out]; exact eqv_true fun _ _ => rfl
            clear hf hg hf2 hg2
            go_wp2_with fail
            refine (A _ hR).mono ?_; rintro e w9 ⟨rfl, hb9⟩
            replace hO := hO.below hb9
            clear A
            go_upto_region 18 with (refine store_new (ty := 32) rfl rfl rfl rfl zero8 info_cyc ?_)
            show Code.wp _ _ _ _ (w9.alloc (.cells (vec 8 f) 32))
            have r_a := RowAt.new w9 8 32 f
            replace hO := reads_box hO (.cells (vec 8 f) 32)
            have hb10 := hb9.alloc hb9.size (.cells (vec 8 f) 32)
            generalize w9.heap.size = ga at *
            generalize w9.alloc (.cells (vec 8 f) 32) = w10 at *
            clear hb9
            go_wp2_with fail
            refine (B _ hO).mono ?_; rintro e w11 ⟨rfl, hb11⟩
            replace r_a := r_a.below hb11
            have hb12 := below_next hb10 hb11
            clear B hb10 hb11
            go_upto_region 19 with (refine store_new (ty := 32) rfl rfl rfl rfl zero8 info_cyc ?_)
            show Code.wp _ _ _ _ (w11.alloc (.cells (vec 8 f') 32))
            have r_b := RowAt.new w11 8 32 f'
            replace r_a := r_a.alloc (.cells (vec 8 f') 32)
            have hb13 := hb12.alloc hb12.size (.cells (vec 8 f') 32)
            generalize w11.heap.size = gb at *
            generalize w11.alloc (.cells (vec 8 f') 32) = w13 at *
            clear hb12
            have HB := Lib.hid (below_next hbel hb13)
            clear hb13 hbel
            have hq : (q && q') = true → eqv 8 f f' = true := fun h => by simp at h; exact hff h.1 h.2
            clear hff
            cases q
            · go_wp2_with (first | (refine load_row rfl rfl rfl r_a Try.underlying32 rfl info_cyc ?_) | (refine load_row_on (by rfl) rfl rfl r_a Try.underlying32 rfl info_cyc ?_) | (refine load_row rfl rfl rfl r_b Try.underlying32 rfl info_cyc ?_) | (refine load_row_on (by rfl) rfl rfl r_b Try.underlying32 rfl info_cyc ?_))
              go_roundw
              case rel => exact ⟨t + 5, by omega, by go_num, HB.out⟩
              case measure => simp [intOf]; omega
            · cases q'
              · go_wp2_with (first | (refine load_row rfl rfl rfl r_a Try.underlying32 rfl info_cyc ?_) | (refine load_row_on (by rfl) rfl rfl r_a Try.underlying32 rfl info_cyc ?_) | (refine load_row rfl rfl rfl r_b Try.underlying32 rfl info_cyc ?_) | (refine load_row_on (by rfl) rfl rfl r_b Try.underlying32 rfl info_cyc ?_))
                go_roundw
                case rel => exact ⟨t + 5, by omega, by go_num, HB.out⟩
                case measure => simp [intOf]; omega
              · rw [hq rfl] at EQ
                go_wp2_with (first | (refine load_row rfl rfl rfl r_a Try.underlying32 rfl info_cyc ?_) | (refine load_row_on (by rfl) rfl rfl r_a Try.underlying32 rfl info_cyc ?_) | (refine load_row rfl rfl rfl r_b Try.underlying32 rfl info_cyc ?_) | (refine load_row_on (by rfl) rfl rfl r_b Try.underlying32 rfl info_cyc ?_))
                go_roundw
                case rel => exact ⟨t + 5, by omega, by go_num, HB.out⟩
                case measure => simp [intOf]; omega
          · go_wp2_with fail
            refine (same_self _ _ R _ hX hO).mono ?_; rintro e w9 ⟨rfl, hb9⟩
            replace hL := below_next hL hb9
            clear hb9
            go_wp2
            go_ret
            exact ⟨rfl, hL⟩

end Go.Proofs.Yteicmnoafoekcaa
