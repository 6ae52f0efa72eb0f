/-
  The walk of the law FnBends.
-/
import Derived.Test.YtdpakhggpgdgbaaM29
import Derived.Test.YtdpakhggpgdgbaaM20
namespace Go.Proofs.Ytdpakhggpgdgbaa
set_option maxRecDepth 20000
open Go.ChangeShapes Go.WideShapes Go.ChangeAt Go.RowKit
set_option linter.unusedVariables false
set_option linter.unusedSimpArgs false

theorem drawPolyBends (v : Value) (w : World) (h : CodeAt w v) : Calls Try.prog 31 #[v] w (DrewPoly w) := by
  have O := Lib.hid (open_any v w h)
  clear h
  go_enter Try.func31, Try.ntmps31
  go_wp2_with fail
  refine O.out.mono ?_; rintro e w1 ⟨rfl, hr, hb⟩
  have D := Lib.hid (poly_drawn _ _ w1 hr (by omega))
  have z1 := hr.lt
  clear hr O
  go_wp2_with fail
  refine D.out.mono ?_; rintro e w2 ⟨v2, xs, q, rfl, hq, hl, hr2, hg2, ho2⟩
  have HB := Lib.hid (below_only hb hg2 hb.size (Nat.le_refl _))
  have HO := Lib.hid ho2
  clear D hb hr2 hg2 ho2
  go_wp2
  go_ret
  exact ⟨v2, xs, rfl, hl, HO.out, HB.out⟩

set_option maxHeartbeats 8000000 in
theorem lawFnBends_walk (v : Value) (w : World) (h : CodeAt w v) : Calls Try.prog 6 #[v] w (Fine w) := by
  have D := Lib.hid (drawPolyBends v w h)
  obtain ⟨pa, pn, pc, rfl, hpn⟩ := code_length h
  clear h
  by_cases hbig : 1048576 < pn
  · have hb : (1048576 : Int) < (pn : Int) := by omega
    go_enter Try.func6, Try.ntmps6
    go_wp2_with fail
    go_ret
    exact fine_same ⟨rfl, rfl⟩
  have hb : ¬ (1048576 : Int) < (pn : Int) := by omega
  go_enter Try.func6, Try.ntmps6
  go_wp2_with fail
  refine D.out.mono ?_; rintro e w1 ⟨v2, xs, rfl, hl48, hR, hL⟩
  clear D
  have T1 := PolyBends_any v2 xs w1 hR
  have T2 := fun w h => specPolyBends_any v2 xs w h
  cases hx : bendsO xs with
  | none =>
    rw [hx] at T1 T2
    clear hx
    go_wp2_with fail
    refine (T1).mono ?_; rintro e w2 ⟨hb, v3, rfl, hI3⟩
    replace hR := hR.below hb
    replace hL := below_next hL hb
    clear hb
    go_wp2_with fail
    refine (T2 _ hR).mono ?_; rintro e w3 ⟨hb, v4, rfl, hI4⟩
    replace hR := hR.below hb
    replace hI3 := rows_below hI3 hb
    replace hL := below_next hL hb
    clear hb
    go_wp2_with fail
    refine (sameI_any hI3 hI4 (by simp)).mono ?_; rintro e w4 ⟨rfl, hb⟩
    replace hR := hR.below hb
    replace hI3 := rows_below hI3 hb
    replace hI4 := rows_below hI4 hb
    replace hL := below_next hL hb
    clear hb
    go_wp2_with fail
    refine (sameI_any hI3 hI4 (by simp)).mono ?_; rintro e w5 ⟨rfl, hb⟩
    replace hR := hR.below hb
    replace hI3 := rows_below hI3 hb
    replace hI4 := rows_below hI4 hb
    replace hL := below_next hL hb
    clear hb
    go_wp2
    go_ret
    exact ⟨rfl, hL⟩
  | some L =>
    obtain ⟨hok, hLn, -⟩ := bends_some hx
    have hln := polyOk_len hok
    obtain ⟨M, hM⟩ := bends_yes (polyOk_rev hok)
    obtain ⟨hMn, -, hMk⟩ := bends_rev hx hM
    have HM := Lib.hid hMk
    have HS := Lib.hid (fun k z (h : L[k]? = some z) => (bends_are hx h).2.2)
    have B1 := fun w h => PolyBack_any v2 xs w h
    rw [back_yes hok] at B1
    have B3 := fun v w h => PolyBends_any v xs.reverse w h
    rw [hM] at B3
    rw [hx] at T1 T2
    rw [hLn] at hMn
    clear hx hM hok hMk
    go_wp2_with fail
    refine (T1).mono ?_; rintro e w2 ⟨hb, v3, rfl, hI3⟩
    replace hR := hR.below hb
    replace hL := below_next hL hb
    clear hb
    go_wp2_with fail
    refine (T2 _ hR).mono ?_; rintro e w3 ⟨hb, v4, rfl, hI4⟩
    replace hR := hR.below hb
    replace hI3 := rows_below hI3 hb
    replace hL := below_next hL hb
    clear hb
    change OwnL encI 1 _ _ _ v3 L at hI3
    change OwnL encI 1 _ _ _ v4 L at hI4
    go_wp2_with fail
    refine (sameI_any hI3 hI4 (by omega)).mono ?_; rintro e w4 ⟨rfl, hb⟩
    replace hR := hR.below hb
    replace hI3 := rows_below hI3 hb
    replace hI4 := rows_below hI4 hb
    replace hL := below_next hL hb
    clear hb
    clear hI4
    go_wp2_with fail
    refine (B1 _ hR).mono ?_; rintro e w5 ⟨hb, v5, rfl, ho5⟩
    replace hR := hR.below hb
    replace hI3 := rows_below hI3 hb
    replace hL := below_next hL hb
    clear hb
    have hS := ownL_reads ho5
    change ReadsL encV _ v5 xs.reverse at hS
    clear ho5
    go_wp2_with fail
    refine (B3 v5 _ hS).mono ?_; rintro e w6 ⟨hb, v6, rfl, hI6⟩
    replace hR := hR.below hb
    replace hI3 := rows_below hI3 hb
    replace hS := hS.below hb
    replace hL := below_next hL hb
    clear hb
    change OwnL encI 1 _ _ _ v6 M at hI6
    obtain ⟨p, cc, rfl⟩ := readsL_form hR
    obtain ⟨g3, c3, rfl, hg3, hc3⟩ := ints_at hI3 hLn hln.1
    obtain ⟨g6, c6, rfl, hg6, hc6⟩ := ints_at hI6 hMn hln.1
    have HC3 := Lib.hid hc3
    have HC6 := Lib.hid hc6
    clear hR hS hI3 hI6 hc3 hc6 T1 T2 B1 B3 hLn hMn
    generalize xs.length = n at *
    have hnn : ((n : Int) == (n : Int)) = true := by simp
    go_wp2
    go_loopw [13] (fun i wr => ∃ k : Nat, k ≤ n ∧ i = .int .i64 k ∧ Below w6.heap.size w6 wr) (fun i _ => n - (intOf i).toNat)
    case atStart => exact ⟨0, Nat.zero_le _, rfl, Below.refl _ _⟩
    case round =>
      obtain ⟨k, hk, rfl, hbel⟩ := hrel
      by_cases hkm : k < n
      · have hkz : (k : Int) < (n : Int) := by omega
        obtain ⟨z, hz1, hz2⟩ := HM.out k hkm
        obtain ⟨m, hm⟩ : ∃ m, n - 1 - k = m := ⟨_, rfl⟩
        rw [hm] at hz1
        have hzs := HS.out m z hz1
        obtain ⟨n1, hn1⟩ : ∃ n1 : Nat, (n : Int) - 1 = (n1 : Int) := ⟨n - 1, by omega⟩
        have q1 : IntKind.i64.wrap (n1 : Int) = (n1 : Int) := by rw [IntKind.wrap_i64]; omega
        have q2 : (n1 : Int) - (k : Int) = (m : Int) := by omega
        have q3 : IntKind.i64.wrap (m : Int) = (m : Int) := by rw [IntKind.wrap_i64]; omega
        have q4 : IntKind.i64.wrap (-z) = -z := by rw [IntKind.wrap_i64]; omega
        have q5 : (m : Int) < (n : Int) := by omega
        have q6 : ((-z) != (-z)) = false := by simp
        have HA := Lib.hid ((World.cell?_of_block (hbel.block g6 hg6)).trans (HC6.out k _ hz2))
        have HB := Lib.hid ((World.cell?_of_block (hbel.block g3 hg3)).trans (HC3.out m _ hz1))
        have HL := Lib.hid hbel
        clear hbel hz1 hz2 hm
        go_upto_region 14 with fail
        refine wp_region_held_drew (S := fun w' => w' = wr.drew) (by kernel_rfl) rfl (fun hHeld => ?_)
        refine wpAnyH_take (i := 0) (oi := _) (v := .slice (some ⟨g6, 0, none⟩) n c6) rfl (by kernel_rfl) (by kernel_rfl) (by kernel_rfl) (fun _ _ _ h => h) (Or.inl ⟨by rfl, fun w h => by go_simp⟩) hHeld ?_
        try simp only [Act.put, List.setIfInBounds_toArray, List.set_cons_zero, List.set_cons_succ, List.getElem_toArray, List.getElem_cons_succ, List.getElem_cons_zero]
        refine wpAnyH_take (i := 1) (oi := _) (v := .int .i64 k) rfl (by kernel_rfl) (by kernel_rfl) (by kernel_rfl) (fun _ _ _ h => h) (Or.inl ⟨by rfl, fun w h => by go_simp⟩) hHeld ?_
        try simp only [Act.put, List.setIfInBounds_toArray, List.set_cons_zero, List.set_cons_succ, List.getElem_toArray, List.getElem_cons_succ, List.getElem_cons_zero]
        refine wpAnyH_take (i := 2) (oi := _) (v := .pointer (some ⟨g6, k, none⟩)) rfl (by kernel_rfl) (by kernel_rfl) (by kernel_rfl) (fun _ _ _ h => h) (Or.inl ⟨by rfl, fun w h => by go_simp⟩) hHeld ?_
        try simp only [Act.put, List.setIfInBounds_toArray, List.set_cons_zero, List.set_cons_succ, List.getElem_toArray, List.getElem_cons_succ, List.getElem_cons_zero]
        refine wpAnyH_take (i := 3) (oi := _) (v := .int .i64 (-z)) rfl (by kernel_rfl) (by kernel_rfl) (by kernel_rfl) (fun _ _ _ h => h) (Or.inl ⟨by rfl, fun w h => by have hcell := (HA.out : wr.cell? ⟨g6, k, none⟩ = some (.int .i64 (-z))); go_simp⟩) hHeld ?_
        try simp only [Act.put, List.setIfInBounds_toArray, List.set_cons_zero, List.set_cons_succ, List.getElem_toArray, List.getElem_cons_succ, List.getElem_cons_zero]
        refine wpAnyH_take (i := 4) (oi := _) (v := .slice (some ⟨g3, 0, none⟩) n c3) rfl (by kernel_rfl) (by kernel_rfl) (by kernel_rfl) (fun _ _ _ h => h) (Or.inl ⟨by rfl, fun w h => by go_simp⟩) hHeld ?_
        try simp only [Act.put, List.setIfInBounds_toArray, List.set_cons_zero, List.set_cons_succ, List.getElem_toArray, List.getElem_cons_succ, List.getElem_cons_zero]
        refine wpAnyH_take (i := 5) (oi := _) (v := .int .i64 n) rfl (by kernel_rfl) (by kernel_rfl) (by kernel_rfl) (fun _ _ _ h => h) (Or.inl ⟨by rfl, fun w h => by go_simp⟩) hHeld ?_
        try simp only [Act.put, List.setIfInBounds_toArray, List.set_cons_zero, List.set_cons_succ, List.getElem_toArray, List.getElem_cons_succ, List.getElem_cons_zero]
        refine wpAnyH_take (i := 6) (oi := _) (v := .int .i64 n1) rfl (by kernel_rfl) (by kernel_rfl) (by kernel_rfl) (fun _ _ _ h => h) (Or.inl ⟨by rfl, fun w h => by go_simp⟩) hHeld ?_
        try simp only [Act.put, List.setIfInBounds_toArray, List.set_cons_zero, List.set_cons_succ, List.getElem_toArray, List.getElem_cons_succ, List.getElem_cons_zero]
        refine wpAnyH_take (i := 7) (oi := _) (v := .int .i64 k) rfl (by kernel_rfl) (by kernel_rfl) (by kernel_rfl) (fun _ _ _ h => h) (Or.inl ⟨by rfl, fun w h => by go_simp⟩) hHeld ?_
        try simp only [Act.put, List.setIfInBounds_toArray, List.set_cons_zero, List.set_cons_succ, List.getElem_toArray, List.getElem_cons_succ, List.getElem_cons_zero]
        refine wpAnyH_take (i := 8) (oi := _) (v := .int .i64 m) rfl (by kernel_rfl) (by kernel_rfl) (by kernel_rfl) (fun _ _ _ h => h) (Or.inl ⟨by rfl, fun w h => by go_simp⟩) hHeld ?_
        try simp only [Act.put, List.setIfInBounds_toArray, List.set_cons_zero, List.set_cons_succ, List.getElem_toArray, List.getElem_cons_succ, List.getElem_cons_zero]
        refine wpAnyH_take (i := 9) (oi := _) (v := .pointer (some ⟨g3, m, none⟩)) rfl (by kernel_rfl) (by kernel_rfl) (by kernel_rfl) (fun _ _ _ h => h) (Or.inl ⟨by rfl, fun w h => by go_simp⟩) hHeld ?_
        try simp only [Act.put, List.setIfInBounds_toArray, List.set_cons_zero, List.set_cons_succ, List.getElem_toArray, List.getElem_cons_succ, List.getElem_cons_zero]
        refine wpAnyH_take (i := 10) (oi := _) (v := .int .i64 z) rfl (by kernel_rfl) (by kernel_rfl) (by kernel_rfl) (fun _ _ _ h => h) (Or.inl ⟨by rfl, fun w h => by have hcell := (HB.out : wr.cell? ⟨g3, m, none⟩ = some (.int .i64 z)); go_simp⟩) hHeld ?_
        try simp only [Act.put, List.setIfInBounds_toArray, List.set_cons_zero, List.set_cons_succ, List.getElem_toArray, List.getElem_cons_succ, List.getElem_cons_zero]
        refine wpAnyH_take (i := 11) (oi := _) (v := .int .i64 (-z)) rfl (by kernel_rfl) (by kernel_rfl) (by kernel_rfl) (fun _ _ _ h => h) (Or.inl ⟨by rfl, fun w h => by go_simp⟩) hHeld ?_
        try simp only [Act.put, List.setIfInBounds_toArray, List.set_cons_zero, List.set_cons_succ, List.getElem_toArray, List.getElem_cons_succ, List.getElem_cons_zero]
        refine wpAnyH_take (i := 12) (oi := _) (v := .bool false) rfl (by kernel_rfl) (by kernel_rfl) (by kernel_rfl) (fun _ _ _ h => h) (Or.inl ⟨by rfl, fun w h => by go_simp⟩) hHeld ?_
        try simp only [Act.put, List.setIfInBounds_toArray, List.set_cons_zero, List.set_cons_succ, List.getElem_toArray, List.getElem_cons_succ, List.getElem_cons_zero]
        clear hHeld
        refine wpAnyH_done (by kernel_rfl) ?_ _
        go_wp2
        go_roundw
        case rel => exact ⟨k + 1, by omega, by go_num, HL.out.drew⟩
        case measure => simp [intOf]; omega
      · have hkz : ¬ (k : Int) < (n : Int) := by omega
        have hL9 := below_next hL hbel
        clear hbel hL
        go_wp2
        go_ret
        exact ⟨rfl, hL9⟩

end Go.Proofs.Ytdpakhggpgdgbaa
