/-
  Contracts of impl's reckoning with circles.
-/
import Derived.Test.YteicmnoafoekcaaWheelRow
import Derived.Test.YteicmnoafoekcaaCycF
namespace Go.Proofs.Yteicmnoafoekcaa
set_option maxRecDepth 20000
open Go.ChangeShapes Go.WideShapes Go.ChangeAt Go.RowKit
set_option linter.unusedVariables false
set_option linter.unusedSimpArgs false

theorem info_wheel : (Try.prog.info? 34).map (·.size) = some 9 := by kernel_rfl
theorem info_circle : (Try.prog.info? 68).map (·.size) = some 9 := by kernel_rfl
theorem tyC : Ty9 Try.prog 57 68 := ty9_of (z := .agg (vec 9 nul)) (b := 72) Try.underlying57 (by kernel_rfl) (by omega) rfl
theorem tyW : Ty9 Try.prog 23 34 := ty9_of (z := .agg (vec 9 nul)) (b := 72) Try.underlying23 (by kernel_rfl) (by omega) rfl
theorem built_circle (s : Int) (f : Nat → Int) : Try.prog.built 68 [(0, .int .i64 s), (1, .agg (vec 8 f))] = some (vec 9 (fun j => if j = 0 then s else f (j - 1))) := by kernel_rfl
theorem built_wheel (s : Int) (f : Nat → Int) : Try.prog.built 34 [(0, .int .i64 s), (1, .agg (vec 8 f))] = some (vec 9 (fun j => if j = 0 then s else f (j - 1))) := by kernel_rfl
theorem inRange_any (s : Int) (w : World) :
    Calls Try.prog 92 #[.int .i64 s] w fun e w' => e = .returned (.bool (inS s)) ∧ w = w' := by
  unfold inS
  by_cases h0 : -1000 ≤ s
  · by_cases h1 : s ≤ 1000
    · go_enter Try.func92, Try.ntmps92
      go_wp2
      go_ret
      exact ⟨by first | rfl | exact ret_bool (by simp [h0, h1]), rfl⟩
    · go_enter Try.func92, Try.ntmps92
      go_wp2
      go_ret
      exact ⟨by first | rfl | exact ret_bool (by simp [h0, h1]), rfl⟩
  · go_enter Try.func92, Try.ntmps92
    go_wp2
    go_ret
    exact ⟨by first | rfl | exact ret_bool (by simp; omega), rfl⟩

theorem valid_long {ws : List Wh} (h : 12 < ws.length) : valid ws = false := by unfold valid; rw [decide_eq_false (by omega)]; rfl
theorem all_take {ws : List Wh} {k : Nat} {c : Wh} (h : (ws.take k).all wOk = true) (hc : ws[k]? = some c) (hk : wOk c = true) : (ws.take (k + 1)).all wOk = true := by
  rw [List.take_add_one, hc, List.all_append, h]; simp [hk]
theorem take_next {ws : List Wh} {k : Nat} {c : Wh} (hc : ws[k]? = some c) : ws.take (k + 1) = ws.take k ++ [c] := by rw [List.take_add_one, hc]; rfl
theorem valid_bad {ws : List Wh} {k : Nat} {c : Wh} (hc : ws[k]? = some c) (hk : wOk c = false) : valid ws = false := by
  unfold valid
  rw [List.all_eq_false.2 ⟨c, List.mem_of_getElem? hc, by rw [hk]; decide⟩, Bool.and_false]

set_option maxHeartbeats 500000 in
theorem circlesOf_any (v : Value) (ws : List Wh) (w : World) (hv : Reads w v ws) :
    Calls Try.prog 56 #[v] w fun e w' => Below w.heap.size w w' ∧ ∃ v', e = .returned (.tuple #[v', .bool (valid ws)]) ∧ Own w' w.heap.size 68 v' (only (valid ws) ws) := by
  obtain ⟨p, cap, rfl, hc1, hc2, hp0, hp⟩ := hv
  have hm : ws.length ≤ maxLen := by omega
  simp only [maxLen] at hm hc2
  by_cases hl : 12 < ws.length
  · rw [valid_long hl]
    rw [only_no]
    have hlz : (12 : Int) < (ws.length : Int) := by omega
    have HP := Lib.hid hp
    clear hp
    go_enter Try.func56, Try.ntmps56
    go_wp2
    go_ret2
    exact ⟨Below.refl _ _, _, rfl, own_nil _ _ _⟩
  · have hlz : ¬ (12 : Int) < (ws.length : Int) := by omega
    have HP := Lib.hid hp
    clear hp
    go_enter Try.func56, Try.ntmps56
    go_wp2_with (refine make9 tyC rfl rfl ws.length rfl rfl (by omega) (Below.refl _ w) (Nat.le_refl _) ?_; intro w1 ho1 hb1 hB1)
    go_loopw [4, 6, 7, 8, 17] (fun v' _ _ _ i wr => ∃ k : Nat, k ≤ ws.length ∧ i = .int .i64 k ∧ Own wr w.heap.size 68 v' (ws.take k) ∧ (ws.take k).all wOk = true ∧ Below w.heap.size w wr ∧ w.heap.size ≤ wr.heap.size) (fun _ _ _ _ i _ => ws.length - (intOf i).toNat)
    case atStart => exact ⟨0, Nat.zero_le _, rfl, ho1, rfl, hb1, hB1⟩
    case round =>
      obtain ⟨k, hk, rfl, hO, hall, hbel, hB⟩ := hrel
      by_cases hlt : k < ws.length
      · have hkz : (k : Int) < (ws.length : Int) := by omega
        have hk0 : (0 : Int) ≤ (k : Int) := by omega
        obtain ⟨c, hc⟩ : ∃ c, ws[k]? = some c := ⟨_, List.getElem?_eq_getElem hlt⟩
        obtain ⟨g, o, rfl, hg, hr⟩ := HP.out (by rintro rfl; have := hp0 rfl; omega)
        have hre := range_part (range_below hr hg hbel) hc
        have HE := Lib.hid hre
        have HO := Lib.hid hO
        have HL := Lib.hid hbel
        have HA := Lib.hid hall
        have HB := Lib.hid hB
        have HC := Lib.hid hc
        clear hr hre hO hbel hall hB hc
        have HW := Lib.hid (RowAt.new wr 9 34 (wf c))
        have hok : okc c.r.up = okv c.r := rfl
        by_cases h1 : okv c.r = true
        · by_cases h2 : inS c.s = true
          · go_wp2_with (first | (refine load_wheel (T := 34) rfl rfl rfl HE.out Try.underlying34 rfl info_wheel ?_) | (refine store_new (ty := 34) rfl rfl rfl rfl zero9 info_wheel ?_) | (refine load_part (T := 32) rfl rfl rfl (row_radius HW.out) Try.underlying32 rfl info_cyc ?_))
            refine (exactOf_yes _ (hok.trans h1) _).mono ?_; rintro e w2 ⟨rfl, hb2⟩
            have c0 := row_speed ((HW.out.below hb2).alloc (.cells (vec 8 c.r.up) 66))
            have HB2 := Lib.hid hb2
            clear hb2
            go_wp2_with (first | (refine store_new (ty := 66) rfl rfl rfl rfl zero8 info_exact ?_))
            refine (inRange_any _ _).mono ?_; rintro e w3 ⟨rfl, hw3⟩
            rw [h2]
            have HR3 : RowAt w3 w2.heap.size 8 66 c.r.up := by rw [← hw3]; exact RowAt.new _ _ _ _
            have HB3 : Below wr.heap.size wr w3 := by rw [← hw3]; exact below_next ((Below.refl _ _).alloc (Nat.le_refl _) _) ((HB2.out).alloc HB2.out.size _)
            have HO3 := Lib.hid (own_below HO.out HB3)
            rw [hw3] at c0
            have hbw := below_next HL.out HB3
            have HBW := Lib.hid hbw
            have HBS := Lib.hid (Nat.le_trans HB.out HB3.size)
            have HR := Lib.hid HR3
            clear HR3 HB3 hw3 hbw
            go_wp2_with (first | (refine load_row (ty := 66) rfl rfl rfl HR.out Try.underlying66 rfl info_exact ?_; clear HR) | (refine build_wheel (T := 68) rfl rfl rfl rfl built_circle ?_; rw [dn_up]) | (refine one9 tyC rfl rfl rfl ?_) |
              (refine append9 tyC rfl rfl rfl rfl (HO3.out.alloc _) (reads_lit _ _ _) (by simp; omega) (HBW.out.alloc HBS.out _) (by simp; have := HBS.out; omega) ?_; intro v2 w4 ho4 hb4 hB4))
            go_roundw
            case rel =>
              refine ⟨k + 1, by omega, by go_num, ?_, all_take HA.out HC.out (by unfold wOk; rw [h1, h2]; rfl), hb4, hB4⟩
              rw [take_next HC.out]; exact ho4
            case measure => simp [intOf]; omega
          · have h2 : inS c.s = false := by simpa using h2
            go_wp2_with (first | (refine load_wheel (T := 34) rfl rfl rfl HE.out Try.underlying34 rfl info_wheel ?_) | (refine store_new (ty := 34) rfl rfl rfl rfl zero9 info_wheel ?_) | (refine load_part (T := 32) rfl rfl rfl (row_radius HW.out) Try.underlying32 rfl info_cyc ?_))
            refine (exactOf_yes _ (hok.trans h1) _).mono ?_; rintro e w2 ⟨rfl, hb2⟩
            have c0 := row_speed ((HW.out.below hb2).alloc (.cells (vec 8 c.r.up) 66))
            have HB2 := Lib.hid hb2
            clear hb2
            go_wp2_with (first | (refine store_new (ty := 66) rfl rfl rfl rfl zero8 info_exact ?_))
            refine (inRange_any _ _).mono ?_; rintro e w3 ⟨rfl, hw3⟩
            rw [h2]
            have HB3 : Below wr.heap.size wr w3 := by rw [← hw3]; exact below_next ((Below.refl _ _).alloc (Nat.le_refl _) _) ((HB2.out).alloc HB2.out.size _)
            have HBW := Lib.hid (below_next HL.out HB3)
            clear HB3 hw3 c0
            go_wp2
            go_ret2
            rw [valid_bad HC.out (by unfold wOk; rw [h2]; rfl)]
            exact ⟨HBW.out, _, rfl, own_nil _ _ _⟩
        · have h1 : okv c.r = false := by simpa using h1
          go_wp2_with (first | (refine load_wheel (T := 34) rfl rfl rfl HE.out Try.underlying34 rfl info_wheel ?_) | (refine store_new (ty := 34) rfl rfl rfl rfl zero9 info_wheel ?_) | (refine load_part (T := 32) rfl rfl rfl (row_radius HW.out) Try.underlying32 rfl info_cyc ?_))
          refine (exactOf_no _ (hok.trans h1) _).mono ?_; rintro e w2 ⟨rfl, hb2⟩
          have HBW := Lib.hid (below_next HL.out (below_next ((Below.refl wr.heap.size wr).alloc (Nat.le_refl _) _) (hb2.alloc hb2.size (.cells (vec 8 nul) 66))))
          clear hb2
          go_wp2_with (first | (refine store_new (ty := 66) rfl rfl rfl rfl zero8 info_exact ?_))
          go_ret2
          rw [valid_bad HC.out (by unfold wOk; rw [h1, Bool.and_false])]
          exact ⟨HBW.out, _, rfl, own_nil _ _ _⟩
      · obtain rfl : k = ws.length := by omega
        have HO := Lib.hid hO
        have HL := Lib.hid hbel
        have HA := Lib.hid hall
        clear hO hbel hall hB
        go_wp2
        go_ret2
        have hv : valid ws = true := by
          unfold valid
          have := HA.out
          rw [List.take_length] at this
          rw [this, decide_eq_true (by omega)]; rfl
        have ho := HO.out
        rw [List.take_length] at ho
        rw [hv]
        exact ⟨HL.out, _, rfl, ho⟩

end Go.Proofs.Yteicmnoafoekcaa
