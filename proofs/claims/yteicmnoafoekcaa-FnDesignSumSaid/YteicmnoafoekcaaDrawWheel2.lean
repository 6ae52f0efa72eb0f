/-
  What the draws of designs hand back.
-/
import Derived.Test.YteicmnoafoekcaaDrawWheel
namespace Go.Proofs.Yteicmnoafoekcaa
set_option maxRecDepth 20000
open Go.ChangeShapes Go.WideShapes Go.ChangeAt Go.RowKit
set_option linter.unusedVariables false
set_option linter.unusedSimpArgs false

/-- A design; a design and a number; two designs. -/
def DrewD (w : World) (e : Ending) (w' : World) : Prop := ∃ (v : Value) (ws : List Wh), e = .returned v ∧ Reads w' v ws ∧ Below w.heap.size w w'
def DrewDInt (w : World) (e : Ending) (w' : World) : Prop := ∃ (v : Value) (ws : List Wh) (n : Int), e = .returned (.tuple #[v, .int .i64 n]) ∧ -1000 ≤ n ∧ n ≤ 1000 ∧ Reads w' v ws ∧ Below w.heap.size w w'
def DrewDs (w : World) (e : Ending) (w' : World) : Prop := ∃ (v v2 : Value) (ws ws2 : List Wh), e = .returned (.tuple #[v, v2]) ∧ Reads w' v ws ∧ Reads w' v2 ws2 ∧ Below w.heap.size w w'

theorem drawDesignValid (v : Value) (w : World) (h : CodeAt w v) : Calls Try.prog 19 #[v] w (DrewD w) := by
  have O := Lib.hid (open_any v w h)
  clear h
  go_enter Try.func19, Try.ntmps19
  go_wp2_with fail
  refine O.out.mono ?_; rintro e w1 ⟨rfl, hr, hb⟩
  have D := Lib.hid (design_drawn _ _ w1 hr (by omega))
  have z1 := hr.lt
  clear hr O
  go_wp2_with fail
  refine D.out.mono ?_; rintro e w2 ⟨v2, ws, q, rfl, hq, hl, hr2, hg2, ho2⟩
  have HB := Lib.hid (below_only hb hg2 hb.size (Nat.le_refl _))
  have HO := Lib.hid (own_reads ho2)
  clear D hb hr2 hg2 ho2
  go_wp2
  go_ret
  exact ⟨v2, ws, rfl, HO.out, HB.out⟩

theorem drawDesignTidy (v : Value) (w : World) (h : CodeAt w v) : Calls Try.prog 22 #[v] w (DrewD w) := by
  have O := Lib.hid (open_any v w h)
  clear h
  go_enter Try.func22, Try.ntmps22
  go_wp2_with fail
  refine O.out.mono ?_; rintro e w1 ⟨rfl, hr, hb⟩
  have D := Lib.hid (design_drawn _ _ w1 hr (by omega))
  have z1 := hr.lt
  clear hr O
  go_wp2_with fail
  refine D.out.mono ?_; rintro e w2 ⟨v2, ws, q, rfl, hq, hl, hr2, hg2, ho2⟩
  have HB := Lib.hid (below_only hb hg2 hb.size (Nat.le_refl _))
  have HO := Lib.hid (own_reads ho2)
  clear D hb hr2 hg2 ho2
  go_wp2
  go_ret
  exact ⟨v2, ws, rfl, HO.out, HB.out⟩

theorem drawDesignBack (v : Value) (w : World) (h : CodeAt w v) : Calls Try.prog 39 #[v] w (DrewD w) := by
  have O := Lib.hid (open_any v w h)
  clear h
  go_enter Try.func39, Try.ntmps39
  go_wp2_with fail
  refine O.out.mono ?_; rintro e w1 ⟨rfl, hr, hb⟩
  have D := Lib.hid (design_drawn _ _ w1 hr (by omega))
  have z1 := hr.lt
  clear hr O
  go_wp2_with fail
  refine D.out.mono ?_; rintro e w2 ⟨v2, ws, q, rfl, hq, hl, hr2, hg2, ho2⟩
  have HB := Lib.hid (below_only hb hg2 hb.size (Nat.le_refl _))
  have HO := Lib.hid (own_reads ho2)
  clear D hb hr2 hg2 ho2
  go_wp2
  go_ret
  exact ⟨v2, ws, rfl, HO.out, HB.out⟩

theorem later_drawn (v : Value) (w : World) (h : CodeAt w v) : Calls Try.prog 65 #[v] w (DrewDInt w) := by
  have O := Lib.hid (open_any v w h)
  clear h
  go_enter Try.func65, Try.ntmps65
  go_wp2_with fail
  refine O.out.mono ?_; rintro e w1 ⟨rfl, hr, hb⟩
  have D := Lib.hid (design_drawn _ _ w1 hr (by omega))
  have z1 := hr.lt
  have z0 := hb.size
  clear hr O
  go_wp2_with fail
  refine D.out.mono ?_; rintro e w2 ⟨v2, ws, q, rfl, hq, hl, hr2, hg2, ho2⟩
  have hb2 := below_only hb hg2 z0 (Nat.le_refl _)
  have z2 := hg2.size
  clear D hb hg2
  have T := Lib.hid (turn_drawn _ _ w2 hr2 (by omega))
  clear hr2
  go_wp2_with fail
  refine T.out.mono ?_; rintro e w3 ⟨t, q2, rfl, t0, t1, hq2, hr3, hg3⟩
  have HB := Lib.hid (below_only hb2 hg3 hb2.size (Nat.le_refl _))
  have HO := Lib.hid (own_reads (own_kept ho2 hg3 z1))
  clear T hb2 hr3 hg3 ho2
  go_wp2
  go_ret2
  exact ⟨v2, ws, t, rfl, by omega, by omega, HO.out, HB.out⟩

theorem two_drawn (v : Value) (w : World) (h : CodeAt w v) : Calls Try.prog 74 #[v] w (DrewDs w) := by
  have O := Lib.hid (open_any v w h)
  clear h
  go_enter Try.func74, Try.ntmps74
  go_wp2_with fail
  refine O.out.mono ?_; rintro e w1 ⟨rfl, hr, hb⟩
  have D := Lib.hid (design_drawn _ _ w1 hr (by omega))
  have z1 := hr.lt
  have z0 := hb.size
  clear hr O
  go_wp2_with fail
  refine D.out.mono ?_; rintro e w2 ⟨v2, ws, q, rfl, hq, hl, hr2, hg2, ho2⟩
  have hb2 := below_only hb hg2 z0 (Nat.le_refl _)
  have z2 := hg2.size
  clear D hb hg2
  have T := Lib.hid (design_drawn _ _ w2 hr2 (by omega))
  clear hr2
  go_wp2_with fail
  refine T.out.mono ?_; rintro e w3 ⟨v3, ws2, q2, rfl, hq2, hl2, hr3, hg3, ho3⟩
  have HB := Lib.hid (below_only hb2 hg3 hb2.size (Nat.le_refl _))
  have HO := Lib.hid (own_reads (own_kept ho2 hg3 z1))
  have HO2 := Lib.hid (own_reads ho3)
  clear T hb2 hr3 hg3 ho2 ho3
  go_wp2
  go_ret2
  exact ⟨v2, v3, ws, ws2, rfl, HO.out, HO2.out, HB.out⟩

theorem drawDesignAt (v : Value) (w : World) (h : CodeAt w v) : Calls Try.prog 27 #[v] w (DrewDInt w) := by
  have O := Lib.hid (later_drawn v w h)
  clear h
  go_enter Try.func27, Try.ntmps27
  go_wp2_with fail
  refine O.out.mono ?_; rintro e w1 ⟨v2, ws, t, rfl, t0, t1, hr, hb⟩
  have HB := Lib.hid hb
  have HR := Lib.hid hr
  skip
  clear O hb hr
  go_wp2
  go_ret2
  exact ⟨v2, ws, t, rfl, t0, t1, HR.out, HB.out⟩

theorem drawDesignSum (v : Value) (w : World) (h : CodeAt w v) : Calls Try.prog 31 #[v] w (DrewDs w) := by
  have O := Lib.hid (two_drawn v w h)
  clear h
  go_enter Try.func31, Try.ntmps31
  go_wp2_with fail
  refine O.out.mono ?_; rintro e w1 ⟨v2, v3, ws, ws2, rfl, hr, hr2, hb⟩
  have HB := Lib.hid hb
  have HR := Lib.hid hr
  have HR2 := Lib.hid hr2; clear hr2
  clear O hb hr
  go_wp2
  go_ret2
  exact ⟨v2, v3, ws, ws2, rfl, HR.out, HR2.out, HB.out⟩

theorem drawDesignTimes (v : Value) (w : World) (h : CodeAt w v) : Calls Try.prog 35 #[v] w (DrewDs w) := by
  have O := Lib.hid (two_drawn v w h)
  clear h
  go_enter Try.func35, Try.ntmps35
  go_wp2_with fail
  refine O.out.mono ?_; rintro e w1 ⟨v2, v3, ws, ws2, rfl, hr, hr2, hb⟩
  have HB := Lib.hid hb
  have HR := Lib.hid hr
  have HR2 := Lib.hid hr2; clear hr2
  clear O hb hr
  go_wp2
  go_ret2
  exact ⟨v2, v3, ws, ws2, rfl, HR.out, HR2.out, HB.out⟩

theorem drawDesignFaster (v : Value) (w : World) (h : CodeAt w v) : Calls Try.prog 42 #[v] w (DrewDInt w) := by
  have O := Lib.hid (open_any v w h)
  clear h
  go_enter Try.func42, Try.ntmps42
  go_wp2_with fail
  refine O.out.mono ?_; rintro e w1 ⟨rfl, hr, hb⟩
  have D := Lib.hid (design_drawn _ _ w1 hr (by omega))
  have z1 := hr.lt
  have z0 := hb.size
  clear hr O
  go_wp2_with fail
  refine D.out.mono ?_; rintro e w2 ⟨v2, ws, q, rfl, hq, hl, hr2, hg2, ho2⟩
  have hb2 := below_only hb hg2 z0 (Nat.le_refl _)
  have z2 := hg2.size
  clear D hb hg2
  have T := Lib.hid (pick_any _ _ 9 w2 hr2 (by omega) (by omega))
  clear hr2
  go_wp2_with fail
  refine T.out.mono ?_; rintro e w3 ⟨y, rfl, y0, y1, hr3, hg3⟩
  have hb3 := below_only hb2 hg3 hb2.size (Nat.le_refl _)
  have ho3 := own_kept ho2 hg3 z1
  have v1 : IntKind.i64.wrap (y - 4) = y - 4 := by rw [IntKind.wrap_i64]; omega
  have P3 := Lib.hid (pick_any _ _ 20 w3 hr3 (by omega) (by omega))
  clear T hr3 hg3 hb2 ho2
  go_wp2_with fail
  refine P3.out.mono ?_; rintro e w4 ⟨m, rfl, m0, m1, hr4, hg4⟩
  have HB := Lib.hid (below_only hb3 hg4 hb3.size (Nat.le_refl _))
  have HO := Lib.hid (own_reads (own_kept ho3 hg4 z1))
  clear hr4 P3 hb3 ho3 hg4
  have e1 := rare_factor m0 m1
  obtain ⟨q, hq, hq0, hq1⟩ : ∃ q : Int, (if m = 19 then (1 : Int) else 0) = q ∧ 0 ≤ q ∧ q ≤ 1 := ⟨_, rfl, by split <;> omega, by split <;> omega⟩
  rw [hq] at e1
  have e1' : m / 19 = q := by rw [← e1, Int.tdiv_eq_ediv_of_nonneg m0]
  have v3 : IntKind.i64.wrap q = q := by rw [IntKind.wrap_i64]; omega
  have v4 : IntKind.i64.wrap (q * 30) = q * 30 := by rw [IntKind.wrap_i64]; omega
  have v5 : IntKind.i64.wrap (y - 4 + q * 30) = y - 4 + q * 30 := by rw [IntKind.wrap_i64]; omega
  go_wp2_with fail
  go_ret2
  exact ⟨v2, ws, y - 4 + q * 30, rfl, by omega, by omega, HO.out, HB.out⟩

set_option maxHeartbeats 1000000 in
theorem drawDesignSame (v : Value) (w : World) (h : CodeAt w v) : Calls Try.prog 45 #[v] w (DrewDs w) := by
  have O := Lib.hid (open_any v w h)
  clear h
  go_enter Try.func45, Try.ntmps45
  go_wp2_with fail
  refine O.out.mono ?_; rintro e w1 ⟨rfl, hr, hb⟩
  have D := Lib.hid (design_drawn _ _ w1 hr (by omega))
  have z1 := hr.lt
  have z0 := hb.size
  clear hr O
  go_wp2_with fail
  refine D.out.mono ?_; rintro e w2 ⟨v2, ws, q, rfl, hq, hl, hr2, hg2, ho2⟩
  have hb2 := below_only hb hg2 z0 (Nat.le_refl _)
  have z2 := hg2.size
  clear D hb hg2
  have T := specDesignTidy_any v2 ws w2 (own_reads ho2)
  generalize (if valid ws then tidy false ws else none) = x at T
  have T := Lib.hid T
  cases x with
  | none =>
    go_wp2_with fail
    refine T.out.mono ?_; rintro e w3 ⟨hb3, v3, rfl, ho3⟩
    have HRX := hr2.below hb3
    have HBX := below_next hb2 hb3
    have HOX := own_below ho2 hb3
    clear T hb2 hb3 ho2 ho3 hr2
    have T2 := Lib.hid (design_drawn _ _ w3 HRX (by omega))
    go_wp2_with fail
    refine T2.out.mono ?_; rintro e w5 ⟨v5, ws5, q5, rfl, hq5, hl5, hr5, hg5, ho5⟩
    have HB5 := Lib.hid (below_only HBX hg5 HBX.size (Nat.le_refl _))
    have HO5 := Lib.hid (own_reads (own_kept HOX hg5 z1))
    have HQ5 := Lib.hid (own_reads ho5)
    clear T2 hr5 hg5 ho5
    go_wp2
    go_ret2
    exact ⟨v2, v5, ws, ws5, rfl, HO5.out, HQ5.out, HB5.out⟩
  | some x =>
    go_wp2_with fail
    refine T.out.mono ?_; rintro e w3 ⟨hb3, v3, rfl, ho3⟩
    have hr3 := hr2.below hb3
    have hb4 := below_next hb2 hb3
    have ho4 := own_below ho2 hb3
    have hz3 := hb3.size
    have P2 := Lib.hid (pick_any _ _ 2 w3 hr3 (by omega) (by omega))
    clear T hb2 hb3 ho2 hr2 hr3
    go_wp2_with fail
    refine P2.out.mono ?_; rintro e w4 ⟨m, rfl, m0, m1, hr4, hg4⟩
    have HRX := hr4
    have HBX := below_only hb4 hg4 hb4.size (Nat.le_refl _)
    have HOX := own_kept ho4 hg4 z1
    have HTX := own_kept ho3 hg4 (by omega)
    clear P2 hb4 hg4 ho4 ho3 hr4
    by_cases e0 : m = 0
    · subst e0
      have HB5 := Lib.hid HBX
      have HO5 := Lib.hid (own_reads HOX)
      have HQ5 := Lib.hid (own_reads HTX)
      clear HBX HOX HTX HRX
      go_wp2
      go_ret2
      exact ⟨v2, v3, ws, got (some x), rfl, HO5.out, HQ5.out, HB5.out⟩
    · have e0' : (m == 0) = false := by simpa using e0
      clear HTX
      have T2 := Lib.hid (design_drawn _ _ w4 HRX (by omega))
      go_wp2_with fail
      refine T2.out.mono ?_; rintro e w5 ⟨v5, ws5, q5, rfl, hq5, hl5, hr5, hg5, ho5⟩
      have HB5 := Lib.hid (below_only HBX hg5 HBX.size (Nat.le_refl _))
      have HO5 := Lib.hid (own_reads (own_kept HOX hg5 z1))
      have HQ5 := Lib.hid (own_reads ho5)
      clear T2 hr5 hg5 ho5
      go_wp2
      go_ret2
      exact ⟨v2, v5, ws, ws5, rfl, HO5.out, HQ5.out, HB5.out⟩

end Go.Proofs.Yteicmnoafoekcaa
