/-
  The walk of the law FnAkin.
-/
import Derived.Test.YtdbokcbbpegilaaM31
import Derived.Test.YtdbokcbbpegilaaM23
import Derived.Test.YtdbokcbbpegilaaM27
import Derived.Test.YtdbokcbbpegilaaM18
namespace Go.Proofs.Ytdbokcbbpegilaa
set_option maxRecDepth 20000
open Go.ChangeShapes Go.WideShapes Go.ChangeAt Go.RowKit
set_option linter.unusedVariables false
set_option linter.unusedSimpArgs false

theorem akinV_none : akinV none = .tuple #[.int .i64 0, .bool false] := rfl
theorem akinV_some (n : Nat) : akinV (some n) = .tuple #[.int .i64 n, .bool true] := rfl
theorem akinD_some {A B : List Wh} {n : Nat} (h : akinD A B = some n) : ∃ X Y, tid A = some X ∧ tid B = some Y ∧ akinO X Y = some n := by
  cases hx : tid A with
  | none => rw [akinD_one hx] at h; cases h
  | some X =>
    cases hy : tid B with
    | none => rw [akinD_two hy] at h; cases h
    | some Y => exact ⟨X, Y, rfl, rfl, by rw [← akinD_both hx hy]; exact h⟩
theorem tidy_okR {X : List Wh} (h : Tidy X) : okR X = true := okR_all.2 fun c hc => (valid_ok h.ok c hc).2

set_option maxHeartbeats 8000000 in
theorem lawFnAkin_walk (v : Value) (w : World) (h : CodeAt w v) : Calls Try.prog 6 #[v] w (Fine w) := by
  have D := Lib.hid (drawDesignAkin v w h)
  obtain ⟨pa, pn, pc, rfl, hpn⟩ := code_length h
  clear h
  by_cases hbig : 1048576 < pn
  · have hb : (1048576 : Int) < (pn : Int) := by omega
    go_enter Try.func6, Try.ntmps6
    go_wp2_with fail
    go_ret
    exact fine_same ⟨rfl, rfl⟩
  have hb : ¬ (1048576 : Int) < (pn : Int) := by omega
  go_enter Try.func6, Try.ntmps6
  go_wp2_with fail
  refine D.out.mono ?_; rintro e w1 ⟨v2, v3, ws, ws2, rfl, hR, hQ, hL⟩
  clear D

  have T1 := DesignAkin_any v2 v3 ws ws2 w1 hR hQ
  have T2 := fun w h h2 => specDesignAkin_any v2 v3 ws ws2 w h h2
  cases ha : akinD ws ws2 with
  | none =>
    rw [ha, akinV_none] at T1 T2
    go_wp2_with fail
    refine (T1).mono ?_; rintro e w2 ⟨rfl, hbw2⟩
    replace hR := hR.below hbw2
    replace hQ := hQ.below hbw2
    replace hL := below_next hL hbw2
    clear hbw2
    go_wp2_with fail
    refine (T2 _ hR hQ).mono ?_; rintro e w3 ⟨rfl, hbw3⟩
    replace hR := hR.below hbw3
    replace hQ := hQ.below hbw3
    replace hL := below_next hL hbw3
    clear hbw3
    go_wp2
    go_ret
    exact ⟨rfl, hL⟩
  | some n =>
    rw [ha, akinV_some] at T1 T2
    obtain ⟨X, Y, hx, hy, hk⟩ := akinD_some ha
    obtain ⟨hn, hl⟩ := akinO_some hk
    obtain ⟨hok1, hYe⟩ := leadL_true.1 hl
    have hTX := (tid_in hx).2.1
    have hTY := (tid_in hy).2.1
    have hTL : Tidy (X.map (laterW ((n / 24 : Nat) : Int))) := tidy_map (keep_later _) hTX hok1
    have hokY : okR Y = true := tidy_okR hTY
    have HSF := Lib.hid (say_akin hk)
    have q1 : (n : Int).tdiv 24 = ((n / 24 : Nat) : Int) := by rw [Int.tdiv_eq_ediv_of_nonneg (by omega)]; omega
    have q2 : (n : Int).tmod 24 = ((n % 24 : Nat) : Int) := by rw [Int.tmod_eq_emod_of_nonneg (by omega)]; omega
    have q3 : IntKind.i64.wrap ((n / 24 : Nat) : Int) = ((n / 24 : Nat) : Int) := by rw [IntKind.wrap_i64]; omega
    have q4 : IntKind.i64.wrap ((n % 24 : Nat) : Int) = ((n % 24 : Nat) : Int) := by rw [IntKind.wrap_i64]; omega
    have hnn : ((n : Int) != (n : Int)) = false := by simp
    clear hl hk ha
    go_wp2_with fail
    refine (T1).mono ?_; rintro e w2 ⟨rfl, hbw2⟩
    replace hR := hR.below hbw2
    replace hQ := hQ.below hbw2
    replace hL := below_next hL hbw2
    clear hbw2
    go_wp2_with fail
    refine (T2 _ hR hQ).mono ?_; rintro e w3 ⟨rfl, hbw3⟩
    replace hR := hR.below hbw3
    replace hQ := hQ.below hbw3
    replace hL := below_next hL hbw3
    clear hbw3
    clear T1 T2
    have A := Lib.hid (show Calls Try.prog 27 #[v2] w3 (Told w3 (tid ws)) from DesignTidy_any v2 ws w3 hR)
    rw [hx] at A
    go_wp2_with fail
    refine (A.out).mono ?_; rintro e w4 ⟨hbw4, v4, rfl, ho⟩
    replace hR := hR.below hbw4
    replace hQ := hQ.below hbw4
    replace hL := below_next hL hbw4
    have hA : Reads w4 v4 X := own_reads ho
    clear ho hbw4
    clear A
    have A := Lib.hid (DesignLater_yes v4 (n / 24) (by omega) X w4 hA)
    rw [dOf_yes (keep_later _) hTX hok1] at A
    go_wp2_with fail
    refine (A.out).mono ?_; rintro e w5 ⟨hbw5, v5, rfl, ho⟩
    replace hR := hR.below hbw5
    replace hQ := hQ.below hbw5
    replace hA := hA.below hbw5
    replace hL := below_next hL hbw5
    have hB : Reads w5 v5 (X.map (laterW ((n / 24 : Nat) : Int))) := own_reads ho
    clear ho hbw5
    clear A
    have A := Lib.hid (DesignTurned_yes v5 (n % 24) (by omega) _ w5 hB)
    rw [dOf_yes (keep_turn (by omega)) hTL (by rw [hYe]; exact hokY), hYe] at A
    go_wp2_with fail
    refine (A.out).mono ?_; rintro e w6 ⟨hbw6, v6, rfl, ho⟩
    replace hR := hR.below hbw6
    replace hQ := hQ.below hbw6
    replace hA := hA.below hbw6
    replace hB := hB.below hbw6
    replace hL := below_next hL hbw6
    have hC : Reads w6 v6 Y := own_reads ho
    clear ho hbw6
    clear A
    have A := Lib.hid (show Calls Try.prog 27 #[v3] w6 (Told w6 (tid ws2)) from DesignTidy_any v3 ws2 w6 hQ)
    rw [hy] at A
    go_wp2_with fail
    refine (A.out).mono ?_; rintro e w7 ⟨hbw7, v7, rfl, ho⟩
    replace hR := hR.below hbw7
    replace hQ := hQ.below hbw7
    replace hA := hA.below hbw7
    replace hB := hB.below hbw7
    replace hC := hC.below hbw7
    replace hL := below_next hL hbw7
    have hE : Reads w7 v7 Y := own_reads ho
    clear ho hbw7
    clear A
    go_wp2_with fail
    refine (same_self v6 v7 _ _ hC hE).mono ?_; rintro e w8 ⟨rfl, hbw8⟩
    replace hR := hR.below hbw8
    replace hQ := hQ.below hbw8
    replace hA := hA.below hbw8
    replace hB := hB.below hbw8
    replace hC := hC.below hbw8
    replace hE := hE.below hbw8
    replace hL := below_next hL hbw8
    clear hbw8
    have F1 := DesignFold_any v2 ws w8 hR
    have F2 := fun w h => DesignFold_any v3 ws2 w h
    rw [foldO_some hx] at F1
    rw [foldO_some hy, ← HSF.out] at F2
    generalize ((foldW X : Nat) : Int) = F at *
    have hFF : (F == F) = true := by simp
    go_wp2_with fail
    refine (F1).mono ?_; rintro e w9 ⟨rfl, hbw9⟩
    replace hR := hR.below hbw9
    replace hQ := hQ.below hbw9
    replace hA := hA.below hbw9
    replace hB := hB.below hbw9
    replace hC := hC.below hbw9
    replace hE := hE.below hbw9
    replace hL := below_next hL hbw9
    clear hbw9
    go_wp2_with fail
    refine (F2 _ hQ).mono ?_; rintro e w10 ⟨rfl, hbw10⟩
    replace hR := hR.below hbw10
    replace hQ := hQ.below hbw10
    replace hA := hA.below hbw10
    replace hB := hB.below hbw10
    replace hC := hC.below hbw10
    replace hE := hE.below hbw10
    replace hL := below_next hL hbw10
    clear hbw10
    clear F1 F2
    go_wp2
    go_ret
    exact ⟨rfl, hL⟩
end Go.Proofs.Ytdbokcbbpegilaa
