/-
  The walk of the law FnPeriod.
-/
import Derived.Test.YtdbokcbbpegilaaM31
import Derived.Test.YtdbokcbbpegilaaM23
import Derived.Test.YtdbokcbbpegilaaM32
import Derived.Test.YtdbokcbbpegilaaM18
namespace Go.Proofs.Ytdbokcbbpegilaa
set_option maxRecDepth 20000
open Go.ChangeShapes Go.WideShapes Go.ChangeAt Go.RowKit
set_option linter.unusedVariables false
set_option linter.unusedSimpArgs false

set_option maxHeartbeats 8000000 in
theorem lawFnPeriod_walk (v : Value) (w : World) (h : CodeAt w v) : Calls Try.prog 4 #[v] w (Fine w) := by
  have D := Lib.hid (drawDesignPeriod v w h)
  obtain ⟨pa, pn, pc, rfl, hpn⟩ := code_length h
  clear h
  by_cases hbig : 1048576 < pn
  · have hb : (1048576 : Int) < (pn : Int) := by omega
    go_enter Try.func4, Try.ntmps4
    go_wp2_with fail
    go_ret
    exact fine_same ⟨rfl, rfl⟩
  have hb : ¬ (1048576 : Int) < (pn : Int) := by omega
  go_enter Try.func4, Try.ntmps4
  go_wp2_with fail
  refine D.out.mono ?_; rintro e w1 ⟨v2, ws, rfl, hR, hL⟩
  clear D

  have T1 := DesignPeriod_any v2 ws w1 hR
  have T2 := fun w h => specDesignPeriod_any v2 ws w h
  cases hx : tid ws with
  | none =>
    rw [perO_none hx] at T1 T2
    go_wp2_with fail
    refine (T1).mono ?_; rintro e w2 ⟨rfl, hbw2⟩
    replace hR := hR.below hbw2
    replace hL := below_next hL hbw2
    clear hbw2
    go_wp2_with fail
    refine (T2 _ hR).mono ?_; rintro e w3 ⟨rfl, hbw3⟩
    replace hR := hR.below hbw3
    replace hL := below_next hL hbw3
    clear hbw3
    go_wp2
    go_ret
    exact ⟨rfl, hL⟩
  | some R =>
    rw [perO_some hx] at T1 T2
    have hFs := per_small (tid_in hx).2.1
    obtain ⟨F, hF⟩ : ∃ F, perW R = F := ⟨_, rfl⟩
    rw [hF] at T1 T2 hFs
    have HF := Lib.hid hF
    have HX := Lib.hid hx
    have hbb : ((F : Int) != (F : Int)) = false := by simp
    have hF0 : ¬ (F : Int) < 0 := by omega
    have hFw : IntKind.i64.wrap (F : Int) = (F : Int) := by rw [IntKind.wrap_i64]; omega
    clear hF hx
    go_wp2_with fail
    refine (T1).mono ?_; rintro e w2 ⟨rfl, hbw2⟩
    replace hR := hR.below hbw2
    replace hL := below_next hL hbw2
    clear hbw2
    go_wp2_with fail
    refine (T2 _ hR).mono ?_; rintro e w3 ⟨rfl, hbw3⟩
    replace hR := hR.below hbw3
    replace hL := below_next hL hbw3
    clear hbw3
    clear T1 T2
    have T3 : Calls Try.prog 27 #[v2] w3 (Told w3 (tid ws)) := DesignTidy_any v2 ws w3 hR
    rw [HX.out] at T3
    go_wp2_with fail
    refine (T3).mono ?_; rintro e w4 ⟨hbw4, v3, rfl, ho⟩
    replace hR := hR.below hbw4
    replace hL := below_next hL hbw4
    have hY : Reads w4 v3 R := own_reads ho
    clear ho hbw4
    clear T3
    by_cases hF1 : F = 0
    · go_wp2_with fail
      refine wp_loop_rounds 1 ?_
      rw [rounds_succ]
      have hFz : ¬ (0 : Int) < (F : Int) := by omega
      have A := DesignFaster_any v2 2 ws _ hR
      rw [show dFast 2 ws = dOf (fastW 2) ws from by unfold dFast; rw [if_pos (by omega)]] at A
      have A := Lib.hid A
      have SAY : Aside (∀ G, dOf (fastW 2) ws = some G → perO G = 2 * (F : Int)) := (show ∀ G, _ → _ from fun G hG => by rw [perO_some (tid_again (dOf_in hG).1), say_fast HX.out hG, HF.out]; omega)
      generalize dOf (fastW 2) ws = oA at *
      go_wp2_with fail
      refine (A.out).mono ?_; rintro e w9 ⟨hbw9, v9, rfl, ho⟩
      replace hR := hR.below hbw9
      replace hL := below_next hL hbw9
      have hA : Reads w9 v9 (got oA) := own_reads ho
      clear ho hbw9
      clear A
      cases oA with
      | none =>
        go_wp2_with fail
        go_ret
        exact ⟨rfl, hL⟩
      | some G =>
        have P := DesignPeriod_any v9 (got (some G)) w9 hA
        rw [got_some, SAY.out G rfl] at P
        have hF2 : IntKind.i64.wrap (2 * (F : Int)) = 2 * (F : Int) := by rw [IntKind.wrap_i64]; omega
        have hF2b : ((2 * (F : Int)) == 2 * (F : Int)) = true := by simp
        go_wp2_with fail
        refine (P).mono ?_; rintro e w10 ⟨rfl, hbw10⟩
        replace hR := hR.below hbw10
        replace hA := hA.below hbw10
        replace hL := below_next hL hbw10
        clear hbw10
        go_wp2
        go_ret
        exact ⟨rfl, hL⟩
    · have HR := Lib.hid hR
      have HY := Lib.hid hY
      have HL4 := Lib.hid hL
      clear hR hY hL
      go_wp2_with fail
      go_loopw [8, 9, 10] (fun i _ _ wr => ∃ k : Nat, 1 ≤ k ∧ k ≤ 25 ∧ i = .int .i64 k ∧ Aside (Below w4.heap.size w4 wr)) (fun i _ _ _ => 25 - (intOf i).toNat)
      case atStart => exact ⟨1, Nat.le_refl _, by omega, rfl, Lib.hid (Below.refl _ _)⟩
      case round =>
        obtain ⟨k, hk1, hk25, rfl, hbel⟩ := hrel
        by_cases hk24 : k ≤ 24
        · have hkz : (k : Int) ≤ 24 := by omega
          have hFz : (0 : Int) < (F : Int) := by omega
          have hknz : ¬ (k : Int) = 0 := by omega
          have hknb : ((k : Int) == 0) = false := by simp; omega
          by_cases hd : 24 % k = 0
          · have r1 : (24 : Int).tmod (k : Int) = 0 := rem_yes (a := 24) hd
            by_cases he : F % k = 0
            · have r2 : (F : Int).tmod (k : Int) = 0 := rem_yes he
              have hR := HR.out.below hbel.out
              have hY := HY.out.below hbel.out
              have hL := hbel.out
              clear hbel
              obtain ⟨st, hst, st1, st24, q4, q5⟩ := parts_of hk1 hk24
              obtain ⟨u, hu, hu2, q6, q7⟩ := home_of st1 st24
              have SAY : Aside (∀ A, dOf (laterW (u : Int)) ws = some A → A = R) := (show ∀ A, _ → _ from fun A => say_period HX.out (n := k) (by rw [HF.out]; exact Nat.dvd_of_mod_eq_zero he) hd hk1 (by rw [hst]; exact hu2))
              have A := Lib.hid (DesignLater_yes v2 u hu ws wr hR)
              generalize dOf (laterW (u : Int)) ws = oA at *
              clear hu2 hst
              go_wp2_with fail
              refine (A.out).mono ?_; rintro e w6 ⟨hbw6, v6, rfl, ho⟩
              replace hR := hR.below hbw6
              replace hY := hY.below hbw6
              replace hL := below_next hL hbw6
              have hA : Reads w6 v6 (got oA) := own_reads ho
              clear ho hbw6
              clear A
              cases oA with
              | none =>
                go_wp2_with fail
                go_roundw
                case rel => exact ⟨k + 1, by omega, by omega, by go_num, Lib.hid hL⟩
                case measure => simp [intOf]; omega
              | some LA =>
                obtain rfl := SAY.out _ rfl
                go_wp2_with fail
                refine (same_self v6 v3 _ _ hA hY).mono ?_; rintro e w8 ⟨rfl, hbw8⟩
                replace hR := hR.below hbw8
                replace hY := hY.below hbw8
                replace hA := hA.below hbw8
                replace hL := below_next hL hbw8
                clear hbw8
                go_wp2_with fail
                go_roundw
                case rel => exact ⟨k + 1, by omega, by omega, by go_num, Lib.hid hL⟩
                case measure => simp [intOf]; omega
            · obtain ⟨r, r2, r3, r4, r5, r6⟩ := rem_no (a := F) (by omega) he
              go_wp2_with fail
              go_roundw
              case rel => exact ⟨k + 1, by omega, by omega, by go_num, hbel⟩
              case measure => simp [intOf]; omega
          · obtain ⟨r, r2, r3, r4, r5, r6⟩ := rem_no (a := 24) (by omega) hd
            rw [show ((24 : Nat) : Int) = 24 from rfl] at r2
            go_wp2_with fail
            go_roundw
            case rel => exact ⟨k + 1, by omega, by omega, by go_num, hbel⟩
            case measure => simp [intOf]; omega
        · obtain rfl : k = 25 := by omega
          have hR := HR.out.below hbel.out
          have hL := below_next HL4.out hbel.out
          clear hbel
          have A := DesignFaster_any v2 2 ws _ hR
          rw [show dFast 2 ws = dOf (fastW 2) ws from by unfold dFast; rw [if_pos (by omega)]] at A
          have A := Lib.hid A
          have SAY : Aside (∀ G, dOf (fastW 2) ws = some G → perO G = 2 * (F : Int)) := (show ∀ G, _ → _ from fun G hG => by rw [perO_some (tid_again (dOf_in hG).1), say_fast HX.out hG, HF.out]; omega)
          generalize dOf (fastW 2) ws = oA at *
          go_wp2_with fail
          refine (A.out).mono ?_; rintro e w9 ⟨hbw9, v9, rfl, ho⟩
          replace hR := hR.below hbw9
          replace hL := below_next hL hbw9
          have hA : Reads w9 v9 (got oA) := own_reads ho
          clear ho hbw9
          clear A
          cases oA with
          | none =>
            go_wp2_with fail
            go_ret
            exact ⟨rfl, hL⟩
          | some G =>
            have P := DesignPeriod_any v9 (got (some G)) w9 hA
            rw [got_some, SAY.out G rfl] at P
            have hF2 : IntKind.i64.wrap (2 * (F : Int)) = 2 * (F : Int) := by rw [IntKind.wrap_i64]; omega
            have hF2b : ((2 * (F : Int)) == 2 * (F : Int)) = true := by simp
            go_wp2_with fail
            refine (P).mono ?_; rintro e w10 ⟨rfl, hbw10⟩
            replace hR := hR.below hbw10
            replace hA := hA.below hbw10
            replace hL := below_next hL hbw10
            clear hbw10
            go_wp2
            go_ret
            exact ⟨rfl, hL⟩
end Go.Proofs.Ytdbokcbbpegilaa
