/-
  The walk of the law FnFold.
-/
import Derived.Test.YtdbokcbbpegilaaM31
import Derived.Test.YtdbokcbbpegilaaM23
import Derived.Test.YtdbokcbbpegilaaM18
namespace Go.Proofs.Ytdbokcbbpegilaa
set_option maxRecDepth 20000
open Go.ChangeShapes Go.WideShapes Go.ChangeAt Go.RowKit
set_option linter.unusedVariables false
set_option linter.unusedSimpArgs false

set_option maxHeartbeats 8000000 in
theorem lawFnFold_walk (v : Value) (w : World) (h : CodeAt w v) : Calls Try.prog 3 #[v] w (Fine w) := by
  have D := Lib.hid (drawDesignFold v w h)
  obtain ⟨pa, pn, pc, rfl, hpn⟩ := code_length h
  clear h
  by_cases hbig : 1048576 < pn
  · have hb : (1048576 : Int) < (pn : Int) := by omega
    go_enter Try.func3, Try.ntmps3
    go_wp2_with fail
    go_ret
    exact fine_same ⟨rfl, rfl⟩
  have hb : ¬ (1048576 : Int) < (pn : Int) := by omega
  go_enter Try.func3, Try.ntmps3
  go_wp2_with fail
  refine D.out.mono ?_; rintro e w1 ⟨v2, ws, rfl, hR, hL⟩
  clear D

  have T1 := DesignFold_any v2 ws w1 hR
  have T2 := fun w h => specDesignFold_any v2 ws w h
  cases hx : tid ws with
  | none =>
    rw [foldO_none hx] at T1 T2
    go_wp2_with fail
    refine (T1).mono ?_; rintro e w2 ⟨rfl, hbw2⟩
    replace hR := hR.below hbw2
    replace hL := below_next hL hbw2
    clear hbw2
    go_wp2_with fail
    refine (T2 _ hR).mono ?_; rintro e w3 ⟨rfl, hbw3⟩
    replace hR := hR.below hbw3
    replace hL := below_next hL hbw3
    clear hbw3
    go_wp2
    go_ret
    exact ⟨rfl, hL⟩
  | some R =>
    rw [foldO_some hx] at T1 T2
    have hFs := fold_small (tid_in hx).2.1
    obtain ⟨F, hF⟩ : ∃ F, foldW R = F := ⟨_, rfl⟩
    rw [hF] at T1 T2 hFs
    have HF := Lib.hid hF
    have HX := Lib.hid hx
    have hbb : ((F : Int) != (F : Int)) = false := by simp
    have hF0 : ¬ (F : Int) < 0 := by omega
    have hFw : IntKind.i64.wrap (F : Int) = (F : Int) := by rw [IntKind.wrap_i64]; omega
    clear hF hx
    go_wp2_with fail
    refine (T1).mono ?_; rintro e w2 ⟨rfl, hbw2⟩
    replace hR := hR.below hbw2
    replace hL := below_next hL hbw2
    clear hbw2
    go_wp2_with fail
    refine (T2 _ hR).mono ?_; rintro e w3 ⟨rfl, hbw3⟩
    replace hR := hR.below hbw3
    replace hL := below_next hL hbw3
    clear hbw3
    clear T1 T2
    have T3 := DesignSpeeds_any v2 ws w3 hR
    rw [spO_some HX.out] at T3
    go_wp2_with fail
    refine T3.mono ?_; rintro e w4 ⟨hbw4, v3, rfl, ho⟩
    rw [Option.getD_some] at ho
    replace hR := hR.below hbw4
    replace hL := below_next hL hbw4
    clear hbw4 T3
    obtain ⟨p, cap, rfl, hc1, hc2, hp0, hp⟩ := ownL_reads ho
    have hsl := spL_len R
    rw [hsl] at hc1
    simp only [maxLen] at hc2
    have hRl := Lib.hid (valid_len (tid_in HX.out).2.1.ok)
    clear ho
    simp only [Option.isSome_some, hsl]
    by_cases hF1 : F = 0
    · subst hF1
      clear hp
      go_wp2_with fail
      refine wp_loop_rounds 1 ?_
      rw [rounds_succ]
      go_wp2_with fail
      go_ret
      exact ⟨rfl, hL⟩
    · have hRn : 0 < R.length := by
        cases R with
        | nil => exact absurd HF.out.symm hF1
        | cons c R => simp
      obtain ⟨g, o, rfl, hg, hr⟩ := hp (by rintro rfl; have := hp0 rfl; omega)
      have hkz2 : (0 : Int) < (R.length : Int) := by omega
      have hkz3 : R ≠ [] := by rintro rfl; simp at hRn
      have c0 := int_cell hr (headS_at (R := R) hRn)
      rw [Nat.add_zero] at c0
      obtain ⟨c, hc⟩ : ∃ c, R[0]? = some c := ⟨_, List.getElem?_eq_getElem hRn⟩
      have hfs := tidy_speed (tid_in HX.out).2.1 (List.mem_of_getElem? hc)
      have hfs2 : headS R = c.s := by
        have h1 := spL_at hc
        rw [headS_at hRn] at h1
        exact Option.some.inj h1
      rw [hfs2] at c0
      have HC := Lib.hid hc
      have HC0 := Lib.hid c0
      have HG := Lib.hid hg
      have HR := Lib.hid hR
      obtain ⟨fs, hfe⟩ : ∃ fs, c.s = fs := ⟨_, rfl⟩
      have HFS := Lib.hid hfe
      rw [hfe] at hfs HC0
      have HL4 := Lib.hid hL
      clear hp hr hg c0 hfs2 hc hfe hR hL
      go_wp2_with fail
      go_loopw [8, 9, 10, 11, 12, 13, 14] (fun i _ _ _ _ _ _ wr => ∃ k : Nat, 1 ≤ k ∧ k ≤ 25 ∧ i = .int .i64 k ∧ Aside (Below w4.heap.size w4 wr)) (fun i _ _ _ _ _ _ _ => 25 - (intOf i).toNat)
      case atStart => exact ⟨1, Nat.le_refl _, by omega, rfl, Lib.hid (Below.refl _ _)⟩
      case round =>
        obtain ⟨k, hk1, hk25, rfl, hbel⟩ := hrel
        by_cases hk24 : k ≤ 24
        · have hkz : (k : Int) ≤ 24 := by omega
          have hFz : (0 : Int) < (F : Int) := by omega
          have hknz : ¬ (k : Int) = 0 := by omega
          have hknb : ((k : Int) == 0) = false := by simp; omega
          by_cases hd : 24 % k = 0
          · have r1 : (24 : Int).tmod (k : Int) = 0 := rem_yes (a := 24) hd
            by_cases he : F % k = 0
            · have r2 : (F : Int).tmod (k : Int) = 0 := rem_yes he
              have c0 := (hbel.out.cell (p := ⟨g, o, none⟩) HG.out).trans HC0.out
              have hR := HR.out.below hbel.out
              have hL := hbel.out
              clear hbel
              obtain ⟨st, hst, st1, st24, q4, q5⟩ := parts_of hk1 hk24
              obtain ⟨u, hu, hu2, q6, q7⟩ := home_of st1 st24
              have hm0 := mul_in2 (x := (st : Int)) (y := fs) 24 1000 (by omega) (by omega)
              obtain ⟨m1, hm1⟩ : ∃ m1 : Int, (st : Int) * fs = m1 := ⟨_, rfl⟩
              rw [hm1] at hm0
              have x1 : IntKind.i64.wrap m1 = m1 := by rw [IntKind.wrap_i64]; omega
              obtain ⟨m2, t, x2, hm2, x3, ht, ht2⟩ := home_any m1
              have x4 : IntKind.i64.wrap m2 = m2 := by rw [IntKind.wrap_i64]; omega
              have x5 : IntKind.i64.wrap (m2 + 24) = m2 + 24 := by rw [IntKind.wrap_i64]; omega
              have x6 : IntKind.i64.wrap (t : Int) = (t : Int) := by rw [IntKind.wrap_i64]; omega
              have SAY : Aside (∀ A B, dOf (laterW (u : Int)) ws = some A → dOf (turnW t) ws = some B → A = B) := (show ∀ A B, _ → _ → _ from fun A B => say_fold HX.out HC.out (n := k) (by rw [HF.out]; exact Nat.dvd_of_mod_eq_zero he) hd hk1 (by rw [hst]; exact hu2) (by rw [hst, ht2, ← hm1, HFS.out]))
              have A := Lib.hid (DesignLater_yes v2 u hu ws wr hR)
              have B := fun w h => Lib.hid (DesignTurned_yes v2 t ht ws w h)
              generalize dOf (laterW (u : Int)) ws = oA at *
              generalize dOf (turnW t) ws = oB at *
              clear hu2 ht2 hst
              go_wp2_with fail
              refine (A.out).mono ?_; rintro e w6 ⟨hbw6, v6, rfl, ho⟩
              replace hR := hR.below hbw6
              replace hL := below_next hL hbw6
              have hA : Reads w6 v6 (got oA) := own_reads ho
              clear ho hbw6
              go_wp2_with fail
              refine ((B _ hR).out).mono ?_; rintro e w7 ⟨hbw7, v7, rfl, ho⟩
              replace hR := hR.below hbw7
              replace hA := hA.below hbw7
              replace hL := below_next hL hbw7
              have hB : Reads w7 v7 (got oB) := own_reads ho
              clear ho hbw7
              clear A B
              cases oA with
              | none =>
                go_wp2_with fail
                go_roundw
                case rel => exact ⟨k + 1, by omega, by omega, by go_num, Lib.hid hL⟩
                case measure => simp [intOf]; omega
              | some LA =>
                cases oB with
                | none =>
                  go_wp2_with fail
                  go_roundw
                  case rel => exact ⟨k + 1, by omega, by omega, by go_num, Lib.hid hL⟩
                  case measure => simp [intOf]; omega
                | some LB =>
                  obtain rfl := SAY.out _ _ rfl rfl
                  go_wp2_with fail
                  refine (same_self v6 v7 _ _ hA hB).mono ?_; rintro e w8 ⟨rfl, hbw8⟩
                  replace hR := hR.below hbw8
                  replace hA := hA.below hbw8
                  replace hB := hB.below hbw8
                  replace hL := below_next hL hbw8
                  clear hbw8
                  go_wp2_with fail
                  go_roundw
                  case rel => exact ⟨k + 1, by omega, by omega, by go_num, Lib.hid hL⟩
                  case measure => simp [intOf]; omega
            · obtain ⟨r, r2, r3, r4, r5, r6⟩ := rem_no (a := F) (by omega) he
              go_wp2_with fail
              go_roundw
              case rel => exact ⟨k + 1, by omega, by omega, by go_num, hbel⟩
              case measure => simp [intOf]; omega
          · obtain ⟨r, r2, r3, r4, r5, r6⟩ := rem_no (a := 24) (by omega) hd
            rw [show ((24 : Nat) : Int) = 24 from rfl] at r2
            go_wp2_with fail
            go_roundw
            case rel => exact ⟨k + 1, by omega, by omega, by go_num, hbel⟩
            case measure => simp [intOf]; omega
        · obtain rfl : k = 25 := by omega
          have HLX := Lib.hid (below_next HL4.out hbel.out)
          clear hbel
          go_wp2_with fail
          go_ret
          exact ⟨rfl, HLX.out⟩
end Go.Proofs.Ytdbokcbbpegilaa
