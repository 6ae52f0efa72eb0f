/-
  The walk of the law FnSpeeds.
-/
import Derived.Test.YtdbokcbbpegilaaM31
import Derived.Test.YtdbokcbbpegilaaM23
namespace Go.Proofs.Ytdbokcbbpegilaa
set_option maxRecDepth 20000
open Go.ChangeShapes Go.WideShapes Go.ChangeAt Go.RowKit
set_option linter.unusedVariables false
set_option linter.unusedSimpArgs false

theorem asc_at {R : List Wh} (h : Asc R) {i j : Nat} {c d : Wh} (hc : R[i]? = some c) (hd : R[j]? = some d) (hij : i < j) : c.s < d.s := by
  obtain ⟨hi, rfl⟩ := List.getElem?_eq_some_iff.1 hc
  obtain ⟨hj, rfl⟩ := List.getElem?_eq_some_iff.1 hd
  exact List.pairwise_iff_getElem.1 h i j hi hj hij

set_option maxHeartbeats 8000000 in
theorem lawFnSpeeds_walk (v : Value) (w : World) (h : CodeAt w v) : Calls Try.prog 5 #[v] w (Fine w) := by
  have D := Lib.hid (drawDesignSpeeds v w h)
  obtain ⟨pa, pn, pc, rfl, hpn⟩ := code_length h
  clear h
  by_cases hbig : 1048576 < pn
  · have hb : (1048576 : Int) < (pn : Int) := by omega
    go_enter Try.func5, Try.ntmps5
    go_wp2_with fail
    go_ret
    exact fine_same ⟨rfl, rfl⟩
  have hb : ¬ (1048576 : Int) < (pn : Int) := by omega
  go_enter Try.func5, Try.ntmps5
  go_wp2_with fail
  refine D.out.mono ?_; rintro e w1 ⟨v2, ws, rfl, hR, hL⟩
  clear D

  have T1 := DesignSpeeds_any v2 ws w1 hR
  have T2 := fun w h => specDesignSpeeds_any v2 ws w h
  cases hx : tid ws with
  | none =>
    rw [spO_none hx] at T1 T2
    go_wp2_with fail
    refine (T1).mono ?_; rintro e w2 ⟨hbw2, v3, rfl, hO⟩
    replace hR := hR.below hbw2
    replace hL := below_next hL hbw2
    clear hbw2
    go_wp2_with fail
    refine (T2 _ hR).mono ?_; rintro e w3 ⟨hbw3, v4, rfl, hW⟩
    replace hO := rows_below hO hbw3
    replace hR := hR.below hbw3
    replace hL := below_next hL hbw3
    clear hbw3
    clear T1 T2
    rw [Option.getD_none] at hO hW
    go_wp2_with fail
    refine (sameI_any hO hW (by simp)).mono ?_; rintro e w4 ⟨rfl, hbw4⟩
    replace hO := rows_below hO hbw4
    replace hW := rows_below hW hbw4
    replace hR := hR.below hbw4
    replace hL := below_next hL hbw4
    clear hbw4
    go_wp2_with fail
    refine (sameI_any hO hW (by simp)).mono ?_; rintro e w5 ⟨rfl, hbw5⟩
    replace hO := rows_below hO hbw5
    replace hW := rows_below hW hbw5
    replace hR := hR.below hbw5
    replace hL := below_next hL hbw5
    clear hbw5
    go_wp2
    go_ret
    exact ⟨rfl, hL⟩
  | some R =>
    rw [spO_some hx] at T1 T2
    go_wp2_with fail
    refine (T1).mono ?_; rintro e w2 ⟨hbw2, v3, rfl, hO⟩
    replace hR := hR.below hbw2
    replace hL := below_next hL hbw2
    clear hbw2
    go_wp2_with fail
    refine (T2 _ hR).mono ?_; rintro e w3 ⟨hbw3, v4, rfl, hW⟩
    replace hO := rows_below hO hbw3
    replace hR := hR.below hbw3
    replace hL := below_next hL hbw3
    clear hbw3
    clear T1 T2
    rw [Option.getD_some] at hO hW
    go_wp2_with fail
    refine (sameI_any hO hW (by rw [spL_len]; have := valid_len (tid_in hx).2.1.ok; omega)).mono ?_; rintro e w4 ⟨rfl, hbw4⟩
    replace hO := rows_below hO hbw4
    replace hW := rows_below hW hbw4
    replace hR := hR.below hbw4
    replace hL := below_next hL hbw4
    clear hbw4
    clear hW
    have T3 : Calls Try.prog 27 #[v2] w4 (Told w4 (tid ws)) := DesignTidy_any v2 ws w4 hR
    rw [hx] at T3
    go_wp2_with fail
    refine T3.mono ?_; rintro e w5 ⟨hbw5, v5, rfl, ho⟩
    replace hO := rows_below hO hbw5
    replace hL := below_next hL hbw5
    rw [got_some] at ho
    clear T3 hbw5 hR
    have hT := (tid_in hx).2.1
    have hn := valid_len hT.ok
    have HT := Lib.hid hT
    obtain ⟨p, cap, rfl, hc1, hc2, hp0, hp⟩ := ownL_reads hO
    have hsl := spL_len R
    rw [hsl] at hc1
    simp only [maxLen] at hc2
    obtain ⟨p2, cap2, rfl, hd1, hd2, -, -⟩ := own_reads ho
    simp only [maxLen] at hd2
    have HP := Lib.hid hp
    have HL := Lib.hid hL
    clear hO hp hL ho hT hx
    simp only [Option.isSome_some, hsl]
    go_wp2_with fail
    go_loopw [10] (fun i wr => ∃ (k m : Nat), 1 ≤ k ∧ (k ≤ R.length ∨ k = 1) ∧ i = .int .i64 k ∧ wr = w5.drewN m) (fun i _ => R.length + 1 - (intOf i).toNat)
    case atStart => exact ⟨1, 0, Nat.le_refl _, .inr rfl, rfl, rfl⟩
    case round =>
      obtain ⟨k, m, hk1, hk, rfl, rfl⟩ := hrel
      by_cases hlt : k < R.length
      · have hkz : (k : Int) < (R.length : Int) := by omega
        have hk0 : (0 : Int) ≤ (k : Int) := by omega
        have hkz2 : (k : Int) - 1 < (R.length : Int) := by omega
        have hk02 : (0 : Int) ≤ (k : Int) - 1 := by omega
        obtain ⟨g, o, rfl, hg, hr⟩ := HP.out (by rintro rfl; have := hp0 rfl; omega)
        obtain ⟨c, hc⟩ : ∃ c, R[k]? = some c := ⟨_, List.getElem?_eq_getElem hlt⟩
        obtain ⟨d, hd⟩ : ∃ d, R[k - 1]? = some d := ⟨_, List.getElem?_eq_getElem (by omega)⟩
        have c1 := int_cell hr (spL_at hc)
        have c2 := int_cell hr (spL_at hd)
        have hj : ((k : Int) - 1).toNat = k - 1 := by omega
        have hj2 : (k : Int).toNat = k := by omega
        have w6 : IntKind.i64.wrap ((k : Int) - 1) = (k : Int) - 1 := by rw [IntKind.wrap_i64]; omega
        have hcd : d.s < c.s := asc_at HT.out.asc hd hc (by omega)
        have hcd2 : ¬ c.s ≤ d.s := by omega
        clear hc hd hr hg
        generalize c.s = cs at *
        generalize d.s = ds at *
        have c3 := c2
        rw [← hj] at c3
        go_wp2_with fail
        go_quiet (fail)
        go_wp2_with fail
        go_roundw
        case rel => exact ⟨k + 1, _, by omega, by omega, by go_num, rfl⟩
        case measure => simp [intOf]; omega
      · have hkz : ¬ (k : Int) < (R.length : Int) := by omega
        go_wp2_with fail
        go_ret
        exact ⟨rfl, below_drewN HL.out m⟩

end Go.Proofs.Ytdbokcbbpegilaa
