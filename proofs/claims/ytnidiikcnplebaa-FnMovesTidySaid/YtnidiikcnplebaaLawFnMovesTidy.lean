/-
  The walk of the law FnMovesTidy.
-/
import Derived.Test.YtnidiikcnplebaaM32
import Derived.Test.YtnidiikcnplebaaM28
namespace Go.Proofs.Ytnidiikcnplebaa
set_option maxRecDepth 20000
open Go.ChangeShapes Go.WideShapes Go.ChangeAt Go.RowKit
set_option linter.unusedVariables false
set_option linter.unusedSimpArgs false

theorem last_split {R : List Mv} {l : Mv} (h : R.getLast? = some l) : R = R.dropLast ++ [l] := by
  obtain ⟨ys, e⟩ := List.getLast?_eq_some_iff.1 h
  subst e
  rw [List.dropLast_concat]
theorem addM_assoc (a b c : Mv) : addM (addM a b) c = addM a (addM b c) := by
  unfold addM
  simp only [Prod.mk.injEq]
  omega
theorem addM_zero (a : Mv) : addM a (0, 0) = a := by unfold addM; simp
theorem sum_snoc (R : List Mv) (m : Mv) : sumM (R ++ [m]) = addM (sumM R) m := by unfold sumM; rw [List.foldl_append]; rfl
theorem lens_snoc (R : List Mv) (m : Mv) : lensM (R ++ [m]) = lensM R + lenM m := by unfold lensM; rw [List.foldl_append]; rfl
theorem tidy_snoc (R : List Mv) (m : Mv) : tidyM (R ++ [m]) = joinM (tidyM R) m := by unfold tidyM; rw [List.foldl_append]; rfl
/-- A move is so many times its direction. -/
theorem dir_times (l : Mv) (h : l ≠ (0, 0)) : ∃ g : Int, 0 < g ∧ g = (gcdM l : Int) ∧ l.1 = g * (dirM l).1 ∧ l.2 = g * (dirM l).2 ∧ Int.gcd (dirM l).1 (dirM l).2 = 1 := by
  have hg : 0 < gcdM l := Nat.pos_of_ne_zero fun e => h (gcdM_zero.1 e)
  have hgi : (0 : Int) < (gcdM l : Int) := by omega
  have d1 : ((gcdM l : Nat) : Int) ∣ l.1 := Int.gcd_dvd_left ..
  have d2 : ((gcdM l : Nat) : Int) ∣ l.2 := Int.gcd_dvd_right ..
  have e1 : l.1 = (gcdM l : Int) * (dirM l).1 := (Int.mul_tdiv_cancel' d1).symm
  have e2 : l.2 = (gcdM l : Int) * (dirM l).2 := (Int.mul_tdiv_cancel' d2).symm
  refine ⟨_, hgi, rfl, e1, e2, ?_⟩
  have e3 : gcdM l = gcdM l * Int.gcd (dirM l).1 (dirM l).2 := by
    have : Int.gcd ((gcdM l : Int) * (dirM l).1) ((gcdM l : Int) * (dirM l).2) = (gcdM l : Int).natAbs * Int.gcd (dirM l).1 (dirM l).2 := Int.gcd_mul_left ..
    rw [← e1, ← e2] at this
    have h2 : gcdM l = Int.gcd l.1 l.2 := rfl
    rw [show ((gcdM l : Int)).natAbs = gcdM l from Int.natAbs_natCast _] at this
    exact h2.trans this
  exact Nat.eq_of_mul_eq_mul_left hg (by omega)
theorem dir_of {d : Mv} (hd : Int.gcd d.1 d.2 = 1) (k : Int) (hk : 0 < k) : dirM (k * d.1, k * d.2) = d ∧ ((k * d.1, k * d.2) : Mv) ≠ (0, 0) := by
  have hg : (gcdM (k * d.1, k * d.2) : Int) = k := by
    unfold gcdM
    simp only
    rw [Int.gcd_mul_left, hd, Nat.mul_one]
    omega
  have hne : gcdM (k * d.1, k * d.2) ≠ 0 := by omega
  refine ⟨?_, fun e => hne (gcdM_zero.2 e)⟩
  unfold dirM
  rw [hg]
  simp only
  rw [Int.mul_tdiv_cancel_left _ (by omega), Int.mul_tdiv_cancel_left _ (by omega)]
theorem len_times (d : Mv) (k : Int) (hk : 0 < k) : lenM (k * d.1, k * d.2) = k * lenM d := by
  unfold lenM
  simp only
  rw [Int.natAbs_mul, Int.natAbs_mul, Int.natCast_mul, Int.natCast_mul, Int.mul_add, show ((k.natAbs : Nat) : Int) = k by omega]
/-- Two moves of one direction, joined. -/
theorem dir_add {l m : Mv} (hl : l ≠ (0, 0)) (hm : m ≠ (0, 0)) (h : dirM l = dirM m) : addM l m ≠ (0, 0) ∧ dirM (addM l m) = dirM l ∧ lenM (addM l m) = lenM l + lenM m := by
  obtain ⟨g, g0, -, a1, a2, hd⟩ := dir_times l hl
  obtain ⟨k, k0, -, b1, b2, -⟩ := dir_times m hm
  rw [← h] at b1 b2
  generalize dirM l = d at *
  have el : l = (g * d.1, g * d.2) := Prod.ext a1 a2
  have em : m = (k * d.1, k * d.2) := Prod.ext b1 b2
  have e : addM l m = ((g + k) * d.1, (g + k) * d.2) := by
    unfold addM
    rw [a1, a2, b1, b2, Int.add_mul, Int.add_mul]
  obtain ⟨h1, h2⟩ := dir_of hd (g + k) (by omega)
  refine ⟨by rw [e]; exact h2, by rw [e]; exact h1, ?_⟩
  rw [e, el, em, len_times d _ (by omega), len_times d _ g0, len_times d _ k0, Int.add_mul]
theorem join_len (Q : List Mv) (l : Mv) : (joinM Q l).length ≤ Q.length + 1 ∧ ((joinM Q l).length = Q.length + 1 → joinM Q l = Q ++ [l] ∧ l ≠ (0, 0) ∧ ∀ k, Q.getLast? = some k → dirM k ≠ dirM l) := by
  unfold joinM
  by_cases h0 : l = (0, 0)
  · rw [if_pos h0]; exact ⟨by omega, fun e => by omega⟩
  · rw [if_neg h0]
    cases hq : Q.getLast? with
    | none =>
      have : Q = [] := List.getLast?_eq_none_iff.1 hq
      subst this
      exact ⟨by simp, fun _ => ⟨rfl, h0, fun k e => by cases e⟩⟩
    | some k =>
      simp only
      by_cases hd : dirM k = dirM l
      · rw [if_pos hd]
        have hl : 1 ≤ Q.length := by
          cases Q with
          | nil => simp at hq
          | cons a b => simp
        refine ⟨by simp, fun e => ?_⟩
        exfalso
        simp at e
        omega
      · rw [if_neg hd]
        exact ⟨by simp, fun _ => ⟨rfl, h0, fun j e => by cases e; exact hd⟩⟩
theorem tidy_len (R : List Mv) : (tidyM R).length ≤ R.length := by
  have key : ∀ (xs R : List Mv), (xs.foldl joinM R).length ≤ R.length + xs.length := by
    intro xs
    induction xs with
    | nil => intro R; simp
    | cons a xs ih =>
      intro R
      have h1 := ih (joinM R a)
      have h2 := (join_len R a).1
      simp only [List.foldl_cons, List.length_cons]
      omega
  have := key R []
  simpa [tidyM] using this
theorem join_app {R : List Mv} {m : Mv} (h0 : m ≠ (0, 0)) (h : ∀ k, R.getLast? = some k → dirM k ≠ dirM m) : joinM R m = R ++ [m] := by
  unfold joinM
  rw [if_neg h0]
  cases hq : R.getLast? with
  | none =>
    have : R = [] := List.getLast?_eq_none_iff.1 hq
    subst this; rfl
  | some k => simp only; rw [if_neg (h k hq)]
/-- What a join keeps: a tidy list stays tidy; what is reached, the length. -/
theorem join_keeps (R : List Mv) (m : Mv) (hR : tidyM R = R) : tidyM (joinM R m) = joinM R m ∧ sumM (joinM R m) = addM (sumM R) m ∧ lensM (joinM R m) = lensM R + lenM m := by
  by_cases h0 : m = (0, 0)
  · subst h0
    rw [joinM_zero]
    exact ⟨hR, by rw [addM_zero], by simp [lenM]⟩
  by_cases h : ∀ k, R.getLast? = some k → dirM k ≠ dirM m
  · have e := join_app h0 h
    rw [e]
    exact ⟨by rw [tidy_snoc, hR, e], sum_snoc _ _, lens_snoc _ _⟩
  · obtain ⟨l, hl, hd⟩ : ∃ l, R.getLast? = some l ∧ dirM l = dirM m := by
      cases hq : R.getLast? with
      | none => exact absurd (fun k e => by rw [hq] at e; cases e) h
      | some l =>
        by_cases hd : dirM l = dirM m
        · exact ⟨l, rfl, hd⟩
        · exact absurd (fun k e => by rw [hq] at e; cases e; exact hd) h
    have es := last_split hl
    have ej : joinM R m = R.dropLast ++ [addM l m] := by unfold joinM; rw [if_neg h0, hl]; simp only; rw [if_pos hd]
    generalize R.dropLast = Q at *
    subst es
    rw [tidy_snoc] at hR
    have j1 := join_len (tidyM Q) l
    have j2 := tidy_len Q
    have j3 : (joinM (tidyM Q) l).length = Q.length + 1 := by rw [hR]; simp
    obtain ⟨j4, l0, j5⟩ := j1.2 (by omega)
    have hQ : tidyM Q = Q := List.append_cancel_right (j4.symm.trans hR)
    rw [hQ] at j5
    obtain ⟨a0, a1, a2⟩ := dir_add l0 h0 hd
    rw [ej]
    refine ⟨?_, ?_, ?_⟩
    · rw [tidy_snoc, hQ]
      exact join_app a0 fun k hk => by rw [a1]; exact j5 k hk
    · rw [sum_snoc, sum_snoc, addM_assoc]
    · rw [lens_snoc, lens_snoc, a2]; omega
theorem tidy_keeps (xs : List Mv) : tidyM (tidyM xs) = tidyM xs ∧ sumM (tidyM xs) = sumM xs ∧ lensM (tidyM xs) = lensM xs := by
  have key : ∀ (xs R : List Mv), tidyM R = R → tidyM (xs.foldl joinM R) = xs.foldl joinM R ∧ sumM (xs.foldl joinM R) = xs.foldl addM (sumM R) ∧ lensM (xs.foldl joinM R) = xs.foldl (fun n m => n + lenM m) (lensM R) := by
    intro xs
    induction xs with
    | nil => intro R hR; exact ⟨hR, rfl, rfl⟩
    | cons a xs ih =>
      intro R hR
      obtain ⟨h1, h2, h3⟩ := join_keeps R a hR
      have := ih (joinM R a) h1
      rw [h2, h3] at this
      exact this
  exact key xs [] rfl
set_option maxHeartbeats 4000000 in
theorem lawFnMovesTidy_walk (v : Value) (w : World) (h : CodeAt w v) : Calls Try.prog 8 #[v] w (Fine w) := by
  have D := Lib.hid (drawMovesTidy v w h)
  obtain ⟨pa, pn, pc, rfl, hpn⟩ := code_length h
  clear h
  by_cases hbig : 1048576 < pn
  · have hb : (1048576 : Int) < (pn : Int) := by omega
    go_enter Try.func8, Try.ntmps8
    go_wp2_with fail
    go_ret
    exact fine_same ⟨rfl, rfl⟩
  have hb : ¬ (1048576 : Int) < (pn : Int) := by omega
  go_enter Try.func8, Try.ntmps8
  go_wp2_with fail
  refine D.out.mono ?_; rintro e w1 ⟨v2, xs, rfl, hO, hL⟩
  clear D
  have hR := ownL_reads hO
  clear hO
  have T1 := MovesTidy_any v2 xs w1 hR
  have T2 := fun w h => specMovesTidy_any v2 xs w h
  have HO := Lib.hid (show ∀ L, tdO xs = some L → L = tidyM xs ∧ mvB xs = true ∧ mvB L = true from fun L hL => by
    unfold tdO at hL
    split at hL
    · next hh =>
      rw [Bool.and_eq_true] at hh
      cases hL
      exact ⟨rfl, hh.1, hh.2⟩
    · cases hL)
  cases ho : tdO xs with
  | none =>
    rw [ho] at T1 T2
    clear ho HO
    go_wp2_with fail
    refine (T1).mono ?_; rintro e w2 ⟨hb, v3, rfl, ho3⟩
    have HR := Lib.hid (hR.below hb)
    replace hL := below_next hL hb
    have H3 := Lib.hid (show OwnL encM 2 w2 _ _ v3 ([] : List Mv) from ho3)
    clear hR ho3 hb T1
    go_wp2_with fail
    refine (T2 _ HR.out).mono ?_; rintro e w3 ⟨hb, v4, rfl, ho4⟩
    replace hL := below_next hL hb
    have H3 := Lib.hid (rows_below H3.out hb)
    have H4 := Lib.hid (show OwnL encM 2 w3 _ _ v4 ([] : List Mv) from ho4)
    clear hb ho4 T2
    go_wp2_with fail
    refine (sameMoves_yes v3 v4 [] _ (ownL_reads (en := encM) (xs := []) H3.out) (ownL_reads H4.out)).mono ?_; rintro e w4 ⟨rfl, hb⟩
    replace hL := below_next hL hb
    have H3 := Lib.hid (rows_below H3.out hb)
    have H4 := Lib.hid (rows_below H4.out hb)
    clear hb
    go_wp2_with fail
    refine (sameMoves_yes v3 v4 [] _ (ownL_reads (en := encM) (xs := []) H3.out) (ownL_reads (en := encM) (xs := []) H4.out)).mono ?_; rintro e w5 ⟨rfl, hb⟩
    replace hL := below_next hL hb
    clear hb
    go_wp2
    go_ret
    exact ⟨rfl, hL⟩
  | some L =>
    obtain ⟨e1, hx, hx2⟩ := HO.out L ho
    obtain ⟨k1, k2, k3⟩ := tidy_keeps xs
    rw [← e1] at k1 k2 k3
    rw [ho] at T1 T2
    have T3 := fun v w h => MovesTidy_any v L w h
    have e2 : tdO L = some L := by unfold tdO; rw [k1, hx2]; rfl
    simp only [e2] at T3
    have RE1 := fun v w h => reached_any v L w h hx2
    have RE2 := fun v w h => reached_any v xs w h hx
    simp only [k2] at RE1
    have LE1 := fun v w h => MovesLength_any v L w h
    have LE2 := fun v w h => MovesLength_any v xs w h
    have e3 : lenO L = lensM xs := by unfold lenO; rw [if_pos hx2, k3]
    have e4 : lenO xs = lensM xs := by unfold lenO; rw [if_pos hx]
    simp only [e3] at LE1
    simp only [e4] at LE2
    generalize sumM xs = s at *
    obtain ⟨sa, sb⟩ := s
    unfold mvV at RE1 RE2
    simp only at RE1 RE2
    generalize lensM xs = n at *
    have hnn : (n == n) = true := by simp
    have EQ := fun w => eq_two sa sb sa sb w
    have ea : (sa == sa && sb == sb) = true := by simp
    rw [ea] at EQ
    have HT3 := Lib.hid T3
    have HRE1 := Lib.hid RE1
    have HRE2 := Lib.hid RE2
    have HLE1 := Lib.hid LE1
    have HLE2 := Lib.hid LE2
    clear ho HO e1 hx hx2 k1 k2 k3 T3 e2 RE1 RE2 LE1 LE2 e3 e4 ea
    go_wp2_with fail
    refine (T1).mono ?_; rintro e w2 ⟨hb, v3, rfl, ho3⟩
    have HR := Lib.hid (hR.below hb)
    replace hL := below_next hL hb
    have H3 := Lib.hid (show OwnL encM 2 w2 _ _ v3 L from ho3)
    clear hR ho3 hb T1
    go_wp2_with fail
    refine (T2 _ HR.out).mono ?_; rintro e w3 ⟨hb, v4, rfl, ho4⟩
    replace hL := below_next hL hb
    have HR := Lib.hid (HR.out.below hb)
    have H3 := Lib.hid (rows_below H3.out hb)
    have H4 := Lib.hid (show OwnL encM 2 w3 _ _ v4 L from ho4)
    clear hb ho4 T2
    go_wp2_with fail
    refine (sameMoves_yes v3 v4 L _ (ownL_reads (en := encM) (xs := L) H3.out) (ownL_reads H4.out)).mono ?_; rintro e w4 ⟨rfl, hb⟩
    replace hL := below_next hL hb
    have HR := Lib.hid (HR.out.below hb)
    have H3 := Lib.hid (ownL_reads (en := encM) (xs := L) (rows_below H3.out hb))
    clear hb H4
    go_wp2_with fail
    refine (HT3.out _ _ H3.out).mono ?_; rintro e w5 ⟨hb, v5, rfl, ho5⟩
    replace hL := below_next hL hb
    have HR := Lib.hid (HR.out.below hb)
    have H3 := Lib.hid (H3.out.below hb)
    have H5 := Lib.hid (show OwnL encM 2 w5 _ _ v5 L from ho5)
    clear hb ho5 HT3
    go_wp2_with fail
    refine (sameMoves_yes v5 v3 L _ (ownL_reads H5.out) H3.out).mono ?_; rintro e w6 ⟨rfl, hb⟩
    replace hL := below_next hL hb
    have HR := Lib.hid (HR.out.below hb)
    have H3 := Lib.hid (H3.out.below hb)
    clear hb H5
    go_wp2_with fail
    refine (HRE1.out _ _ H3.out).mono ?_; rintro e w7 ⟨rfl, hb⟩
    replace hL := below_next hL hb
    have HR := Lib.hid (HR.out.below hb)
    have H3 := Lib.hid (H3.out.below hb)
    clear hb HRE1
    go_wp2_with fail
    refine (HRE2.out _ _ HR.out).mono ?_; rintro e w8 ⟨rfl, hb⟩
    replace hL := below_next hL hb
    have HR := Lib.hid (HR.out.below hb)
    have H3 := Lib.hid (H3.out.below hb)
    clear hb HRE2
    go_wp2_with (first | rw [EQ])
    refine (HLE1.out _ _ H3.out).mono ?_; rintro e w9 ⟨rfl, hb⟩
    replace hL := below_next hL hb
    have HR := Lib.hid (HR.out.below hb)
    clear hb HLE1
    go_wp2_with fail
    refine (HLE2.out _ _ HR.out).mono ?_; rintro e w10 ⟨rfl, hb⟩
    replace hL := below_next hL hb
    clear hb
    go_wp2
    go_ret
    exact ⟨rfl, hL⟩
end Go.Proofs.Ytnidiikcnplebaa
