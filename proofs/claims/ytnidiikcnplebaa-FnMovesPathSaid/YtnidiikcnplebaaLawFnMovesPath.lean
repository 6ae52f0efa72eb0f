/-
  The walk of the law FnMovesPath.
-/
import Derived.Test.YtnidiikcnplebaaM32
import Derived.Test.YtnidiikcnplebaaM27
import Derived.Test.YtnidiikcnplebaaM26
namespace Go.Proofs.Ytnidiikcnplebaa
set_option maxRecDepth 20000
open Go.ChangeShapes Go.WideShapes Go.ChangeAt Go.RowKit
set_option linter.unusedVariables false
set_option linter.unusedSimpArgs false

/-- A float by a power of two. -/
theorem quo_fs {x g V : Nat} {s : Bool} (hg : g ≤ 8) (hx : FS x s (V * 2 ^ g)) (hV : rndN 23 V = V) (hl : V < 2 ^ topS) : ∃ z, floatBits .quo .f32 x (sclW g) = some z ∧ FS z s V := by
  obtain ⟨m, i, r, e⟩ := hx
  have hs := scl_read hg
  obtain ⟨b1, eb, hm, -⟩ := read_shape fmtS r
  have hlog : m.log2 ≤ 23 := by
    rcases Nat.eq_zero_or_pos m with h0 | h0
    · subst h0; decide
    · have := (Nat.log2_lt (by omega)).2 hm
      omega
  obtain ⟨more, hmore⟩ : ∃ more, more = Ieee.single.fractionBits + 2 + (2 ^ 23).log2 - m.log2 := ⟨_, rfl⟩
  have hf : Ieee.single.fractionBits = 23 := by decide +kernel
  have hl2 : (2 ^ 23 : Nat).log2 = 23 := by decide +kernel
  rw [hf, hl2] at hmore
  have hsh : m <<< more = m * 2 ^ (more - 23) * 2 ^ 23 := by rw [Nat.shiftLeft_eq, Nat.mul_assoc, ← Nat.pow_add]; congr 2; omega
  have hq : floatBits .quo .f32 x (sclW g) = some (Ieee.single.write (.number s (2 * (m * 2 ^ (more - 23))) (((i : Int) - (loS : Int)) - ((g : Int) - ((23 : Nat) : Int)) - (more : Int) - 1))) := by
    show ((Ieee.single.read x).quotient (Ieee.single.fractionBits + 2) (Ieee.single.read (sclW g))).map Ieee.single.write = _
    rw [r, hs]
    simp only [Ieee.Datum.quotient]
    rw [if_neg (Nat.ne_of_gt (Nat.two_pow_pos 23)), hf, hl2, ← hmore, hsh, Nat.mul_div_cancel _ (Nat.two_pow_pos 23), Nat.mul_mod_left]
    simp
  refine ⟨_, hq, ?_⟩
  have hn := near_fv fmtS s (2 * (m * 2 ^ (more - 23))) i (g + more - 22) V (((i : Int) - (loS : Int)) - ((g : Int) - ((23 : Nat) : Int)) - (more : Int) - 1) (by omega) (by
    have e1 : 2 * (m * 2 ^ (more - 23)) * 2 ^ i = (m * 2 ^ i) * 2 ^ (more - 22) := by
      rw [show more - 22 = (more - 23) + 1 by omega, Nat.pow_succ]
      generalize 2 ^ (more - 23) = A
      generalize 2 ^ i = B
      simp only [Nat.mul_assoc, Nat.mul_left_comm, Nat.mul_comm]
    rw [e1, e, Nat.mul_assoc, ← Nat.pow_add]
    congr 2
    omega) (by
      rw [topS_eq] at hl
      exact fits_exact (by decide) hV hl)
  rw [hV] at hn
  exact hn
theorem rndN_low {n : Nat} (h : rndN 23 n ≤ 1048576) : n ≤ 1048576 ∧ rndN 23 n = n := by
  by_cases hl : 23 ≤ n.log2
  · exfalso
    have h0 : 0 < n := by
      rcases Nat.eq_zero_or_pos n with h0 | h0
      · exfalso
        have e0 : Nat.log2 0 = 0 := by decide
        rw [h0, e0] at hl
        omega
      · exact h0
    have h2 := (cut_full hl h0).1
    unfold rndN at h
    have h3 : cutN n (n.log2 - 23) * 1 ≤ cutN n (n.log2 - 23) * 2 ^ (n.log2 - 23) := Nat.mul_le_mul_left _ (Nat.two_pow_pos _)
    have h4 : (2 : Nat) ^ 23 = 8388608 := by decide
    omega
  · have h2 := small_of_log (p := 23) (by omega : n.log2 < 23)
    have h3 := rndN_exact (p := 23) (n := n) (by have : (2 : Nat) ^ (23 + 1) = 2 ^ 23 * 2 := rfl; omega) 0
    rw [Nat.pow_zero, Nat.mul_one] at h3
    rw [h3] at h
    exact ⟨h, h3⟩
/-- What a quotient in range is. -/
theorem quoW_in {n : Int} {g : Nat} (h : -10000000000 ≤ n ∧ n ≤ 10000000000) (hg : g ≤ 8) (hin : inR (quoW n g) = true) : (n.natAbs : Nat) ≤ 1048576 ∧ ivS (quoW n g) = n * 2 ^ (loS - g) := by
  have fx := fs_int h
  have hlo := loS_eq
  have e0 : rndN 23 n.natAbs * 2 ^ loS = rndN 23 n.natAbs * 2 ^ (loS - g) * 2 ^ g := by rw [Nat.mul_assoc, ← Nat.pow_add]; congr 2; omega
  have hfit := fs_fit fx
  have hlt := fs_lt fx
  rw [rndN_scale] at hfit
  have hfit2 := Nat.eq_of_mul_eq_mul_right (Nat.two_pow_pos loS) hfit
  rw [e0] at fx hlt
  have hsm : rndN 23 n.natAbs * 2 ^ (loS - g) < 2 ^ topS := Nat.lt_of_le_of_lt (Nat.le_mul_of_pos_right _ (Nat.two_pow_pos g)) hlt
  obtain ⟨z, hz, fz⟩ := quo_fs hg fx (by rw [rndN_scale, hfit2]) hsm
  have ez : quoW n g = z := by unfold quoW; rw [hz]; rfl
  rw [ez] at hin ⊢
  have hs := (inR_fin hin).2
  rw [(fs_fin fz).2.2] at hs
  have e1 : 4096 * 2 ^ loS = 4096 * 2 ^ g * 2 ^ (loS - g) := by rw [Nat.mul_assoc, ← Nat.pow_add]; congr 2; omega
  rw [e1] at hs
  have h2 := Nat.le_of_mul_le_mul_right hs (Nat.two_pow_pos _)
  have h3 : (2 : Nat) ^ g ≤ 2 ^ 8 := Nat.pow_le_pow_right (by decide) hg
  have h4 : (2 : Nat) ^ 8 = 256 := by decide
  obtain ⟨h5, h6⟩ := rndN_low (n := n.natAbs) (by omega)
  refine ⟨h5, ?_⟩
  rw [fs_iv fz, h6]
  have hp : ((n.natAbs * 2 ^ (loS - g) : Nat) : Int) = (n.natAbs : Int) * 2 ^ (loS - g) := by push_cast; rfl
  unfold sgnd
  by_cases hn : n < 0
  · rw [decide_eq_true hn, if_pos rfl, hp, show (n.natAbs : Int) = -n by omega, Int.neg_mul, Int.neg_neg]
  · rw [decide_eq_false hn, if_neg (by decide), hp, show (n.natAbs : Int) = n by omega]
theorem unI_back {n : Int} {g : Nat} (hg : g ≤ 8) (h : n.natAbs ≤ 1048576) : unI g (n * 2 ^ (loS - g)) = n := by
  have hlo := loS_eq
  unfold unI
  have e1 : n * 2 ^ (loS - g) * 2 ^ g = n * (2 * 2 ^ (loS - 1)) := by
    rw [Int.mul_assoc, ← Int.pow_add]
    rw [show loS - g + g = loS - 1 + 1 by omega, Int.pow_succ, Int.mul_comm (2 ^ (loS - 1)) 2]
  rw [e1]
  obtain ⟨P, hP, hP0⟩ : ∃ P : Int, (2 : Int) ^ (loS - 1) = P ∧ 0 < P := ⟨_, rfl, Int.pow_pos (by decide)⟩
  have e2 : n * (2 * P) + P = (2 * n + 1) * P := by rw [Int.add_mul, Int.one_mul, Int.mul_comm 2 n, Int.mul_assoc]
  have e3 : (2 : Int) ^ loS = 2 * P := by rw [← hP, show loS = loS - 1 + 1 by omega, Int.pow_succ, Int.mul_comm]; rfl
  have hx : rnd 23 ((2 * n + 1) * P) = (2 * n + 1) * P := by
    have hr := rnd_exact (p := 23) (n := (2 * n + 1).natAbs) (by have : (2 : Nat) ^ (23 + 1) = 16777216 := by decide
                                                                 omega) (loS - 1) (decide (2 * n + 1 < 0))
    have hq : sgnd (decide (2 * n + 1 < 0)) ((2 * n + 1).natAbs * 2 ^ (loS - 1)) = (2 * n + 1) * P := by
      have hp : (((2 * n + 1).natAbs * 2 ^ (loS - 1) : Nat) : Int) = ((2 * n + 1).natAbs : Int) * P := by rw [← hP]; push_cast; rfl
      unfold sgnd
      by_cases hn : 2 * n + 1 < 0
      · rw [decide_eq_true hn, if_pos rfl, hp, show ((2 * n + 1).natAbs : Int) = -(2 * n + 1) by omega, Int.neg_mul, Int.neg_neg]
      · rw [decide_eq_false hn, if_neg (by decide), hp, show ((2 * n + 1).natAbs : Int) = 2 * n + 1 by omega]
    rw [hq] at hr
    exact hr
  rw [hP, e2, hx, e3, Int.mul_comm (2 * n + 1) P, Int.mul_comm 2 P, Int.mul_ediv_mul_of_pos _ _ hP0]
  omega
theorem gpt_back {g : Nat} {s : Mv} (hg : g ≤ 8) (h1 : -10000000000 ≤ s.1 ∧ s.1 ≤ 10000000000) (h2 : -10000000000 ≤ s.2 ∧ s.2 ≤ 10000000000) (hin : ptR (ptW g s) = true) : gpt g (ptW g s) = s := by
  obtain ⟨i1, i2⟩ := ptR_parts hin
  obtain ⟨a1, a2⟩ := quoW_in h1 hg i1
  obtain ⟨b1, b2⟩ := quoW_in h2 hg i2
  obtain ⟨x, y⟩ := s
  unfold gpt ptW
  simp only at a1 a2 b1 b2 ⊢
  rw [a2, b2, unI_back hg a1, unI_back hg b1]
theorem moves_back {g : Nat} {xs : List Mv} (hg : g ≤ 8) (hx : mvB xs = true) (hp : pvB (pathL g xs) = true) : movesL g (pathL g xs) = xs := by
  obtain ⟨p1, p2, p3⟩ := pvB_parts hp
  rw [pathL_len] at p1 p2
  have hb := sum_big hx
  have hG : ∀ k, k < xs.length → gpt g (ptW g (sumM (xs.take (k + 1)))) = sumM (xs.take (k + 1)) := fun k hk => by
    have := hb (k + 1) (by omega)
    refine gpt_back hg (by omega) (by omega) (p3 _ (List.mem_of_getElem? (pathL_at hk)))
  have hP : ∀ k, k ≤ xs.length → gpt g (prevP (pathL g xs) k) = sumM (xs.take k) := fun k hk => by
    cases k with
    | zero => rw [prev_zero, gpt_zero]; rfl
    | succ k => rw [prev_next (pathL_at (by omega))]; exact hG k (by omega)
  apply List.ext_getElem?
  intro k
  by_cases hk : k < xs.length
  · obtain ⟨c, hc⟩ : ∃ c, xs[k]? = some c := ⟨_, List.getElem?_eq_getElem hk⟩
    rw [moves_at (pathL_at hk), hG k hk, hP k (by omega), hc, sumM_next hc]
    congr 1
    unfold subM addM
    exact Prod.ext (by simp only; omega) (by simp only; omega)
  · rw [List.getElem?_eq_none (by rw [moves_len (by rw [pathL_len]; omega), pathL_len]; omega), List.getElem?_eq_none (by omega)]
set_option maxHeartbeats 4000000 in
theorem lawFnMovesPath_walk (v : Value) (w : World) (h : CodeAt w v) : Calls Try.prog 7 #[v] w (Fine w) := by
  have D := Lib.hid (drawMovesPath v w h)
  obtain ⟨pa, pn, pc, rfl, hpn⟩ := code_length h
  clear h
  by_cases hbig : 1048576 < pn
  · have hb : (1048576 : Int) < (pn : Int) := by omega
    go_enter Try.func7, Try.ntmps7
    go_wp2_with fail
    go_ret
    exact fine_same ⟨rfl, rfl⟩
  have hb : ¬ (1048576 : Int) < (pn : Int) := by omega
  go_enter Try.func7, Try.ntmps7
  go_wp2_with fail
  refine D.out.mono ?_; rintro e w1 ⟨v2, xs, g, rfl, hO, hL⟩
  clear D
  have hR := ownL_reads hO
  clear hO
  have T1 := MovesPath_any v2 g xs w1 hR
  have T2 := fun w h => specMovesPath_any v2 g xs w h
  have HO := Lib.hid (show ∀ L, mpO xs g = some L → L.length = xs.length ∧ (∀ a ∈ L, ptF a = true) ∧ xs.length ≤ 100 ∧ pmO L g = some xs from fun L hL => by
    unfold mpO at hL
    split at hL
    · next hh =>
      rw [Bool.and_eq_true, Bool.and_eq_true] at hh
      obtain ⟨⟨h1, h2⟩, h3⟩ := hh
      cases hL
      have hg : 0 ≤ g ∧ g ≤ 8 := by unfold grB at h2; exact of_decide_eq_true h2
      refine ⟨pathL_len _ _, fun a ha => ptR_fin ((pvB_parts h3).2.2 a ha), (mvB_parts h1).1, ?_⟩
      unfold pmO
      rw [if_pos (by rw [h3, h2]; rfl), moves_back (by omega) h1 h3]
    · cases hL)
  cases ho : mpO xs g with
  | none =>
    rw [ho] at T1 T2
    clear ho HO
    go_wp2_with fail
    refine (T1).mono ?_; rintro e w2 ⟨hb, v3, rfl, ho3⟩
    have HR := Lib.hid (hR.below hb)
    replace hL := below_next hL hb
    have H3 := Lib.hid (show OwnL encC 1 w2 _ _ v3 ([] : List Pn) from ho3)
    clear hR ho3 hb T1
    go_wp2_with fail
    refine (T2 _ HR.out).mono ?_; rintro e w3 ⟨hb, v4, rfl, ho4⟩
    replace hL := below_next hL hb
    have H3 := Lib.hid (rows_below H3.out hb)
    have H4 := Lib.hid (show OwnL encC 1 w3 _ _ v4 ([] : List Pn) from ho4)
    clear hb ho4 T2
    go_wp2_with fail
    refine (samePoints_yes v3 v4 [] _ (ownL_reads (en := encC) (xs := []) H3.out) (ownL_reads H4.out) (fun a ha => by cases ha) (by simp)).mono ?_; rintro e w4 ⟨rfl, hb⟩
    replace hL := below_next hL hb
    have H3 := Lib.hid (rows_below H3.out hb)
    have H4 := Lib.hid (rows_below H4.out hb)
    clear hb
    go_wp2_with fail
    refine (samePoints_yes v3 v4 [] _ (ownL_reads (en := encC) (xs := []) H3.out) (ownL_reads (en := encC) (xs := []) H4.out) (fun a ha => by cases ha) (by simp)).mono ?_; rintro e w5 ⟨rfl, hb⟩
    replace hL := below_next hL hb
    clear hb
    go_wp2
    go_ret
    exact ⟨rfl, hL⟩
  | some L =>
    obtain ⟨hlen, hF, hl100, hpm⟩ := HO.out L ho
    rw [ho] at T1 T2
    have T3 := fun v w h => PathMoves_any v g L w h
    simp only [hpm] at T3
    have HF := Lib.hid hF
    have HT3 := Lib.hid T3
    have HLEN := Lib.hid hlen
    clear ho HO hF T3 hpm hlen
    go_wp2_with fail
    refine (T1).mono ?_; rintro e w2 ⟨hb, v3, rfl, ho3⟩
    have HR := Lib.hid (hR.below hb)
    replace hL := below_next hL hb
    have H3 := Lib.hid (show OwnL encC 1 w2 _ _ v3 L from ho3)
    clear hR ho3 hb T1
    go_wp2_with fail
    refine (T2 _ HR.out).mono ?_; rintro e w3 ⟨hb, v4, rfl, ho4⟩
    replace hL := below_next hL hb
    have HR := Lib.hid (HR.out.below hb)
    have H3 := Lib.hid (rows_below H3.out hb)
    have H4 := Lib.hid (show OwnL encC 1 w3 _ _ v4 L from ho4)
    clear hb ho4 T2
    go_wp2_with fail
    refine (samePoints_yes v3 v4 L _ (ownL_reads (en := encC) (xs := L) H3.out) (ownL_reads H4.out) HF.out (by have := HLEN.out; omega)).mono ?_; rintro e w4 ⟨rfl, hb⟩
    replace hL := below_next hL hb
    have HR := Lib.hid (HR.out.below hb)
    have H3 := Lib.hid (ownL_reads (en := encC) (xs := L) (rows_below H3.out hb))
    have HL := Lib.hid hL
    clear hb H4 hL
    obtain ⟨p3, c3, rfl⟩ := readsL_formE H3.out
    obtain ⟨p, cap, rfl, hc1, hc2, hp0, hp⟩ := HR.out
    rw [HLEN.out]
    simp only [maxLen] at hc2
    have HP := Lib.hid hp
    have hee : ((xs.length : Int) == (xs.length : Int)) = true := by simp
    clear hp
    go_wp2_with fail
    go_loop [9] (fun i => ∃ k : Nat, k ≤ xs.length ∧ i = .int .i64 k) (fun i => xs.length - (intOf i).toNat)
    case atStart => exact ⟨0, Nat.zero_le _, rfl⟩
    case round =>
      obtain ⟨k, hk, rfl⟩ := hrel
      by_cases hlt : k < xs.length
      · have hkz : (k : Int) < (xs.length : Int) := by omega
        have hk0 : (0 : Int) ≤ (k : Int) := by omega
        obtain ⟨c, hc⟩ : ∃ c, xs[k]? = some c := ⟨_, List.getElem?_eq_getElem hlt⟩
        obtain ⟨gg, o, rfl, hg, hr⟩ := HP.out (by rintro rfl; have := hp0 rfl; omega)
        obtain ⟨c1, c2⟩ := mv_cells hr hc
        clear hr hg hc
        obtain ⟨x, y⟩ := c
        simp only at c1 c2
        have fin : ∀ b : Bool, b = true → True := fun _ _ => trivial
        by_cases q1 : x > 1000
        · go_wp2_with fail
          go_ret
          exact ⟨rfl, HL.out⟩
        · by_cases q2 : x < -1000
          · go_wp2_with fail
            go_ret
            exact ⟨rfl, HL.out⟩
          · by_cases q3 : y > 1000
            · go_wp2_with fail
              go_ret
              exact ⟨rfl, HL.out⟩
            · by_cases q4 : y < -1000
              · go_wp2_with fail
                go_ret
                exact ⟨rfl, HL.out⟩
              · go_wp2_with fail
                go_round
                case rel => exact ⟨k + 1, by omega, by go_num⟩
                case measure => simp [intOf]; omega
      · obtain rfl : k = xs.length := by omega
        rw [HLEN.out] at H3
        go_wp2_with fail
        refine (HT3.out _ _ H3.out).mono ?_; rintro e w5 ⟨hb, v5, rfl, ho5⟩
        have HL5 := Lib.hid (below_next HL.out hb)
        have HR5 := Lib.hid (HR.out.below hb)
        have H5 := Lib.hid (ownL_reads (show OwnL encM 2 w5 _ _ v5 xs from ho5))
        clear hb ho5 HT3
        go_wp2_with fail
        refine (sameMoves_yes v5 _ xs _ H5.out HR5.out).mono ?_; rintro e w6 ⟨rfl, hb⟩
        have HL6 := Lib.hid (below_next HL5.out hb)
        clear hb
        go_wp2
        go_ret
        exact ⟨rfl, HL6.out⟩
end Go.Proofs.Ytnidiikcnplebaa
