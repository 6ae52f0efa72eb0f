/-
  The walk of the law FnLength.
-/
import Derived.Test.YtnidiikcnplebaaM32
namespace Go.Proofs.Ytnidiikcnplebaa
set_option maxRecDepth 20000
open Go.ChangeShapes Go.WideShapes Go.ChangeAt Go.RowKit
set_option linter.unusedVariables false
set_option linter.unusedSimpArgs false

theorem lens_fold (xs : List Mv) : ∀ z : Int, xs.foldl (fun n m => n + lenM m) z = z + lensM xs := by
  unfold lensM
  induction xs with
  | nil => intro z; simp
  | cons a xs ih =>
    intro z
    rw [List.foldl_cons, List.foldl_cons, ih, ih (0 + lenM a)]
    omega
theorem lens_cons (a : Mv) (xs : List Mv) : lensM (a :: xs) = lenM a + lensM xs := by
  have := lens_fold xs (0 + lenM a)
  unfold lensM at *
  rw [List.foldl_cons, this]
  omega
theorem lens_append (xs ys : List Mv) : lensM (xs ++ ys) = lensM xs + lensM ys := by
  induction xs with
  | nil => simp [lensM]
  | cons a xs ih => rw [List.cons_append, lens_cons, lens_cons, ih]; omega
theorem lens_rev (xs : List Mv) : lensM xs.reverse = lensM xs := by
  induction xs with
  | nil => rfl
  | cons a xs ih => rw [List.reverse_cons, lens_append, ih, lens_cons, lens_cons]; simp [lensM]; omega
theorem reach_le (xs : List Mv) : ∀ k, k ≤ xs.length → (((sumM (xs.take k)).1.natAbs : Nat) : Int) + (((sumM (xs.take k)).2.natAbs : Nat) : Int) ≤ lensM (xs.take k)
  | 0, _ => by simp [sumM, lensM]
  | k + 1, hk => by
    obtain ⟨a, ha⟩ : ∃ a, xs[k]? = some a := ⟨_, List.getElem?_eq_getElem (by omega)⟩
    have ih := reach_le xs k (by omega)
    rw [sumM_next ha, lensM_next ha]
    unfold addM lenM
    simp only
    omega
theorem mvB_rev {xs : List Mv} (h : mvB xs = true) : mvB xs.reverse = true := by
  obtain ⟨h1, h2⟩ := mvB_parts h
  exact mvB_yes (by rw [List.length_reverse]; exact h1) fun a ha => h2 a (List.mem_reverse.1 ha)
theorem rev_nextM {xs : List Mv} {j : Nat} {x : Mv} (h1 : 1 ≤ j) (h2 : j ≤ xs.length) (hx : xs[j - 1]? = some x) : xs.reverse.take (xs.length - j) ++ [x] = xs.reverse.take (xs.length - (j - 1)) := by
  have e : xs.length - (j - 1) = (xs.length - j) + 1 := by omega
  rw [e, List.take_add_one, List.getElem?_reverse (by omega)]
  rw [show xs.length - 1 - (xs.length - j) = j - 1 by omega, hx]
  rfl
set_option maxHeartbeats 4000000 in
theorem lawFnLength_walk (v : Value) (w : World) (h : CodeAt w v) : Calls Try.prog 9 #[v] w (Fine w) := by
  have D := Lib.hid (drawMovesLength v w h)
  obtain ⟨pa, pn, pc, rfl, hpn⟩ := code_length h
  clear h
  by_cases hbig : 1048576 < pn
  · have hb : (1048576 : Int) < (pn : Int) := by omega
    go_enter Try.func9, Try.ntmps9
    go_wp2_with fail
    go_ret
    exact fine_same ⟨rfl, rfl⟩
  have hb : ¬ (1048576 : Int) < (pn : Int) := by omega
  go_enter Try.func9, Try.ntmps9
  go_wp2_with fail
  refine D.out.mono ?_; rintro e w1 ⟨v2, xs, rfl, hO, hL⟩
  clear D
  have hR := ownL_reads hO
  clear hO
  have T1 := MovesLength_any v2 xs w1 hR
  have T2 := fun w h => specMovesLength_any v2 xs w h
  cases hx : mvB xs with
  | false =>
    have e : lenO xs = -1 := by unfold lenO; rw [hx]; rfl
    rw [e] at T1 T2
    clear e hx
    go_wp2_with fail
    refine (T1).mono ?_; rintro e w2 ⟨rfl, hb⟩
    replace hR := hR.below hb
    replace hL := below_next hL hb
    clear hb
    go_wp2_with fail
    refine (T2 _ hR).mono ?_; rintro e w3 ⟨rfl, hb⟩
    replace hL := below_next hL hb
    clear hb T1 T2
    go_wp2
    go_ret
    exact ⟨rfl, hL⟩
  | true =>
    have e : lenO xs = lensM xs := by unfold lenO; rw [if_pos hx]
    have e2 : lenO xs.reverse = lensM xs := by unfold lenO; rw [if_pos (mvB_rev hx), lens_rev]
    have hl := (mvB_parts hx).1
    have SB := sum_big hx xs.length (Nat.le_refl _)
    have RL := reach_le xs xs.length (Nat.le_refl _)
    rw [List.take_length] at SB RL
    have RE := fun w h => reached_any v2 xs w h hx
    have LB := fun u w h => MovesLength_any u xs.reverse w h
    rw [e] at T1 T2
    simp only [e2] at LB
    obtain ⟨s, hs⟩ : ∃ s, sumM xs = s := ⟨_, rfl⟩
    rw [hs] at RE SB RL
    generalize lensM xs = n at *
    obtain ⟨a, b⟩ := s
    simp only at RL SB
    have n0 : 0 ≤ n := by omega
    have hnn : (n != n) = false := by simp
    have hne : (n == n) = true := by simp
    have hn0 : ¬ n < 0 := by omega
    unfold mvV at RE
    simp only at RE
    clear e e2 hs hx
    go_wp2_with fail
    refine (T1).mono ?_; rintro e w2 ⟨rfl, hb⟩
    replace hR := hR.below hb
    replace hL := below_next hL hb
    clear hb T1
    go_wp2_with fail
    refine (T2 _ hR).mono ?_; rintro e w3 ⟨rfl, hb⟩
    replace hR := hR.below hb
    replace hL := below_next hL hb
    clear hb T2
    have RE1 := Lib.hid RE
    have LB1 := Lib.hid LB
    have SBH := Lib.hid SB
    have RLH := Lib.hid RL
    clear RE LB SB RL
    have HV := Lib.hid hR
    obtain ⟨p, cap, rfl, hc1, hc2, hp0, hp⟩ := hR
    simp only [maxLen] at hc2
    have HP := Lib.hid hp
    have HL := Lib.hid (hL.alloc hL.size (.cells #[] 45))
    have HO := Lib.hid (ownM_nilB w3 w3.heap.size 45 (Nat.le_refl _))
    have HB := Lib.hid ((Below.refl _ _).alloc (Nat.le_refl _) _ : Below w3.heap.size w3 (w3.alloc (.cells #[] 45)))
    have HW3 := Lib.hid hL
    clear hp hL
    go_wp2_with fail
    have q0 : IntKind.i64.wrap ((xs.length : Int) - 1) = (xs.length : Int) - 1 := by rw [IntKind.wrap_i64]; omega
    go_loopw [6, 7] (fun s6 i wr => ∃ k : Nat, k ≤ xs.length ∧ i = .int .i64 ((k : Int) - 1) ∧ OwnL encM 2 wr w3.heap.size 45 s6 (xs.reverse.take (xs.length - k)) ∧ Below w.heap.size w wr ∧ Below w3.heap.size w3 wr ∧ w3.heap.size ≤ wr.heap.size) (fun _ i _ => (intOf i + 1).toNat)
    case atStart => exact ⟨xs.length, Nat.le_refl _, rfl, by rw [Nat.sub_self]; exact HO.out, HL.out, HB.out, by simp⟩
    case round =>
      clear HO HL HB
      obtain ⟨k, hk, rfl, hO, hL, hB, hS⟩ := hrel
      by_cases hlt : 1 ≤ k
      · obtain ⟨j, rfl⟩ : ∃ j, k = j + 1 := ⟨k - 1, by omega⟩
        have hji : ((j + 1 : Nat) : Int) - 1 = (j : Int) := by omega
        rw [hji]
        have hj0 : (j : Int) ≥ 0 := by omega
        have hj1 : (0 : Int) ≤ (j : Int) := by omega
        have hjx : (j : Int) < (xs.length : Int) := by omega
        obtain ⟨c, hc⟩ : ∃ c, xs[j]? = some c := ⟨_, List.getElem?_eq_getElem (by omega)⟩
        obtain ⟨g, o, rfl, hg, hr⟩ := HP.out (by rintro rfl; have := hp0 rfl; omega)
        obtain ⟨c1, c2⟩ := mv_cells (cells_below hr hg hB) hc
        have HN := Lib.hid (rev_nextM (j := j + 1) (by omega) hk (by simpa using hc))
        have HLN : Aside ((xs.reverse.take (xs.length - (j + 1))).length + 1 ≤ 1000) := (show _ ≤ _ from by rw [List.length_take]; omega)
        have w9 : IntKind.i64.wrap ((j : Int) - 1) = (j : Int) - 1 := by rw [IntKind.wrap_i64]; omega
        have HO := Lib.hid hO
        have HL := Lib.hid hL
        have HB := Lib.hid hB
        have HS := Lib.hid hS
        obtain ⟨R, hRR⟩ : ∃ R, xs.reverse.take (xs.length - (j + 1)) = R := ⟨_, rfl⟩
        rw [hRR] at HO HN HLN
        clear hO hL hB hS hr hg hc hRR
        obtain ⟨x, y⟩ := c
        simp only at c1 c2
        go_wp2_with (first | (at_builtin; refine appendL tyN encM_ok rfl rfl rfl rfl (xs := R) (ys := [(x, y)]) (World.ownsRow.alloc HO.out _) (litM _ (x, y) _) (by have := HLN.out; simp; omega) (HB.out.alloc HS.out _) (by simp; have := HS.out; omega) ?_; intro v8 w8 ho8 hb8 hB8 hgr8))
        have HL8 := Lib.hid (below_next HW3.out hb8)
        go_roundw
        case rel => exact ⟨j, by omega, by go_num, by have := HN.out; rw [show j + 1 - 1 = j by omega] at this; rw [← this]; exact ho8, HL8.out, hb8, hB8⟩
        case measure => simp [intOf]
      · obtain rfl : k = 0 := by omega
        rw [Nat.sub_zero, List.take_of_length_le (by simp)] at hO
        have HO := Lib.hid hO
        have HL := Lib.hid hL
        have HV2 := Lib.hid (HV.out.below hB)
        clear hO hL hB hS HV HP
        go_wp2_with fail
        refine (RE1.out _ HV2.out).mono ?_; rintro e w5 ⟨rfl, hb⟩
        have HO5 := Lib.hid (ownL_reads (en := encM) (xs := xs.reverse) (World.ownsRow.alloc (rows_below HO.out hb) (.cells #[.int .i64 a, .int .i64 b] 45)))
        have HL5 := Lib.hid (below_next HL.out (below_next hb (mv_lies w5 (.cells #[.int .i64 a, .int .i64 b] 45))))
        have HM5 := Lib.hid (show RowAt (w5.alloc (.cells #[.int .i64 a, .int .i64 b] 45)) w5.heap.size 2 45 (mfn (a, b)) from RowAt.newAt rfl rfl)
        clear hb HO HL HV2
        go_wp2_with fail
        refine (LB1.out _ _ HO5.out).mono ?_; rintro e w6 ⟨rfl, hb⟩
        have R6 := HM5.out.below hb
        have k1 : w6.cell? ⟨w5.heap.size, 0, none⟩ = some (.int .i64 a) := R6.cell (k := 0) (by decide)
        have k2 : w6.cell? ⟨w5.heap.size, 1, none⟩ = some (.int .i64 b) := R6.cell (k := 1) (by decide)
        have HL6 := Lib.hid (below_next HL5.out hb)
        have hSB := SBH.out
        have hRL := RLH.out
        have wa : IntKind.i64.wrap (0 - a) = 0 - a := by rw [IntKind.wrap_i64]; omega
        have wb : IntKind.i64.wrap (0 - b) = 0 - b := by rw [IntKind.wrap_i64]; omega
        have hma : max a (0 - a) = (a.natAbs : Int) := by omega
        have hmb : max b (0 - b) = (b.natAbs : Int) := by omega
        have wc : IntKind.i64.wrap ((a.natAbs : Int) + (b.natAbs : Int)) = (a.natAbs : Int) + (b.natAbs : Int) := by rw [IntKind.wrap_i64]; omega
        have hge : n ≥ (a.natAbs : Int) + (b.natAbs : Int) := by omega
        clear hb R6 HM5 HL5 HO5 hSB
        go_wp2_with (first | rw [hma] | rw [hmb])
        go_ret
        have hSB := SBH.out
        have wa' : wrap64 (-a) = -a := by unfold wrap64; omega
        have wb' : wrap64 (-b) = -b := by unfold wrap64; omega
        have wc' : wrap64 (max a (-a) + max b (-b)) = max a (-a) + max b (-b) := by unfold wrap64; omega
        exact ⟨ret_bool (by simp [wa', wb', wc']; omega), HL6.out⟩
end Go.Proofs.Ytnidiikcnplebaa
