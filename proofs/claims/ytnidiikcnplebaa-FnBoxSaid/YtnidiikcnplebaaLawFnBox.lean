/-
  The walk of the law FnBox.
-/
import Derived.Test.YtnidiikcnplebaaM31
import Derived.Test.YtnidiikcnplebaaM27
namespace Go.Proofs.Ytnidiikcnplebaa
set_option maxRecDepth 20000
open Go.ChangeShapes Go.WideShapes Go.ChangeAt Go.RowKit
set_option linter.unusedVariables false
set_option linter.unusedSimpArgs false

theorem iv_fs {x : Nat} (h : finS x = true) : sgnd (sgS x) (szS x) = ivS x := rfl
theorem ord_ge {x y : Nat} (hx : finS x = true) (hy : finS y = true) (h : ivS y ≤ ivS x) : (FloatKind.f32.format.order x y == some Ordering.lt) = false := by
  rw [fs_order (fin_fs hx) (fin_fs hy), iv_fs hx, iv_fs hy]
  have : compare (ivS x) (ivS y) ≠ Ordering.lt := fun e => by rw [Int.compare_eq_lt] at e; omega
  simpa using this
theorem ord_le {x y : Nat} (hx : finS x = true) (hy : finS y = true) (h : ivS x ≤ ivS y) : (FloatKind.f32.format.order x y == some Ordering.gt) = false := by
  rw [fs_order (fin_fs hx) (fin_fs hy), iv_fs hx, iv_fs hy]
  have : compare (ivS x) (ivS y) ≠ Ordering.gt := fun e => by rw [Int.compare_eq_gt] at e; omega
  simpa using this
theorem les_le (x y : Nat) : ivS (lesW x y) ≤ ivS x ∧ ivS (lesW x y) ≤ ivS y := by unfold lesW; split <;> omega
theorem mor_ge (x y : Nat) : ivS x ≤ ivS (morW x y) ∧ ivS y ≤ ivS (morW x y) := by unfold morW; split <;> omega
theorem mor_finB {x y : Nat} (h1 : finS x = true) (h2 : finS y = true) : finS (morW x y) = true := by unfold morW; split <;> assumption
theorem low_fold : ∀ (xs : List Pn) (z : Pn), ptF z = true → (∀ a ∈ xs, ptF a = true) → ptF (xs.foldl lowP z) = true ∧ (ivS (xs.foldl lowP z).1 ≤ ivS z.1 ∧ ivS (xs.foldl lowP z).2 ≤ ivS z.2) ∧ ∀ a ∈ xs, ivS (xs.foldl lowP z).1 ≤ ivS a.1 ∧ ivS (xs.foldl lowP z).2 ≤ ivS a.2
  | [], z, hz, _ => ⟨hz, ⟨Int.le_refl _, Int.le_refl _⟩, fun a ha => by cases ha⟩
  | c :: cs', z, hz, h => by
    have hc := ptF_parts (h c (List.mem_cons_self ..))
    have hz2 := ptF_parts hz
    obtain ⟨h1, h2, h3⟩ := low_fold cs' (lowP z c) (ptF_mk (les_fin hz2.1 hc.1) (les_fin hz2.2 hc.2)) fun a ha => h a (List.mem_cons_of_mem _ ha)
    have k1 := les_le z.1 c.1
    have k2 := les_le z.2 c.2
    have e1 : (lowP z c).1 = lesW z.1 c.1 := rfl
    have e2 : (lowP z c).2 = lesW z.2 c.2 := rfl
    rw [e1, e2] at h2
    rw [List.foldl_cons]
    refine ⟨h1, ⟨by omega, by omega⟩, fun a ha => ?_⟩
    rcases List.mem_cons.1 ha with rfl | ha
    · exact ⟨by omega, by omega⟩
    · exact h3 a ha
theorem hig_fold : ∀ (xs : List Pn) (z : Pn), ptF z = true → (∀ a ∈ xs, ptF a = true) → ptF (xs.foldl higP z) = true ∧ (ivS z.1 ≤ ivS (xs.foldl higP z).1 ∧ ivS z.2 ≤ ivS (xs.foldl higP z).2) ∧ ∀ a ∈ xs, ivS a.1 ≤ ivS (xs.foldl higP z).1 ∧ ivS a.2 ≤ ivS (xs.foldl higP z).2
  | [], z, hz, _ => ⟨hz, ⟨Int.le_refl _, Int.le_refl _⟩, fun a ha => by cases ha⟩
  | c :: cs', z, hz, h => by
    have hc := ptF_parts (h c (List.mem_cons_self ..))
    have hz2 := ptF_parts hz
    obtain ⟨h1, h2, h3⟩ := hig_fold cs' (higP z c) (ptF_mk (mor_finB hz2.1 hc.1) (mor_finB hz2.2 hc.2)) fun a ha => h a (List.mem_cons_of_mem _ ha)
    have k1 := mor_ge z.1 c.1
    have k2 := mor_ge z.2 c.2
    have e1 : (higP z c).1 = morW z.1 c.1 := rfl
    have e2 : (higP z c).2 = morW z.2 c.2 := rfl
    rw [e1, e2] at h2
    rw [List.foldl_cons]
    refine ⟨h1, ⟨by omega, by omega⟩, fun a ha => ?_⟩
    rcases List.mem_cons.1 ha with rfl | ha
    · exact ⟨by omega, by omega⟩
    · exact h3 a ha
theorem head_in {xs : List Pn} (h : 1 ≤ xs.length) : xs.headD (0, 0) ∈ xs := by
  cases xs with
  | nil => simp at h
  | cons c cs' => exact List.mem_cons_self ..
set_option maxHeartbeats 4000000 in
theorem lawFnBox_walk (v : Value) (w : World) (h : CodeAt w v) : Calls Try.prog 10 #[v] w (Fine w) := by
  have D := Lib.hid (drawPathBox v w h)
  obtain ⟨pa, pn, pc, rfl, hpn⟩ := code_length h
  clear h
  by_cases hbig : 1048576 < pn
  · have hb : (1048576 : Int) < (pn : Int) := by omega
    go_enter Try.func10, Try.ntmps10
    go_wp2_with fail
    go_ret
    exact fine_same ⟨rfl, rfl⟩
  have hb : ¬ (1048576 : Int) < (pn : Int) := by omega
  go_enter Try.func10, Try.ntmps10
  go_wp2_with fail
  refine D.out.mono ?_; rintro e w1 ⟨v2, xs, rfl, hO, hL⟩
  clear D
  have hR := ownL_reads hO
  clear hO
  have T1 := PathBox_any v2 xs w1 hR
  have T2 := fun w h => specPathBox_any v2 xs w h
  have hfin : ptF (bl xs) = true ∧ ptF (bh xs) = true := by
    unfold bl bh
    cases hx : pvB xs with
    | false =>
      have h0 : ptF ((0, 0) : Pn) = true := by decide +kernel
      rw [if_neg (by decide), if_neg (by decide)]
      exact ⟨h0, h0⟩
    | true =>
      obtain ⟨h1, -, h3⟩ := pvB_parts hx
      have hf : ∀ a ∈ xs, ptF a = true := fun a ha => ptR_fin (h3 a ha)
      exact ⟨(low_fold xs _ (hf _ (head_in h1)) hf).1, (hig_fold xs _ (hf _ (head_in h1)) hf).1⟩
  have hall : pvB xs = true → ∀ a ∈ xs, ptF a = true ∧ (ivS (bl xs).1 ≤ ivS a.1 ∧ ivS (bl xs).2 ≤ ivS a.2) ∧ (ivS a.1 ≤ ivS (bh xs).1 ∧ ivS a.2 ≤ ivS (bh xs).2) := fun hx a ha => by
    unfold bl bh
    rw [if_pos hx, if_pos hx]
    obtain ⟨h1, -, h3⟩ := pvB_parts hx
    have hf : ∀ a ∈ xs, ptF a = true := fun a ha => ptR_fin (h3 a ha)
    exact ⟨hf a ha, (low_fold xs _ (hf _ (head_in h1)) hf).2.2 a ha, (hig_fold xs _ (hf _ (head_in h1)) hf).2.2 a ha⟩
  have hlen : pvB xs = true → xs.length ≤ 100 := fun hx => (pvB_parts hx).2.1
  have f1 := ptF_parts hfin.1
  have f2 := ptF_parts hfin.2
  obtain ⟨h1, n1⟩ := wd_fin f1.1
  obtain ⟨h2, n2⟩ := wd_fin f1.2
  obtain ⟨h3, n3⟩ := wd_fin f2.1
  obtain ⟨h4, n4⟩ := wd_fin f2.2
  have C1 := fun w => swap_eq (singleAlike_same h1 h2 n1 n2 w)
  have C2 := fun w => swap_eq (singleAlike_same h3 h4 n3 n4 w)
  clear h1 h2 h3 h4 n1 n2 n3 n4 hfin
  generalize bl xs = lo at *
  generalize bh xs = hi at *
  obtain ⟨l1, l2⟩ := lo
  obtain ⟨g1, g2⟩ := hi
  simp only at f1 f2 C1 C2 hall
  unfold csP at T1 T2
  unfold cs at *
  cases hx : pvB xs with
  | false =>
    rw [hx] at T1 T2
    clear hx hall hlen f1 f2
    go_wp2_with fail
    refine (T1).mono ?_; rintro e w2 ⟨rfl, hb⟩
    replace hR := hR.below hb
    replace hL := below_next hL hb
    clear hb
    go_wp2_with fail
    refine (T2 _ hR).mono ?_; rintro e w3 ⟨rfl, hb⟩
    replace hL := below_next hL hb
    clear hb T1 T2
    go_wp2_with fail
    refine (C1 _).mono ?_; rintro e w4 ⟨rfl, rfl⟩
    go_wp2_with fail
    refine (C2 _).mono ?_; rintro e w4 ⟨rfl, rfl⟩
    go_wp2_with fail
    refine (C1 _).mono ?_; rintro e w4 ⟨rfl, rfl⟩
    go_wp2_with fail
    refine (C2 _).mono ?_; rintro e w4 ⟨rfl, rfl⟩
    go_wp2
    go_ret
    exact ⟨rfl, hL⟩
  | true =>
    have HA := Lib.hid (hall hx)
    have hl100 := hlen hx
    rw [hx] at T1 T2
    clear hx hall hlen
    go_wp2_with fail
    refine (T1).mono ?_; rintro e w2 ⟨rfl, hb⟩
    replace hR := hR.below hb
    replace hL := below_next hL hb
    clear hb
    go_wp2_with fail
    refine (T2 _ hR).mono ?_; rintro e w3 ⟨rfl, hb⟩
    replace hR := hR.below hb
    replace hL := below_next hL hb
    clear hb T1 T2
    go_wp2_with fail
    refine (C1 _).mono ?_; rintro e w4 ⟨rfl, rfl⟩
    go_wp2_with fail
    refine (C2 _).mono ?_; rintro e w4 ⟨rfl, rfl⟩
    obtain ⟨p, cap, rfl, hc1, hc2, hp0, hp⟩ := hR
    simp only [maxLen] at hc2
    have HP := Lib.hid hp
    have HL := Lib.hid hL
    have F1 := Lib.hid f1
    have F2 := Lib.hid f2
    clear hp hL C1 C2 f1 f2
    go_wp2_with fail
    go_loop [10] (fun i => ∃ k : Nat, k ≤ xs.length ∧ i = .int .i64 k) (fun i => xs.length - (intOf i).toNat)
    case atStart => exact ⟨0, Nat.zero_le _, rfl⟩
    case round =>
      obtain ⟨k, hk, rfl⟩ := hrel
      by_cases hlt : k < xs.length
      · have hkz : (k : Int) < (xs.length : Int) := by omega
        have hk0 : (0 : Int) ≤ (k : Int) := by omega
        obtain ⟨c, hc⟩ : ∃ c, xs[k]? = some c := ⟨_, List.getElem?_eq_getElem hlt⟩
        obtain ⟨g, o, rfl, hg, hr⟩ := HP.out (by rintro rfl; have := hp0 rfl; omega)
        have c1 := pt_cell hr hc
        obtain ⟨pf, pl, ph⟩ := HA.out c (List.mem_of_getElem? hc)
        have pf2 := ptF_parts pf
        have b1 := ord_ge pf2.1 F1.out.1 pl.1
        have b2 := ord_ge pf2.2 F1.out.2 pl.2
        have b3 := ord_le pf2.1 F2.out.1 ph.1
        have b4 := ord_le pf2.2 F2.out.2 ph.2
        clear hr hg hc pf pl ph pf2
        obtain ⟨x, y⟩ := c
        simp only at c1 b1 b2 b3 b4
        unfold cs at c1
        go_wp2_with fail
        go_round
        case rel => exact ⟨k + 1, by omega, by go_num⟩
        case measure => simp [intOf]; omega
      · obtain rfl : k = xs.length := by omega
        go_wp2_with fail
        go_ret
        exact ⟨rfl, HL.out⟩
end Go.Proofs.Ytnidiikcnplebaa
