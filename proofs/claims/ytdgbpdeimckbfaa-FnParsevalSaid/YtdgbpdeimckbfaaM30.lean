/-
  impl: the functions of rows that the document lists, but those of designs.
-/
import Derived.Test.YtdgbpdeimckbfaaM19
import Derived.Test.YtdgbpdeimckbfaaM20
import Derived.Test.YtdgbpdeimckbfaaM29
import Derived.Test.YtdgbpdeimckbfaaM07
/- impl: the functions of rows that the document lists, but those of designs. -/
namespace Go.Proofs.Ytdgbpdeimckbfaa
set_option maxRecDepth 20000
open Go.ChangeShapes Go.WideShapes Go.ChangeAt Go.RowKit
set_option linter.unusedVariables false
set_option linter.unusedSimpArgs false

theorem rowOk_all {xs : List V} (h : rowOk xs = true) : xs.all okv = true := by
  unfold rowOk at h; rw [Bool.and_eq_true] at h; exact h.2
theorem ownL_form {w : World} {B T : Nat} {v : Value} {xs : List V} (h : OwnL encV 8 w B T v xs) (hn : xs ≠ []) : ∃ g cap, v = .slice (some ⟨g, 0, none⟩) xs.length cap ∧ B ≤ g ∧ g < w.heap.size ∧ w.rangeAt g 0 (flt encV xs) ∧ xs.length ≤ cap ∧ cap ≤ maxLen := by
  rcases h.2 with ⟨rfl, h0⟩ | ⟨g, cap, cur, rfl, hB, hg, h1, h2, h3, h4⟩
  · exact absurd (List.length_eq_zero_iff.1 h0) hn
  · obtain ⟨a, b, c, d⟩ := ownL_parts (en := encV) (xs := xs) h rfl
    exact ⟨g, cap, rfl, hB, a, b, h1, h2⟩
theorem rowOk_ne {xs : List V} (h : rowOk xs = true) : xs ≠ [] := by
  intro e; have := (rowOk_short h).1; rw [e] at this; simp at this

/-! One list. -/
set_option maxHeartbeats 1000000 in
theorem RowValid_any (v : Value) (xs : List V) (w : World) (hv : ReadsL encV w v xs) : Calls Try.prog 23 #[v] w fun e w' => e = .returned (.bool (rowOk xs)) ∧ Below w.heap.size w w' := by
  have C := exactRow_any v xs w hv
  have e : (rowO xs).isSome = rowOk xs := by unfold rowO; cases rowOk xs <;> rfl
  unfold ToldL at C
  rw [e] at C
  generalize rowOk xs = b at *
  have C := Lib.hid C
  clear hv e
  go_enter Try.func23, Try.ntmps23
  go_wp2_with fail
  refine C.out.mono ?_; rintro e w1 ⟨hb1, v1, rfl, -⟩
  have HB := Lib.hid hb1
  clear C hb1
  go_wp2
  go_ret
  exact ⟨rfl, HB.out⟩

set_option maxHeartbeats 2000000 in
theorem changedRow_any (F : Nat) (o : Option (List V)) (v : Value) (xs : List V) (w : World) (hv : ReadsL encV w v xs) (eg : ∀ args w, (callFunc F args).run Try.prog w = .ok (.enter F args) w)
    (hF : rowOk xs = true → ∀ v w B, OwnL encV 8 w B 92 v xs → Calls Try.prog F #[v] w (ToldL 92 w o)) (ho : ∀ ys, o = some ys → ys.all okv = true ∧ ys.length ≤ 1000) (hno : rowOk xs = false → o = none) :
    Calls Try.prog 88 #[v, .func (.func F) #[] #[]] w (ToldL 36 w o) := by
  have C := exactRow_any v xs w hv
  clear hv
  cases hr : rowOk xs
  · rw [rowO_no hr] at C
    rw [hno hr]
    have C := Lib.hid C
    clear hF ho hno hr
    go_enter Try.func88, Try.ntmps88
    go_wp2_with fail
    refine C.out.mono ?_; rintro e w1 ⟨hb1, v1, rfl, -⟩
    have HB := Lib.hid hb1
    clear C hb1
    go_wp2
    go_ret2
    exact ⟨HB.out, _, rfl, ownL_none _ _ _⟩
  · rw [rowO_yes hr] at C
    have HF := Lib.hid (hF hr)
    have HO := Lib.hid ho
    have C := Lib.hid C
    clear hF ho hno hr
    go_enter Try.func88, Try.ntmps88
    go_wp2_with fail
    refine C.out.mono ?_; rintro e w1 ⟨hb1, v1, rfl, ho1⟩
    have D := Lib.hid (HF.out v1 w1 _ ho1)
    have HB := Lib.hid hb1
    clear C hb1 ho1 HF
    cases o with
    | none =>
      go_wp2_with fail
      refine D.out.mono ?_; rintro e w2 ⟨hb2, v2, rfl, -⟩
      have HB2 := Lib.hid (below_next HB.out hb2)
      clear D hb2 HB HO
      go_wp2
      go_ret2
      exact ⟨HB2.out, _, rfl, ownL_none _ _ _⟩
    | some ys =>
      obtain ⟨hys, hyl⟩ := HO.out ys rfl
      go_wp2_with fail
      refine D.out.mono ?_; rintro e w2 ⟨hb2, v2, rfl, ho2⟩
      have T := rowTold_any v2 ys w2 (ownL_reads (show OwnL encV 8 w2 w1.heap.size 92 v2 ys from ho2)) hyl
      rw [allO_yes hys] at T
      have T := Lib.hid T
      have HB2 := Lib.hid (below_next HB.out hb2)
      clear D hb2 HB HO ho2
      go_wp2_with fail
      refine T.out.mono ?_; rintro e w3 ⟨hb3, v3, rfl, ho3⟩
      have H := Lib.hid (show ToldL 36 w (some ys) (.returned (.tuple #[v3, .bool true])) w3 from ⟨below_next HB2.out hb3, v3, rfl, rows_mono ho3 HB2.out.size⟩)
      clear T hb3 ho3 HB2
      go_wp2
      go_ret2
      exact H.out

/-! Transforms. -/
theorem part_any (p : Option Addr) (n cap : Nat) (h1 : 1 ≤ n) (hn : n ≤ 24) (w : World) : Calls Try.prog 127 #[.slice p n cap] w fun e w' => e = .returned (.int .i64 ((24 / n % 24 : Nat) : Int)) ∧ w = w' := by
  obtain ⟨q, hq⟩ : ∃ q, 24 / n = q := ⟨_, rfl⟩
  have hq24 : q ≤ 24 := by rw [← hq]; exact Nat.div_le_self 24 n
  have e1 : (24 : Int).tdiv (n : Int) = (q : Int) := by
    rw [Int.tdiv_eq_ediv_of_nonneg (by decide), ← hq]; simp
  have e2 : IntKind.i64.wrap (q : Int) = (q : Int) := by rw [IntKind.wrap_i64]; omega
  have e3 : ¬ (n : Int) = 0 := by omega
  have W := fun w => within_any (q : Int) (by omega) (by omega) w
  have e4 : (q : Int) % 24 = ((q % 24 : Nat) : Int) := by simp
  rw [e4] at W
  rw [hq]
  clear e4 hq
  generalize ((q % 24 : Nat) : Int) = r at *
  go_enter Try.func127, Try.ntmps127
  go_wp2_with fail
  refine (W _).mono ?_; rintro e w1 ⟨rfl, rfl⟩
  clear W
  go_wp2
  go_ret
  exact ⟨rfl, rfl⟩
theorem trSum_same {p q : Nat} (h : p % 24 = q % 24) (xs : List V) : trSum p xs = trSum q xs := by
  funext j
  unfold trSum
  refine sumN_same fun k _ => tV_same _ ?_
  rw [Nat.mul_mod, h, ← Nat.mul_mod]
theorem trO_coll {p : Nat} {xs : List V} (h : rowOk xs = true) : trO p xs = coll (trSum p xs) xs.length := by unfold trO; rw [if_pos h]; rfl
set_option maxHeartbeats 1000000 in
theorem transform_any (v : Value) (xs : List V) (w : World) (B : Nat) (hO : OwnL encV 8 w B 92 v xs) (hr : rowOk xs = true) : Calls Try.prog 89 #[v] w (ToldL 92 w (trF xs)) := by
  obtain ⟨g, cap, rfl, hB, hg, hrg, hc, hm⟩ := ownL_form hO (rowOk_ne hr)
  obtain ⟨h1, h24⟩ := rowOk_short hr
  have P := fun w => part_any (some ⟨g, 0, none⟩) xs.length cap h1 h24 w
  obtain ⟨q, hq⟩ : ∃ q, 24 / xs.length % 24 = q := ⟨_, rfl⟩
  have hq23 : q ≤ 23 := by rw [← hq]; omega
  have T := fun w => turnTimes_any q (-1) hq23 (by omega) w
  obtain ⟨p, hp⟩ : ∃ p, tm q (-1) = p := ⟨_, rfl⟩
  have hp23 : p ≤ 23 := by rw [← hp]; exact tm_lt _ _
  have hpb : p % 24 = bw xs.length % 24 := by
    rw [← hp]; unfold tm bw
    have : 24 / xs.length ≤ 24 := Nat.div_le_self _ _
    omega
  have X := transformed_any g 0 cap xs p w hg hrg hc hm hp23 (rowOk_all hr) h24
  rw [trSum_same hpb, ← trO_coll hr] at X
  change Calls Try.prog 126 _ _ (ToldL 92 w (trF xs)) at X
  rw [hq] at P
  rw [hp] at T
  generalize trF xs = o at *
  have X := Lib.hid X
  clear hO hrg hr hq hp hpb
  go_enter Try.func89, Try.ntmps89
  go_wp2_with fail
  refine (P _).mono ?_; rintro e w1 ⟨rfl, rfl⟩
  clear P
  go_wp2_with fail
  refine (T _).mono ?_; rintro e w2 ⟨rfl, rfl⟩
  clear T
  go_wp2_with fail
  refine X.out.mono ?_; rintro e w3 ⟨hb3, v3, rfl, ho3⟩
  have H := Lib.hid (show ToldL 92 w o (.returned (.tuple #[v3, .bool o.isSome])) w3 from ⟨hb3, v3, rfl, ho3⟩)
  clear X hb3 ho3
  go_wp2
  go_ret2
  exact H.out
set_option maxHeartbeats 1000000 in
theorem backTransform_any (v : Value) (xs : List V) (w : World) (B : Nat) (hO : OwnL encV 8 w B 92 v xs) (hr : rowOk xs = true) : Calls Try.prog 91 #[v] w (ToldL 92 w (trB xs)) := by
  obtain ⟨g, cap, rfl, hB, hg, hrg, hc, hm⟩ := ownL_form hO (rowOk_ne hr)
  obtain ⟨h1, h24⟩ := rowOk_short hr
  have P := fun w => part_any (some ⟨g, 0, none⟩) xs.length cap h1 h24 w
  obtain ⟨q, hq⟩ : ∃ q, 24 / xs.length % 24 = q := ⟨_, rfl⟩
  have hq23 : q ≤ 23 := by rw [← hq]; omega
  have hpb : q % 24 = fw xs.length % 24 := by rw [← hq]; unfold fw; omega
  have X := transformed_any g 0 cap xs q w hg hrg hc hm hq23 (rowOk_all hr) h24
  rw [trSum_same hpb, ← trO_coll hr] at X
  change Calls Try.prog 126 _ _ (ToldL 92 w (trB xs)) at X
  rw [hq] at P
  generalize trB xs = o at *
  have X := Lib.hid X
  clear hO hrg hr hq hpb
  go_enter Try.func91, Try.ntmps91
  go_wp2_with fail
  refine (P _).mono ?_; rintro e w1 ⟨rfl, rfl⟩
  clear P
  go_wp2_with fail
  refine X.out.mono ?_; rintro e w3 ⟨hb3, v3, rfl, ho3⟩
  have H := Lib.hid (show ToldL 92 w o (.returned (.tuple #[v3, .bool o.isSome])) w3 from ⟨hb3, v3, rfl, ho3⟩)
  clear X hb3 ho3
  go_wp2
  go_ret2
  exact H.out
theorem trO_told {p : Nat} {xs : List V} : ∀ ys, trO p xs = some ys → ys.all okv = true ∧ ys.length ≤ 1000 := fun ys h => by
  obtain ⟨h1, h2, h3, -⟩ := trO_some h
  exact ⟨rowOk_all h3, by have := (rowOk_short h3).2; omega⟩
theorem trO_bad {p : Nat} {xs : List V} (h : rowOk xs = false) : trO p xs = none := by unfold trO; rw [h]; rfl
theorem enters_tr : ∀ args w, (callFunc 89 args).run Try.prog w = .ok (.enter 89 args) w := enters_of Try.func89 (by kernel_rfl) rfl
theorem enters_bt : ∀ args w, (callFunc 91 args).run Try.prog w = .ok (.enter 91 args) w := enters_of Try.func91 (by kernel_rfl) rfl
theorem TransformOf_any (v : Value) (xs : List V) (w : World) (hv : ReadsL encV w v xs) : Calls Try.prog 33 #[v] w (ToldL 36 w (trF xs)) := by
  have C := Lib.hid (changedRow_any 89 (trF xs) v xs w hv enters_tr (fun hr v w B h => transform_any v xs w B h hr) (fun ys h => trO_told ys h) trO_bad)
  generalize trF xs = o at *
  clear hv
  go_enter Try.func33, Try.ntmps33
  go_wp2_with fail
  refine C.out.mono ?_; rintro e w1 ⟨hb1, v1, rfl, ho1⟩
  have H := Lib.hid (show ToldL 36 w o (.returned (.tuple #[v1, .bool o.isSome])) w1 from ⟨hb1, v1, rfl, ho1⟩)
  clear C hb1 ho1
  go_wp2
  go_ret2
  exact H.out
theorem TransformBack_any (v : Value) (xs : List V) (w : World) (hv : ReadsL encV w v xs) : Calls Try.prog 35 #[v] w (ToldL 36 w (trB xs)) := by
  have C := Lib.hid (changedRow_any 91 (trB xs) v xs w hv enters_bt (fun hr v w B h => backTransform_any v xs w B h hr) (fun ys h => trO_told ys h) trO_bad)
  generalize trB xs = o at *
  clear hv
  go_enter Try.func35, Try.ntmps35
  go_wp2_with fail
  refine C.out.mono ?_; rintro e w1 ⟨hb1, v1, rfl, ho1⟩
  have H := Lib.hid (show ToldL 36 w o (.returned (.tuple #[v1, .bool o.isSome])) w1 from ⟨hb1, v1, rfl, ho1⟩)
  clear C hb1 ho1
  go_wp2
  go_ret2
  exact H.out

/-! Shifted. -/
theorem shO_no {m : Int} {xs : List V} (h : rowOk xs = false) : shO m xs = none := by unfold shO; rw [h]; rfl
theorem shO_out {m : Int} {xs : List V} (h : ¬ (0 ≤ m ∧ m ≤ 23)) : shO m xs = none := by
  unfold shO
  rw [if_neg]
  simp only [Bool.and_eq_true, decide_eq_true_eq]
  exact fun k => h ⟨k.1.2, k.2⟩
set_option maxHeartbeats 2000000 in
theorem RowShift_any (v : Value) (m : Int) (xs : List V) (w : World) (hv : ReadsL encV w v xs) : Calls Try.prog 25 #[v, .int .i64 m] w (ToldL 36 w (shO m xs)) := by
  have C := exactRow_any v xs w hv
  clear hv
  cases hr : rowOk xs
  · rw [rowO_no hr] at C
    rw [shO_no hr]
    have C := Lib.hid C
    clear hr
    go_enter Try.func25, Try.ntmps25
    go_wp2_with fail
    refine C.out.mono ?_; rintro e w1 ⟨hb1, v1, rfl, -⟩
    have HB := Lib.hid hb1
    clear C hb1
    go_wp2
    go_ret2
    exact ⟨HB.out, _, rfl, ownL_none _ _ _⟩
  · rw [rowO_yes hr] at C
    by_cases h0 : 0 ≤ m
    · by_cases h1 : m ≤ 23
      · obtain ⟨n, rfl⟩ : ∃ n : Nat, m = n := ⟨m.toNat, by omega⟩
        rw [shO_yes hr (by omega)]
        have hne := rowOk_ne hr
        obtain ⟨hl1, hl2⟩ := rowOk_short hr
        have HSA : Aside ((shL n xs).all okv = true ∧ (shL n xs).length ≤ 1000) := (show _ ∧ _ from ⟨rowOk_all (shL_ok hr), by rw [shL_len]; omega⟩)
        have hm24 : ¬ (24 : Int) ≤ (n : Int) := by omega
        have C := Lib.hid C
        clear hr h0
        go_enter Try.func25, Try.ntmps25
        go_wp2_with fail
        refine C.out.mono ?_; rintro e w1 ⟨hb1, v1, rfl, ho1⟩
        obtain ⟨g, cap, rfl, hB, hg, hrg, hc, hm⟩ := ownL_form (show OwnL encV 8 w1 w.heap.size 92 v1 xs from ho1) hne
        have S := Lib.hid (shifted_any g 0 cap xs n w1 hg hrg hc hm hl1 (by omega) (by omega))
        have HB := Lib.hid hb1
        clear C hb1 ho1 hrg hm hne
        go_wp2_with fail
        refine S.out.mono ?_; rintro e w2 ⟨hb2, v2, rfl, ho2⟩
        have T := rowTold_any v2 (shL n xs) w2 (ownL_reads ho2) HSA.out.2
        rw [allO_yes HSA.out.1] at T
        have T := Lib.hid T
        have HB2 := Lib.hid (below_next HB.out hb2)
        clear S hb2 ho2 HB
        generalize shL n xs = ys at *
        go_wp2_with fail
        refine T.out.mono ?_; rintro e w3 ⟨hb3, v3, rfl, ho3⟩
        have H := Lib.hid (show ToldL 36 w (some ys) (.returned (.tuple #[v3, .bool true])) w3 from ⟨below_next HB2.out hb3, v3, rfl, rows_mono ho3 HB2.out.size⟩)
        clear T hb3 ho3 HB2
        go_wp2
        go_ret2
        exact H.out
      · rw [shO_out (by omega)]
        have h2 : (24 : Int) ≤ m := by omega
        have C := Lib.hid C
        clear hr
        go_enter Try.func25, Try.ntmps25
        go_wp2_with fail
        refine C.out.mono ?_; rintro e w1 ⟨hb1, v1, rfl, -⟩
        have HB := Lib.hid hb1
        clear C hb1
        go_wp2
        go_ret2
        exact ⟨HB.out, _, rfl, ownL_none _ _ _⟩
    · rw [shO_out (by omega)]
      have h2 : m < 0 := by omega
      have C := Lib.hid C
      clear hr
      go_enter Try.func25, Try.ntmps25
      go_wp2_with fail
      refine C.out.mono ?_; rintro e w1 ⟨hb1, v1, rfl, -⟩
      have HB := Lib.hid hb1
      clear C hb1
      go_wp2
      go_ret2
      exact ⟨HB.out, _, rfl, ownL_none _ _ _⟩

/-! Two rows. -/
def PairL (w : World) (xs ys : List V) (e : Ending) (w' : World) : Prop :=
  Below w.heap.size w w' ∧ ∃ v1 v2, e = .returned (.tuple #[v1, v2, .bool (pairOk xs ys)]) ∧ (pairOk xs ys = true → OwnL encV 8 w' w.heap.size 92 v1 xs ∧ OwnL encV 8 w' w.heap.size 92 v2 ys)
set_option maxHeartbeats 2000000 in
theorem exactRows_any (v u : Value) (xs ys : List V) (w : World) (hv : ReadsL encV w v xs) (hu : ReadsL encV w u ys) : Calls Try.prog 137 #[v, u] w (PairL w xs ys) := by
  have C := exactRow_any v xs w hv
  have HU := Lib.hid hu
  clear hv hu
  cases hr : rowOk xs
  · have HP : Aside (pairOk xs ys = false) := (show _ = _ from by unfold pairOk; rw [hr]; rfl)
    rw [rowO_no hr] at C
    have C := Lib.hid C
    clear hr
    go_enter Try.func137, Try.ntmps137
    go_wp2_with fail
    refine C.out.mono ?_; rintro e w1 ⟨hb1, v1, rfl, -⟩
    have D := Lib.hid (exactRow_any u ys w1 (HU.out.below hb1))
    have HB := Lib.hid hb1
    clear C hb1 HU
    go_wp2_with fail
    refine D.out.mono ?_; rintro e w2 ⟨hb2, v2, rfl, -⟩
    have HB2 := Lib.hid (below_next HB.out hb2)
    clear D hb2 HB
    generalize (rowO ys).isSome = b2 at *
    go_wp2
    go_ret3
    exact ⟨HB2.out, _, _, by rw [HP.out]; rfl, fun h => by rw [HP.out] at h; cases h⟩
  · rw [rowO_yes hr] at C
    cases hs : rowOk ys
    · have HP : Aside (pairOk xs ys = false) := (show _ = _ from by unfold pairOk; rw [hs, Bool.and_false]; rfl)
      have C := Lib.hid C
      have HS := Lib.hid hs
      clear hr hs
      go_enter Try.func137, Try.ntmps137
      go_wp2_with fail
      refine C.out.mono ?_; rintro e w1 ⟨hb1, v1, rfl, -⟩
      have D := exactRow_any u ys w1 (HU.out.below hb1)
      rw [rowO_no HS.out] at D
      have D := Lib.hid D
      have HB := Lib.hid hb1
      clear C hb1 HU
      go_wp2_with fail
      refine D.out.mono ?_; rintro e w2 ⟨hb2, v2, rfl, -⟩
      have HB2 := Lib.hid (below_next HB.out hb2)
      clear D hb2 HB
      go_wp2
      go_ret3
      exact ⟨HB2.out, _, _, by rw [HP.out]; rfl, fun h => by rw [HP.out] at h; cases h⟩
    · have C := Lib.hid C
      have HS := Lib.hid hs
      have HR := Lib.hid hr
      have n1 := rowOk_ne hr
      have n2 := rowOk_ne hs
      clear hr hs
      go_enter Try.func137, Try.ntmps137
      go_wp2_with fail
      refine C.out.mono ?_; rintro e w1 ⟨hb1, v1, rfl, ho1⟩
      have D := exactRow_any u ys w1 (HU.out.below hb1)
      rw [rowO_yes HS.out] at D
      have D := Lib.hid D
      have HB := Lib.hid hb1
      have HO1 := Lib.hid (show OwnL encV 8 w1 w.heap.size 92 v1 xs from ho1)
      clear C hb1 HU ho1
      go_wp2_with fail
      refine D.out.mono ?_; rintro e w2 ⟨hb2, v2, rfl, ho2⟩
      have HO1' := Lib.hid (rows_below HO1.out hb2)
      have HO2 := Lib.hid (rows_mono (show OwnL encV 8 w2 w1.heap.size 92 v2 ys from ho2) HB.out.size)
      have HB2 := Lib.hid (below_next HB.out hb2)
      clear D hb2 HB ho2 HO1
      obtain ⟨g1, c1, rfl, -⟩ := ownL_form (show OwnL encV 8 w2 w.heap.size 92 v1 xs from HO1'.out) n1
      obtain ⟨g2, c2, rfl, -⟩ := ownL_form (show OwnL encV 8 w2 w.heap.size 92 v2 ys from HO2.out) n2
      by_cases hl : xs.length = ys.length
      · have hlb : ((xs.length : Int) != (ys.length : Int)) = false := by simpa using (show (xs.length : Int) = (ys.length : Int) by omega)
        have HP : Aside (pairOk xs ys = true) := (show _ = _ from by unfold pairOk; rw [HR.out, HS.out, decide_eq_true hl]; rfl)
        clear hl
        go_wp2
        go_ret3
        exact ⟨HB2.out, _, _, by rw [HP.out]; rfl, fun _ => ⟨HO1'.out, HO2.out⟩⟩
      · have hlb : ((xs.length : Int) != (ys.length : Int)) = true := by simpa using (show ¬ (xs.length : Int) = (ys.length : Int) by omega)
        have HP : Aside (pairOk xs ys = false) := (show _ = _ from by unfold pairOk; rw [decide_eq_false hl, Bool.and_false])
        clear hl
        go_wp2
        go_ret3
        exact ⟨HB2.out, _, _, by rw [HP.out]; rfl, fun h => by rw [HP.out] at h; cases h⟩

set_option maxHeartbeats 2000000 in
theorem joinedRows_any (F : Nat) (o : Option (List V)) (v u : Value) (xs ys : List V) (w : World) (hv : ReadsL encV w v xs) (hu : ReadsL encV w u ys) (eg : ∀ args w, (callFunc F args).run Try.prog w = .ok (.enter F args) w)
    (hF : pairOk xs ys = true → ∀ v u w B, OwnL encV 8 w B 92 v xs → OwnL encV 8 w B 92 u ys → Calls Try.prog F #[v, u] w (ToldL 92 w o)) (ho : ∀ zs, o = some zs → zs.all okv = true ∧ zs.length ≤ 1000) (hno : pairOk xs ys = false → o = none) :
    Calls Try.prog 100 #[v, u, .func (.func F) #[] #[]] w (ToldL 36 w o) := by
  have C := exactRows_any v u xs ys w hv hu
  unfold PairL at C
  clear hv hu
  cases hr : pairOk xs ys
  · rw [hr] at C
    rw [hno hr]
    have C := Lib.hid C
    clear hF ho hno hr
    go_enter Try.func100, Try.ntmps100
    go_wp2_with fail
    refine C.out.mono ?_; rintro e w1 ⟨hb1, v1, v2, rfl, -⟩
    have HB := Lib.hid hb1
    clear C hb1
    go_wp2
    go_ret2
    exact ⟨HB.out, _, rfl, ownL_none _ _ _⟩
  · rw [hr] at C
    have HF := Lib.hid (hF hr)
    have HO := Lib.hid ho
    have C := Lib.hid C
    clear hF ho hno hr
    go_enter Try.func100, Try.ntmps100
    go_wp2_with fail
    refine C.out.mono ?_; rintro e w1 ⟨hb1, v1, v2, rfl, ho1⟩
    have D := Lib.hid (HF.out v1 v2 w1 _ (ho1 (by trivial)).1 (ho1 (by trivial)).2)
    have HB := Lib.hid hb1
    clear C hb1 ho1 HF
    cases o with
    | none =>
      go_wp2_with fail
      refine D.out.mono ?_; rintro e w2 ⟨hb2, v3, rfl, -⟩
      have HB2 := Lib.hid (below_next HB.out hb2)
      clear D hb2 HB HO
      go_wp2
      go_ret2
      exact ⟨HB2.out, _, rfl, ownL_none _ _ _⟩
    | some zs =>
      obtain ⟨hys, hyl⟩ := HO.out zs rfl
      go_wp2_with fail
      refine D.out.mono ?_; rintro e w2 ⟨hb2, v3, rfl, ho2⟩
      have T := rowTold_any v3 zs w2 (ownL_reads (show OwnL encV 8 w2 w1.heap.size 92 v3 zs from ho2)) hyl
      rw [allO_yes hys] at T
      have T := Lib.hid T
      have HB2 := Lib.hid (below_next HB.out hb2)
      clear D hb2 HB HO ho2
      go_wp2_with fail
      refine T.out.mono ?_; rintro e w3 ⟨hb3, v4, rfl, ho3⟩
      have H := Lib.hid (show ToldL 36 w (some zs) (.returned (.tuple #[v4, .bool true])) w3 from ⟨below_next HB2.out hb3, v4, rfl, rows_mono ho3 HB2.out.size⟩)
      clear T hb3 ho3 HB2
      go_wp2
      go_ret2
      exact H.out
theorem enters_pr : ∀ args w, (callFunc 101 args).run Try.prog w = .ok (.enter 101 args) w := enters_of Try.func101 (by kernel_rfl) rfl
theorem enters_cr : ∀ args w, (callFunc 104 args).run Try.prog w = .ok (.enter 104 args) w := enters_of Try.func104 (by kernel_rfl) rfl
theorem tmO_coll {a b : List V} (h : pairOk a b = true) : tmO a b = collP (fun k => prV (at' a k) (at' b k)) a.length := by unfold tmO; rw [if_pos h]
theorem tmO_no {a b : List V} (h : pairOk a b = false) : tmO a b = none := by unfold tmO; rw [h]; rfl
theorem crO_coll {a b : List V} (h : pairOk a b = true) : crO a b = coll (crSum a b) a.length := by unfold crO; rw [if_pos h]; rfl
theorem crO_no {a b : List V} (h : pairOk a b = false) : crO a b = none := by unfold crO; rw [h]; rfl
theorem products_told (v u : Value) (xs ys : List V) (w : World) (B : Nat) (hr : pairOk xs ys = true) (h1 : OwnL encV 8 w B 92 v xs) (h2 : OwnL encV 8 w B 92 u ys) : Calls Try.prog 101 #[v, u] w (ToldL 92 w (tmO xs ys)) := by
  obtain ⟨a, b, c⟩ := pairOk_in hr
  obtain ⟨g1, c1, rfl, -, i1, j1, k1, l1⟩ := ownL_form h1 (rowOk_ne a)
  obtain ⟨g2, c2, rfl, -, i2, j2, k2, l2⟩ := ownL_form h2 (rowOk_ne b)
  rw [tmO_coll hr]
  exact productsOf_any g1 0 c1 g2 0 c2 xs ys w i1 j1 k1 l1 i2 j2 k2 l2 c.symm (rowOk_all a) (rowOk_all b) (rowOk_short a).2
theorem circular_told (v u : Value) (xs ys : List V) (w : World) (B : Nat) (hr : pairOk xs ys = true) (h1 : OwnL encV 8 w B 92 v xs) (h2 : OwnL encV 8 w B 92 u ys) : Calls Try.prog 104 #[v, u] w (ToldL 92 w (crO xs ys)) := by
  obtain ⟨a, b, c⟩ := pairOk_in hr
  obtain ⟨g1, c1, rfl, -, i1, j1, k1, l1⟩ := ownL_form h1 (rowOk_ne a)
  obtain ⟨g2, c2, rfl, -, i2, j2, k2, l2⟩ := ownL_form h2 (rowOk_ne b)
  rw [crO_coll hr]
  exact circularOf_any g1 0 c1 g2 0 c2 xs ys w i1 j1 k1 l1 i2 j2 k2 l2 c.symm (rowOk_all a) (rowOk_all b) (rowOk_short a).2
theorem RowTimes_any (v u : Value) (xs ys : List V) (w : World) (hv : ReadsL encV w v xs) (hu : ReadsL encV w u ys) : Calls Try.prog 44 #[v, u] w (ToldL 36 w (tmO xs ys)) := by
  have C := Lib.hid (joinedRows_any 101 (tmO xs ys) v u xs ys w hv hu enters_pr (fun hr v u w B h1 h2 => products_told v u xs ys w B hr h1 h2) (fun zs h => by
    obtain ⟨-, -, h3, -⟩ := tmO_some h
    exact ⟨rowOk_all h3, by have := (rowOk_short h3).2; omega⟩) tmO_no)
  generalize tmO xs ys = o at *
  clear hv hu
  go_enter Try.func44, Try.ntmps44
  go_wp2_with fail
  refine C.out.mono ?_; rintro e w1 ⟨hb1, v1, rfl, ho1⟩
  have H := Lib.hid (show ToldL 36 w o (.returned (.tuple #[v1, .bool o.isSome])) w1 from ⟨hb1, v1, rfl, ho1⟩)
  clear C hb1 ho1
  go_wp2
  go_ret2
  exact H.out
theorem RowCircular_any (v u : Value) (xs ys : List V) (w : World) (hv : ReadsL encV w v xs) (hu : ReadsL encV w u ys) : Calls Try.prog 47 #[v, u] w (ToldL 36 w (crO xs ys)) := by
  have C := Lib.hid (joinedRows_any 104 (crO xs ys) v u xs ys w hv hu enters_cr (fun hr v u w B h1 h2 => circular_told v u xs ys w B hr h1 h2) (fun zs h => by
    obtain ⟨-, -, h3, -⟩ := crO_some h
    exact ⟨rowOk_all h3, by have := (rowOk_short h3).2; omega⟩) crO_no)
  generalize crO xs ys = o at *
  clear hv hu
  go_enter Try.func47, Try.ntmps47
  go_wp2_with fail
  refine C.out.mono ?_; rintro e w1 ⟨hb1, v1, rfl, ho1⟩
  have H := Lib.hid (show ToldL 36 w o (.returned (.tuple #[v1, .bool o.isSome])) w1 from ⟨hb1, v1, rfl, ho1⟩)
  clear C hb1 ho1
  go_wp2
  go_ret2
  exact H.out

/-! The squares of a row. -/
def sqR (xs : List V) : Option Q4 := sqO okf xs
theorem nsO_at {xs : List V} {k : Nat} (h : k < xs.length) : at4 (xs.map nrV) k = nrV (at' xs k) := at4_some (by rw [List.getElem?_map, at_get h]; rfl)
theorem sumS_same {f g : Nat → Q4} {ok : Q4 → Bool} : ∀ {n : Nat}, (∀ k, k < n → f k = g k) → sumS f ok n = sumS g ok n
  | 0, _ => rfl
  | n + 1, h => by
    show (sumS f ok n).bind _ = (sumS g ok n).bind _
    rw [sumS_same fun k hk => h k (by omega), h n (by omega)]
theorem sqR_yes {xs : List V} (h : rowOk xs = true) (h2 : xs.all nOk = true) : sqR xs = sumS (at4 (xs.map nrV)) okf (xs.map nrV).length := by
  unfold sqR sqO
  rw [h, h2, List.length_map]
  exact (sumS_same fun k hk => nsO_at hk).symm
theorem sqR_no1 {xs : List V} (h : rowOk xs = false) : sqR xs = none := by unfold sqR sqO; rw [h]; rfl
theorem sqR_no2 {xs : List V} (h : xs.all nOk = false) : sqR xs = none := by unfold sqR sqO; rw [h, Bool.and_false]; rfl
theorem sqR_ok {xs : List V} {s : Q4} (h : sqR xs = some s) : okf s = true := sumS_ok okf_nul (sqO_some h).2.2
set_option maxHeartbeats 2000000 in
theorem RowSquares_any (v : Value) (xs : List V) (w : World) (hv : ReadsL encV w v xs) : Calls Try.prog 37 #[v] w fun e w' => e = .returned (surdO (sqR xs)) ∧ Below w.heap.size w w' := by
  generalize hres : sqR xs = res
  have HRES := Lib.hid hres
  clear hres
  have hO := RowAt.new w 4 43 nul
  have hL := below_one w (.cells (vec 4 nul) 43)
  have C := exactRow_any v xs (w.alloc (.cells (vec 4 nul) 43)) (hv.below hL)
  have HO := Lib.hid hO
  have HL := Lib.hid hL
  clear hv hO hL
  generalize hW : w.alloc (.cells (vec 4 nul) 43) = W at *
  have HW := Lib.hid hW
  clear hW
  cases hr : rowOk xs
  · rw [rowO_no hr] at C
    have HF : Aside (res = none) := (show res = none from by rw [← HRES.out]; exact sqR_no1 hr)
    have C := Lib.hid C
    clear hr
    go_enter Try.func37, Try.ntmps37
    go_upto_region 1 with fail
    show Code.wp _ _ _ _ (w.alloc (.cells (vec 4 nul) 43))
    rw [HW.out]
    go_wp2_with fail
    refine C.out.mono ?_; rintro e w1 ⟨hb1, v1, rfl, -⟩
    have HO1 := Lib.hid (HO.out.below hb1)
    have HB := Lib.hid (below_next HL.out hb1)
    clear C hb1 HO HL
    go_wp2_with (refine store_row (ty := 43) (g := w.heap.size) rfl rfl rfl (show _ = Value.agg (vec 4 nul) from rfl) HO1.out info_surd ?_)
    refine bodyPost_ret (results_row_tmp rfl rfl HO1.out.setRow Try.underlying43 rfl info_surd) rfl ?_
    rw [HF.out]
    exact ⟨rfl, below_setRow HB.out (Nat.le_refl _) _⟩
  · rw [rowO_yes hr] at C
    have C := Lib.hid C
    have HR := Lib.hid hr
    have hl := (rowOk_short hr).2
    clear hr
    go_enter Try.func37, Try.ntmps37
    go_upto_region 1 with fail
    show Code.wp _ _ _ _ (w.alloc (.cells (vec 4 nul) 43))
    rw [HW.out]
    go_wp2_with fail
    refine C.out.mono ?_; rintro e w1 ⟨hb1, v1, rfl, ho1⟩
    have D := norms_any v1 xs w1 (ownL_reads (show OwnL encV 8 w1 W.heap.size 92 v1 xs from ho1)) (by omega) (rowOk_all HR.out)
    have HO1 := Lib.hid (HO.out.below hb1)
    have HB := Lib.hid (below_next HL.out hb1)
    clear C hb1 HO HL ho1
    cases hns : xs.all nOk
    · have HF : Aside (res = none) := (show res = none from by rw [← HRES.out]; exact sqR_no2 hns)
      have e : nsO xs = none := by unfold nsO; rw [hns]; rfl
      rw [e] at D
      have D := Lib.hid D
      clear hns e
      go_wp2_with fail
      refine D.out.mono ?_; rintro e w2 ⟨hb2, v2, rfl, -⟩
      have HO2 := Lib.hid (HO1.out.below hb2)
      have HB2 := Lib.hid (below_next HB.out hb2)
      clear D hb2 HO1 HB
      go_wp2_with (refine store_row (ty := 43) (g := w.heap.size) rfl rfl rfl (show _ = Value.agg (vec 4 nul) from rfl) HO2.out info_surd ?_)
      refine bodyPost_ret (results_row_tmp rfl rfl HO2.out.setRow Try.underlying43 rfl info_surd) rfl ?_
      rw [HF.out]
      exact ⟨rfl, below_setRow HB2.out (Nat.le_refl _) _⟩
    · rw [nsO_yes hns] at D
      have HQ := Lib.hid (sqR_yes HR.out hns)
      have HOKS : Aside (∀ s, res = some s → okf s = true) := (show ∀ s, res = some s → okf s = true from fun s h => sqR_ok (HRES.out.trans h))
      have HAL : Aside (∀ f ∈ xs.map nrV, okf f = true) := (show ∀ f ∈ xs.map nrV, okf f = true from fun f hf => by
        obtain ⟨x, hx, rfl⟩ := List.mem_map.1 hf
        rw [List.all_eq_true] at hns
        exact okf_nrV (hns x hx))
      have D := Lib.hid D
      clear hns
      go_wp2_with fail
      refine D.out.mono ?_; rintro e w2 ⟨hb2, v2, rfl, ho2⟩
      have S := sumOf4_any v2 (xs.map nrV) w2 (ownL_reads (show OwnL enc4 4 w2 w1.heap.size 108 v2 (xs.map nrV) from ho2)) (by rw [List.length_map]; omega) HAL.out
      rw [← HQ.out, HRES.out] at S
      have HO2 := Lib.hid (HO1.out.below hb2)
      have HB2 := Lib.hid (below_next HB.out hb2)
      clear D hb2 HO1 HB ho2 HQ HAL HRES
      cases res with
      | none =>
        have S := Lib.hid (show Calls _ _ _ _ (fun e w' => e = .returned (.tuple #[p4 nul, .bool false]) ∧ Below w2.heap.size w2 w') from S)
        go_wp2_with fail
        refine S.out.mono ?_; rintro e w3 ⟨rfl, hb3⟩
        have HO3 := Lib.hid ((HO2.out.below hb3).alloc (.cells (vec 4 nul) 108))
        have hb4 := below_next HB2.out hb3
        have HB4 := Lib.hid (hb4.alloc hb4.size (.cells (vec 4 nul) 108))
        clear S hb3 hb4 HO2 HB2
        go_wp2_with (first | (refine store_new (ty := 108) rfl rfl rfl rfl zero4 info_radical ?_) | (refine store_row (ty := 43) (g := w.heap.size) rfl rfl rfl (show _ = Value.agg (vec 4 nul) from rfl) HO3.out info_surd ?_))
        refine bodyPost_ret (results_row_tmp rfl rfl HO3.out.setRow Try.underlying43 rfl info_surd) rfl ?_
        exact ⟨rfl, below_setRow HB4.out (Nat.le_refl _) _⟩
      | some s =>
        have hok := HOKS.out s rfl
        have S := Lib.hid (show Calls _ _ _ _ (fun e w' => e = .returned (.tuple #[p4 s, .bool true]) ∧ Below w2.heap.size w2 w') from S)
        have T := fun w => told_yes4 s hok w
        clear HOKS
        go_wp2_with fail
        refine S.out.mono ?_; rintro e w3 ⟨rfl, hb3⟩
        have HO3 := Lib.hid ((HO2.out.below hb3).alloc (.cells (vec 4 s) 108))
        have HX3 := Lib.hid (RowAt.new w3 4 108 s)
        have hb4 := below_next HB2.out hb3
        have HB4 := Lib.hid (hb4.alloc hb4.size (.cells (vec 4 s) 108))
        clear S hb3 hb4 HO2 HB2
        go_upto_region 8 with (refine store_new (ty := 108) (f' := s) rfl rfl rfl rfl zero4 info_radical ?_)
        show Code.wp _ _ _ _ (w3.alloc (.cells (vec 4 s) 108))
        generalize w3.alloc (.cells (vec 4 s) 108) = W3 at *
        generalize w3.heap.size = g3 at *
        go_wp2_with (refine load_row (ty := 108) (g := g3) rfl rfl rfl HX3.out Try.underlying108 rfl info_radical ?_)
        refine (T _).mono ?_; rintro e w5 ⟨rfl, hb5⟩
        have HO5 := Lib.hid (HO3.out.below hb5)
        have HB5 := Lib.hid (below_next HB4.out hb5)
        clear T hb5 HO3 HX3 HB4
        go_wp2_with (refine store_row (ty := 43) (g := w.heap.size) rfl rfl rfl rfl HO5.out info_surd ?_)
        refine bodyPost_ret (results_row_tmp rfl rfl HO5.out.setRow Try.underlying43 rfl info_surd) rfl ?_
        exact ⟨rfl, below_setRow HB5.out (Nat.le_refl _) _⟩
end Go.Proofs.Ytdgbpdeimckbfaa
