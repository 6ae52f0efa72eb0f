/-
  What the walks of the laws of paths and moves share.
  The laws' helpers on lists of moves: compared, what they reach.
-/
import Derived.Test.YtibhlaojinedoaaM31
import Derived.Test.YtibhlaojinedoaaM28
import Derived.Test.YtibhlaojinedoaaM29
import Derived.Test.YtibhlaojinedoaaM11
import Derived.StillTailTactics
/- What the walks of the laws of paths and moves share. -/
namespace Go.Proofs.Ytibhlaojinedoaa
set_option maxRecDepth 20000
open Go.ChangeShapes Go.WideShapes Go.ChangeAt Go.RowKit
set_option linter.unusedVariables false
set_option linter.unusedSimpArgs false

section
variable {α : Type} {en : α → List Value} {K : Nat}
theorem readsL_take (E : Enc en K) {w : World} {g o cap k : Nat} {xs : List α} (hk : k ≤ xs.length) (hc1 : xs.length ≤ cap) (hc2 : cap ≤ maxLen) (hg : g < w.heap.size) (h : w.rangeAt g o (flt en xs)) : ReadsL en w (.slice (some ⟨g, o, none⟩) k cap) (xs.take k) :=
  ⟨_, cap, by rw [List.length_take, Nat.min_eq_left hk], by rw [List.length_take]; omega, hc2, (fun h => by cases h), fun _ => ⟨g, o, rfl, hg, fun j v hv => by
    refine h j v ?_
    have e : flt en xs = flt en (xs.take k) ++ flt en (xs.drop k) := by rw [← flt_append, List.take_append_drop]
    rw [e, List.getElem?_append_left (List.getElem?_eq_some_iff.1 hv).1, hv]⟩⟩
/-- The form of a list that is not empty. -/
theorem readsL_shape {w : World} {v : Value} {xs : List α} (h : ReadsL en w v xs) (h1 : 1 ≤ xs.length) : ∃ g o cap, v = .slice (some ⟨g, o, none⟩) xs.length cap ∧ xs.length ≤ cap ∧ cap ≤ maxLen ∧ g < w.heap.size ∧ w.rangeAt g o (flt en xs) := by
  obtain ⟨p, cap, rfl, h1', h2, h3, h4⟩ := h
  have hne : p ≠ none := fun e => by have := h3 e; omega
  obtain ⟨g, o, rfl, hg, hr⟩ := h4 hne
  exact ⟨g, o, cap, rfl, h1', h2, hg, hr⟩
theorem readsL_formE {w : World} {v : Value} {xs : List α} (h : ReadsL en w v xs) : ∃ p c, v = .slice p xs.length c := by
  obtain ⟨p, c, e, -⟩ := h
  exact ⟨p, c, e⟩
end
section
variable {P : Program} {k : FloatKind} {x y : Nat} {c : Ordering}
theorem run_feq (h : k.format.order x y = some c) (t : TypeId) (w : World) : (binOp .eql t (.float k x) (.float k y)).run P w = .ok (.bool (c == .eq)) w := by
  cases c <;> simp [binOp, Op.floatCmp, h, go_sem] <;> rfl
theorem run_flt (h : k.format.order x y = some c) (t : TypeId) (w : World) : (binOp .lss t (.float k x) (.float k y)).run P w = .ok (.bool (c == .lt)) w := by
  cases c <;> simp [binOp, Op.floatCmp, h, go_sem] <;> rfl
theorem run_fgt (h : k.format.order x y = some c) (t : TypeId) (w : World) : (binOp .gtr t (.float k x) (.float k y)).run P w = .ok (.bool (c == .gt)) w := by
  cases c <;> simp [binOp, Op.floatCmp, h, go_sem] <;> rfl
theorem run_fge (h : k.format.order x y = some c) (t : TypeId) (w : World) : (binOp .geq t (.float k x) (.float k y)).run P w = .ok (.bool (c != .lt)) w := by
  cases c <;> simp [binOp, Op.floatCmp, h, go_sem] <;> rfl
end
theorem far_self (xs : List Pn) : farL xs xs = 0 := by
  have key : ∀ (l : List (Pn × Pn)), (∀ z ∈ l, z.1 = z.2) → l.foldl farM 0 = 0 := by
    intro l
    induction l with
    | nil => intro _; rfl
    | cons z l ih =>
      intro h
      obtain ⟨a, b⟩ := z
      have e : a = b := h (a, b) (List.mem_cons_self ..)
      subst e
      rw [List.foldl_cons]
      have e0 : farM 0 (a, a) = 0 := by
        unfold farM farN
        simp only [Int.sub_self]
        have h0 : rnd 23 0 = 0 := by decide +kernel
        simp [h0]
      rw [e0]
      exact ih fun z hz => h z (List.mem_cons_of_mem _ hz)
  refine key _ fun z hz => ?_
  obtain ⟨i, hi⟩ := List.mem_iff_getElem?.1 hz
  rw [List.getElem?_zip_eq_some] at hi
  have := hi.1.symm.trans hi.2
  simpa using this
theorem pvB_take {xs : List Pn} {k : Nat} (h : pvB xs = true) (h1 : 1 ≤ k) : pvB (xs.take k) = true := by
  obtain ⟨h2, h3, h4⟩ := pvB_parts h
  exact pvB_yes (by rw [List.length_take]; omega) (by rw [List.length_take]; omega) fun a ha => h4 a (List.mem_of_mem_take ha)
end Go.Proofs.Ytibhlaojinedoaa
/- The laws' helpers on lists of moves: compared, what they reach. -/
namespace Go.Proofs.Ytibhlaojinedoaa
set_option maxRecDepth 20000
open Go.ChangeShapes Go.WideShapes Go.ChangeAt Go.RowKit
set_option linter.unusedVariables false
set_option linter.unusedSimpArgs false

set_option maxHeartbeats 2000000 in
theorem sameMoves_yes (va vb : Value) (L : List Mv) (w : World) (ha : ReadsL encM w va L) (hb : ReadsL encM w vb L) : Calls Try.prog 12 #[va, vb] w fun e w' => e = .returned (.bool true) ∧ Below w.heap.size w w' := by
  obtain ⟨p, cap, rfl, hc1, hc2, hp0, hp⟩ := ha
  obtain ⟨q, cap2, rfl, hd1, hd2, hq0, hq⟩ := hb
  simp only [maxLen] at hc2
  have hlb : ((L.length : Int) != (L.length : Int)) = false := by simp
  have HP := Lib.hid hp
  have HQ := Lib.hid hq
  clear hp hq
  go_enter Try.func12, Try.ntmps12
  go_wp2
  go_loopw [5] (fun i wr => ∃ k m : Nat, k ≤ L.length ∧ i = .int .i64 k ∧ wr = w.drewN m) (fun i _ => L.length - (intOf i).toNat)
  case atStart => exact ⟨0, 0, Nat.zero_le _, rfl, rfl⟩
  case round =>
    obtain ⟨k, m, hk, rfl, rfl⟩ := hrel
    by_cases hlt : k < L.length
    · have hkz : (k : Int) < (L.length : Int) := by omega
      have hk0 : (0 : Int) ≤ (k : Int) := by omega
      obtain ⟨c, hc⟩ : ∃ c, L[k]? = some c := ⟨_, List.getElem?_eq_getElem hlt⟩
      obtain ⟨g, o, rfl, hg, hr⟩ := HP.out (by rintro rfl; have := hp0 rfl; omega)
      obtain ⟨g2, o2, rfl, hg2, hr2⟩ := HQ.out (by rintro rfl; have := hq0 rfl; omega)
      obtain ⟨c1, c2⟩ := mv_cells hr hc
      obtain ⟨c3, c4⟩ := mv_cells hr2 hc
      clear hr hr2 hc hg hg2
      obtain ⟨x, y⟩ := c
      simp only at c1 c2 c3 c4
      go_wp2_with fail
      go_quiet (fail)
      clear c1 c2 c3 c4
      go_wp2_with fail
      go_roundw
      case rel => exact ⟨k + 1, _, by omega, by go_num, rfl⟩
      case measure => simp [intOf]; omega
    · obtain rfl : k = L.length := by omega
      go_wp2
      go_ret
      exact ⟨rfl, below_drewN (Below.refl _ _) m⟩
theorem sum_big {xs : List Mv} (h : mvB xs = true) : ∀ k, k ≤ xs.length → (-10000000 * (k : Int) ≤ (sumM (xs.take k)).1 ∧ (sumM (xs.take k)).1 ≤ 10000000 * (k : Int)) ∧ (-10000000 * (k : Int) ≤ (sumM (xs.take k)).2 ∧ (sumM (xs.take k)).2 ≤ 10000000 * (k : Int))
  | 0, _ => by simp [sumM]
  | k + 1, hk => by
    obtain ⟨a, ha⟩ : ∃ a, xs[k]? = some a := ⟨_, List.getElem?_eq_getElem (by omega)⟩
    have ih := sum_big h k (by omega)
    have hm := okM_parts ((mvB_parts h).2 a (List.mem_of_getElem? ha))
    rw [sumM_next ha]
    unfold addM
    simp only
    push_cast
    omega
set_option maxHeartbeats 4000000 in
theorem reached_any (v : Value) (xs : List Mv) (w : World) (hv : ReadsL encM w v xs) (hx : mvB xs = true) : Calls Try.prog 13 #[v] w fun e w' => e = .returned (mvV (sumM xs)) ∧ Below w.heap.size w w' := by
  have SB := Lib.hid (sum_big hx)
  have hl := (mvB_parts hx).1
  have HM := Lib.hid (mvB_parts hx).2
  obtain ⟨p, cap, rfl, hc1, hc2, hp0, hp⟩ := hv
  simp only [maxLen] at hc2
  have HP := Lib.hid hp
  clear hp hx
  have R0 : RowAt ((w.alloc (.cells #[.int .i64 0, .int .i64 0] 27)).alloc (.cells #[.int .i64 0, .int .i64 0] 27)) w.heap.size 2 27 (mfn (0, 0)) := by
    have h : RowAt (w.alloc (.cells #[.int .i64 0, .int .i64 0] 27)) w.heap.size 2 27 (mfn (0, 0)) := RowAt.newAt rfl rfl
    exact h.alloc _
  have R1 : RowAt ((w.alloc (.cells #[.int .i64 0, .int .i64 0] 27)).alloc (.cells #[.int .i64 0, .int .i64 0] 27)) (w.heap.size + 1) 2 27 (mfn (sumM (xs.take 0))) := by
    have h := (RowAt.newAt rfl rfl : RowAt ((w.alloc (.cells #[.int .i64 0, .int .i64 0] 27)).alloc (.cells #[.int .i64 0, .int .i64 0] 27)) (w.alloc (.cells #[.int .i64 0, .int .i64 0] 27)).heap.size 2 27 (mfn (0, 0)))
    rw [show (w.alloc (.cells #[.int .i64 0, .int .i64 0] 27)).heap.size = w.heap.size + 1 by simp] at h
    exact h
  have B0 : Below w.heap.size w ((w.alloc (.cells #[.int .i64 0, .int .i64 0] 27)).alloc (.cells #[.int .i64 0, .int .i64 0] 27)) := below_next (mv_lies _ _) (mv_lies _ _)
  have H0 := Lib.hid R0
  have H1 := Lib.hid R1
  have HB := Lib.hid B0
  clear R0 R1 B0
  go_enter Try.func13, Try.ntmps13
  go_wp2
  go_loopw [4] (fun i wr => ∃ k : Nat, k ≤ xs.length ∧ i = .int .i64 k ∧ RowAt wr w.heap.size 2 27 (mfn (0, 0)) ∧ RowAt wr (w.heap.size + 1) 2 27 (mfn (sumM (xs.take k))) ∧ Below w.heap.size w wr) (fun i _ => xs.length - (intOf i).toNat)
  case atStart => exact ⟨0, Nat.zero_le _, rfl, H0.out, H1.out, HB.out⟩
  case round =>
    clear H0 H1 HB
    obtain ⟨k, hk, rfl, hR0, hR1, hB⟩ := hrel
    by_cases hlt : k < xs.length
    · have hkz : (k : Int) < (xs.length : Int) := by omega
      have hk0 : (0 : Int) ≤ (k : Int) := by omega
      obtain ⟨c, hc⟩ : ∃ c, xs[k]? = some c := ⟨_, List.getElem?_eq_getElem hlt⟩
      obtain ⟨g, o, rfl, hg, hr⟩ := HP.out (by rintro rfl; have := hp0 rfl; omega)
      obtain ⟨c1, c2⟩ := mv_cells (cells_below hr hg hB) hc
      have b1 := SB.out k hk
      have b2 := SB.out (k + 1) (by omega)
      rw [sumM_next hc] at b2
      have HN := Lib.hid (sumM_next hc)
      have k1 : wr.cell? ⟨w.heap.size + 1, 0, none⟩ = some (.int .i64 (sumM (xs.take k)).1) := hR1.cell (k := 0) (by decide)
      have k2 : wr.cell? ⟨w.heap.size + 1, 1, none⟩ = some (.int .i64 (sumM (xs.take k)).2) := hR1.cell (k := 1) (by decide)
      have H0 := Lib.hid hR0
      have H1 := Lib.hid hR1
      have HB := Lib.hid hB
      clear hR0 hR1 hB hr hg hc
      generalize sumM (xs.take k) = z at *
      obtain ⟨z1, z2⟩ := z
      obtain ⟨x, y⟩ := c
      unfold addM at b2
      simp only at b1 b2 c1 c2 k1 k2
      push_cast at b2
      have w1 : IntKind.i64.wrap (z1 + x) = z1 + x := by rw [IntKind.wrap_i64]; omega
      have w2 : IntKind.i64.wrap (z2 + y) = z2 + y := by rw [IntKind.wrap_i64]; omega
      clear b1 b2
      go_wp2_with fail
      go_still_tail 17, (by kernel_rfl)
      change wpList _ _ _ _ _ wr.drew
      have RD := Lib.hid (H1.out.drew1)
      have RD0 := Lib.hid (H0.out.drew1)
      have HBD := Lib.hid HB.out.drew
      generalize wr.drew = wd at *
      clear H0 H1 HB c1 c2 k1 k2
      go_wp2_with (first | (refine store_row (g := w.heap.size + 1) (f' := mfn (z1 + x, z2 + y)) rfl rfl rfl rfl RD.out info_mv ?_))
      go_roundw
      case rel =>
        refine ⟨k + 1, by omega, by go_num, (show RowAt _ _ _ _ _ from (setRow_other _ _ _ _ (by omega)).trans RD0.out), ?_, below_setRow HBD.out (by omega) _⟩
        rw [HN.out]
        exact RD.out.setRow (f' := mfn (z1 + x, z2 + y))
      case measure => simp [intOf]; omega
    · obtain rfl : k = xs.length := by omega
      rw [List.take_length] at hR1
      have H0 := Lib.hid hR0
      have H1 := Lib.hid hR1
      have HB := Lib.hid hB
      clear hR0 hR1 hB
      go_wp2_with (first | (refine load_row (g := w.heap.size + 1) rfl rfl rfl H1.out Try.underlying27 rfl info_mv ?_) | (refine store_row (g := w.heap.size) (f' := mfn (sumM xs)) rfl rfl rfl rfl H0.out info_mv ?_))
      refine bodyPost_ret (results_row rfl rfl (RowAt.setRow (f' := mfn (sumM xs)) H0.out) Try.underlying27 rfl info_mv) rfl ?_
      exact ⟨rfl, below_setRow HB.out (by omega) _⟩
end Go.Proofs.Ytibhlaojinedoaa
