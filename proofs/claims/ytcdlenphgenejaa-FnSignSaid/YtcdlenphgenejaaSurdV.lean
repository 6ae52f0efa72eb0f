/-
  Contracts of spec's functions of surds, third part: comparisons, whole numbers, real and imaginary parts.
-/
import Derived.Test.YtcdlenphgenejaaSurdU
namespace Go.Proofs.Ytcdlenphgenejaa
set_option maxRecDepth 20000
open Go.ChangeShapes Go.WideShapes Go.ChangeAt Go.RowKit
set_option linter.unusedVariables false
set_option linter.unusedSimpArgs false

theorem below_three' {w W w2 : World} (h : Below w.heap.size w W) (o p q : Obj) : Below w.heap.size w (((W.alloc o).alloc p).alloc q) := below_step (below_step (below_step h o) p) q
set_option maxHeartbeats 2000000 in
theorem specSurdCompare_sv (a b c d a' b' c' d' : Int) (w : World) : Calls Try.prog 39 #[sv a b c d, sv a' b' c' d'] w fun e w' => e = .returned (.tuple #[.int .i64 (if okr a b c d && okr a' b' c' d' then sg4 (a - a') (b - b') (c - c') (d - d') else 0), .bool (okr a b c d && okr a' b' c' d')]) ∧ Below w.heap.size w w' := by
  cases hv : okr a b c d
  · rw [if_neg (by simp)]
    unfold sv
    go_enter Try.func39, Try.ntmps39
    go_wp2_with (first | (refine (specValid_at _ _ _ _ _).mono ?_; rintro e w' ⟨rfl, rfl⟩))
    go_ret2
    exact ⟨rfl, (by repeat (first | exact Below.refl _ _ | apply below_step))⟩
  · cases hu : okr a' b' c' d'
    · rw [if_neg (by simp)]
      unfold sv
      go_enter Try.func39, Try.ntmps39
      go_wp2_with (first | (refine (specValid_at _ _ _ _ _).mono ?_; rintro e w' ⟨rfl, rfl⟩))
      go_ret2
      exact ⟨rfl, (by repeat (first | exact Below.refl _ _ | apply below_step))⟩
    · rw [if_pos (show (true && true) = true from rfl)]
      obtain ⟨ha, hb, hc, hd⟩ := okr_in hv
      obtain ⟨ha', hb', hc', hd'⟩ := okr_in hu
      have S := fun w => specSum_less a b c d a' b' c' d' ha hb hc hd ha' hb' hc' hd' w
      have G := fun w => l3Sign_any (a - a') (b - b') (c - c') (d - d') (by omega) (by omega) (by omega) (by omega) w
      generalize sg4 (a - a') (b - b') (c - c') (d - d') = v at *
      generalize a - a' = x at *
      generalize b - b' = y at *
      generalize c - c' = z at *
      generalize d - d' = u at *
      clear ha hb hc hd ha' hb' hc' hd'
      unfold sv at *
      go_enter Try.func39, Try.ntmps39
      go_wp2_with (first | (refine (specValid_at _ _ _ _ _).mono ?_; rintro e w' ⟨rfl, rfl⟩) | (go_at_call 71; refine (S _).mono ?_; rintro e w' ⟨rfl, o1, o2, o3, rfl⟩) | (go_at_call 74; refine (G _).mono ?_; rintro e w3 ⟨rfl, hb3⟩))
      go_ret2
      exact ⟨rfl, below_next (by repeat (first | exact Below.refl _ _ | apply below_step)) hb3⟩
set_option maxHeartbeats 4000000 in
theorem specSurdWhole_any (a b c d n : Int) (hn : okr a b c d = true → Wh a b c d n) (w : World) :
    Calls Try.prog 45 #[sv a b c d] w fun e w' => e = .returned (.tuple #[.int .i64 (if okr a b c d then n else 0), .bool (okr a b c d)]) ∧ Below w.heap.size w w' := by
  cases hv : okr a b c d
  · rw [if_neg (by simp)]
    clear hn
    unfold sv
    go_enter Try.func45, Try.ntmps45
    go_wp2_with (first | (refine (specValid_at _ _ _ _ _).mono ?_; rintro e w' ⟨rfl, rfl⟩))
    go_ret2
    exact ⟨rfl, (by repeat (first | exact Below.refl _ _ | apply below_step))⟩
  rw [if_pos rfl]
  obtain ⟨ha, hb, hc, hd⟩ := okr_in hv
  have C : ∀ (m : Int) (w : World), -20000000 ≤ m ∧ m ≤ 20000000 → Calls Try.prog 74 #[.agg #[.int .i64 (a - 4 * m), .int .i64 b, .int .i64 c, .int .i64 d]] w fun e w' => e = .returned (.int .i64 (sg4 (a - 4 * m) b c d)) ∧ Below w.heap.size w w' := fun m w h =>
    l3Sign_any (a - 4 * m) b c d (by omega) (by omega) (by omega) (by omega) w
  have lo := far_low ha hb hc hd
  have hi := far_high ha hb hc hd
  have HN := Lib.hid (hn hv); have LO := Lib.hid lo; have HI := Lib.hid hi
  clear hn lo hi hb hc hd
  unfold sv
  go_enter Try.func45, Try.ntmps45
  go_wp2_with (refine (specValid_at _ _ _ _ _).mono ?_; rintro e w' ⟨rfl, rfl⟩)
  go_loopw [4, 5] (fun s3 s4 wr => ∃ x y : Int, s3 = .int .i64 x ∧ s4 = .int .i64 y ∧ -20000000 ≤ x ∧ x < y ∧ y ≤ 20000000 ∧ 0 ≤ sg4 (a - 4 * x) b c d ∧ sg4 (a - 4 * y) b c d < 0 ∧ RowAt wr w.heap.size 4 24 (f4 a b c d) ∧ Below w.heap.size w wr) (fun s3 s4 _ => (intOf s4 - intOf s3).toNat)
  case atStart => exact ⟨_, _, rfl, rfl, by omega, by omega, by omega, LO.out, HI.out, (RowAt.newAt rfl rfl : RowAt _ w.heap.size 4 24 (f4 a b c d)).alloc _, below_two _ _ _⟩
  case round =>
    obtain ⟨x, y, rfl, rfl, hx, hxy, hy, h1, h2, hA, hL⟩ := hrel
    have H1 := Lib.hid h1; have H2 := Lib.hid h2; have HL := Lib.hid hL
    clear h1 h2 hL
    by_cases hg : 1 < y - x
    ·
      have c0 : wr.cell? ⟨w.heap.size, 0, none⟩ = some (.int .i64 a) := hA.cell (by decide)
      have c1 : wr.cell? ⟨w.heap.size, 1, none⟩ = some (.int .i64 b) := hA.cell (by decide)
      have c2 : wr.cell? ⟨w.heap.size, 2, none⟩ = some (.int .i64 c) := hA.cell (by decide)
      have c3 : wr.cell? ⟨w.heap.size, 3, none⟩ = some (.int .i64 d) := hA.cell (by decide)
      by_cases h0 : 0 ≤ x + y
      · have em : (x + y).tdiv 2 = (x + y) / 2 := Int.tdiv_eq_ediv_of_nonneg h0
        have m1 : x < (x + y) / 2 := by omega
        have m2 : (x + y) / 2 < y := by omega
        have CM := fun w => C ((x + y) / 2) w (by omega)
        obtain ⟨z, hz⟩ : ∃ z, z = sg4 (a - 4 * ((x + y) / 2)) b c d := ⟨_, rfl⟩
        rw [← hz] at CM
        have HZ := Lib.hid hz; clear hz em
        by_cases hs : 0 ≤ z
        · go_wp2_with (refine (CM _).mono ?_; rintro e w2 ⟨rfl, hb2⟩)
          go_roundw
          case rel => exact ⟨_, _, rfl, rfl, by omega, by omega, by omega, by rw [← HZ.out]; exact hs, H2.out, hA.below hb2, below_next HL.out hb2⟩
          case measure => simp [intOf]; omega
        · go_wp2_with (refine (CM _).mono ?_; rintro e w2 ⟨rfl, hb2⟩)
          go_roundw
          case rel => exact ⟨_, _, rfl, rfl, by omega, by omega, by omega, H1.out, by rw [← HZ.out]; omega, hA.below hb2, below_next HL.out hb2⟩
          case measure => simp [intOf]; omega
      · have em : (x + y).tdiv 2 = -((-(x + y)) / 2) := by rw [show x + y = -(-(x + y)) by omega, Int.neg_tdiv, Int.tdiv_eq_ediv_of_nonneg (by omega)]; simp
        have m1 : x < (x + y).tdiv 2 := by omega
        have m2 : (x + y).tdiv 2 < y := by omega
        clear em
        have CM := fun w => C ((x + y).tdiv 2) w (by omega)
        obtain ⟨z, hz⟩ : ∃ z, z = sg4 (a - 4 * ((x + y).tdiv 2)) b c d := ⟨_, rfl⟩
        rw [← hz] at CM
        have HZ := Lib.hid hz; clear hz
        by_cases hs : 0 ≤ z
        · go_wp2_with (refine (CM _).mono ?_; rintro e w2 ⟨rfl, hb2⟩)
          go_roundw
          case rel => exact ⟨_, _, rfl, rfl, by omega, by omega, by omega, by rw [← HZ.out]; exact hs, H2.out, hA.below hb2, below_next HL.out hb2⟩
          case measure => simp [intOf]; omega
        · go_wp2_with (refine (CM _).mono ?_; rintro e w2 ⟨rfl, hb2⟩)
          go_roundw
          case rel => exact ⟨_, _, rfl, rfl, by omega, by omega, by omega, H1.out, by rw [← HZ.out]; omega, hA.below hb2, below_next HL.out hb2⟩
          case measure => simp [intOf]; omega
    · have e : y = x + 1 := by omega
      subst e
      have hw : x = n := wh_one ⟨H1.out, H2.out⟩ HN.out
      subst hw
      go_wp2_with fail
      go_ret2
      exact ⟨rfl, HL.out⟩
end Go.Proofs.Ytcdlenphgenejaa
