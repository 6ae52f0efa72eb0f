/-
  impl's swings: starts, many steps, which are valid; SwingAt and SwingWide.
  impl's swings: starts, many steps, which are valid; SwingAt and SwingWide.
  Swings: sums of their numbers, which are no NaN; which words are subnormal; the first number of a list that is looked for.
  spec's swings: which are valid; a step, many steps, in both widths.
-/
import Derived.Test.YtpbppgaohfgpbaaM13
import Derived.Test.YtpbppgaohfgpbaaM28
/- impl's swings: starts, many steps, which are valid; SwingAt and SwingWide. -/
namespace Go.Proofs.Ytpbppgaohfgpbaa
set_option maxRecDepth 20000
open Go.ChangeShapes Go.WideShapes Go.ChangeAt Go.RowKit
set_option linter.unusedVariables false
set_option linter.unusedSimpArgs false
attribute [local go_sem] run_store_fl run_store_cx

set_option maxHeartbeats 1000000 in
theorem behindS_any (a : Pn) (t h n : Nat) (ha : FinS a) (b : Pn) (w : World) (ht : t ≤ 3) (hh : h ≤ 4) (hn : n ≤ 1000000) :
    Calls Try.prog 44 #[nS a, sW b t h, .int .i64 n] w fun e w' => e = .returned (nS (rnS t h n a)) ∧ Below w.heap.size w w' := by
  go_enter Try.func44, Try.ntmps44
  go_wp2_with fail
  go_loopw [8] (fun u wr => ∃ k : Nat, k ≤ n ∧ u = .int .i64 k ∧ BlkAt wr w.heap.size 52 #[.float .f32 (rnS t h k a).1, .float .f32 (rnS t h k a).2] ∧ BlkAt wr (w.heap.size + 1) 25 #[.complex .f32 b.1 b.2, .int .i64 t, .int .i64 h] ∧ BlkAt wr (w.heap.size + 1 + 1) 52 #[.float .f32 0, .float .f32 0] ∧ Below w.heap.size w wr) (fun u _ => n - (intOf u).toNat)
  case atStart =>
    exact ⟨0, Nat.zero_le _, rfl, ((BlkAt.newAt rfl rfl).alloc _).alloc _, (BlkAt.newAt rfl (by simp)).alloc _, BlkAt.newAt rfl (by simp), bel3 _ _ _ _⟩
  case round =>
    obtain ⟨k, hk, rfl, h1, h2, h3, hb⟩ := hrel
    by_cases hlt : k < n
    · have hf := rnS_fin (t := t) (h := h) k ha
      have C := fun w => nextS_any _ t h hf b w ht hh
      have HN := Lib.hid (rnS_next t h k a)
      generalize rnS t h k a = z at *
      have c0 := h1.cell (k := 0) rfl
      have c1 := h1.cell (k := 1) rfl
      have d0 := h2.cell (k := 0) rfl
      have d1 := h2.cell (k := 1) rfl
      have d2 := h2.cell (k := 2) rfl
      have HB := Lib.hid hb
      have H1 := Lib.hid h1
      have H2 := Lib.hid h2
      have H3 := Lib.hid h3
      clear hf hb h1 h2 h3
      go_wp2_with fail
      refine (C _).mono ?_; rintro e w2 ⟨rfl, hb2⟩
      have h1 := H1.out.below hb2
      have h2 := H2.out.below hb2
      have h3 := H3.out.below hb2
      have hb := belT HB.out hb2
      clear c0 c1 d0 d1 d2 HB H1 H2 H3 hb2 C
      generalize stS t h z = u at *
      have c0 := h1.cell (k := 0) rfl
      have c1 := h1.cell (k := 1) rfl
      have f0 := h1.free 0
      have f1 := h1.free 1
      have HB := Lib.hid hb
      have H1 := Lib.hid h1
      have H2 := Lib.hid h2
      have H3 := Lib.hid h3
      clear hb h1 h2 h3
      go_wp2
      go_roundw
      case rel => exact ⟨k + 1, by omega, by go_num, by rw [HN.out]; exact (H1.out.set 0 _).set 1 _, (H2.out.other _ _ (by simp)).other _ _ (by simp), (H3.out.other _ _ (by simp; omega)).other _ _ (by simp; omega), (HB.out.setCell (Nat.le_refl _) _).setCell (Nat.le_refl _) _⟩
      case measure => simp [intOf]; omega
    · obtain rfl : k = n := by omega
      have c0 := h1.cell (k := 0) rfl
      have c1 := h1.cell (k := 1) rfl
      have e0 := h3.cell (k := 0) rfl
      have e1 := h3.cell (k := 1) rfl
      have f0 := h3.free 0
      have f1 := h3.free 1
      have HB := Lib.hid hb
      have H3 := Lib.hid h3
      clear hb h1 h2 h3
      go_wp2
      refine bodyPost_ret (results_blk rfl rfl ((H3.out.set 0 _).set 1 _) Try.underlying52 rfl (by kernel_rfl)) rfl ⟨rfl, (HB.out.setCell (by simp; omega) _).setCell (by simp; omega) _⟩
set_option maxHeartbeats 1000000 in
theorem behindD_any (a : Pn) (t h n : Nat) (ha : FinD a) (b : Pn) (w : World) (ht : t ≤ 3) (hh : h ≤ 4) (hn : n ≤ 1000000) :
    Calls Try.prog 48 #[nD a, sW b t h, .int .i64 n] w fun e w' => e = .returned (nD (rnD t h n a)) ∧ Below w.heap.size w w' := by
  go_enter Try.func48, Try.ntmps48
  go_wp2_with fail
  go_loopw [8] (fun u wr => ∃ k : Nat, k ≤ n ∧ u = .int .i64 k ∧ BlkAt wr w.heap.size 58 #[.float .f64 (rnD t h k a).1, .float .f64 (rnD t h k a).2] ∧ BlkAt wr (w.heap.size + 1) 25 #[.complex .f32 b.1 b.2, .int .i64 t, .int .i64 h] ∧ BlkAt wr (w.heap.size + 1 + 1) 58 #[.float .f64 0, .float .f64 0] ∧ Below w.heap.size w wr) (fun u _ => n - (intOf u).toNat)
  case atStart =>
    exact ⟨0, Nat.zero_le _, rfl, ((BlkAt.newAt rfl rfl).alloc _).alloc _, (BlkAt.newAt rfl (by simp)).alloc _, BlkAt.newAt rfl (by simp), bel3 _ _ _ _⟩
  case round =>
    obtain ⟨k, hk, rfl, h1, h2, h3, hb⟩ := hrel
    by_cases hlt : k < n
    · have hf := rnD_fin (t := t) (h := h) k ha
      have C := fun w => nextD_any _ t h hf b w ht hh
      have HN := Lib.hid (rnD_next t h k a)
      generalize rnD t h k a = z at *
      have c0 := h1.cell (k := 0) rfl
      have c1 := h1.cell (k := 1) rfl
      have d0 := h2.cell (k := 0) rfl
      have d1 := h2.cell (k := 1) rfl
      have d2 := h2.cell (k := 2) rfl
      have HB := Lib.hid hb
      have H1 := Lib.hid h1
      have H2 := Lib.hid h2
      have H3 := Lib.hid h3
      clear hf hb h1 h2 h3
      go_wp2_with fail
      refine (C _).mono ?_; rintro e w2 ⟨rfl, hb2⟩
      have h1 := H1.out.below hb2
      have h2 := H2.out.below hb2
      have h3 := H3.out.below hb2
      have hb := belT HB.out hb2
      clear c0 c1 d0 d1 d2 HB H1 H2 H3 hb2 C
      generalize stD t h z = u at *
      have c0 := h1.cell (k := 0) rfl
      have c1 := h1.cell (k := 1) rfl
      have f0 := h1.free 0
      have f1 := h1.free 1
      have HB := Lib.hid hb
      have H1 := Lib.hid h1
      have H2 := Lib.hid h2
      have H3 := Lib.hid h3
      clear hb h1 h2 h3
      go_wp2
      go_roundw
      case rel => exact ⟨k + 1, by omega, by go_num, by rw [HN.out]; exact (H1.out.set 0 _).set 1 _, (H2.out.other _ _ (by simp)).other _ _ (by simp), (H3.out.other _ _ (by simp; omega)).other _ _ (by simp; omega), (HB.out.setCell (Nat.le_refl _) _).setCell (Nat.le_refl _) _⟩
      case measure => simp [intOf]; omega
    · obtain rfl : k = n := by omega
      have c0 := h1.cell (k := 0) rfl
      have c1 := h1.cell (k := 1) rfl
      have e0 := h3.cell (k := 0) rfl
      have e1 := h3.cell (k := 1) rfl
      have f0 := h3.free 0
      have f1 := h3.free 1
      have HB := Lib.hid hb
      have H3 := Lib.hid h3
      clear hb h1 h2 h3
      go_wp2
      refine bodyPost_ret (results_blk rfl rfl ((H3.out.set 0 _).set 1 _) Try.underlying58 rfl (by kernel_rfl)) rfl ⟨rfl, (HB.out.setCell (by simp; omega) _).setCell (by simp; omega) _⟩
/-! ### Starts -/
def wdP (a : Pn) : Pn := (wdW a.1, wdW a.2)
theorem wdW_fd {x V : Nat} {s : Bool} (h : FS x s V) : floatToFloatBits .f32 x .f64 = some (wdW x) ∧ FD (wdW x) s (V * 2 ^ gapSD) := by
  obtain ⟨z, hz, hd⟩ := fs_wider h
  have e : wdW x = z := by unfold wdW; rw [hz]; rfl
  rw [e]; exact ⟨hz, hd⟩
theorem wdP_fin {a : Pn} (h : FinS a) : FinD (wdP a) := by
  obtain ⟨s, V, t, W, h1, h2⟩ := h
  exact ⟨_, _, _, _, (wdW_fd h1).2, (wdW_fd h2).2⟩
theorem single_any (a : Pn) (t h : Int) (w : World) : Calls Try.prog 43 #[sW a t h] w fun e w' => e = .returned (nS a) ∧ Below w.heap.size w w' := by
  go_enter Try.func43, Try.ntmps43
  go_wp2_with fail
  simp [bodyPost, results, Try.results43, go_sem]
  exact bel2 _ _ _
theorem wide_any (a : Pn) (t h : Int) (ha : FinS a) (w : World) : Calls Try.prog 47 #[sW a t h] w fun e w' => e = .returned (nD (wdP a)) ∧ Below w.heap.size w w' := by
  obtain ⟨s, V, s', W, h1, h2⟩ := ha
  obtain ⟨z1, -⟩ := wdW_fd h1
  obtain ⟨z2, -⟩ := wdW_fd h2
  have R1 := fun w => run_convert_float_float (P := Try.prog) w 40 56 .f32 .f64 _ _ (by kernel_rfl) (by kernel_rfl) z1
  have R2 := fun w => run_convert_float_float (P := Try.prog) w 40 56 .f32 .f64 _ _ (by kernel_rfl) (by kernel_rfl) z2
  clear h1 h2 z1 z2
  unfold wdP
  obtain ⟨x, y⟩ := a
  simp only at R1 R2 ⊢
  generalize wdW x = X at *
  generalize wdW y = Y at *
  go_enter Try.func47, Try.ntmps47
  go_wp2_with (first | rw [R1] | rw [R2])
  simp [bodyPost, results, Try.results47, go_sem]
  exact bel2 _ _ _
/-! ### Valid swings -/
abbrev wMax : Nat := 5183643170566569984
theorem max_shift (m n a b g : Nat) (e : m * 2 ^ b = n * 2 ^ a) : m * 2 ^ (g + b) = n * 2 ^ a * 2 ^ g := by rw [Nat.add_comm, Nat.pow_add, ← Nat.mul_assoc, e]
theorem max_sizeW {x V : Nat} {s : Bool} (h : FS x s V) : V ≤ 16777215 * 2 ^ 253 := by
  obtain ⟨m, b, r, rfl⟩ := h
  obtain ⟨b', e, hm, hb⟩ := read_shape fmtS r
  obtain rfl : b' = b := by omega
  exact Nat.mul_le_mul (by omega) (Nat.pow_le_pow_right (by decide) (by omega))
theorem fd_max : FD wMax false (16777215 * 2 ^ 253 * 2 ^ gapSD) := by
  refine ⟨9007198717870080, gapSD + 224, ?_, max_shift _ _ _ _ _ (by decide)⟩
  rw [loD_eq, gapSD_eq]; decide +kernel
theorem fin_leq {A x : Nat} (h : ED A (upZ (clsS x))) : leq (FloatKind.f64.format.order A wMax) = finS x := by
  rcases cls_cases x with ⟨ha, fa⟩ | ⟨ha, fa⟩ | ⟨ha, fa⟩ <;> rw [ha] at h <;> rw [fa]
  · rw [show FloatKind.f64.format.order A wMax = none from (nan_order h wMax).1]; rfl
  · have h : Ieee.double.read A = .infinity false := h
    obtain ⟨m, b, h2, -⟩ := fd_max
    rw [show FloatKind.f64.format.order A wMax = (Ieee.double.read A).order (Ieee.double.read wMax) from rfl, h, h2]; rfl
  · have h : FD A false (szS x * 2 ^ gapSD) := h
    have hm := Nat.mul_le_mul_right (2 ^ gapSD) (max_sizeW (fin_fs fa))
    rw [ed_fin_order h fd_max, cmp_leq]
    rw [decide_eq_true_eq]
    omega
theorem isFinite_any (x : Nat) (w : World) : Calls Try.prog 62 #[.float .f32 x] w fun e w' => e = .returned (.bool (finS x)) ∧ Below w.heap.size w w' := by
  obtain ⟨A, w1, R1, b1, e1⟩ := conv_any x w
  have A1 := fun w => abs_any A w
  have hq := fin_leq e1
  have HB := Lib.hid b1
  clear b1 e1
  generalize mgn A = B at *
  generalize finS x = v at *
  unfold leq at hq
  cases hc : FloatKind.f64.format.order B wMax with
  | none =>
    rw [hc] at hq
    have HQ := Lib.hid hq
    clear hq
    go_enter Try.func62, Try.ntmps62
    go_wp2_with (first | rw [R1] | (go_at_call 74; refine (A1 _).mono ?_; rintro e w2 ⟨rfl, rfl⟩))
    go_ret
    exact ⟨by rw [← HQ.out]; rfl, HB.out⟩
  | some o =>
    rw [hc] at hq
    have HQ := Lib.hid hq
    clear hq
    go_enter Try.func62, Try.ntmps62
    cases o <;>
    · go_wp2_with (first | rw [R1] | (go_at_call 74; refine (A1 _).mono ?_; rintro e w2 ⟨rfl, rfl⟩))
      go_ret
      exact ⟨by rw [← HQ.out]; rfl, HB.out⟩
/-- Whether a swing is valid. -/
def okW (a : Pn) (t h : Int) : Bool := ptF a && decide (0 ≤ t ∧ t ≤ 3) && decide (0 ≤ h ∧ h ≤ 4)
theorem okW_parts {a : Pn} {t h : Int} (v : okW a t h = true) : FinS a ∧ (0 ≤ t ∧ t ≤ 3) ∧ 0 ≤ h ∧ h ≤ 4 := by
  unfold okW at v
  simp only [Bool.and_eq_true, decide_eq_true_eq] at v
  exact ⟨finS_pt.2 v.1.1, v.1.2, v.2⟩
theorem okW_bad {a : Pn} {t h : Int} (v : ¬ (finS a.1 = true ∧ finS a.2 = true ∧ (0 ≤ t ∧ t ≤ 3) ∧ 0 ≤ h ∧ h ≤ 4)) : okW a t h = false := by
  cases e : okW a t h with
  | false => rfl
  | true =>
    unfold okW ptF at e
    simp only [Bool.and_eq_true, decide_eq_true_eq] at e
    exact absurd ⟨e.1.1.1, e.1.1.2, e.1.2, e.2⟩ v
theorem swValid_any (a : Pn) (t h : Int) (w : World) : Calls Try.prog 40 #[sW a t h] w fun e w' => e = .returned (.bool (okW a t h)) ∧ Below w.heap.size w w' := by
  have C1 := fun w => isFinite_any a.1 w
  have C2 := fun w => isFinite_any a.2 w
  have HO : Hid (∀ v, (¬ (finS a.1 = true ∧ finS a.2 = true ∧ (0 ≤ t ∧ t ≤ 3) ∧ 0 ≤ h ∧ h ≤ 4) ∧ v = false) ∨ ((finS a.1 = true ∧ finS a.2 = true ∧ (0 ≤ t ∧ t ≤ 3) ∧ 0 ≤ h ∧ h ≤ 4) ∧ v = true) → Ending.returned (.bool v) = .returned (.bool (okW a t h))) := by
    rintro v (⟨h1, rfl⟩ | ⟨h1, rfl⟩)
    · rw [okW_bad h1]
    · have : okW a t h = true := by unfold okW ptF; simp [h1]
      rw [this]
  obtain ⟨x, y⟩ := a
  simp only at C1 C2 HO
  generalize okW (x, y) t h = o at *
  cases f1 : finS x with
  | false =>
    rw [f1] at C1 HO
    go_enter Try.func40, Try.ntmps40
    go_wp2_with fail
    refine (C1 _).mono ?_; rintro e w2 ⟨rfl, hb⟩
    have HB := Lib.hid (belT (bel1 _ _) hb)
    clear hb C1 C2
    go_wp2_with fail
    go_ret
    exact ⟨HO.out false (.inl ⟨by simp, rfl⟩), HB.out⟩
  | true =>
    rw [f1] at C1 HO
    have HL : Hid (BlkAt (w.alloc (.cells #[.complex .f32 x y, .int .i64 t, .int .i64 h] 25)) w.heap.size 25 #[.complex .f32 x y, .int .i64 t, .int .i64 h]) := BlkAt.newAt rfl rfl
    go_enter Try.func40, Try.ntmps40
    go_wp2_with fail
    refine (C1 _).mono ?_; rintro e w2 ⟨rfl, hb⟩
    have hB := belT (bel1 _ _) hb
    have hL := HL.out.below hb
    have c0 := hL.cell (k := 0) rfl
    have HL := Lib.hid hL
    have HB := Lib.hid hB
    clear hb C1 hB hL
    go_wp2_with fail
    refine (C2 _).mono ?_; rintro e w3 ⟨rfl, hb⟩
    have hB := belT HB.out hb
    have hL := HL.out.below hb
    have c1 := hL.cell (k := 1) rfl
    have c2 := hL.cell (k := 2) rfl
    clear HB
    have HB := Lib.hid hB
    clear hb C2 hB hL c0 HL
    cases f2 : finS y with
    | false =>
      rw [f2] at HO
      go_wp2_with fail
      go_ret
      exact ⟨HO.out false (.inl ⟨by simp, rfl⟩), HB.out⟩
    | true =>
      rw [f2] at HO
      by_cases q1 : 0 ≤ t
      · by_cases q2 : t ≤ 3
        · by_cases q3 : 0 ≤ h
          · by_cases q4 : h ≤ 4
            · go_wp2_with fail
              go_ret
              exact ⟨HO.out true (.inr ⟨by simp; omega, rfl⟩), HB.out⟩
            · have hd : decide (h ≤ 4) = false := by simp; omega
              go_wp2_with fail
              go_ret
              exact ⟨HO.out false (.inl ⟨by simp; omega, rfl⟩), HB.out⟩
          · go_wp2_with fail
            go_ret
            exact ⟨HO.out false (.inl ⟨by simp; omega, rfl⟩), HB.out⟩
        · go_wp2_with fail
          go_ret
          exact ⟨HO.out false (.inl ⟨by simp; omega, rfl⟩), HB.out⟩
      · go_wp2_with fail
        go_ret
        exact ⟨HO.out false (.inl ⟨by simp; omega, rfl⟩), HB.out⟩
theorem SwingValid_any (a : Pn) (t h : Int) (w : World) : Calls Try.prog 12 #[sW a t h] w fun e w' => e = .returned (.bool (okW a t h)) ∧ Below w.heap.size w w' := by
  have C := fun w => swValid_any a t h w
  generalize okW a t h = o at *
  go_enter Try.func12, Try.ntmps12
  go_wp2_with fail
  refine (C _).mono ?_; rintro e w2 ⟨rfl, hb⟩
  have HB := Lib.hid (belT (bel1 _ _) hb)
  clear hb C
  go_wp2_with fail
  go_ret
  exact ⟨rfl, HB.out⟩
def mkW' (a : Pn) (t h n : Int) : Bool := okW a t h && decide (0 ≤ n ∧ n ≤ 400)
theorem swMakes_any (a : Pn) (t h n : Int) (w : World) : Calls Try.prog 42 #[sW a t h, .int .i64 n] w fun e w' => e = .returned (.bool (mkW' a t h n)) ∧ Below w.heap.size w w' := by
  have C := fun w => swValid_any a t h w
  unfold mkW'
  cases o : okW a t h with
  | false =>
    rw [o] at C
    go_enter Try.func42, Try.ntmps42
    go_wp2_with fail
    refine (C _).mono ?_; rintro e w2 ⟨rfl, hb⟩
    have HB := Lib.hid (belT (bel1 _ _) hb)
    clear hb C
    go_wp2_with fail
    go_ret
    exact ⟨rfl, HB.out⟩
  | true =>
    rw [o] at C
    by_cases q1 : 0 ≤ n
    · by_cases q2 : n ≤ 400
      · go_enter Try.func42, Try.ntmps42
        go_wp2_with fail
        refine (C _).mono ?_; rintro e w2 ⟨rfl, hb⟩
        have HB := Lib.hid (belT (bel1 _ _) hb)
        clear hb C
        go_wp2_with fail
        go_ret
        exact ⟨ret_bool (by simp; omega), HB.out⟩
      · go_enter Try.func42, Try.ntmps42
        go_wp2_with fail
        refine (C _).mono ?_; rintro e w2 ⟨rfl, hb⟩
        have HB := Lib.hid (belT (bel1 _ _) hb)
        clear hb C
        go_wp2_with fail
        go_ret
        exact ⟨ret_bool (by simp; omega), HB.out⟩
    · go_enter Try.func42, Try.ntmps42
      go_wp2_with fail
      refine (C _).mono ?_; rintro e w2 ⟨rfl, hb⟩
      have HB := Lib.hid (belT (bel1 _ _) hb)
      clear hb C
      go_wp2_with fail
      go_ret
      exact ⟨ret_bool (by simp; omega), HB.out⟩
end Go.Proofs.Ytpbppgaohfgpbaa
/- impl's swings: starts, many steps, which are valid; SwingAt and SwingWide. -/
namespace Go.Proofs.Ytpbppgaohfgpbaa
set_option maxRecDepth 20000
open Go.ChangeShapes Go.WideShapes Go.ChangeAt Go.RowKit
set_option linter.unusedVariables false
set_option linter.unusedSimpArgs false
attribute [local go_sem] run_store_fl run_store_cx

def swS (a : Pn) (t h n : Int) : Pn := if mkW' a t h n then rnS t.toNat h.toNat n.toNat a else (0, 0)
def swD (a : Pn) (t h n : Int) : Pn := if mkW' a t h n then rnD t.toNat h.toNat n.toNat (wdP a) else (0, 0)
theorem mkW_parts {a : Pn} {t h n : Int} (v : mkW' a t h n = true) : okW a t h = true ∧ 0 ≤ n ∧ n ≤ 400 := by
  unfold mkW' at v
  simpa [Bool.and_eq_true] using v
theorem newOf {w W : World} (h : Below w.heap.size w W) (T : TypeId) (cs : Array Value) : BlkAt (W.alloc (.cells cs T)) W.heap.size T cs := BlkAt.new _ _ _
theorem BlkAt.range {w : World} {g : Nat} {T : TypeId} {cs : List Value} (h : BlkAt w g T cs.toArray) : w.rangeAt g 0 cs := fun j v hv => by
  rw [Nat.zero_add, cell_of_row _ _ _ _ _ _ h]; simpa using hv
set_option maxHeartbeats 2000000 in
theorem SwingAt_some (a : Pn) (t h : Int) (n : Int) (w : World) : Calls Try.prog 14 #[sW a t h, .int .i64 n] w fun e w' => (∃ r : Pn, e = .returned (.tuple #[.complex .f32 r.1 r.2, .bool (mkW' a t h n)]) ∧ r = swS a t h n) ∧ Below w.heap.size w w' := by
  have C := fun w => swMakes_any a t h n w
  cases o : mkW' a t h n with
  | false =>
    have HR : Hid ((0, 0) = swS a t h n) := by unfold swS; rw [o]; rfl
    rw [o] at C
    clear o
    go_enter Try.func14, Try.ntmps14
    go_wp2_with fail
    refine (C _).mono ?_; rintro e w2 ⟨rfl, hb⟩
    have HB := Lib.hid (belT (bel1 _ _) hb)
    clear hb C
    go_wp2_with fail
    go_ret2
    exact ⟨⟨(0, 0), rfl, HR.out⟩, HB.out⟩
  | true =>
    obtain ⟨v1, v2⟩ := mkW_parts o
    obtain ⟨ha, ht, hh⟩ := okW_parts v1
    rw [o] at C
    obtain ⟨T, rfl⟩ : ∃ T : Nat, t = T := ⟨t.toNat, by omega⟩
    obtain ⟨H, rfl⟩ : ∃ H : Nat, h = H := ⟨h.toNat, by omega⟩
    obtain ⟨k, rfl⟩ : ∃ k : Nat, n = k := ⟨n.toNat, by omega⟩
    have C1 := fun w => single_any a T H w
    have C2 := fun w => behindS_any a T H k (ha) a w (by omega) (by omega) (by omega)
    have HR : Hid (∀ r, r = rnS T H k a → r = swS a (T : Int) (H : Int) (k : Int)) := fun r e => by unfold swS; rw [o, if_pos rfl, e, Int.toNat_natCast, Int.toNat_natCast, Int.toNat_natCast]
    generalize rnS T H k a = R at *
    have HL : Hid (BlkAt (w.alloc (.cells #[.complex .f32 a.1 a.2, .int .i64 T, .int .i64 H] 25)) w.heap.size 25 #[.complex .f32 a.1 a.2, .int .i64 T, .int .i64 H]) := BlkAt.newAt rfl rfl
    clear ht hh ha v1 v2 o
    go_enter Try.func14, Try.ntmps14
    go_wp2_with fail
    refine (C _).mono ?_; rintro e w2 ⟨rfl, hb⟩
    have HB := Lib.hid (belT (bel1 _ _) hb)
    have hL := HL.out.below hb
    have HL2 := Lib.hid hL
    clear hb C hL HL
    go_upto_region 3 with fail
    go_cut [6] (fun s6 wr => ∃ g : Nat, s6 = .pointer (some ⟨g, 0, none⟩) ∧ BlkAt wr g 52 #[.float .f32 R.1, .float .f32 R.2] ∧ Below w.heap.size w wr)
    case first =>
      have hz := HB.out.size
      refine wp_region_held_drew (S := fun w' => BlkAt w' w.heap.size 25 #[.complex .f32 a.1 a.2, .int .i64 T, .int .i64 H] ∧ Below w.heap.size w w') (by kernel_rfl) ⟨HL2.out.drewN 1, HB.out.drew⟩ (fun hHeld => ?_)
      clear HL2 HB hz
      refine wpAnyH_take (i := 0) (oi := _) (v := sW a (T : Int) (H : Int)) rfl (by kernel_rfl) (by kernel_rfl) (by kernel_rfl) (fun _ _ _ h => h) (yieldsIf_load_mid (by rfl) _ _ rfl _ _ rfl [.complex .f32 a.1 a.2, .int .i64 (T : Int), .int .i64 (H : Int)] _ (fun w h => h.1.range) Try.underlying25 rfl (by kernel_rfl)) hHeld ?_
      try simp only [Act.put, List.setIfInBounds_toArray, List.set_cons_zero, List.set_cons_succ, List.getElem_toArray, List.getElem_cons_succ, List.getElem_cons_zero]
      refine wpAnyH_take (i := 2) (oi := _) (v := sW a (T : Int) (H : Int)) rfl (by kernel_rfl) (by kernel_rfl) (by kernel_rfl) (fun _ _ _ h => h) (yieldsIf_load_mid (by rfl) _ _ rfl _ _ rfl [.complex .f32 a.1 a.2, .int .i64 (T : Int), .int .i64 (H : Int)] _ (fun w h => h.1.range) Try.underlying25 rfl (by kernel_rfl)) hHeld ?_
      try simp only [Act.put, List.setIfInBounds_toArray, List.set_cons_zero, List.set_cons_succ, List.getElem_toArray, List.getElem_cons_succ, List.getElem_cons_zero]
      refine wpAnyH_take (i := 3) (oi := _) (v := .int .i64 (k : Int)) rfl (by kernel_rfl) (by kernel_rfl) (by kernel_rfl) (fun _ _ _ h => h) (Or.inl ⟨by rfl, fun w h => by go_simp⟩) hHeld ?_
      try simp only [Act.put, List.setIfInBounds_toArray, List.set_cons_zero, List.set_cons_succ, List.getElem_toArray, List.getElem_cons_succ, List.getElem_cons_zero]
      refine wpAnyH_ready (rs := [1, 5]) (by kernel_rfl) (by simp) ?_
      refine AllReadyH.cons (o := _) rfl (fun K hK => ?_) (AllReadyH.cons (o := _) rfl (fun K hK => ?_) AllReadyH.nil)
      · skip
        go_simp
        refine (C1 _).mono ?_; rintro e w3 ⟨rfl, hb⟩
        go_wp2_with fail
        obtain ⟨h1, h2⟩ := hHeld
        refine hK.out _ _ ⟨h1.below hb, belT h2 hb⟩ (fun hHeld => ?_)
        clear hK K h1 h2 hb
        try simp only [Act.put, List.setIfInBounds_toArray, List.set_cons_zero, List.set_cons_succ, List.getElem_toArray, List.getElem_cons_succ, List.getElem_cons_zero]
        refine wpAnyH_ready (rs := [4, 5]) (by kernel_rfl) (by simp) ?_
        refine AllReadyH.cons (o := _) rfl (fun K hK => ?_) (AllReadyH.cons (o := _) rfl (fun K hK => ?_) AllReadyH.nil)
        · skip
          go_simp
          refine (C2 _).mono ?_; rintro e w3 ⟨rfl, hb⟩
          go_wp2_with fail
          obtain ⟨h1, h2⟩ := hHeld
          refine hK.out _ _ ⟨h1.below hb, belT h2 hb⟩ (fun hHeld => ?_)
          clear hK K h1 h2 hb
          try simp only [Act.put, List.setIfInBounds_toArray, List.set_cons_zero, List.set_cons_succ, List.getElem_toArray, List.getElem_cons_succ, List.getElem_cons_zero]
          refine wpAnyH_ready (rs := [5]) (by kernel_rfl) (by simp) ?_
          refine AllReadyH.cons (o := _) rfl (fun K hK => ?_) AllReadyH.nil
          go_simp
          obtain ⟨h1, h2⟩ := hHeld
          have hA := newOf h2 52 #[.float .f32 0, .float .f32 0]
          have hg := h1.lt
          try (have hg2 : w.heap.size < w2.heap.size := hg)
          refine hK.out _ _ ⟨h1.alloc _, belA h2 _⟩ (fun hHeld => ?_)
          clear hK K h1 h2
          try simp only [Act.put, List.setIfInBounds_toArray, List.set_cons_zero, List.set_cons_succ, List.getElem_toArray, List.getElem_cons_succ, List.getElem_cons_zero]
          refine wpAnyH_ready (rs := [6]) (by kernel_rfl) (by simp) ?_
          refine AllReadyH.cons (o := _) rfl (fun K hK => ?_) AllReadyH.nil
          rw [if_pos (by rfl)]
          refine store_blk_step rfl rfl rfl hA (by kernel_rfl) rfl (by simp [Value.oneCell']) ?_
          obtain ⟨h1, h2⟩ := hHeld
          replace hA := hA.setRow (cs' := #[.float .f32 R.1, .float .f32 R.2])
          refine hK.out _ _ ⟨h1.rowOther _ _ (by omega), below_setRow h2 (by omega) _⟩ (fun hHeld => ?_)
          clear hK K h1 h2
          try simp only [Act.put, List.setIfInBounds_toArray, List.set_cons_zero, List.set_cons_succ, List.getElem_toArray, List.getElem_cons_succ, List.getElem_cons_zero]
          refine wpAnyH_done (by kernel_rfl) ?_ _
          have HF : Aside (Below _ _ _) := hHeld.2
          have HA : Aside (BlkAt _ _ _ _) := hA
          clear hHeld hA
          go_wp2
          go_meet
          case rel => exact ⟨_, rfl, HA, HF⟩
        · skip
          go_simp
          obtain ⟨h1, h2⟩ := hHeld
          have hA := newOf h2 52 #[.float .f32 0, .float .f32 0]
          have hg := h1.lt
          try (have hg2 : w.heap.size < w2.heap.size := hg)
          refine hK.out _ _ ⟨h1.alloc _, belA h2 _⟩ (fun hHeld => ?_)
          clear hK K h1 h2
          try simp only [Act.put, List.setIfInBounds_toArray, List.set_cons_zero, List.set_cons_succ, List.getElem_toArray, List.getElem_cons_succ, List.getElem_cons_zero]
          refine wpAnyH_ready (rs := [4]) (by kernel_rfl) (by simp) ?_
          refine AllReadyH.cons (o := _) rfl (fun K hK => ?_) AllReadyH.nil
          go_simp
          refine (C2 _).mono ?_; rintro e w3 ⟨rfl, hb⟩
          go_wp2_with fail
          obtain ⟨h1, h2⟩ := hHeld
          replace hA := hA.below hb
          refine hK.out _ _ ⟨h1.below hb, belT h2 hb⟩ (fun hHeld => ?_)
          clear hK K h1 h2 hb
          try simp only [Act.put, List.setIfInBounds_toArray, List.set_cons_zero, List.set_cons_succ, List.getElem_toArray, List.getElem_cons_succ, List.getElem_cons_zero]
          refine wpAnyH_ready (rs := [6]) (by kernel_rfl) (by simp) ?_
          refine AllReadyH.cons (o := _) rfl (fun K hK => ?_) AllReadyH.nil
          rw [if_pos (by rfl)]
          refine store_blk_step rfl rfl rfl hA (by kernel_rfl) rfl (by simp [Value.oneCell']) ?_
          obtain ⟨h1, h2⟩ := hHeld
          replace hA := hA.setRow (cs' := #[.float .f32 R.1, .float .f32 R.2])
          refine hK.out _ _ ⟨h1.rowOther _ _ (by omega), below_setRow h2 (by omega) _⟩ (fun hHeld => ?_)
          clear hK K h1 h2
          try simp only [Act.put, List.setIfInBounds_toArray, List.set_cons_zero, List.set_cons_succ, List.getElem_toArray, List.getElem_cons_succ, List.getElem_cons_zero]
          refine wpAnyH_done (by kernel_rfl) ?_ _
          have HF : Aside (Below _ _ _) := hHeld.2
          have HA : Aside (BlkAt _ _ _ _) := hA
          clear hHeld hA
          go_wp2
          go_meet
          case rel => exact ⟨_, rfl, HA, HF⟩
      · skip
        go_simp
        obtain ⟨h1, h2⟩ := hHeld
        have hA := newOf h2 52 #[.float .f32 0, .float .f32 0]
        have hg := h1.lt
        try (have hg2 : w.heap.size < w2.heap.size := hg)
        refine hK.out _ _ ⟨h1.alloc _, belA h2 _⟩ (fun hHeld => ?_)
        clear hK K h1 h2
        try simp only [Act.put, List.setIfInBounds_toArray, List.set_cons_zero, List.set_cons_succ, List.getElem_toArray, List.getElem_cons_succ, List.getElem_cons_zero]
        refine wpAnyH_ready (rs := [1]) (by kernel_rfl) (by simp) ?_
        refine AllReadyH.cons (o := _) rfl (fun K hK => ?_) AllReadyH.nil
        go_simp
        refine (C1 _).mono ?_; rintro e w3 ⟨rfl, hb⟩
        go_wp2_with fail
        obtain ⟨h1, h2⟩ := hHeld
        replace hA := hA.below hb
        refine hK.out _ _ ⟨h1.below hb, belT h2 hb⟩ (fun hHeld => ?_)
        clear hK K h1 h2 hb
        try simp only [Act.put, List.setIfInBounds_toArray, List.set_cons_zero, List.set_cons_succ, List.getElem_toArray, List.getElem_cons_succ, List.getElem_cons_zero]
        refine wpAnyH_ready (rs := [4]) (by kernel_rfl) (by simp) ?_
        refine AllReadyH.cons (o := _) rfl (fun K hK => ?_) AllReadyH.nil
        go_simp
        refine (C2 _).mono ?_; rintro e w3 ⟨rfl, hb⟩
        go_wp2_with fail
        obtain ⟨h1, h2⟩ := hHeld
        replace hA := hA.below hb
        refine hK.out _ _ ⟨h1.below hb, belT h2 hb⟩ (fun hHeld => ?_)
        clear hK K h1 h2 hb
        try simp only [Act.put, List.setIfInBounds_toArray, List.set_cons_zero, List.set_cons_succ, List.getElem_toArray, List.getElem_cons_succ, List.getElem_cons_zero]
        refine wpAnyH_ready (rs := [6]) (by kernel_rfl) (by simp) ?_
        refine AllReadyH.cons (o := _) rfl (fun K hK => ?_) AllReadyH.nil
        rw [if_pos (by rfl)]
        refine store_blk_step rfl rfl rfl hA (by kernel_rfl) rfl (by simp [Value.oneCell']) ?_
        obtain ⟨h1, h2⟩ := hHeld
        replace hA := hA.setRow (cs' := #[.float .f32 R.1, .float .f32 R.2])
        refine hK.out _ _ ⟨h1.rowOther _ _ (by omega), below_setRow h2 (by omega) _⟩ (fun hHeld => ?_)
        clear hK K h1 h2
        try simp only [Act.put, List.setIfInBounds_toArray, List.set_cons_zero, List.set_cons_succ, List.getElem_toArray, List.getElem_cons_succ, List.getElem_cons_zero]
        refine wpAnyH_done (by kernel_rfl) ?_ _
        have HF : Aside (Below _ _ _) := hHeld.2
        have HA : Aside (BlkAt _ _ _ _) := hA
        clear hHeld hA
        go_wp2
        go_meet
        case rel => exact ⟨_, rfl, HA, HF⟩
    case rest =>
      obtain ⟨g, rfl, hA, hB⟩ := hcut
      have c0 := hA.cell (k := 0) rfl
      have c1 := hA.cell (k := 1) rfl
      have HF := Lib.hid hB
      clear hA hB HB HL2 C1 C2
      go_wp2
      go_ret2
      exact ⟨⟨R, rfl, HR.out _ rfl⟩, HF.out⟩
theorem SwingAt_any (a : Pn) (t h : Int) (n : Int) (w : World) : Calls Try.prog 14 #[sW a t h, .int .i64 n] w fun e w' => e = .returned (.tuple #[.complex .f32 (swS a t h n).1 (swS a t h n).2, .bool (mkW' a t h n)]) ∧ Below w.heap.size w w' :=
  (SwingAt_some a t h n w).mono fun _ _ ⟨⟨r, he, hr⟩, hb⟩ => ⟨by rw [he, hr], hb⟩
set_option maxHeartbeats 2000000 in
theorem SwingWide_some (a : Pn) (t h : Int) (n : Int) (w : World) : Calls Try.prog 19 #[sW a t h, .int .i64 n] w fun e w' => (∃ r : Pn, e = .returned (.tuple #[.complex .f64 r.1 r.2, .bool (mkW' a t h n)]) ∧ r = swD a t h n) ∧ Below w.heap.size w w' := by
  have C := fun w => swMakes_any a t h n w
  cases o : mkW' a t h n with
  | false =>
    have HR : Hid ((0, 0) = swD a t h n) := by unfold swD; rw [o]; rfl
    rw [o] at C
    clear o
    go_enter Try.func19, Try.ntmps19
    go_wp2_with fail
    refine (C _).mono ?_; rintro e w2 ⟨rfl, hb⟩
    have HB := Lib.hid (belT (bel1 _ _) hb)
    clear hb C
    go_wp2_with fail
    go_ret2
    exact ⟨⟨(0, 0), rfl, HR.out⟩, HB.out⟩
  | true =>
    obtain ⟨v1, v2⟩ := mkW_parts o
    obtain ⟨ha, ht, hh⟩ := okW_parts v1
    rw [o] at C
    obtain ⟨T, rfl⟩ : ∃ T : Nat, t = T := ⟨t.toNat, by omega⟩
    obtain ⟨H, rfl⟩ : ∃ H : Nat, h = H := ⟨h.toNat, by omega⟩
    obtain ⟨k, rfl⟩ : ∃ k : Nat, n = k := ⟨n.toNat, by omega⟩
    have C1 := fun w => wide_any a T H ha w
    have C2 := fun w => behindD_any (wdP a) T H k (wdP_fin ha) a w (by omega) (by omega) (by omega)
    have HR : Hid (∀ r, r = rnD T H k (wdP a) → r = swD a (T : Int) (H : Int) (k : Int)) := fun r e => by unfold swD; rw [o, if_pos rfl, e, Int.toNat_natCast, Int.toNat_natCast, Int.toNat_natCast]
    generalize (wdP a) = a0 at *
    generalize rnD T H k a0 = R at *
    have HL : Hid (BlkAt (w.alloc (.cells #[.complex .f32 a.1 a.2, .int .i64 T, .int .i64 H] 25)) w.heap.size 25 #[.complex .f32 a.1 a.2, .int .i64 T, .int .i64 H]) := BlkAt.newAt rfl rfl
    clear ht hh ha v1 v2 o
    go_enter Try.func19, Try.ntmps19
    go_wp2_with fail
    refine (C _).mono ?_; rintro e w2 ⟨rfl, hb⟩
    have HB := Lib.hid (belT (bel1 _ _) hb)
    have hL := HL.out.below hb
    have HL2 := Lib.hid hL
    clear hb C hL HL
    go_upto_region 3 with fail
    go_cut [6] (fun s6 wr => ∃ g : Nat, s6 = .pointer (some ⟨g, 0, none⟩) ∧ BlkAt wr g 58 #[.float .f64 R.1, .float .f64 R.2] ∧ Below w.heap.size w wr)
    case first =>
      have hz := HB.out.size
      refine wp_region_held_drew (S := fun w' => BlkAt w' w.heap.size 25 #[.complex .f32 a.1 a.2, .int .i64 T, .int .i64 H] ∧ Below w.heap.size w w') (by kernel_rfl) ⟨HL2.out.drewN 1, HB.out.drew⟩ (fun hHeld => ?_)
      clear HL2 HB hz
      refine wpAnyH_take (i := 0) (oi := _) (v := sW a (T : Int) (H : Int)) rfl (by kernel_rfl) (by kernel_rfl) (by kernel_rfl) (fun _ _ _ h => h) (yieldsIf_load_mid (by rfl) _ _ rfl _ _ rfl [.complex .f32 a.1 a.2, .int .i64 (T : Int), .int .i64 (H : Int)] _ (fun w h => h.1.range) Try.underlying25 rfl (by kernel_rfl)) hHeld ?_
      try simp only [Act.put, List.setIfInBounds_toArray, List.set_cons_zero, List.set_cons_succ, List.getElem_toArray, List.getElem_cons_succ, List.getElem_cons_zero]
      refine wpAnyH_take (i := 2) (oi := _) (v := sW a (T : Int) (H : Int)) rfl (by kernel_rfl) (by kernel_rfl) (by kernel_rfl) (fun _ _ _ h => h) (yieldsIf_load_mid (by rfl) _ _ rfl _ _ rfl [.complex .f32 a.1 a.2, .int .i64 (T : Int), .int .i64 (H : Int)] _ (fun w h => h.1.range) Try.underlying25 rfl (by kernel_rfl)) hHeld ?_
      try simp only [Act.put, List.setIfInBounds_toArray, List.set_cons_zero, List.set_cons_succ, List.getElem_toArray, List.getElem_cons_succ, List.getElem_cons_zero]
      refine wpAnyH_take (i := 3) (oi := _) (v := .int .i64 (k : Int)) rfl (by kernel_rfl) (by kernel_rfl) (by kernel_rfl) (fun _ _ _ h => h) (Or.inl ⟨by rfl, fun w h => by go_simp⟩) hHeld ?_
      try simp only [Act.put, List.setIfInBounds_toArray, List.set_cons_zero, List.set_cons_succ, List.getElem_toArray, List.getElem_cons_succ, List.getElem_cons_zero]
      refine wpAnyH_ready (rs := [1, 5]) (by kernel_rfl) (by simp) ?_
      refine AllReadyH.cons (o := _) rfl (fun K hK => ?_) (AllReadyH.cons (o := _) rfl (fun K hK => ?_) AllReadyH.nil)
      · skip
        go_simp
        refine (C1 _).mono ?_; rintro e w3 ⟨rfl, hb⟩
        go_wp2_with fail
        obtain ⟨h1, h2⟩ := hHeld
        refine hK.out _ _ ⟨h1.below hb, belT h2 hb⟩ (fun hHeld => ?_)
        clear hK K h1 h2 hb
        try simp only [Act.put, List.setIfInBounds_toArray, List.set_cons_zero, List.set_cons_succ, List.getElem_toArray, List.getElem_cons_succ, List.getElem_cons_zero]
        refine wpAnyH_ready (rs := [4, 5]) (by kernel_rfl) (by simp) ?_
        refine AllReadyH.cons (o := _) rfl (fun K hK => ?_) (AllReadyH.cons (o := _) rfl (fun K hK => ?_) AllReadyH.nil)
        · skip
          go_simp
          refine (C2 _).mono ?_; rintro e w3 ⟨rfl, hb⟩
          go_wp2_with fail
          obtain ⟨h1, h2⟩ := hHeld
          refine hK.out _ _ ⟨h1.below hb, belT h2 hb⟩ (fun hHeld => ?_)
          clear hK K h1 h2 hb
          try simp only [Act.put, List.setIfInBounds_toArray, List.set_cons_zero, List.set_cons_succ, List.getElem_toArray, List.getElem_cons_succ, List.getElem_cons_zero]
          refine wpAnyH_ready (rs := [5]) (by kernel_rfl) (by simp) ?_
          refine AllReadyH.cons (o := _) rfl (fun K hK => ?_) AllReadyH.nil
          go_simp
          obtain ⟨h1, h2⟩ := hHeld
          have hA := newOf h2 58 #[.float .f64 0, .float .f64 0]
          have hg := h1.lt
          try (have hg2 : w.heap.size < w2.heap.size := hg)
          refine hK.out _ _ ⟨h1.alloc _, belA h2 _⟩ (fun hHeld => ?_)
          clear hK K h1 h2
          try simp only [Act.put, List.setIfInBounds_toArray, List.set_cons_zero, List.set_cons_succ, List.getElem_toArray, List.getElem_cons_succ, List.getElem_cons_zero]
          refine wpAnyH_ready (rs := [6]) (by kernel_rfl) (by simp) ?_
          refine AllReadyH.cons (o := _) rfl (fun K hK => ?_) AllReadyH.nil
          rw [if_pos (by rfl)]
          refine store_blk_step rfl rfl rfl hA (by kernel_rfl) rfl (by simp [Value.oneCell']) ?_
          obtain ⟨h1, h2⟩ := hHeld
          replace hA := hA.setRow (cs' := #[.float .f64 R.1, .float .f64 R.2])
          refine hK.out _ _ ⟨h1.rowOther _ _ (by omega), below_setRow h2 (by omega) _⟩ (fun hHeld => ?_)
          clear hK K h1 h2
          try simp only [Act.put, List.setIfInBounds_toArray, List.set_cons_zero, List.set_cons_succ, List.getElem_toArray, List.getElem_cons_succ, List.getElem_cons_zero]
          refine wpAnyH_done (by kernel_rfl) ?_ _
          have HF : Aside (Below _ _ _) := hHeld.2
          have HA : Aside (BlkAt _ _ _ _) := hA
          clear hHeld hA
          go_wp2
          go_meet
          case rel => exact ⟨_, rfl, HA, HF⟩
        · skip
          go_simp
          obtain ⟨h1, h2⟩ := hHeld
          have hA := newOf h2 58 #[.float .f64 0, .float .f64 0]
          have hg := h1.lt
          try (have hg2 : w.heap.size < w2.heap.size := hg)
          refine hK.out _ _ ⟨h1.alloc _, belA h2 _⟩ (fun hHeld => ?_)
          clear hK K h1 h2
          try simp only [Act.put, List.setIfInBounds_toArray, List.set_cons_zero, List.set_cons_succ, List.getElem_toArray, List.getElem_cons_succ, List.getElem_cons_zero]
          refine wpAnyH_ready (rs := [4]) (by kernel_rfl) (by simp) ?_
          refine AllReadyH.cons (o := _) rfl (fun K hK => ?_) AllReadyH.nil
          go_simp
          refine (C2 _).mono ?_; rintro e w3 ⟨rfl, hb⟩
          go_wp2_with fail
          obtain ⟨h1, h2⟩ := hHeld
          replace hA := hA.below hb
          refine hK.out _ _ ⟨h1.below hb, belT h2 hb⟩ (fun hHeld => ?_)
          clear hK K h1 h2 hb
          try simp only [Act.put, List.setIfInBounds_toArray, List.set_cons_zero, List.set_cons_succ, List.getElem_toArray, List.getElem_cons_succ, List.getElem_cons_zero]
          refine wpAnyH_ready (rs := [6]) (by kernel_rfl) (by simp) ?_
          refine AllReadyH.cons (o := _) rfl (fun K hK => ?_) AllReadyH.nil
          rw [if_pos (by rfl)]
          refine store_blk_step rfl rfl rfl hA (by kernel_rfl) rfl (by simp [Value.oneCell']) ?_
          obtain ⟨h1, h2⟩ := hHeld
          replace hA := hA.setRow (cs' := #[.float .f64 R.1, .float .f64 R.2])
          refine hK.out _ _ ⟨h1.rowOther _ _ (by omega), below_setRow h2 (by omega) _⟩ (fun hHeld => ?_)
          clear hK K h1 h2
          try simp only [Act.put, List.setIfInBounds_toArray, List.set_cons_zero, List.set_cons_succ, List.getElem_toArray, List.getElem_cons_succ, List.getElem_cons_zero]
          refine wpAnyH_done (by kernel_rfl) ?_ _
          have HF : Aside (Below _ _ _) := hHeld.2
          have HA : Aside (BlkAt _ _ _ _) := hA
          clear hHeld hA
          go_wp2
          go_meet
          case rel => exact ⟨_, rfl, HA, HF⟩
      · skip
        go_simp
        obtain ⟨h1, h2⟩ := hHeld
        have hA := newOf h2 58 #[.float .f64 0, .float .f64 0]
        have hg := h1.lt
        try (have hg2 : w.heap.size < w2.heap.size := hg)
        refine hK.out _ _ ⟨h1.alloc _, belA h2 _⟩ (fun hHeld => ?_)
        clear hK K h1 h2
        try simp only [Act.put, List.setIfInBounds_toArray, List.set_cons_zero, List.set_cons_succ, List.getElem_toArray, List.getElem_cons_succ, List.getElem_cons_zero]
        refine wpAnyH_ready (rs := [1]) (by kernel_rfl) (by simp) ?_
        refine AllReadyH.cons (o := _) rfl (fun K hK => ?_) AllReadyH.nil
        go_simp
        refine (C1 _).mono ?_; rintro e w3 ⟨rfl, hb⟩
        go_wp2_with fail
        obtain ⟨h1, h2⟩ := hHeld
        replace hA := hA.below hb
        refine hK.out _ _ ⟨h1.below hb, belT h2 hb⟩ (fun hHeld => ?_)
        clear hK K h1 h2 hb
        try simp only [Act.put, List.setIfInBounds_toArray, List.set_cons_zero, List.set_cons_succ, List.getElem_toArray, List.getElem_cons_succ, List.getElem_cons_zero]
        refine wpAnyH_ready (rs := [4]) (by kernel_rfl) (by simp) ?_
        refine AllReadyH.cons (o := _) rfl (fun K hK => ?_) AllReadyH.nil
        go_simp
        refine (C2 _).mono ?_; rintro e w3 ⟨rfl, hb⟩
        go_wp2_with fail
        obtain ⟨h1, h2⟩ := hHeld
        replace hA := hA.below hb
        refine hK.out _ _ ⟨h1.below hb, belT h2 hb⟩ (fun hHeld => ?_)
        clear hK K h1 h2 hb
        try simp only [Act.put, List.setIfInBounds_toArray, List.set_cons_zero, List.set_cons_succ, List.getElem_toArray, List.getElem_cons_succ, List.getElem_cons_zero]
        refine wpAnyH_ready (rs := [6]) (by kernel_rfl) (by simp) ?_
        refine AllReadyH.cons (o := _) rfl (fun K hK => ?_) AllReadyH.nil
        rw [if_pos (by rfl)]
        refine store_blk_step rfl rfl rfl hA (by kernel_rfl) rfl (by simp [Value.oneCell']) ?_
        obtain ⟨h1, h2⟩ := hHeld
        replace hA := hA.setRow (cs' := #[.float .f64 R.1, .float .f64 R.2])
        refine hK.out _ _ ⟨h1.rowOther _ _ (by omega), below_setRow h2 (by omega) _⟩ (fun hHeld => ?_)
        clear hK K h1 h2
        try simp only [Act.put, List.setIfInBounds_toArray, List.set_cons_zero, List.set_cons_succ, List.getElem_toArray, List.getElem_cons_succ, List.getElem_cons_zero]
        refine wpAnyH_done (by kernel_rfl) ?_ _
        have HF : Aside (Below _ _ _) := hHeld.2
        have HA : Aside (BlkAt _ _ _ _) := hA
        clear hHeld hA
        go_wp2
        go_meet
        case rel => exact ⟨_, rfl, HA, HF⟩
    case rest =>
      obtain ⟨g, rfl, hA, hB⟩ := hcut
      have c0 := hA.cell (k := 0) rfl
      have c1 := hA.cell (k := 1) rfl
      have HF := Lib.hid hB
      clear hA hB HB HL2 C1 C2
      go_wp2
      go_ret2
      exact ⟨⟨R, rfl, HR.out _ rfl⟩, HF.out⟩
theorem SwingWide_any (a : Pn) (t h : Int) (n : Int) (w : World) : Calls Try.prog 19 #[sW a t h, .int .i64 n] w fun e w' => e = .returned (.tuple #[.complex .f64 (swD a t h n).1 (swD a t h n).2, .bool (mkW' a t h n)]) ∧ Below w.heap.size w w' :=
  (SwingWide_some a t h n w).mono fun _ _ ⟨⟨r, he, hr⟩, hb⟩ => ⟨by rw [he, hr], hb⟩
end Go.Proofs.Ytpbppgaohfgpbaa
/- Swings: sums of their numbers, which are no NaN; which words are subnormal; the first number of a list that is looked for. -/
namespace Go.Proofs.Ytpbppgaohfgpbaa
set_option maxRecDepth 20000
set_option linter.unusedVariables false
set_option linter.unusedSimpArgs false
open Ieee

/-! ### Words of 32 bits that are no NaN -/
theorem ns_word (s : Bool) (rung : Nat) (h : rung ≤ 2139095040) : nanS (single.word s rung) = false := by
  unfold nanS Format.read Format.word
  rw [s_sign, s_inf, s_bin]
  have e4 : (if s = true then 2147483648 + rung else rung) % 2147483648 = rung := by cases s <;> simp <;> omega
  simp only [e4]
  split
  · rfl
  · split
    · rfl
    · rw [if_pos (by omega)]; rfl
theorem ns_write {d : Datum} (h : d.isNaN = false) : nanS (single.write d) = false := by
  cases d with
  | number s m e =>
    show nanS (single.nearest s m e) = false
    unfold Format.nearest
    split
    · exact ns_word _ _ (by omega)
    · refine ns_word _ _ ?_
      rw [s_inf]; exact Nat.min_le_right _ _
  | infinity s => exact ns_word _ _ (by rw [s_inf]; exact Nat.le_refl _)
  | nan s t => cases h
theorem ns_fin {x : Nat} (h : finS x = true) : nanS x = false := by
  cases e : nanS x with
  | false => rfl
  | true => rw [nan_fin e] at h; cases h
def adS (x y : Nat) : Nat := (single.add x y).getD 0
theorem add_ns {x y : Nat} (hx : nanS x = false) (hy : finS y = true) : single.add x y = some (adS x y) ∧ nanS (adS x y) = false := by
  unfold adS Format.add
  unfold nanS at hx
  unfold finS at hy
  cases ry : single.read y with
  | infinity s => rw [ry] at hy; cases hy
  | nan s t => rw [ry] at hy; cases hy
  | number s m e =>
    cases rx : single.read x with
    | infinity s => exact ⟨rfl, ns_write (d := .infinity s) rfl⟩
    | nan s t => rw [rx] at hx; cases hx
    | number s' m' e' =>
      simp only [Datum.sum, Option.map_some, Option.getD_some, true_and]
      exact ns_write rfl
theorem wd_ns {x : Nat} (h : nanS x = false) : floatToFloatBits .f32 x .f64 = some (wdW x) ∧ NN (wdW x) := by
  by_cases hf : finS x = true
  · exact wd_fin hf
  · cases r : single.read x with
    | number s m e => unfold finS at hf; rw [r] at hf; exact absurd rfl hf
    | nan s t => unfold nanS at h; rw [r] at h; cases h
    | infinity s =>
      have e : floatToFloatBits .f32 x .f64 = some (double.word s double.infRung) := by
        have hd : FloatKind.f32.decode x = .infinity s := r
        unfold floatToFloatBits
        rw [if_neg (by decide), hd]
        rfl
      have ew : wdW x = double.word s double.infRung := by unfold wdW; rw [e]; rfl
      rw [ew]
      refine ⟨e, ?_⟩
      unfold NN
      rw [inf_read]; rfl
def adP (s z : Pn) : Pn := (adS s.1 z.1, adS s.2 z.2)
def smP (L : List Pn) : Pn := L.foldl adP (0, 0)
theorem smP_next (L : List Pn) (z : Pn) : smP (L ++ [z]) = adP (smP L) z := by unfold smP; rw [List.foldl_append]; rfl
def NaS (a : Pn) : Prop := nanS a.1 = false ∧ nanS a.2 = false
theorem nas_fin {a : Pn} (h : FinS a) : NaS a := by
  have := finS_pt.1 h
  unfold ptF at this
  rw [Bool.and_eq_true] at this
  exact ⟨ns_fin this.1, ns_fin this.2⟩
theorem adP_nas {s z : Pn} (hs : NaS s) (hz : FinS z) : (single.add s.1 z.1 = some (adP s z).1 ∧ single.add s.2 z.2 = some (adP s z).2) ∧ NaS (adP s z) := by
  have := finS_pt.1 hz
  unfold ptF at this
  rw [Bool.and_eq_true] at this
  have h1 := add_ns hs.1 this.1
  have h2 := add_ns hs.2 this.2
  exact ⟨⟨h1.1, h2.1⟩, h1.2, h2.2⟩
theorem nas_nil : NaS (0, 0) := ⟨ns_fin (fs_fin fs_nil).1, ns_fin (fs_fin fs_nil).1⟩
theorem foldl_nas : ∀ (L : List Pn) (s : Pn), NaS s → (∀ z ∈ L, FinS z) → NaS (L.foldl adP s)
  | [], _, hs, _ => hs
  | z :: L, s, hs, h => foldl_nas L _ (adP_nas hs (h z (by simp))).2 (fun y hy => h y (by simp [hy]))
theorem smP_nas {L : List Pn} (h : ∀ z ∈ L, FinS z) : NaS (smP L) := foldl_nas L _ nas_nil h
/-! ### Subnormal words, words of 0 -/
def tnS (x : Nat) : Bool := decide (szS x ≠ 0) && decide (szS x < 8388608)
def smallS (a : Pn) : Bool := tnS a.1 || tnS a.2
def zeroS (a : Pn) : Bool := decide (szS a.1 = 0) && decide (szS a.2 = 0)
theorem zero_at {a : Pn} {x y : Int} (h : At a x y) : zeroS a = (decide (x = 0) && decide (y = 0)) := by
  obtain ⟨s, V, t, W, h1, h2, rfl, rfl⟩ := h
  unfold zeroS
  rw [(fs_fin h1).2.2, (fs_fin h2).2.2]
  have e : ∀ (s : Bool) (V : Nat), decide (V = 0) = decide (sgnd s V = 0) := fun s V => by
    rw [decide_eq_decide]; cases s <;> simp [sgnd] <;> omega
  rw [e s V, e t W]
theorem small_at {a : Pn} {x y : Int} (h : At a x y) : smallS a = ((decide (x.natAbs ≠ 0) && decide (x.natAbs < 8388608)) || (decide (y.natAbs ≠ 0) && decide (y.natAbs < 8388608))) := by
  obtain ⟨s, V, t, W, h1, h2, rfl, rfl⟩ := h
  unfold smallS tnS
  rw [(fs_fin h1).2.2, (fs_fin h2).2.2, sgnd_abs, sgnd_abs]
/-- The first k below m of which p holds, counted from k on. -/
def fstN (p : Nat → Bool) : Nat → Nat → Option Nat
  | _, 0 => none
  | k, m + 1 => if p k then some k else fstN p (k + 1) m
theorem fstN_yes {p : Nat → Bool} {k m : Nat} (h : p k = true) : fstN p k (m + 1) = some k := by unfold fstN; rw [if_pos h]
theorem fstN_no {p : Nat → Bool} {k m : Nat} (h : p k = false) : fstN p k (m + 1) = fstN p (k + 1) m := by rw [fstN, if_neg (by rw [h]; decide)]
theorem fstN_some {p : Nat → Bool} : ∀ {m k j : Nat}, fstN p k m = some j → k ≤ j ∧ j < k + m ∧ p j = true ∧ ∀ i, k ≤ i → i < j → p i = false
  | 0, k, j, h => by cases h
  | m + 1, k, j, h => by
    cases hp : p k with
    | true =>
      rw [fstN_yes hp] at h
      cases h
      exact ⟨Nat.le_refl _, by omega, hp, fun i h1 h2 => by omega⟩
    | false =>
      rw [fstN_no hp] at h
      obtain ⟨h1, h2, h3, h4⟩ := fstN_some h
      refine ⟨by omega, by omega, h3, fun i h5 h6 => ?_⟩
      by_cases hi : i = k
      · rw [hi]; exact hp
      · exact h4 i (by omega) h6
theorem fstN_none {p : Nat → Bool} : ∀ {m k : Nat}, fstN p k m = none → ∀ i, k ≤ i → i < k + m → p i = false
  | 0, k, _, i, h1, h2 => by omega
  | m + 1, k, h, i, h1, h2 => by
    cases hp : p k with
    | true => rw [fstN_yes hp] at h; cases h
    | false =>
      rw [fstN_no hp] at h
      by_cases hi : i = k
      · rw [hi]; exact hp
      · exact fstN_none h i (by omega) (by omega)
/-- As a number, -1 where there is none. -/
def ordN (o : Option Nat) : Int := match o with | some j => j | none => -1
end Go.Proofs.Ytpbppgaohfgpbaa
/- spec's swings: which are valid; a step, many steps, in both widths. -/
namespace Go.Proofs.Ytpbppgaohfgpbaa
set_option maxRecDepth 20000
open Go.ChangeShapes Go.WideShapes Go.ChangeAt Go.RowKit
set_option linter.unusedVariables false
set_option linter.unusedSimpArgs false
attribute [local go_sem] run_store_fl run_store_cx

theorem specIn_sw (n l m : Int) (w : World) : Calls Try.prog 41 #[.int .i64 n, .int .i64 l, .int .i64 m] w fun e w' => e = .returned (.bool (decide (l ≤ n) && decide (n ≤ m))) ∧ w = w' := by
  by_cases h1 : l ≤ n
  · by_cases h2 : n ≤ m
    · go_enter Try.func41, Try.ntmps41
      go_wp2
      go_ret
      exact ⟨ret_bool (by simp; omega), rfl⟩
    · go_enter Try.func41, Try.ntmps41
      go_wp2
      go_ret
      exact ⟨ret_bool (by simp; omega), rfl⟩
  · go_enter Try.func41, Try.ntmps41
    go_wp2
    go_ret
    exact ⟨ret_bool (by simp; omega), rfl⟩
/-! ### Whether a word less itself is 0 -/
theorem nanB_cut (x y t : Nat) : nanS (Question.cut (.nanBits .f32 x y) t) = true := by
  show nanS ((t % 2) * 2 ^ 31 + 0x7f800000 + 1 + (t / 2) % (2 ^ 23 - 1)) = true
  refine nanS_word _ ?_
  have h1 := Nat.mod_lt (t / 2) (show 0 < 2 ^ 23 - 1 by decide)
  have e4 : (2 : Nat) ^ 31 = 2147483648 := by decide
  have e5 : (2 : Nat) ^ 23 - 1 = 8388607 := by decide
  rw [e5] at *
  rw [e4]
  generalize t / 2 % 8388607 = a at *
  rcases (show t % 2 = 0 ∨ t % 2 = 1 by omega) with h | h <;> rw [h] <;> omega
theorem less_self (x : Nat) (w : World) : ∃ r w', (∀ t, (binOp .sub t (.float .f32 x) (.float .f32 x)).run Try.prog w = .ok (.float .f32 r) w') ∧ Below w.heap.size w w' ∧ (∀ g T cs, BlkAt w g T cs → BlkAt w' g T cs) ∧ ((finS x = true ∧ FloatKind.f32.format.order r 0 = some .eq) ∨ (finS x = false ∧ FloatKind.f32.format.order r 0 = none)) := by
  cases hf : finS x with
  | true =>
    have h := fin_fs hf
    have e : sgnd (sgS x) (szS x) - sgnd (sgS x) (szS x) = 0 := Int.sub_self _
    have := sub_fv fmtS h h (by rw [e]; exact fits_small (by decide) (by decide))
    rw [e] at this
    obtain ⟨z, hz, hv⟩ := this
    refine ⟨z, w, fun t => run_float_arith w .sub t .f32 _ _ _ hz, Below.refl _ _, fun _ _ _ h => h, .inl ⟨rfl, ?_⟩⟩
    rw [show (0 : Int).natAbs = 0 from rfl, rndN_zero] at hv
    have := fs_order hv fs_nil
    rw [this, sgnd_zero, sgnd_zero, Int.compare_eq_eq.2 rfl]
  | false =>
    have hn : floatBits .sub .f32 x x = none := by
      show ((Ieee.single.read x).sum (Ieee.single.read x).opposite).map Ieee.single.write = none
      unfold finS at hf
      generalize Ieee.single.read x = d at *
      cases d with
      | number s m e => cases hf
      | infinity s => cases s <;> rfl
      | nan s t => rfl
    refine ⟨Question.cut (.nanBits .f32 x x) (w.tape w.drawn (.nanBits .f32 x x)), w.drew, fun t => ?_, (Below.refl _ _).drew, fun _ _ _ h => h, .inr ⟨rfl, (nan_ord32 (nanB_cut _ _ _) 0).1⟩⟩
    unfold floatBits at hn
    simp only at hn
    simp [binOp, Op.floatArith, hn, choose, Sem.run, Question.forced]
set_option maxHeartbeats 1000000 in
theorem specSwingValid_any (a : Pn) (t h : Int) (w : World) : Calls Try.prog 13 #[sW a t h] w fun e w' => e = .returned (.bool (okW a t h)) ∧ Below w.heap.size w w' := by
  have HO : Hid (∀ v, v = (ptF a && (decide (0 ≤ t) && decide (t ≤ 3)) && (decide (0 ≤ h) && decide (h ≤ 4))) → Ending.returned (.bool v) = .returned (.bool (okW a t h))) := by
    rintro v rfl
    unfold okW
    rw [Bool.decide_and, Bool.decide_and]
  unfold ptF at HO
  have hL : BlkAt (w.alloc (.cells #[.complex .f32 a.1 a.2, .int .i64 t, .int .i64 h] 25)) w.heap.size 25 #[.complex .f32 a.1 a.2, .int .i64 t, .int .i64 h] := BlkAt.newAt rfl rfl
  have hB := bel1 w (.cells #[.complex .f32 a.1 a.2, .int .i64 t, .int .i64 h] 25)
  have N1 := fun w => specIn_sw t 0 3 w
  have N2 := fun w => specIn_sw h 0 4 w
  obtain ⟨x, y⟩ := a
  simp only at HO hL hB
  generalize okW (x, y) t h = o at *
  generalize (decide (0 ≤ t) && decide (t ≤ 3)) = bt at *
  generalize (decide (0 ≤ h) && decide (h ≤ 4)) = bh at *
  go_enter Try.func13, Try.ntmps13
  go_upto_region 1 with fail
  show Code.wp _ _ _ _ (w.alloc (.cells #[.complex .f32 x y, .int .i64 t, .int .i64 h] 25))
  generalize (w.alloc (.cells #[.complex .f32 x y, .int .i64 t, .int .i64 h] 25)) = W at *
  have c0 := hL.cell (k := 0) rfl
  have HL := Lib.hid hL
  have HB := Lib.hid hB
  obtain ⟨r1, w1, R1, b1, k1, d1⟩ := less_self x W
  have HL1 := Lib.hid (k1 _ _ _ hL)
  have HB1 := Lib.hid (belT hB b1)
  clear hL hB b1 k1
  go_upto_region 2 with fail
  rcases d1 with ⟨f1, O1⟩ | ⟨f1, O1⟩
  · rw [f1] at HO
    obtain ⟨r2, w2, R2, b2, k2, d2⟩ := less_self y w1
    have hL2 := k2 _ _ _ HL1.out
    have HB2 := Lib.hid (belT HB1.out b2)
    have e1 := hL2.cell (k := 1) rfl
    have e2 := hL2.cell (k := 2) rfl
    clear b2 k2 f1 hL2 HB1 HL1 HB HL c0
    rcases d2 with ⟨f2, O2⟩ | ⟨f2, O2⟩
    · rw [f2] at HO
      clear f2
      cases bt with
      | true =>
        go_wp2_with (first | rw [R1] | rw [R2])
        refine (N1 _).mono ?_; rintro e w3 ⟨rfl, rfl⟩
        clear N1 R1 R2
        go_wp2_with fail
        refine (N2 _).mono ?_; rintro e w3 ⟨rfl, rfl⟩
        clear N2
        go_wp2_with fail
        go_ret
        exact ⟨HO.out _ (by simp), HB2.out⟩
      | false =>
        go_wp2_with (first | rw [R1] | rw [R2])
        refine (N1 _).mono ?_; rintro e w3 ⟨rfl, rfl⟩
        clear N1 R1 R2 N2
        go_wp2_with fail
        go_ret
        exact ⟨HO.out _ (by simp), HB2.out⟩
    · rw [f2] at HO
      clear f2 e1 e2
      go_wp2_with (first | rw [R1] | rw [R2])
      go_ret
      exact ⟨HO.out _ (by simp), HB2.out⟩
  · rw [f1] at HO
    clear f1
    go_wp2_with (first | rw [R1])
    go_ret
    exact ⟨HO.out _ (by simp), HB1.out⟩
set_option maxHeartbeats 1000000 in
theorem specSingle_any (a : Pn) (t h : Nat) (ha : FinS a) (b : Pn) (w : World) (ht : t ≤ 3) (hh : h ≤ 4) :
    Calls Try.prog 46 #[.complex .f32 a.1 a.2, sW b t h] w fun e w' => e = .returned (.complex .f32 (stS t h a).1 (stS t h a).2) ∧ Below w.heap.size w w' := by
  have hL : BlkAt (w.alloc (.cells #[.complex .f32 b.1 b.2, .int .i64 t, .int .i64 h] 25)) w.heap.size 25 #[.complex .f32 b.1 b.2, .int .i64 t, .int .i64 h] := BlkAt.newAt rfl rfl
  have hB := bel1 w (.cells #[.complex .f32 b.1 b.2, .int .i64 t, .int .i64 h] 25)
  go_enter Try.func46, Try.ntmps46
  go_upto_region 1 with fail
  show Code.wp _ _ _ _ (w.alloc (.cells #[.complex .f32 b.1 b.2, .int .i64 t, .int .i64 h] 25))
  generalize (w.alloc (.cells #[.complex .f32 b.1 b.2, .int .i64 t, .int .i64 h] 25)) = W at *
  have d1 := hL.cell (k := 1) rfl
  have d2 := hL.cell (k := 2) rfl
  have HB := Lib.hid hB
  clear hL hB
  go_wp2_with fail
  go_loop [0, 5] (fun z i => ∃ k : Nat, k ≤ t ∧ i = .int .i64 k ∧ z = .complex .f32 (itr trS k a).1 (itr trS k a).2) (fun _ i => t - (intOf i).toNat)
  case atStart => exact ⟨0, Nat.zero_le _, rfl, rfl⟩
  case round =>
    obtain ⟨k, hk, rfl, rfl⟩ := hrel
    by_cases hlt : k < t
    · have hf : FinS (itr trS k a) := itr_keep (P := FinS) (fun _ h => trS_fin h) k _ ha
      have HN := Lib.hid (itr_next trS k a)
      generalize itr trS k a = z at *
      obtain ⟨s, V, s', U, h1, h2⟩ := hf
      obtain ⟨hz, -⟩ := ngS_fs h2
      have R : ∀ t w, (binOp .sub t (.float .f32 0) (.float .f32 z.2)).run Try.prog w = .ok (.float .f32 (ngS z.2)) w := fun t w => run_float_arith w .sub t .f32 _ _ _ hz
      have HT : Hid (trS z = (ngS z.2, z.1)) := Lib.hid rfl
      clear h1 h2 hz
      generalize ngS z.2 = u at *
      go_wp2_with (first | rw [R])
      go_round
      case rel => exact ⟨k + 1, by omega, by go_num, by rw [HN.out, HT.out]⟩
      case measure => simp [intOf]; omega
    · obtain rfl : k = t := by omega
      have hf : FinS (itr trS k a) := itr_keep (P := FinS) (fun _ h => trS_fin h) k _ ha
      have HS : Hid (stS k h a = itr hlS h (itr trS k a)) := Lib.hid rfl
      generalize itr trS k a = a0 at *
      go_wp2_with fail
      clear d1
      go_loop [0, 6] (fun z i => ∃ k : Nat, k ≤ h ∧ i = .int .i64 k ∧ z = .complex .f32 (itr hlS k a0).1 (itr hlS k a0).2) (fun _ i => h - (intOf i).toNat)
      case atStart => exact ⟨0, Nat.zero_le _, rfl, rfl⟩
      case round =>
        obtain ⟨m, hk, rfl, rfl⟩ := hrel
        by_cases hlt : m < h
        · have hf : FinS (itr hlS m a0) := itr_keep (P := FinS) (fun _ h => hlS_fin h) m _ hf
          have HN := Lib.hid (itr_next hlS m a0)
          generalize itr hlS m a0 = z at *
          obtain ⟨s, V, s', U, h1, h2⟩ := hf
          obtain ⟨hz1, -⟩ := hvS_fs h1
          obtain ⟨hz2, -⟩ := hvS_fs h2
          have R1 : ∀ t w, (binOp .quo t (.float .f32 z.1) (.float .f32 1073741824)).run Try.prog w = .ok (.float .f32 (hvS z.1)) w := fun t w => run_float_arith w .quo t .f32 _ _ _ hz1
          have R2 : ∀ t w, (binOp .quo t (.float .f32 z.2) (.float .f32 1073741824)).run Try.prog w = .ok (.float .f32 (hvS z.2)) w := fun t w => run_float_arith w .quo t .f32 _ _ _ hz2
          have HT : Hid (hlS z = (hvS z.1, hvS z.2)) := Lib.hid rfl
          clear h1 h2 hz1 hz2
          generalize hvS z.2 = u2 at *
          generalize hvS z.1 = u1 at *
          go_wp2_with (first | rw [R1] | rw [R2])
          go_round
          case rel => exact ⟨m + 1, by omega, by go_num, by rw [HN.out, HT.out]⟩
          case measure => simp [intOf]; omega
        · obtain rfl : m = h := by omega
          rw [← HS.out]
          clear HS
          go_wp2
          go_ret
          exact ⟨rfl, HB.out⟩
set_option maxHeartbeats 1000000 in
theorem specWide_any (a : Pn) (t h : Nat) (ha : FinD a) (b : Pn) (w : World) (ht : t ≤ 3) (hh : h ≤ 4) :
    Calls Try.prog 49 #[.complex .f64 a.1 a.2, sW b t h] w fun e w' => e = .returned (.complex .f64 (stD t h a).1 (stD t h a).2) ∧ Below w.heap.size w w' := by
  have hL : BlkAt (w.alloc (.cells #[.complex .f32 b.1 b.2, .int .i64 t, .int .i64 h] 25)) w.heap.size 25 #[.complex .f32 b.1 b.2, .int .i64 t, .int .i64 h] := BlkAt.newAt rfl rfl
  have hB := bel1 w (.cells #[.complex .f32 b.1 b.2, .int .i64 t, .int .i64 h] 25)
  go_enter Try.func49, Try.ntmps49
  go_upto_region 1 with fail
  show Code.wp _ _ _ _ (w.alloc (.cells #[.complex .f32 b.1 b.2, .int .i64 t, .int .i64 h] 25))
  generalize (w.alloc (.cells #[.complex .f32 b.1 b.2, .int .i64 t, .int .i64 h] 25)) = W at *
  have d1 := hL.cell (k := 1) rfl
  have d2 := hL.cell (k := 2) rfl
  have HB := Lib.hid hB
  clear hL hB
  go_wp2_with fail
  go_loop [0, 5] (fun z i => ∃ k : Nat, k ≤ t ∧ i = .int .i64 k ∧ z = .complex .f64 (itr trD k a).1 (itr trD k a).2) (fun _ i => t - (intOf i).toNat)
  case atStart => exact ⟨0, Nat.zero_le _, rfl, rfl⟩
  case round =>
    obtain ⟨k, hk, rfl, rfl⟩ := hrel
    by_cases hlt : k < t
    · have hf : FinD (itr trD k a) := itr_keep (P := FinD) (fun _ h => trD_fin h) k _ ha
      have HN := Lib.hid (itr_next trD k a)
      generalize itr trD k a = z at *
      obtain ⟨s, V, s', U, h1, h2⟩ := hf
      obtain ⟨hz, -⟩ := ngD_fd h2
      have R : ∀ t w, (binOp .sub t (.float .f64 0) (.float .f64 z.2)).run Try.prog w = .ok (.float .f64 (ngD z.2)) w := fun t w => run_float_arith w .sub t .f64 _ _ _ hz
      have HT : Hid (trD z = (ngD z.2, z.1)) := Lib.hid rfl
      clear h1 h2 hz
      generalize ngD z.2 = u at *
      go_wp2_with (first | rw [R])
      go_round
      case rel => exact ⟨k + 1, by omega, by go_num, by rw [HN.out, HT.out]⟩
      case measure => simp [intOf]; omega
    · obtain rfl : k = t := by omega
      have hf : FinD (itr trD k a) := itr_keep (P := FinD) (fun _ h => trD_fin h) k _ ha
      have HS : Hid (stD k h a = itr hlD h (itr trD k a)) := Lib.hid rfl
      generalize itr trD k a = a0 at *
      go_wp2_with fail
      clear d1
      go_loop [0, 6] (fun z i => ∃ k : Nat, k ≤ h ∧ i = .int .i64 k ∧ z = .complex .f64 (itr hlD k a0).1 (itr hlD k a0).2) (fun _ i => h - (intOf i).toNat)
      case atStart => exact ⟨0, Nat.zero_le _, rfl, rfl⟩
      case round =>
        obtain ⟨m, hk, rfl, rfl⟩ := hrel
        by_cases hlt : m < h
        · have hf : FinD (itr hlD m a0) := itr_keep (P := FinD) (fun _ h => hlD_fin h) m _ hf
          have HN := Lib.hid (itr_next hlD m a0)
          generalize itr hlD m a0 = z at *
          obtain ⟨s, V, s', U, h1, h2⟩ := hf
          obtain ⟨hz1, -⟩ := hvD_fd h1
          obtain ⟨hz2, -⟩ := hvD_fd h2
          have R1 : ∀ t w, (binOp .quo t (.float .f64 z.1) (.float .f64 4611686018427387904)).run Try.prog w = .ok (.float .f64 (hvD z.1)) w := fun t w => run_float_arith w .quo t .f64 _ _ _ hz1
          have R2 : ∀ t w, (binOp .quo t (.float .f64 z.2) (.float .f64 4611686018427387904)).run Try.prog w = .ok (.float .f64 (hvD z.2)) w := fun t w => run_float_arith w .quo t .f64 _ _ _ hz2
          have HT : Hid (hlD z = (hvD z.1, hvD z.2)) := Lib.hid rfl
          clear h1 h2 hz1 hz2
          generalize hvD z.2 = u2 at *
          generalize hvD z.1 = u1 at *
          go_wp2_with (first | rw [R1] | rw [R2])
          go_round
          case rel => exact ⟨m + 1, by omega, by go_num, by rw [HN.out, HT.out]⟩
          case measure => simp [intOf]; omega
        · obtain rfl : m = h := by omega
          rw [← HS.out]
          clear HS
          go_wp2
          go_ret
          exact ⟨rfl, HB.out⟩
theorem FinS_wd {a : Pn} {s t : Bool} {V W : Nat} (h1 : FS a.1 s V) (h2 : FS a.2 t W) : FinD (wdP a) := wdP_fin ⟨_, _, _, _, h1, h2⟩
set_option maxHeartbeats 1000000 in
theorem specSwingAt_any (a : Pn) (t h n : Int) (w : World) : Calls Try.prog 17 #[sW a t h, .int .i64 n] w fun e w' => e = .returned (.tuple #[.complex .f32 (swS a t h n).1 (swS a t h n).2, .bool (mkW' a t h n)]) ∧ Below w.heap.size w w' := by
  have C := fun w => specSwingValid_any a t h w
  have N1 := fun w => specIn_sw n 0 400 w
  have hmk : mkW' a t h n = (okW a t h && (decide (0 ≤ n) && decide (n ≤ 400))) := by unfold mkW'; rw [Bool.decide_and]
  cases o : mkW' a t h n with
  | false =>
    have hr : swS a t h n = (0, 0) := by unfold swS; rw [o]; rfl
    rw [hr]
    rw [o] at hmk
    clear o hr
    cases v : okW a t h with
    | false =>
      rw [v] at C
      clear v hmk N1
      go_enter Try.func17, Try.ntmps17
      go_wp2_with fail
      refine (C _).mono ?_; rintro e w2 ⟨rfl, hb⟩
      have HB := Lib.hid (belT (bel1 _ _) hb)
      clear hb C
      go_wp2_with fail
      go_ret2
      exact ⟨rfl, HB.out⟩
    | true =>
      rw [v] at C hmk
      rw [Bool.true_and] at hmk
      rw [← hmk] at N1
      clear v hmk
      go_enter Try.func17, Try.ntmps17
      go_wp2_with fail
      refine (C _).mono ?_; rintro e w2 ⟨rfl, hb⟩
      have HB := Lib.hid (belT (bel1 _ _) hb)
      clear hb C
      go_wp2_with fail
      refine (N1 _).mono ?_; rintro e w3 ⟨rfl, rfl⟩
      clear N1
      go_wp2_with fail
      go_ret2
      exact ⟨rfl, HB.out⟩
  | true =>
    obtain ⟨v1, v2⟩ := mkW_parts o
    obtain ⟨ha, ht, hh⟩ := okW_parts v1
    generalize hres : swS a t h n = res
    unfold swS at hres
    rw [o, if_pos rfl] at hres
    rw [v1] at C
    rw [show (decide (0 ≤ n) && decide (n ≤ 400)) = true by simp; omega] at N1
    clear o v1 hmk
    obtain ⟨T, rfl⟩ : ∃ T : Nat, t = T := ⟨t.toNat, by omega⟩
    obtain ⟨H, rfl⟩ : ∃ H : Nat, h = H := ⟨h.toNat, by omega⟩
    obtain ⟨m, rfl⟩ : ∃ k : Nat, n = k := ⟨n.toNat, by omega⟩
    rw [Int.toNat_natCast, Int.toNat_natCast, Int.toNat_natCast] at hres
    have HRES := Lib.hid hres
    have HL : Hid (BlkAt (w.alloc (.cells #[.complex .f32 a.1 a.2, .int .i64 T, .int .i64 H] 25)) w.heap.size 25 #[.complex .f32 a.1 a.2, .int .i64 T, .int .i64 H]) := BlkAt.newAt rfl rfl
    have hT : T ≤ 3 := by omega
    have hH : H ≤ 4 := by omega
    have hM : m ≤ 400 := by omega
    clear hres ht hh v2
    go_enter Try.func17, Try.ntmps17
    go_wp2_with fail
    refine (C _).mono ?_; rintro e w2 ⟨rfl, hb⟩
    have HB := Lib.hid (belT (bel1 _ _) hb)
    have hL := HL.out.below hb
    have c0 := hL.cell (k := 0) rfl
    have HL2 := Lib.hid hL
    clear hb C hL HL
    go_wp2_with fail
    refine (N1 _).mono ?_; rintro e w3 ⟨rfl, rfl⟩
    clear N1
    go_wp2_with fail
    
    go_loopw [6, 7] (fun z u wr => ∃ k : Nat, k ≤ m ∧ u = .int .i64 k ∧ z = .complex .f32 (rnS T H k a).1 (rnS T H k a).2 ∧ BlkAt wr w.heap.size 25 #[.complex .f32 a.1 a.2, .int .i64 T, .int .i64 H] ∧ Below w.heap.size w wr) (fun _ u _ => m - (intOf u).toNat)
    case atStart => exact ⟨0, Nat.zero_le _, rfl, rfl, HL2.out, HB.out⟩
    case round =>
      clear c0 HL2 HB
      obtain ⟨k, hk, rfl, rfl, hL, hB⟩ := hrel
      by_cases hlt : k < m
      · have hf := rnS_fin (t := T) (h := H) k ha
        have C := fun w => specSingle_any _ T H hf a w hT hH
        have HN := Lib.hid (rnS_next T H k a)
        generalize rnS T H k a = z at *
        generalize stS T H z = y at *
        have d0 := hL.cell (k := 0) rfl
        have d1 := hL.cell (k := 1) rfl
        have d2 := hL.cell (k := 2) rfl
        have HL := Lib.hid hL
        have HB := Lib.hid hB
        clear hf hL hB
        go_wp2_with fail
        refine (C _).mono ?_; rintro e w4 ⟨rfl, hb⟩
        have HL4 := Lib.hid (HL.out.below hb)
        have HB4 := Lib.hid (belT HB.out hb)
        clear d0 d1 d2 hb HL HB C
        go_wp2
        go_roundw
        case rel => exact ⟨k + 1, by omega, by go_num, by rw [HN.out], HL4.out, HB4.out⟩
        case measure => simp [intOf]; omega
      · obtain rfl : k = m := by omega
        rw [HRES.out]
        have HB := Lib.hid hB
        clear hL hB
        go_wp2
        go_ret2
        exact ⟨rfl, HB.out⟩
set_option maxHeartbeats 1000000 in
theorem specSwingWide_any (a : Pn) (t h n : Int) (w : World) : Calls Try.prog 20 #[sW a t h, .int .i64 n] w fun e w' => e = .returned (.tuple #[.complex .f64 (swD a t h n).1 (swD a t h n).2, .bool (mkW' a t h n)]) ∧ Below w.heap.size w w' := by
  have C := fun w => specSwingValid_any a t h w
  have N1 := fun w => specIn_sw n 0 400 w
  have hmk : mkW' a t h n = (okW a t h && (decide (0 ≤ n) && decide (n ≤ 400))) := by unfold mkW'; rw [Bool.decide_and]
  cases o : mkW' a t h n with
  | false =>
    have hr : swD a t h n = (0, 0) := by unfold swD; rw [o]; rfl
    rw [hr]
    rw [o] at hmk
    clear o hr
    cases v : okW a t h with
    | false =>
      rw [v] at C
      clear v hmk N1
      go_enter Try.func20, Try.ntmps20
      go_wp2_with fail
      refine (C _).mono ?_; rintro e w2 ⟨rfl, hb⟩
      have HB := Lib.hid (belT (bel1 _ _) hb)
      clear hb C
      go_wp2_with fail
      go_ret2
      exact ⟨rfl, HB.out⟩
    | true =>
      rw [v] at C hmk
      rw [Bool.true_and] at hmk
      rw [← hmk] at N1
      clear v hmk
      go_enter Try.func20, Try.ntmps20
      go_wp2_with fail
      refine (C _).mono ?_; rintro e w2 ⟨rfl, hb⟩
      have HB := Lib.hid (belT (bel1 _ _) hb)
      clear hb C
      go_wp2_with fail
      refine (N1 _).mono ?_; rintro e w3 ⟨rfl, rfl⟩
      clear N1
      go_wp2_with fail
      go_ret2
      exact ⟨rfl, HB.out⟩
  | true =>
    obtain ⟨v1, v2⟩ := mkW_parts o
    obtain ⟨ha, ht, hh⟩ := okW_parts v1
    generalize hres : swD a t h n = res
    unfold swD at hres
    rw [o, if_pos rfl] at hres
    rw [v1] at C
    rw [show (decide (0 ≤ n) && decide (n ≤ 400)) = true by simp; omega] at N1
    clear o v1 hmk
    obtain ⟨T, rfl⟩ : ∃ T : Nat, t = T := ⟨t.toNat, by omega⟩
    obtain ⟨H, rfl⟩ : ∃ H : Nat, h = H := ⟨h.toNat, by omega⟩
    obtain ⟨m, rfl⟩ : ∃ k : Nat, n = k := ⟨n.toNat, by omega⟩
    rw [Int.toNat_natCast, Int.toNat_natCast, Int.toNat_natCast] at hres
    have HRES := Lib.hid hres
    obtain ⟨s, V, s', U, h1, h2⟩ := ha
    have R := fun w => run_wider (wdW_fd h1).1 (wdW_fd h2).1 w
    unfold cs cw at R
    have ha := FinS_wd h1 h2
    clear h1 h2
    have HR2 : Hid ((wdP a).1 = wdW a.1 ∧ (wdP a).2 = wdW a.2) := Lib.hid ⟨rfl, rfl⟩
    have HL : Hid (BlkAt (w.alloc (.cells #[.complex .f32 a.1 a.2, .int .i64 T, .int .i64 H] 25)) w.heap.size 25 #[.complex .f32 a.1 a.2, .int .i64 T, .int .i64 H]) := BlkAt.newAt rfl rfl
    have hT : T ≤ 3 := by omega
    have hH : H ≤ 4 := by omega
    have hM : m ≤ 400 := by omega
    clear hres ht hh v2
    go_enter Try.func20, Try.ntmps20
    go_wp2_with fail
    refine (C _).mono ?_; rintro e w2 ⟨rfl, hb⟩
    have HB := Lib.hid (belT (bel1 _ _) hb)
    have hL := HL.out.below hb
    have c0 := hL.cell (k := 0) rfl
    have HL2 := Lib.hid hL
    clear hb C hL HL
    go_wp2_with fail
    refine (N1 _).mono ?_; rintro e w3 ⟨rfl, rfl⟩
    clear N1
    go_wp2_with (first | rw [R])
    rw [← HR2.out.1, ← HR2.out.2]
    go_loopw [6, 7] (fun z u wr => ∃ k : Nat, k ≤ m ∧ u = .int .i64 k ∧ z = .complex .f64 (rnD T H k (wdP a)).1 (rnD T H k (wdP a)).2 ∧ BlkAt wr w.heap.size 25 #[.complex .f32 a.1 a.2, .int .i64 T, .int .i64 H] ∧ Below w.heap.size w wr) (fun _ u _ => m - (intOf u).toNat)
    case atStart => exact ⟨0, Nat.zero_le _, rfl, rfl, HL2.out, HB.out⟩
    case round =>
      clear c0 HL2 HB
      obtain ⟨k, hk, rfl, rfl, hL, hB⟩ := hrel
      by_cases hlt : k < m
      · have hf := rnD_fin (t := T) (h := H) k ha
        have C := fun w => specWide_any _ T H hf a w hT hH
        have HN := Lib.hid (rnD_next T H k (wdP a))
        generalize rnD T H k (wdP a) = z at *
        generalize stD T H z = y at *
        have d0 := hL.cell (k := 0) rfl
        have d1 := hL.cell (k := 1) rfl
        have d2 := hL.cell (k := 2) rfl
        have HL := Lib.hid hL
        have HB := Lib.hid hB
        clear hf hL hB
        go_wp2_with fail
        refine (C _).mono ?_; rintro e w4 ⟨rfl, hb⟩
        have HL4 := Lib.hid (HL.out.below hb)
        have HB4 := Lib.hid (belT HB.out hb)
        clear d0 d1 d2 hb HL HB C
        go_wp2
        go_roundw
        case rel => exact ⟨k + 1, by omega, by go_num, by rw [HN.out], HL4.out, HB4.out⟩
        case measure => simp [intOf]; omega
      · obtain rfl : k = m := by omega
        rw [HRES.out]
        have HB := Lib.hid hB
        clear hL hB
        go_wp2
        go_ret2
        exact ⟨rfl, HB.out⟩
end Go.Proofs.Ytpbppgaohfgpbaa
