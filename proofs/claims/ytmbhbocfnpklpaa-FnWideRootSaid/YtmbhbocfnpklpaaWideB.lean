/-
  Contracts of impl's points in both widths, second part: the sum of eight terms, the points.
-/
import Derived.Test.YtmbhbocfnpklpaaWideA
import Derived.StillTailTactics
namespace Go.Proofs.Ytmbhbocfnpklpaa
set_option maxRecDepth 20000
open Go.ChangeShapes Go.WideShapes Go.ChangeAt Go.RowKit
set_option linter.unusedVariables false
set_option linter.unusedSimpArgs false

theorem wb_one (w : World) (o : Obj) : Below w.heap.size w (w.alloc o) := (Below.refl _ _).alloc (Nat.le_refl _) _
theorem wb_step {w W : World} (h : Below w.heap.size w W) (o : Obj) : Below w.heap.size w (W.alloc o) := h.alloc h.size o
theorem wb_next {w W W' : World} (h : Below w.heap.size w W) (k : Below W.heap.size W W') : Below w.heap.size w W' := h.trans (k.mono h.size)
theorem pointInWide_any (c : Nat → Int) (hc : Okc c) (w : World) :
    Calls Try.prog 72 #[pt c, .func (.func 73) #[] #[]] w fun e w' => e = .returned (cw (wpr c 8) (wpi c 8)) ∧ Below w.heap.size w w' := by
  unfold pt
  have sa := vec_size 8 c
  go_enter Try.func72, Try.ntmps72
  go_wp2_with (refine load_row rfl rfl rfl (RowAt.newAt rfl rfl) Try.underlying68 rfl info_exact ?_)
  go_loopw [5, 6, 7, 9] (fun x _ _ i wr => ∃ k : Nat, k ≤ 8 ∧ i = .int .i64 k ∧ x = cw (wpr c k) (wpi c k) ∧ Below w.heap.size w wr) (fun _ _ _ i _ => 8 - (intOf i).toNat)
  case atStart => exact ⟨0, Nat.zero_le _, rfl, rfl, ((Below.refl _ _).alloc (Nat.le_refl _) _)⟩
  case round =>
    obtain ⟨k, hk, rfl, rfl, hbel⟩ := hrel
    by_cases hlt : k < 8
    · have ix := fun w => index_exact c hlt w
      have hlt' : (k : Int) < 8 := by omega
      have hk0 : (0 : Int) ≤ (k : Int) := by omega
      obtain ⟨s1, s2⟩ := wide_step hc k hlt
      have R : ∀ t w, (binOp .add t (cw (wpr c k) (wpi c k)) (cw (tmW .f64 (c k) (wDr k)) (tmW .f64 (c k) (wDi k)))).run Try.prog w = .ok (cw (wpr c (k + 1)) (wpi c (k + 1))) w := fun t w => run_complex_sum w .add (Or.inl rfl) t .f64 _ _ _ _ _ _ (by unfold cSumBits; rw [s1, s2]; rfl)
      clear s1 s2
      have C := fun w => wideTerm_any k hlt (c k) (hc k hlt) w
      unfold cw at *
      generalize tmW .f64 (c k) (wDr k) = x at *
      generalize tmW .f64 (c k) (wDi k) = y at *
      have HL := Lib.hid hbel
      clear hbel
      go_wp2_with (first | rw [R] | (go_at_call 73; refine (C _).mono ?_; rintro e w2 ⟨rfl, rfl⟩))
      go_roundw
      case rel => exact ⟨k + 1, by omega, by go_num, rfl, HL.out⟩
      case measure => simp [intOf]; omega
    · obtain rfl : k = 8 := by omega
      have HL := Lib.hid hbel
      clear hbel
      go_wp2
      go_ret
      exact ⟨rfl, HL.out⟩
theorem pointInSingle_any (c : Nat → Int) (hc : Okc c) (w : World) :
    Calls Try.prog 78 #[pt c, .func (.func 79) #[] #[]] w fun e w' => e = .returned (cs (spr c 8) (spi c 8)) ∧ Below w.heap.size w w' := by
  unfold pt
  have sa := vec_size 8 c
  go_enter Try.func78, Try.ntmps78
  go_wp2_with (refine load_row rfl rfl rfl (RowAt.newAt rfl rfl) Try.underlying68 rfl info_exact ?_)
  go_loopw [5, 6, 7, 9] (fun x _ _ i wr => ∃ k : Nat, k ≤ 8 ∧ i = .int .i64 k ∧ x = cs (spr c k) (spi c k) ∧ Below w.heap.size w wr) (fun _ _ _ i _ => 8 - (intOf i).toNat)
  case atStart => exact ⟨0, Nat.zero_le _, rfl, rfl, ((Below.refl _ _).alloc (Nat.le_refl _) _)⟩
  case round =>
    obtain ⟨k, hk, rfl, rfl, hbel⟩ := hrel
    by_cases hlt : k < 8
    · have ix := fun w => index_exact c hlt w
      have hlt' : (k : Int) < 8 := by omega
      have hk0 : (0 : Int) ≤ (k : Int) := by omega
      obtain ⟨s1, s2⟩ := sing_step hc k hlt
      have R : ∀ t w, (binOp .add t (cs (spr c k) (spi c k)) (cs (tmW .f32 (c k) (wSr k)) (tmW .f32 (c k) (wSi k)))).run Try.prog w = .ok (cs (spr c (k + 1)) (spi c (k + 1))) w := fun t w => run_complex_sum w .add (Or.inl rfl) t .f32 _ _ _ _ _ _ (by unfold cSumBits; rw [s1, s2]; rfl)
      clear s1 s2
      have C := fun w => singleTerm_any k hlt (c k) (hc k hlt) w
      unfold cs at *
      generalize tmW .f32 (c k) (wSr k) = x at *
      generalize tmW .f32 (c k) (wSi k) = y at *
      have HL := Lib.hid hbel
      clear hbel
      go_wp2_with (first | rw [R] | (go_at_call 79; refine (C _).mono ?_; rintro e w2 ⟨rfl, rfl⟩))
      go_roundw
      case rel => exact ⟨k + 1, by omega, by go_num, rfl, HL.out⟩
      case measure => simp [intOf]; omega
    · obtain rfl : k = 8 := by omega
      have HL := Lib.hid hbel
      clear hbel
      go_wp2
      go_ret
      exact ⟨rfl, HL.out⟩
theorem widePoint_any (c : Nat → Int) (hc : Okc c) (w : World) :
    Calls Try.prog 55 #[pt c] w fun e w' => e = .returned (cw (wpr c 8) (wpi c 8)) ∧ Below w.heap.size w w' := by
  have C := pointInWide_any c hc
  generalize wpr c 8 = x at *
  generalize wpi c 8 = y at *
  unfold pt cw at *
  have sa := vec_size 8 c
  clear hc
  go_enter Try.func55, Try.ntmps55
  go_wp2_with (first | (refine load_row rfl rfl rfl (RowAt.newAt rfl rfl) Try.underlying68 rfl info_exact ?_) | (go_at_call 72; refine (C _).mono ?_; rintro e w2 ⟨rfl, hb⟩; have hB := Lib.hid (wb_next (wb_one _ _) hb); clear hb))
  go_ret
  exact ⟨rfl, hB.out⟩
theorem singlePoint_any (c : Nat → Int) (hc : Okc c) (w : World) :
    Calls Try.prog 61 #[pt c] w fun e w' => e = .returned (cs (spr c 8) (spi c 8)) ∧ Below w.heap.size w w' := by
  have C := pointInSingle_any c hc
  generalize spr c 8 = x at *
  generalize spi c 8 = y at *
  unfold pt cs at *
  have sa := vec_size 8 c
  clear hc
  go_enter Try.func61, Try.ntmps61
  go_wp2_with (first | (refine load_row rfl rfl rfl (RowAt.newAt rfl rfl) Try.underlying68 rfl info_exact ?_) | (go_at_call 78; refine (C _).mono ?_; rintro e w2 ⟨rfl, hb⟩; have hB := Lib.hid (wb_next (wb_one _ _) hb); clear hb))
  go_ret
  exact ⟨rfl, hB.out⟩
end Go.Proofs.Ytmbhbocfnpklpaa
