/-
  Contracts of impl's points in both widths, third part: WidePoint, SinglePoint, PointsFit.
-/
import Derived.Test.YtmbhbocfnpklpaaWideB
namespace Go.Proofs.Ytmbhbocfnpklpaa
set_option maxRecDepth 20000
open Go.ChangeShapes Go.WideShapes Go.ChangeAt Go.RowKit
set_option linter.unusedVariables false
set_option linter.unusedSimpArgs false

theorem WidePoint_yes (a : Nat → Int) (va : okc a = true) (w : World) :
    Calls Try.prog 20 #[pt a] w fun e w' => e = .returned (.tuple #[cw (wpr a 8) (wpi a 8), .bool true]) ∧ Below w.heap.size w w' := by
  have sa := vec_size 8 a
  have P : ∀ w, Calls Try.prog 54 #[pt a] w fun e w' => e = .returned (.tuple #[pt a, .bool true]) ∧ Below w.heap.size w w' := fun w => exactOf_yes a va w
  have M := fun w => widePoint_any a (okc_inR va) w
  unfold pt cw at *
  generalize wpr a 8 = x at *
  generalize wpi a 8 = y at *
  go_enter Try.func20, Try.ntmps20
  go_wp2_with (refine load_row rfl rfl rfl (RowAt.newAt rfl rfl) Try.underlying30 rfl info_cyc ?_)
  refine (P _).mono ?_; rintro e w2 ⟨rfl, hb2⟩
  have hL2 := wb_next (wb_one _ _) hb2
  clear hb2 P
  go_upto_region 2 with (refine store_row rfl rfl rfl rfl (RowAt.newAt zero8 rfl) info_exact ?_)
  show Code.wp _ _ _ _ (sole w2 a 68)
  have hA3 := sole_first w2 a 68
  have hL3 := sole_below hL2 a 68
  clear hL2
  generalize sole w2 a 68 = W3 at *
  go_wp2_with (refine load_row rfl rfl rfl hA3 Try.underlying68 rfl info_exact ?_)
  refine (M _).mono ?_; rintro e w4 ⟨rfl, hb4⟩
  have hL4 := wb_next hL3 hb4
  clear hA3 hL3 hb4 M
  go_wp2_with fail
  go_ret2
  exact ⟨rfl, hL4⟩
theorem WidePoint_no (a : Nat → Int) (va : okc a = false) (w : World) :
    Calls Try.prog 20 #[pt a] w fun e w' => e = .returned (.tuple #[cw 0 0, .bool false]) ∧ Below w.heap.size w w' := by
  have sa := vec_size 8 a
  have sn := vec_size 8 nul
  have P : ∀ w, Calls Try.prog 54 #[pt a] w fun e w' => e = .returned (.tuple #[pt nul, .bool false]) ∧ Below w.heap.size w w' := fun w => exactOf_no a va w
  unfold pt cw at *
  go_enter Try.func20, Try.ntmps20
  go_wp2_with (refine load_row rfl rfl rfl (RowAt.newAt rfl rfl) Try.underlying30 rfl info_cyc ?_)
  refine (P _).mono ?_; rintro e w2 ⟨rfl, hb2⟩
  have hL2 := wb_next (wb_one _ _) hb2
  clear hb2 P
  go_upto_region 2 with (refine store_row rfl rfl rfl rfl (RowAt.newAt zero8 rfl) info_exact ?_)
  show Code.wp _ _ _ _ (sole w2 nul 68)
  have hL3 := sole_below hL2 nul 68
  clear hL2
  generalize sole w2 nul 68 = W3 at *
  go_wp2_with fail
  go_ret2
  exact ⟨rfl, hL3⟩
theorem SinglePoint_yes (a : Nat → Int) (va : okc a = true) (w : World) :
    Calls Try.prog 32 #[pt a] w fun e w' => e = .returned (.tuple #[cs (spr a 8) (spi a 8), .bool true]) ∧ Below w.heap.size w w' := by
  have sa := vec_size 8 a
  have P : ∀ w, Calls Try.prog 54 #[pt a] w fun e w' => e = .returned (.tuple #[pt a, .bool true]) ∧ Below w.heap.size w w' := fun w => exactOf_yes a va w
  have M := fun w => singlePoint_any a (okc_inR va) w
  unfold pt cs at *
  generalize spr a 8 = x at *
  generalize spi a 8 = y at *
  go_enter Try.func32, Try.ntmps32
  go_wp2_with (refine load_row rfl rfl rfl (RowAt.newAt rfl rfl) Try.underlying30 rfl info_cyc ?_)
  refine (P _).mono ?_; rintro e w2 ⟨rfl, hb2⟩
  have hL2 := wb_next (wb_one _ _) hb2
  clear hb2 P
  go_upto_region 2 with (refine store_row rfl rfl rfl rfl (RowAt.newAt zero8 rfl) info_exact ?_)
  show Code.wp _ _ _ _ (sole w2 a 68)
  have hA3 := sole_first w2 a 68
  have hL3 := sole_below hL2 a 68
  clear hL2
  generalize sole w2 a 68 = W3 at *
  go_wp2_with (refine load_row rfl rfl rfl hA3 Try.underlying68 rfl info_exact ?_)
  refine (M _).mono ?_; rintro e w4 ⟨rfl, hb4⟩
  have hL4 := wb_next hL3 hb4
  clear hA3 hL3 hb4 M
  go_wp2_with fail
  go_ret2
  exact ⟨rfl, hL4⟩
theorem SinglePoint_no (a : Nat → Int) (va : okc a = false) (w : World) :
    Calls Try.prog 32 #[pt a] w fun e w' => e = .returned (.tuple #[cs 0 0, .bool false]) ∧ Below w.heap.size w w' := by
  have sa := vec_size 8 a
  have sn := vec_size 8 nul
  have P : ∀ w, Calls Try.prog 54 #[pt a] w fun e w' => e = .returned (.tuple #[pt nul, .bool false]) ∧ Below w.heap.size w w' := fun w => exactOf_no a va w
  unfold pt cs at *
  go_enter Try.func32, Try.ntmps32
  go_wp2_with (refine load_row rfl rfl rfl (RowAt.newAt rfl rfl) Try.underlying30 rfl info_cyc ?_)
  refine (P _).mono ?_; rintro e w2 ⟨rfl, hb2⟩
  have hL2 := wb_next (wb_one _ _) hb2
  clear hb2 P
  go_upto_region 2 with (refine store_row rfl rfl rfl rfl (RowAt.newAt zero8 rfl) info_exact ?_)
  show Code.wp _ _ _ _ (sole w2 nul 68)
  have hL3 := sole_below hL2 nul 68
  clear hL2
  generalize sole w2 nul 68 = W3 at *
  go_wp2_with fail
  go_ret2
  exact ⟨rfl, hL3⟩
end Go.Proofs.Ytmbhbocfnpklpaa
