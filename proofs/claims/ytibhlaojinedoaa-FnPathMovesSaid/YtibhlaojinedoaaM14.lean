/-
  Contracts of impl's single circles.
-/
import Derived.Test.YtibhlaojinedoaaM13
import Derived.Test.YtibhlaojinedoaaM02
import Derived.Deep.RegionHeld
import Derived.Deep.RegionWith
/- Contracts of impl's single circles. -/
namespace Go.Proofs.Ytibhlaojinedoaa
set_option maxRecDepth 20000
open Go.ChangeShapes Go.WideShapes Go.ChangeAt Go.RowKit
set_option linter.unusedVariables false
set_option linter.unusedSimpArgs false

theorem size_wheel (c : Wh) : (Try.prog.info? 87).map (·.size) = some (enc c).length := by rw [enc_length]; exact info_wheel
theorem size_cyc8 (f : Nat → Int) : (Try.prog.info? 80).map (·.size) = some (lst 8 f).length := by rw [lst_length]; exact info_cyc
/-! The calculations, in radii. -/
theorem pt_tV (a : V) {t : Nat} (ht : t ≤ 23) : pt (trn a.up t) = pt (tV t a).up := pt_same fun j hj => by rw [← tV_trn a ht, up_dn _ j hj]
theorem inR_bound {a : V} (h : okv a = true) : InR a.up := okc_inR h
def Big (a : V) (B : Int) : Prop := ∀ j, j < 8 → -B ≤ a.up j ∧ a.up j ≤ B
theorem big_ok {a : V} (h : okv a = true) : Big a 1000000 := fun j hj => inR_bound h j hj
theorem Big.mono {a : V} {B C : Int} (h : Big a B) (hBC : B ≤ C) : Big a C := fun j hj => by have := h j hj; omega
theorem Big.add {a b : V} {B C : Int} (h : Big a B) (k : Big b C) : Big (V.add a b) (B + C) := fun j hj => by
  have h1 := h j hj
  have h2 := k j hj
  rw [add_up]
  show -(B + C) ≤ a.up j + b.up j ∧ a.up j + b.up j ≤ B + C
  omega
theorem big_zero : Big V.zero 0 := fun j hj => by rw [zero_up]; exact ⟨Int.le_refl _, Int.le_refl _⟩
theorem trn_big {a : Nat → Int} (h : InR a) (t : Nat) (j : Nat) (hj : j < 8) : -4000000 ≤ trn a t j ∧ trn a t j ≤ 4000000 := by
  have hp : ∀ k, -1000000 ≤ tpow a t 8 k ∧ tpow a t 8 k ≤ 1000000 := fun k => by
    unfold tpow
    split
    · rename_i hk; exact h _ hk
    · omega
  unfold trn red
  have h1 := hp j; have h2 := hp (j + 4); have h3 := hp (j + 8); have h4 := hp (j + 12); have h5 := hp (j + 16); have h6 := hp (j + 20)
  split <;> omega
theorem big_tV {a : V} (h : okv a = true) {t : Nat} (ht : t ≤ 23) : Big (tV t a) 4000000 := fun j hj => by
  rw [← tV_trn a ht, up_dn _ j hj]; exact trn_big (inR_bound h) t j hj

/-! A turn, so many times. -/
/-- A speed of a design. -/
theorem inS_bound {s : Int} (h : inS s = true) : -1000 ≤ s ∧ s ≤ 1000 := by
  unfold inS at h
  simpa using h

/-- How two speeds compare. -/
def cfS (a b : Int) : Int := if a < b then -1 else if b < a then 1 else 0
end Go.Proofs.Ytibhlaojinedoaa
