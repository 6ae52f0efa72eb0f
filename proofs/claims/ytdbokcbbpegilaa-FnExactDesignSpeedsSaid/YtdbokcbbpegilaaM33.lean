/-
  What the walks of chapter 7's exact laws share.
-/
import Derived.Test.YtdbokcbbpegilaaM16
import Derived.Test.YtdbokcbbpegilaaM21
/- What the walks of chapter 7's exact laws share. -/
namespace Go.Proofs.Ytdbokcbbpegilaa
set_option maxRecDepth 20000
open Go.ChangeShapes Go.WideShapes Go.ChangeAt Go.RowKit
set_option linter.unusedVariables false
set_option linter.unusedSimpArgs false

theorem eqI_any {w : World} {B C T U : Nat} {v u : Value} {xs : List Int} (h : OwnL encI 1 w B T v xs) (h2 : OwnL encI 1 w C U u xs) (hl : xs.length ≤ 1000000) :
    Calls Try.prog 50 #[v, u] w fun e w' => e = .returned (.bool true) ∧ Below w.heap.size w w' := by
  refine (eqInts_yes v u xs w (intsAt_of_own (own_ints h)) (intsAt_of_own (own_ints h2)) hl).mono ?_
  rintro e w' ⟨rfl, m, rfl⟩
  exact ⟨rfl, below_drewN (Below.refl _ _) m⟩
theorem markI_any {w : World} {B : Nat} {v : Value} {xs : List Int} (h : OwnL encI 1 w B 3 v xs) (hl : xs.length ≤ 1000000) :
    Calls Try.prog 52 #[v, .int .i64 1] w fun e w' => e = .returned (.int .i64 (1 + (xs.length : Int))) ∧ w'.ownsRow B 3 1 v xs.length ((marks 1 xs.length).map (Value.int .i64)) ∧ w.grownBy w' v.ownBlock := by
  have h1 := own_ints h
  have h2 := h.2
  rcases h2 with ⟨rfl, h0⟩ | ⟨g, cap, cur, rfl, _⟩
  · refine (markInts_nil 1 w).mono ?_
    rintro e w' ⟨rfl, rfl⟩
    refine ⟨by rw [h0]; rfl, ?_, World.grownBy.refl _ _⟩
    rw [h0]; exact World.ownsRow_nil _ _ _ _
  · exact markInts_own B g xs.length cap xs w h1 hl 1 (by omega) (by omega)
theorem heldI_any {w : World} {B T n : Nat} {v : Value} (h : w.ownsRow B T 1 v n ((marks 1 n).map (Value.int .i64))) (hl : n ≤ 1000000) :
    Calls Try.prog 53 #[v, .int .i64 1] w fun e w' => e = .returned (.int .i64 (1 + (n : Int))) ∧ w = w' :=
  heldInts_yes v n 1 w (intsAt_of_own h) hl (by omega) (by omega)
theorem marked_number (n : Nat) : ∃ M : Int, Aside ((1 + (n : Int)) = M) ∧ ¬ M < 0 ∧ (M != M) = false := ⟨_, (show _ = _ from rfl), by omega, by simp⟩
def BitI (w : World) (o : Option (List Int)) (bit : Bool) (e : Ending) (w' : World) : Prop :=
  Below w.heap.size w w' ∧ ∃ v', e = .returned (.tuple #[v', .bool bit]) ∧ OwnL encI 1 w' w.heap.size 3 v' (o.getD [])
theorem told_bitI {w w' : World} {o : Option (List Int)} {bit : Bool} {e : Ending} (hb : o.isSome = bit) (h : ToldI w o e w') : BitI w o bit e w' := by
  subst hb
  exact h
theorem sp_short (ws : List Wh) : ((spO ws).getD []).length ≤ 1000000 := by
  unfold spO
  cases h : tid ws with
  | none => simp
  | some R =>
    have := valid_len (tid_in h).2.1.ok
    simp only [Option.map_some, Option.getD_some, spL_len]
    omega

end Go.Proofs.Ytdbokcbbpegilaa
