/-
  Contracts of impl's halves and radicals: structs of 64-bit numbers to calculate with.
-/
import Derived.Test.YtmbhbocfnpklpaaSurdA
import Derived.Test.YtmbhbocfnpklpaaVec
import Derived.Deep.RegionWith
import Derived.StillTailTactics
namespace Go.Proofs.Ytmbhbocfnpklpaa
set_option maxRecDepth 20000
open Go.ChangeShapes Go.WideShapes Go.ChangeAt Go.RowKit
set_option linter.unusedVariables false
set_option linter.unusedSimpArgs false

theorem mul_in {x y : Int} (X Y : Nat) (hx : -(X : Int) ≤ x ∧ x ≤ X) (hy : -(Y : Int) ≤ y ∧ y ≤ Y) : -((X * Y : Nat) : Int) ≤ x * y ∧ x * y ≤ ((X * Y : Nat) : Int) := by
  have h1 : x.natAbs ≤ X := by omega
  have h2 : y.natAbs ≤ Y := by omega
  have h3 : (x * y).natAbs ≤ X * Y := by rw [Int.natAbs_mul]; exact Nat.mul_le_mul h1 h2
  omega

/-- A half, a radical: as values. -/
def hv (a b : Int) : Value := .agg #[.int .i64 a, .int .i64 b]
def sv (a b c e : Int) : Value := .agg #[.int .i64 a, .int .i64 b, .int .i64 c, .int .i64 e]

theorem below_one (w : World) (o : Obj) : Below w.heap.size w (w.alloc o) := (Below.refl _ _).alloc (Nat.le_refl _) _
theorem below_two (w : World) (o p : Obj) : Below w.heap.size w ((w.alloc o).alloc p) := (below_one w o).alloc (by simp) _
theorem below_three (w : World) (o p q : Obj) : Below w.heap.size w (((w.alloc o).alloc p).alloc q) := (below_two w o p).alloc (by simp; omega) _
def okr (a b c d : Int) : Bool := rng a && rng b && rng c && rng d
theorem rvalid_any (a b c d : Int) (w : World) :
    Calls Try.prog 76 #[sv a b c d] w fun e w' => e = .returned (.bool (okr a b c d)) ∧ w' = w.alloc (.cells #[.int .i64 a, .int .i64 b, .int .i64 c, .int .i64 d] 76) := by
  unfold sv
  cases p : rng a
  · go_enter Try.func76, Try.ntmps76
    go_wp2_with (refine (inRange_any _ _).mono ?_; rintro e w' ⟨rfl, rfl⟩)
    go_ret
    exact ⟨ret_bool (by simp [okr, *]), rfl⟩
  cases q : rng b
  · go_enter Try.func76, Try.ntmps76
    go_wp2_with (refine (inRange_any _ _).mono ?_; rintro e w' ⟨rfl, rfl⟩)
    go_ret
    exact ⟨ret_bool (by simp [okr, *]), rfl⟩
  cases r : rng c
  · go_enter Try.func76, Try.ntmps76
    go_wp2_with (refine (inRange_any _ _).mono ?_; rintro e w' ⟨rfl, rfl⟩)
    go_ret
    exact ⟨ret_bool (by simp [okr, *]), rfl⟩
  go_enter Try.func76, Try.ntmps76
  go_wp2_with (refine (inRange_any _ _).mono ?_; rintro e w' ⟨rfl, rfl⟩)
  go_ret
  exact ⟨ret_bool (by simp [okr, *]), rfl⟩

theorem calm {P : Program} {f : FuncId} {args : Array Value} {w x : World} {v : Value} (hx : ∃ m, x = w.drewN m) (h : Calls P f args x fun e w' => e = .returned v ∧ x = w') :
    Calls P f args x fun e w'' => e = .returned v ∧ ∃ m, w'' = w.drewN m := h.mono fun _ _ ⟨he, hm⟩ => ⟨he, by obtain ⟨m, e⟩ := hx; exact ⟨m, by rw [← hm, e]⟩⟩
theorem calm2 {P : Program} {f : FuncId} {args : Array Value} {w : World} {v : Value} {a n : Nat} (h : Calls P f args (w.drewN (a + n)) fun e w' => e = .returned v ∧ w.drewN (a + n) = w') :
    Calls P f args (w.drewN (a + n)) fun e w'' => e = .returned v ∧ ∃ m, w'' = w.drewN (a + m) := h.mono fun _ _ ⟨he, hm⟩ => ⟨he, n, hm.symm⟩
theorem sg1_in (n : Int) : -1 ≤ sg1 n ∧ sg1 n ≤ 1 := by
  unfold sg1
  split
  · omega
  · split <;> omega
theorem sg2_in (a b : Int) : -1 ≤ sg2 a b ∧ sg2 a b ≤ 1 := by
  unfold sg2
  split
  · omega
  · split <;> omega
theorem sg_pair (h l h' l' x y : Int) (e : x = h * 18446744073709551616 + l) (e' : y = h' * 18446744073709551616 + l') (hl : 0 ≤ l) (hl1 : l < 18446744073709551616) (hl' : 0 ≤ l') (hl1' : l' < 18446744073709551616) :
    (if sg1 (h - h') = 0 then sg1 (l - l') else sg1 (h - h')) = sg1 (x - y) := by
  rcases (show h < h' ∨ h = h' ∨ h' < h by omega) with g | g | g
  · rw [sg1_neg (n := h - h') (by omega), if_neg (by decide), sg1_neg (n := x - y) (by omega)]
  · subst g
    rw [sg1_nil (n := h - h) (by omega), if_pos rfl]
    rw [show x - y = l - l' by omega]
  · rw [sg1_pos (n := h - h') (by omega), if_neg (by decide), sg1_pos (n := x - y) (by omega)]
theorem sizes_sq (a : Int) : ((a.natAbs : Nat) : Int) * (a.natAbs : Nat) = a * a := by
  rcases Int.natAbs_eq a with e | e
  · rw [← e]
  · conv => rhs; rw [e]
    rw [Int.neg_mul_neg]
/-! Rows of two and of four. -/
def f2 (a b : Int) : Nat → Int := fun j => if j = 0 then a else b
def f4 (a b c d : Int) : Nat → Int := fun j => if j = 0 then a else if j = 1 then b else if j = 2 then c else d
theorem hv_vec (a b : Int) : hv a b = .agg (vec 2 (f2 a b)) := rfl
theorem sv_vec (a b c d : Int) : sv a b c d = .agg (vec 4 (f4 a b c d)) := rfl
theorem info_radical : (Try.prog.info? 76).map (·.size) = some 4 := by kernel_rfl
theorem info_surd : (Try.prog.info? 43).map (·.size) = some 4 := by kernel_rfl
theorem size_radical (f : Nat → Int) : (Try.prog.info? 76).map (·.size) = some (lst 4 f).length := by rw [lst_length]; exact info_radical
theorem size_surd (f : Nat → Int) : (Try.prog.info? 43).map (·.size) = some (lst 4 f).length := by rw [lst_length]; exact info_surd
end Go.Proofs.Ytmbhbocfnpklpaa
