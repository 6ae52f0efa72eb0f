/-
  Pens: the mathematics. Words of 32 bits as numbers; paths, grid points, moves.
-/
import Derived.Test.YtibhlaojinedoaaM06
import Derived.Test.YtibhlaojinedoaaM09
/- Pens: the mathematics. Words of 32 bits as numbers; paths, grid points, moves. -/
namespace Go.Proofs.Ytibhlaojinedoaa
set_option maxRecDepth 20000
open Go.ChangeShapes Go.WideShapes Go.ChangeAt Go.RowKit
set_option linter.unusedVariables false
set_option linter.unusedSimpArgs false
open Ieee

/-! ### Words of 32 bits -/
/-- The size of a finite word, in least floats. -/
def szS (x : Nat) : Nat := match single.read x with | .number _ m e => m * 2 ^ (e + (loS : Int)).toNat | _ => 0
def sgS (x : Nat) : Bool := (single.read x).neg
def finS (x : Nat) : Bool := match single.read x with | .number .. => true | _ => false
def ivS (x : Nat) : Int := sgnd (sgS x) (szS x)
def nanS (x : Nat) : Bool := (single.read x).isNaN
theorem fin_fs {x : Nat} (h : finS x = true) : FS x (sgS x) (szS x) := by
  unfold finS at h
  unfold sgS szS FS Fv
  cases hr : single.read x with
  | number s m e =>
    obtain ⟨b, rfl, -, -⟩ := read_shape fmtS hr
    refine ⟨m, b, rfl, ?_⟩
    simp only
    rw [show ((b : Int) - (loS : Int) + (loS : Int)).toNat = b by omega]
  | infinity s => rw [hr] at h; cases h
  | nan s t => rw [hr] at h; cases h
theorem fs_fin {x V : Nat} {s : Bool} (h : FS x s V) : finS x = true ∧ sgS x = s ∧ szS x = V := by
  obtain ⟨m, b, r, rfl⟩ := h
  unfold finS sgS szS
  rw [r]
  refine ⟨rfl, rfl, ?_⟩
  simp only
  rw [show ((b : Int) - (loS : Int) + (loS : Int)).toNat = b by omega]
theorem fs_iv {x V : Nat} {s : Bool} (h : FS x s V) : ivS x = sgnd s V := by
  obtain ⟨-, h1, h2⟩ := fs_fin h
  unfold ivS; rw [h1, h2]
theorem nan_fin {x : Nat} (h : nanS x = true) : finS x = false := by
  unfold nanS at h
  unfold finS
  cases hr : single.read x with
  | number s m e => rw [hr] at h; cases h
  | infinity s => rfl
  | nan s t => rfl
/-- The number 4096, and its opposite, as words. -/
abbrev w4096 : Nat := 1166016512
abbrev n4096 : Nat := 3313500160
theorem pow_loS (k : Nat) (h : k ≤ 149) : 2 ^ loS = 2 ^ (loS - k) * 2 ^ k := by
  rw [← Nat.pow_add, show loS - k + k = loS by have := loS_eq; omega]
theorem fs_const {x : Nat} (s : Bool) (m b : Nat) (place : Int) (h : single.read x = .number s m place) (hp : place = (b : Int) - (loS : Int)) : FS x s (m * 2 ^ b) := ⟨m, b, by rw [h, hp], rfl⟩
theorem fs_4096 : FS w4096 false (4096 * 2 ^ loS) := by
  have e := fs_const (x := w4096) false 8388608 (loS - 11) (-11) (by decide +kernel) (by have := loS_eq; omega)
  rw [show 8388608 * 2 ^ (loS - 11) = 4096 * 2 ^ loS by rw [pow_loS 11 (by omega)]; omega] at e
  exact e
theorem fs_n4096 : FS n4096 true (4096 * 2 ^ loS) := by
  have e := fs_const (x := n4096) true 8388608 (loS - 11) (-11) (by decide +kernel) (by have := loS_eq; omega)
  rw [show 8388608 * 2 ^ (loS - 11) = 4096 * 2 ^ loS by rw [pow_loS 11 (by omega)]; omega] at e
  exact e
/-- A part of a point of a path. -/
def inR (x : Nat) : Bool := finS x && decide (szS x ≤ 4096 * 2 ^ loS)
theorem inR_fin {x : Nat} (h : inR x = true) : finS x = true ∧ szS x ≤ 4096 * 2 ^ loS := by
  unfold inR at h
  rw [Bool.and_eq_true, decide_eq_true_iff] at h
  exact h
theorem inR_not {x : Nat} (h : finS x = false) : inR x = false := by unfold inR; rw [h]; rfl
abbrev Pn := Nat × Nat
def ptR (a : Pn) : Bool := inR a.1 && inR a.2
def ptF (a : Pn) : Bool := finS a.1 && finS a.2
theorem ptR_parts {a : Pn} (h : ptR a = true) : inR a.1 = true ∧ inR a.2 = true := by unfold ptR at h; rwa [Bool.and_eq_true] at h
/-- A list of points is a path. -/
def pvB (xs : List Pn) : Bool := decide (1 ≤ xs.length ∧ xs.length ≤ 100) && xs.all ptR
theorem pvB_parts {xs : List Pn} (h : pvB xs = true) : 1 ≤ xs.length ∧ xs.length ≤ 100 ∧ ∀ a ∈ xs, ptR a = true := by
  unfold pvB at h
  rw [Bool.and_eq_true, decide_eq_true_iff, List.all_eq_true] at h
  exact ⟨h.1.1, h.1.2, h.2⟩
theorem pvB_yes {xs : List Pn} (h1 : 1 ≤ xs.length) (h2 : xs.length ≤ 100) (h : ∀ a ∈ xs, ptR a = true) : pvB xs = true := by
  unfold pvB
  rw [Bool.and_eq_true, decide_eq_true_iff, List.all_eq_true]
  exact ⟨⟨h1, h2⟩, h⟩
theorem pvB_len {xs : List Pn} (h : xs.length < 1 ∨ 100 < xs.length) : pvB xs = false := by
  unfold pvB
  rw [show decide (1 ≤ xs.length ∧ xs.length ≤ 100) = false by rw [decide_eq_false_iff_not]; omega]; rfl
theorem pvB_bad {xs : List Pn} {k : Nat} {a : Pn} (hk : xs[k]? = some a) (h : ptR a = false) : pvB xs = false := by
  cases hb : pvB xs with
  | false => rfl
  | true =>
    have := (pvB_parts hb).2.2 a (List.mem_of_getElem? hk)
    rw [h] at this; cases this
/-- A point's cell; the cells of a move. -/
def encC (a : Pn) : List Value := [.complex .f32 a.1 a.2]
theorem encC_ok : Enc encC 1 := ⟨fun _ => rfl, fun a v hv => by simp [encC] at hv; subst hv; rfl, by decide⟩
abbrev Mv := Int × Int
def encM (m : Mv) : List Value := [.int .i64 m.1, .int .i64 m.2]
theorem encM_ok : Enc encM 2 := ⟨fun _ => rfl, fun a v hv => by simp [encM] at hv; rcases hv with rfl | rfl <;> rfl, by decide⟩
/-! ### Grid points -/
/-- The units of a part. -/
def unI (g : Nat) (v : Int) : Int := rnd 23 (v * 2 ^ g + 2 ^ (loS - 1)) / 2 ^ loS
def gpt (g : Nat) (a : Pn) : Mv := (unI g (ivS a.1), unI g (ivS a.2))
def subM (a b : Mv) : Mv := (a.1 - b.1, a.2 - b.2)
def addM (a b : Mv) : Mv := (a.1 + b.1, a.2 + b.2)
def sumM (xs : List Mv) : Mv := xs.foldl addM (0, 0)
/-- The moves of a path, from the point z on. -/
def movesM (g : Nat) : Pn → List Pn → List Mv
  | _, [] => []
  | z, a :: xs => subM (gpt g a) (gpt g z) :: movesM g a xs
/-! ### Moves -/
def okN (n : Int) : Bool := decide (-10000000 ≤ n ∧ n ≤ 10000000)
def okM (m : Mv) : Bool := okN m.1 && okN m.2
def mvB (xs : List Mv) : Bool := decide (xs.length ≤ 100) && xs.all okM
theorem okM_parts {m : Mv} (h : okM m = true) : (-10000000 ≤ m.1 ∧ m.1 ≤ 10000000) ∧ (-10000000 ≤ m.2 ∧ m.2 ≤ 10000000) := by
  unfold okM okN at h
  rw [Bool.and_eq_true, decide_eq_true_iff, decide_eq_true_iff] at h
  exact h
theorem mvB_parts {xs : List Mv} (h : mvB xs = true) : xs.length ≤ 100 ∧ ∀ a ∈ xs, okM a = true := by
  unfold mvB at h
  rw [Bool.and_eq_true, decide_eq_true_iff, List.all_eq_true] at h
  exact h
theorem mvB_yes {xs : List Mv} (h2 : xs.length ≤ 100) (h : ∀ a ∈ xs, okM a = true) : mvB xs = true := by
  unfold mvB
  rw [Bool.and_eq_true, decide_eq_true_iff, List.all_eq_true]
  exact ⟨h2, h⟩
theorem mvB_len {xs : List Mv} (h : 100 < xs.length) : mvB xs = false := by
  unfold mvB
  rw [show decide (xs.length ≤ 100) = false by rw [decide_eq_false_iff_not]; omega]; rfl
theorem mvB_bad {xs : List Mv} {k : Nat} {a : Mv} (hk : xs[k]? = some a) (h : okM a = false) : mvB xs = false := by
  cases hb : mvB xs with
  | false => rfl
  | true =>
    have := (mvB_parts hb).2 a (List.mem_of_getElem? hk)
    rw [h] at this; cases this
def lenM (m : Mv) : Int := ((m.1.natAbs : Nat) : Int) + ((m.2.natAbs : Nat) : Int)
def lensM (xs : List Mv) : Int := xs.foldl (fun n m => n + lenM m) 0
theorem foldl_next {α β : Type} (f : β → α → β) (b : β) {xs : List α} {k : Nat} {a : α} (h : xs[k]? = some a) : (xs.take (k + 1)).foldl f b = f ((xs.take k).foldl f b) a := by
  rw [List.take_add_one, h, List.foldl_append]; rfl
theorem lensM_next {xs : List Mv} {k : Nat} {a : Mv} (h : xs[k]? = some a) : lensM (xs.take (k + 1)) = lensM (xs.take k) + lenM a := foldl_next _ _ h
theorem sumM_next {xs : List Mv} {k : Nat} {a : Mv} (h : xs[k]? = some a) : sumM (xs.take (k + 1)) = addM (sumM (xs.take k)) a := foldl_next _ _ h
/-- The common divisor of both numbers; the direction. -/
def gcdM (m : Mv) : Nat := Int.gcd m.1 m.2
def dirM (m : Mv) : Mv := (m.1.tdiv (gcdM m), m.2.tdiv (gcdM m))
/-- A move joined to the moves ahead of it. -/
def joinM (R : List Mv) (m : Mv) : List Mv :=
  if m = (0, 0) then R else
  match R.getLast? with
  | none => [m]
  | some l => if dirM l = dirM m then R.dropLast ++ [addM l m] else R ++ [m]
def tidyM (xs : List Mv) : List Mv := xs.foldl joinM []
theorem tidyM_next {xs : List Mv} {k : Nat} {a : Mv} (h : xs[k]? = some a) : tidyM (xs.take (k + 1)) = joinM (tidyM (xs.take k)) a := foldl_next _ _ h
theorem gcdM_zero {m : Mv} : gcdM m = 0 ↔ m = (0, 0) := by
  unfold gcdM
  rw [Int.gcd_eq_zero_iff]
  constructor
  · rintro ⟨h1, h2⟩; exact Prod.ext h1 h2
  · rintro rfl; exact ⟨rfl, rfl⟩
theorem joinM_len (R : List Mv) (m : Mv) : (joinM R m).length ≤ R.length + 1 := by
  unfold joinM
  split
  · omega
  · cases h : R.getLast? with
    | none => simp
    | some l =>
      simp only
      split
      · rw [List.length_append, List.length_dropLast]; simp
      · rw [List.length_append]; simp
theorem foldl_len {α : Type} (f : List α → α → List α) (h : ∀ R a, (f R a).length ≤ R.length + 1) : ∀ (xs R : List α), (xs.foldl f R).length ≤ R.length + xs.length
  | [], R => by simp
  | a :: xs, R => by
    have h1 := foldl_len f h xs (f R a)
    have h2 := h R a
    simp only [List.foldl_cons, List.length_cons]
    omega
theorem tidyM_len (xs : List Mv) : (tidyM xs).length ≤ xs.length := by
  have := foldl_len joinM joinM_len xs []
  unfold tidyM
  simpa using this
/-- Tidy moves are bounded by what they are made of. -/
def big (m : Mv) : Nat := max m.1.natAbs m.2.natAbs
theorem joinM_mem {R : List Mv} {m x : Mv} {B c : Nat} (hR : ∀ y ∈ R, big y ≤ B) (hm : big m ≤ c) (hc : c ≤ B + c) (hx : x ∈ joinM R m) : big x ≤ B + c := by
  unfold joinM at hx
  split at hx
  · have := hR x hx; omega
  · cases h : R.getLast? with
    | none => rw [h] at hx; simp at hx; subst hx; omega
    | some l =>
      rw [h] at hx
      simp only at hx
      have hl := hR l (List.mem_of_getLast? h)
      split at hx
      · rcases List.mem_append.1 hx with hx | hx
        · have := hR x (List.dropLast_subset R hx); omega
        · simp at hx; subst hx
          unfold big addM at *
          omega
      · rcases List.mem_append.1 hx with hx | hx
        · have := hR x hx; omega
        · simp at hx; subst hx; omega
theorem tidyM_big {xs : List Mv} (h : ∀ y ∈ xs, big y ≤ 10000000) : ∀ k, k ≤ xs.length → ∀ y ∈ tidyM (xs.take k), big y ≤ 10000000 * k
  | 0, _, y, hy => by simp [tidyM] at hy
  | k + 1, hk, y, hy => by
    obtain ⟨a, ha⟩ : ∃ a, xs[k]? = some a := ⟨_, List.getElem?_eq_getElem (by omega)⟩
    rw [tidyM_next ha] at hy
    have := joinM_mem (B := 10000000 * k) (c := 10000000) (tidyM_big h k (by omega)) (h a (List.mem_of_getElem? ha)) (by omega) hy
    omega
theorem sumM_big {xs : List Mv} (h : ∀ y ∈ xs, big y ≤ 10000000) : ∀ k, k ≤ xs.length → big (sumM (xs.take k)) ≤ 10000000 * k
  | 0, _ => by simp [sumM, big]
  | k + 1, hk => by
    obtain ⟨a, ha⟩ : ∃ a, xs[k]? = some a := ⟨_, List.getElem?_eq_getElem (by omega)⟩
    rw [sumM_next ha]
    have h1 := sumM_big h k (by omega)
    have h2 := h a (List.mem_of_getElem? ha)
    unfold big addM at *
    omega
theorem ok_big {m : Mv} (h : okM m = true) : big m ≤ 10000000 := by
  have := okM_parts h
  unfold big; omega
/-- No move of a tidy list is nothing. -/
theorem joinM_nz {R : List Mv} {m : Mv} (h : ∀ y ∈ R, y ≠ (0, 0)) : ∀ y ∈ joinM R m, y ≠ (0, 0) := by
  intro y hy
  unfold joinM at hy
  split at hy
  · exact h y hy
  · rename_i hm
    cases hl : R.getLast? with
    | none => rw [hl] at hy; simp at hy; subst hy; exact hm
    | some l =>
      rw [hl] at hy
      simp only at hy
      split at hy
      · rename_i hd
        rcases List.mem_append.1 hy with hy | hy
        · exact h y (List.dropLast_subset R hy)
        · simp at hy; subst hy
          have hln := h l (List.mem_of_getLast? hl)
          -- both are multiples of one direction
          intro he
          have g1 : 0 < gcdM l := Nat.pos_of_ne_zero fun e => hln (gcdM_zero.1 e)
          have g2 : 0 < gcdM m := Nat.pos_of_ne_zero fun e => hm (gcdM_zero.1 e)
          have d1 : dirM l = dirM m := hd
          have l1 : l.1 = (dirM l).1 * (gcdM l : Int) := (Int.tdiv_mul_cancel (Int.gcd_dvd_left l.1 l.2)).symm
          have l2 : l.2 = (dirM l).2 * (gcdM l : Int) := (Int.tdiv_mul_cancel (Int.gcd_dvd_right l.1 l.2)).symm
          have m1 : m.1 = (dirM m).1 * (gcdM m : Int) := (Int.tdiv_mul_cancel (Int.gcd_dvd_left m.1 m.2)).symm
          have m2 : m.2 = (dirM m).2 * (gcdM m : Int) := (Int.tdiv_mul_cancel (Int.gcd_dvd_right m.1 m.2)).symm
          rw [d1] at l1 l2
          have e1 : (dirM m).1 * ((gcdM l : Int) + (gcdM m : Int)) = 0 := by
            rw [Int.mul_add, ← l1, ← m1]; exact congrArg Prod.fst he
          have e2 : (dirM m).2 * ((gcdM l : Int) + (gcdM m : Int)) = 0 := by
            rw [Int.mul_add, ← l2, ← m2]; exact congrArg Prod.snd he
          have f1 : (dirM m).1 = 0 := by
            rcases Int.mul_eq_zero.1 e1 with h | h
            · exact h
            · omega
          have f2 : (dirM m).2 = 0 := by
            rcases Int.mul_eq_zero.1 e2 with h | h
            · exact h
            · omega
          rw [f1, Int.zero_mul] at m1
          rw [f2, Int.zero_mul] at m2
          exact hm (Prod.ext m1 m2)
      · rcases List.mem_append.1 hy with hy | hy
        · exact h y hy
        · simp at hy; subst hy; exact hm
theorem foldl_nz : ∀ (xs R : List Mv), (∀ y ∈ R, y ≠ (0, 0)) → ∀ y ∈ xs.foldl joinM R, y ≠ (0, 0)
  | [], R, h => h
  | a :: xs, R, h => foldl_nz xs (joinM R a) (joinM_nz h)
theorem tidyM_nz (xs : List Mv) : ∀ y ∈ tidyM xs, y ≠ (0, 0) := foldl_nz xs [] (by simp)
end Go.Proofs.Ytibhlaojinedoaa
