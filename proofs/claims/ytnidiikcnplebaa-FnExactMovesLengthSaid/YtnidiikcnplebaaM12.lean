/-
  Pens: the mathematics. Words of 32 bits as numbers; paths, grid points, moves.
  The roots' words in both widths, what they stand for; sums of eight terms, rounded term by term and sum by sum.
  Contracts of impl's points in both widths.
  Contracts of what the laws compare floats with.
-/
import Derived.Test.YtnidiikcnplebaaM11
import Derived.Test.YtnidiikcnplebaaM05
import Derived.Test.YtnidiikcnplebaaM03
import Derived.WalkLawsBesides
/- Pens: the mathematics. Words of 32 bits as numbers; paths, grid points, moves. -/
namespace Go.Proofs.Ytnidiikcnplebaa
set_option maxRecDepth 20000
open Go.ChangeShapes Go.WideShapes Go.ChangeAt Go.RowKit
set_option linter.unusedVariables false
set_option linter.unusedSimpArgs false
open Ieee

/-! ### Words of 32 bits -/
/-- The size of a finite word, in least floats. -/
def szS (x : Nat) : Nat := match single.read x with | .number _ m e => m * 2 ^ (e + (loS : Int)).toNat | _ => 0
def sgS (x : Nat) : Bool := (single.read x).neg
def finS (x : Nat) : Bool := match single.read x with | .number .. => true | _ => false
def ivS (x : Nat) : Int := sgnd (sgS x) (szS x)
def nanS (x : Nat) : Bool := (single.read x).isNaN
theorem fin_fs {x : Nat} (h : finS x = true) : FS x (sgS x) (szS x) := by
  unfold finS at h
  unfold sgS szS FS Fv
  cases hr : single.read x with
  | number s m e =>
    obtain ⟨b, rfl, -, -⟩ := read_shape fmtS hr
    refine ⟨m, b, rfl, ?_⟩
    simp only
    rw [show ((b : Int) - (loS : Int) + (loS : Int)).toNat = b by omega]
  | infinity s => rw [hr] at h; cases h
  | nan s t => rw [hr] at h; cases h
theorem fs_fin {x V : Nat} {s : Bool} (h : FS x s V) : finS x = true ∧ sgS x = s ∧ szS x = V := by
  obtain ⟨m, b, r, rfl⟩ := h
  unfold finS sgS szS
  rw [r]
  refine ⟨rfl, rfl, ?_⟩
  simp only
  rw [show ((b : Int) - (loS : Int) + (loS : Int)).toNat = b by omega]
theorem fs_iv {x V : Nat} {s : Bool} (h : FS x s V) : ivS x = sgnd s V := by
  obtain ⟨-, h1, h2⟩ := fs_fin h
  unfold ivS; rw [h1, h2]
theorem nan_fin {x : Nat} (h : nanS x = true) : finS x = false := by
  unfold nanS at h
  unfold finS
  cases hr : single.read x with
  | number s m e => rw [hr] at h; cases h
  | infinity s => rfl
  | nan s t => rfl
/-- The number 4096, and its opposite, as words. -/
abbrev w4096 : Nat := 1166016512
abbrev n4096 : Nat := 3313500160
theorem pow_loS (k : Nat) (h : k ≤ 149) : 2 ^ loS = 2 ^ (loS - k) * 2 ^ k := by
  rw [← Nat.pow_add, show loS - k + k = loS by have := loS_eq; omega]
theorem fs_const {x : Nat} (s : Bool) (m b : Nat) (place : Int) (h : single.read x = .number s m place) (hp : place = (b : Int) - (loS : Int)) : FS x s (m * 2 ^ b) := ⟨m, b, by rw [h, hp], rfl⟩
theorem fs_4096 : FS w4096 false (4096 * 2 ^ loS) := by
  have e := fs_const (x := w4096) false 8388608 (loS - 11) (-11) (by decide +kernel) (by have := loS_eq; omega)
  rw [show 8388608 * 2 ^ (loS - 11) = 4096 * 2 ^ loS by rw [pow_loS 11 (by omega)]; omega] at e
  exact e
theorem fs_n4096 : FS n4096 true (4096 * 2 ^ loS) := by
  have e := fs_const (x := n4096) true 8388608 (loS - 11) (-11) (by decide +kernel) (by have := loS_eq; omega)
  rw [show 8388608 * 2 ^ (loS - 11) = 4096 * 2 ^ loS by rw [pow_loS 11 (by omega)]; omega] at e
  exact e
/-- A part of a point of a path. -/
def inR (x : Nat) : Bool := finS x && decide (szS x ≤ 4096 * 2 ^ loS)
theorem inR_fin {x : Nat} (h : inR x = true) : finS x = true ∧ szS x ≤ 4096 * 2 ^ loS := by
  unfold inR at h
  rw [Bool.and_eq_true, decide_eq_true_iff] at h
  exact h
theorem inR_not {x : Nat} (h : finS x = false) : inR x = false := by unfold inR; rw [h]; rfl
abbrev Pn := Nat × Nat
def ptR (a : Pn) : Bool := inR a.1 && inR a.2
def ptF (a : Pn) : Bool := finS a.1 && finS a.2
theorem ptR_parts {a : Pn} (h : ptR a = true) : inR a.1 = true ∧ inR a.2 = true := by unfold ptR at h; rwa [Bool.and_eq_true] at h
/-- A list of points is a path. -/
def pvB (xs : List Pn) : Bool := decide (1 ≤ xs.length ∧ xs.length ≤ 100) && xs.all ptR
theorem pvB_parts {xs : List Pn} (h : pvB xs = true) : 1 ≤ xs.length ∧ xs.length ≤ 100 ∧ ∀ a ∈ xs, ptR a = true := by
  unfold pvB at h
  rw [Bool.and_eq_true, decide_eq_true_iff, List.all_eq_true] at h
  exact ⟨h.1.1, h.1.2, h.2⟩
theorem pvB_yes {xs : List Pn} (h1 : 1 ≤ xs.length) (h2 : xs.length ≤ 100) (h : ∀ a ∈ xs, ptR a = true) : pvB xs = true := by
  unfold pvB
  rw [Bool.and_eq_true, decide_eq_true_iff, List.all_eq_true]
  exact ⟨⟨h1, h2⟩, h⟩
theorem pvB_len {xs : List Pn} (h : xs.length < 1 ∨ 100 < xs.length) : pvB xs = false := by
  unfold pvB
  rw [show decide (1 ≤ xs.length ∧ xs.length ≤ 100) = false by rw [decide_eq_false_iff_not]; omega]; rfl
theorem pvB_bad {xs : List Pn} {k : Nat} {a : Pn} (hk : xs[k]? = some a) (h : ptR a = false) : pvB xs = false := by
  cases hb : pvB xs with
  | false => rfl
  | true =>
    have := (pvB_parts hb).2.2 a (List.mem_of_getElem? hk)
    rw [h] at this; cases this
/-- A point's cell; the cells of a move. -/
def encC (a : Pn) : List Value := [.complex .f32 a.1 a.2]
theorem encC_ok : Enc encC 1 := ⟨fun _ => rfl, fun a v hv => by simp [encC] at hv; subst hv; rfl, by decide⟩
abbrev Mv := Int × Int
def encM (m : Mv) : List Value := [.int .i64 m.1, .int .i64 m.2]
theorem encM_ok : Enc encM 2 := ⟨fun _ => rfl, fun a v hv => by simp [encM] at hv; rcases hv with rfl | rfl <;> rfl, by decide⟩
/-! ### Grid points -/
/-- The units of a part. -/
def unI (g : Nat) (v : Int) : Int := rnd 23 (v * 2 ^ g + 2 ^ (loS - 1)) / 2 ^ loS
def gpt (g : Nat) (a : Pn) : Mv := (unI g (ivS a.1), unI g (ivS a.2))
def subM (a b : Mv) : Mv := (a.1 - b.1, a.2 - b.2)
def addM (a b : Mv) : Mv := (a.1 + b.1, a.2 + b.2)
def sumM (xs : List Mv) : Mv := xs.foldl addM (0, 0)
/-- The moves of a path, from the point z on. -/
def movesM (g : Nat) : Pn → List Pn → List Mv
  | _, [] => []
  | z, a :: xs => subM (gpt g a) (gpt g z) :: movesM g a xs
/-! ### Moves -/
def okN (n : Int) : Bool := decide (-10000000 ≤ n ∧ n ≤ 10000000)
def okM (m : Mv) : Bool := okN m.1 && okN m.2
def mvB (xs : List Mv) : Bool := decide (xs.length ≤ 100) && xs.all okM
theorem okM_parts {m : Mv} (h : okM m = true) : (-10000000 ≤ m.1 ∧ m.1 ≤ 10000000) ∧ (-10000000 ≤ m.2 ∧ m.2 ≤ 10000000) := by
  unfold okM okN at h
  rw [Bool.and_eq_true, decide_eq_true_iff, decide_eq_true_iff] at h
  exact h
theorem mvB_parts {xs : List Mv} (h : mvB xs = true) : xs.length ≤ 100 ∧ ∀ a ∈ xs, okM a = true := by
  unfold mvB at h
  rw [Bool.and_eq_true, decide_eq_true_iff, List.all_eq_true] at h
  exact h
theorem mvB_yes {xs : List Mv} (h2 : xs.length ≤ 100) (h : ∀ a ∈ xs, okM a = true) : mvB xs = true := by
  unfold mvB
  rw [Bool.and_eq_true, decide_eq_true_iff, List.all_eq_true]
  exact ⟨h2, h⟩
theorem mvB_len {xs : List Mv} (h : 100 < xs.length) : mvB xs = false := by
  unfold mvB
  rw [show decide (xs.length ≤ 100) = false by rw [decide_eq_false_iff_not]; omega]; rfl
theorem mvB_bad {xs : List Mv} {k : Nat} {a : Mv} (hk : xs[k]? = some a) (h : okM a = false) : mvB xs = false := by
  cases hb : mvB xs with
  | false => rfl
  | true =>
    have := (mvB_parts hb).2 a (List.mem_of_getElem? hk)
    rw [h] at this; cases this
def lenM (m : Mv) : Int := ((m.1.natAbs : Nat) : Int) + ((m.2.natAbs : Nat) : Int)
def lensM (xs : List Mv) : Int := xs.foldl (fun n m => n + lenM m) 0
theorem foldl_next {α β : Type} (f : β → α → β) (b : β) {xs : List α} {k : Nat} {a : α} (h : xs[k]? = some a) : (xs.take (k + 1)).foldl f b = f ((xs.take k).foldl f b) a := by
  rw [List.take_add_one, h, List.foldl_append]; rfl
theorem lensM_next {xs : List Mv} {k : Nat} {a : Mv} (h : xs[k]? = some a) : lensM (xs.take (k + 1)) = lensM (xs.take k) + lenM a := foldl_next _ _ h
theorem sumM_next {xs : List Mv} {k : Nat} {a : Mv} (h : xs[k]? = some a) : sumM (xs.take (k + 1)) = addM (sumM (xs.take k)) a := foldl_next _ _ h
/-- The common divisor of both numbers; the direction. -/
def gcdM (m : Mv) : Nat := Int.gcd m.1 m.2
def dirM (m : Mv) : Mv := (m.1.tdiv (gcdM m), m.2.tdiv (gcdM m))
/-- A move joined to the moves ahead of it. -/
def joinM (R : List Mv) (m : Mv) : List Mv :=
  if m = (0, 0) then R else
  match R.getLast? with
  | none => [m]
  | some l => if dirM l = dirM m then R.dropLast ++ [addM l m] else R ++ [m]
def tidyM (xs : List Mv) : List Mv := xs.foldl joinM []
theorem tidyM_next {xs : List Mv} {k : Nat} {a : Mv} (h : xs[k]? = some a) : tidyM (xs.take (k + 1)) = joinM (tidyM (xs.take k)) a := foldl_next _ _ h
theorem gcdM_zero {m : Mv} : gcdM m = 0 ↔ m = (0, 0) := by
  unfold gcdM
  rw [Int.gcd_eq_zero_iff]
  constructor
  · rintro ⟨h1, h2⟩; exact Prod.ext h1 h2
  · rintro rfl; exact ⟨rfl, rfl⟩
theorem joinM_len (R : List Mv) (m : Mv) : (joinM R m).length ≤ R.length + 1 := by
  unfold joinM
  split
  · omega
  · cases h : R.getLast? with
    | none => simp
    | some l =>
      simp only
      split
      · rw [List.length_append, List.length_dropLast]; simp
      · rw [List.length_append]; simp
theorem foldl_len {α : Type} (f : List α → α → List α) (h : ∀ R a, (f R a).length ≤ R.length + 1) : ∀ (xs R : List α), (xs.foldl f R).length ≤ R.length + xs.length
  | [], R => by simp
  | a :: xs, R => by
    have h1 := foldl_len f h xs (f R a)
    have h2 := h R a
    simp only [List.foldl_cons, List.length_cons]
    omega
theorem tidyM_len (xs : List Mv) : (tidyM xs).length ≤ xs.length := by
  have := foldl_len joinM joinM_len xs []
  unfold tidyM
  simpa using this
/-- Tidy moves are bounded by what they are made of. -/
def big (m : Mv) : Nat := max m.1.natAbs m.2.natAbs
theorem joinM_mem {R : List Mv} {m x : Mv} {B c : Nat} (hR : ∀ y ∈ R, big y ≤ B) (hm : big m ≤ c) (hc : c ≤ B + c) (hx : x ∈ joinM R m) : big x ≤ B + c := by
  unfold joinM at hx
  split at hx
  · have := hR x hx; omega
  · cases h : R.getLast? with
    | none => rw [h] at hx; simp at hx; subst hx; omega
    | some l =>
      rw [h] at hx
      simp only at hx
      have hl := hR l (List.mem_of_getLast? h)
      split at hx
      · rcases List.mem_append.1 hx with hx | hx
        · have := hR x (List.dropLast_subset R hx); omega
        · simp at hx; subst hx
          unfold big addM at *
          omega
      · rcases List.mem_append.1 hx with hx | hx
        · have := hR x hx; omega
        · simp at hx; subst hx; omega
theorem tidyM_big {xs : List Mv} (h : ∀ y ∈ xs, big y ≤ 10000000) : ∀ k, k ≤ xs.length → ∀ y ∈ tidyM (xs.take k), big y ≤ 10000000 * k
  | 0, _, y, hy => by simp [tidyM] at hy
  | k + 1, hk, y, hy => by
    obtain ⟨a, ha⟩ : ∃ a, xs[k]? = some a := ⟨_, List.getElem?_eq_getElem (by omega)⟩
    rw [tidyM_next ha] at hy
    have := joinM_mem (B := 10000000 * k) (c := 10000000) (tidyM_big h k (by omega)) (h a (List.mem_of_getElem? ha)) (by omega) hy
    omega
theorem sumM_big {xs : List Mv} (h : ∀ y ∈ xs, big y ≤ 10000000) : ∀ k, k ≤ xs.length → big (sumM (xs.take k)) ≤ 10000000 * k
  | 0, _ => by simp [sumM, big]
  | k + 1, hk => by
    obtain ⟨a, ha⟩ : ∃ a, xs[k]? = some a := ⟨_, List.getElem?_eq_getElem (by omega)⟩
    rw [sumM_next ha]
    have h1 := sumM_big h k (by omega)
    have h2 := h a (List.mem_of_getElem? ha)
    unfold big addM at *
    omega
theorem ok_big {m : Mv} (h : okM m = true) : big m ≤ 10000000 := by
  have := okM_parts h
  unfold big; omega
/-- No move of a tidy list is nothing. -/
theorem joinM_nz {R : List Mv} {m : Mv} (h : ∀ y ∈ R, y ≠ (0, 0)) : ∀ y ∈ joinM R m, y ≠ (0, 0) := by
  intro y hy
  unfold joinM at hy
  split at hy
  · exact h y hy
  · rename_i hm
    cases hl : R.getLast? with
    | none => rw [hl] at hy; simp at hy; subst hy; exact hm
    | some l =>
      rw [hl] at hy
      simp only at hy
      split at hy
      · rename_i hd
        rcases List.mem_append.1 hy with hy | hy
        · exact h y (List.dropLast_subset R hy)
        · simp at hy; subst hy
          have hln := h l (List.mem_of_getLast? hl)
          -- both are multiples of one direction
          intro he
          have g1 : 0 < gcdM l := Nat.pos_of_ne_zero fun e => hln (gcdM_zero.1 e)
          have g2 : 0 < gcdM m := Nat.pos_of_ne_zero fun e => hm (gcdM_zero.1 e)
          have d1 : dirM l = dirM m := hd
          have l1 : l.1 = (dirM l).1 * (gcdM l : Int) := (Int.tdiv_mul_cancel (Int.gcd_dvd_left l.1 l.2)).symm
          have l2 : l.2 = (dirM l).2 * (gcdM l : Int) := (Int.tdiv_mul_cancel (Int.gcd_dvd_right l.1 l.2)).symm
          have m1 : m.1 = (dirM m).1 * (gcdM m : Int) := (Int.tdiv_mul_cancel (Int.gcd_dvd_left m.1 m.2)).symm
          have m2 : m.2 = (dirM m).2 * (gcdM m : Int) := (Int.tdiv_mul_cancel (Int.gcd_dvd_right m.1 m.2)).symm
          rw [d1] at l1 l2
          have e1 : (dirM m).1 * ((gcdM l : Int) + (gcdM m : Int)) = 0 := by
            rw [Int.mul_add, ← l1, ← m1]; exact congrArg Prod.fst he
          have e2 : (dirM m).2 * ((gcdM l : Int) + (gcdM m : Int)) = 0 := by
            rw [Int.mul_add, ← l2, ← m2]; exact congrArg Prod.snd he
          have f1 : (dirM m).1 = 0 := by
            rcases Int.mul_eq_zero.1 e1 with h | h
            · exact h
            · omega
          have f2 : (dirM m).2 = 0 := by
            rcases Int.mul_eq_zero.1 e2 with h | h
            · exact h
            · omega
          rw [f1, Int.zero_mul] at m1
          rw [f2, Int.zero_mul] at m2
          exact hm (Prod.ext m1 m2)
      · rcases List.mem_append.1 hy with hy | hy
        · exact h y hy
        · simp at hy; subst hy; exact hm
theorem foldl_nz : ∀ (xs R : List Mv), (∀ y ∈ R, y ≠ (0, 0)) → ∀ y ∈ xs.foldl joinM R, y ≠ (0, 0)
  | [], R, h => h
  | a :: xs, R, h => foldl_nz xs (joinM R a) (joinM_nz h)
theorem tidyM_nz (xs : List Mv) : ∀ y ∈ tidyM xs, y ≠ (0, 0) := foldl_nz xs [] (by simp)
end Go.Proofs.Ytnidiikcnplebaa
/- The roots' words in both widths, what they stand for; sums of eight terms, rounded term by term and sum by sum. -/
namespace Go.Proofs.Ytnidiikcnplebaa
set_option maxRecDepth 20000
set_option linter.unusedVariables false
set_option linter.unusedSimpArgs false
open Ieee

theorem zero_val {f : Format} {p lo t M : Nat} (H : Std f p lo t M) : Val f t 0 0 := by
  have h0 := read_zeroN H false
  have hw : f.word false 0 = 0 := by unfold Format.word; simp
  rw [hw] at h0
  have ht := H.2.2.2.2.2.1
  exact ⟨false, 0, 0, by rw [h0, ← ht]; simp, by rw [Nat.zero_mul, sgnd_zero, Int.zero_mul]⟩
def wDr : Nat → Nat
  | 0 => 4607182418800017408
  | 1 => 4606875505927962389
  | 2 => 4605975682916830378
  | 3 => 4604544271217802189
  | 4 => 4602678819172646912
  | 5 => 4598334089338226320
  | 6 => 0
  | _ => 13821706126193002128
def vDr : Nat → Int
  | 0 => 1298074214633706907132624082305024
  | 1 => 1253843408354596754066294184083456
  | 2 => 1124165245870324036828141782564864
  | 3 => 917877079650896179172824953389056
  | 4 => 649037107316853453566312041152512
  | 5 => 335966328703700574893469230694400
  | 6 => 0
  | _ => -335966328703700574893469230694400
theorem rootDr : ∀ k, k < 8 → ValD (wDr k) (vDr k)
  | 0, _ => by exact const_val (f := double) false 4503599627370496 58 (-52) (by decide) (by decide +kernel)
  | 1, _ => by exact const_val (f := double) false 8700286382685973 57 (-53) (by decide) (by decide +kernel)
  | 2, _ => by exact const_val (f := double) false 7800463371553962 57 (-53) (by decide) (by decide +kernel)
  | 3, _ => by exact const_val (f := double) false 6369051672525773 57 (-53) (by decide) (by decide +kernel)
  | 4, _ => by exact const_val (f := double) false 4503599627370496 57 (-53) (by decide) (by decide +kernel)
  | 5, _ => by exact const_val (f := double) false 4662469420320400 56 (-54) (by decide) (by decide +kernel)
  | 6, _ => by exact zero_val stdD
  | 7, _ => by exact const_val (f := double) true 4662469420320400 56 (-54) (by decide) (by decide +kernel)
  | k + 8, h => absurd h (by omega)
theorem sizeDr (k : Nat) : -1298074214633706907132624082305024 ≤ vDr k ∧ vDr k ≤ 1298074214633706907132624082305024 := by
  unfold vDr; split <;> decide
def wDi : Nat → Nat
  | 0 => 0
  | 1 => 4598334089338226320
  | 2 => 4602678819172646912
  | 3 => 4604544271217802189
  | 4 => 4605975682916830378
  | 5 => 4606875505927962389
  | 6 => 4607182418800017408
  | _ => 4606875505927962389
def vDi : Nat → Int
  | 0 => 0
  | 1 => 335966328703700574893469230694400
  | 2 => 649037107316853453566312041152512
  | 3 => 917877079650896179172824953389056
  | 4 => 1124165245870324036828141782564864
  | 5 => 1253843408354596754066294184083456
  | 6 => 1298074214633706907132624082305024
  | _ => 1253843408354596754066294184083456
theorem rootDi : ∀ k, k < 8 → ValD (wDi k) (vDi k)
  | 0, _ => by exact zero_val stdD
  | 1, _ => by exact const_val (f := double) false 4662469420320400 56 (-54) (by decide) (by decide +kernel)
  | 2, _ => by exact const_val (f := double) false 4503599627370496 57 (-53) (by decide) (by decide +kernel)
  | 3, _ => by exact const_val (f := double) false 6369051672525773 57 (-53) (by decide) (by decide +kernel)
  | 4, _ => by exact const_val (f := double) false 7800463371553962 57 (-53) (by decide) (by decide +kernel)
  | 5, _ => by exact const_val (f := double) false 8700286382685973 57 (-53) (by decide) (by decide +kernel)
  | 6, _ => by exact const_val (f := double) false 4503599627370496 58 (-52) (by decide) (by decide +kernel)
  | 7, _ => by exact const_val (f := double) false 8700286382685973 57 (-53) (by decide) (by decide +kernel)
  | k + 8, h => absurd h (by omega)
theorem sizeDi (k : Nat) : -1298074214633706907132624082305024 ≤ vDi k ∧ vDi k ≤ 1298074214633706907132624082305024 := by
  unfold vDi; split <;> decide
def wSr : Nat → Nat
  | 0 => 1065353216
  | 1 => 1064781546
  | 2 => 1063105495
  | 3 => 1060439283
  | 4 => 1056964608
  | 5 => 1048871918
  | 6 => 0
  | _ => 3196355566
def vSr : Nat → Int
  | 0 => 1298074214633706907132624082305024
  | 1 => 1253843390742564823273150185734144
  | 2 => 1124165225693546017327840682311680
  | 3 => 917877063942098997734131695091712
  | 4 => 649037107316853453566312041152512
  | 5 => 335966326800465825539018490642432
  | 6 => 0
  | _ => -335966326800465825539018490642432
theorem rootSr : ∀ k, k < 8 → ValS (wSr k) (vSr k)
  | 0, _ => by exact const_val (f := single) false 8388608 87 (-23) (by decide) (by decide +kernel)
  | 1, _ => by exact const_val (f := single) false 16205546 86 (-24) (by decide) (by decide +kernel)
  | 2, _ => by exact const_val (f := single) false 14529495 86 (-24) (by decide) (by decide +kernel)
  | 3, _ => by exact const_val (f := single) false 11863283 86 (-24) (by decide) (by decide +kernel)
  | 4, _ => by exact const_val (f := single) false 8388608 86 (-24) (by decide) (by decide +kernel)
  | 5, _ => by exact const_val (f := single) false 8684526 85 (-25) (by decide) (by decide +kernel)
  | 6, _ => by exact zero_val stdS
  | 7, _ => by exact const_val (f := single) true 8684526 85 (-25) (by decide) (by decide +kernel)
  | k + 8, h => absurd h (by omega)
theorem sizeSr (k : Nat) : -1298074214633706907132624082305024 ≤ vSr k ∧ vSr k ≤ 1298074214633706907132624082305024 := by
  unfold vSr; split <;> decide
def wSi : Nat → Nat
  | 0 => 0
  | 1 => 1048871918
  | 2 => 1056964608
  | 3 => 1060439283
  | 4 => 1063105495
  | 5 => 1064781546
  | 6 => 1065353216
  | _ => 1064781546
def vSi : Nat → Int
  | 0 => 0
  | 1 => 335966326800465825539018490642432
  | 2 => 649037107316853453566312041152512
  | 3 => 917877063942098997734131695091712
  | 4 => 1124165225693546017327840682311680
  | 5 => 1253843390742564823273150185734144
  | 6 => 1298074214633706907132624082305024
  | _ => 1253843390742564823273150185734144
theorem rootSi : ∀ k, k < 8 → ValS (wSi k) (vSi k)
  | 0, _ => by exact zero_val stdS
  | 1, _ => by exact const_val (f := single) false 8684526 85 (-25) (by decide) (by decide +kernel)
  | 2, _ => by exact const_val (f := single) false 8388608 86 (-24) (by decide) (by decide +kernel)
  | 3, _ => by exact const_val (f := single) false 11863283 86 (-24) (by decide) (by decide +kernel)
  | 4, _ => by exact const_val (f := single) false 14529495 86 (-24) (by decide) (by decide +kernel)
  | 5, _ => by exact const_val (f := single) false 16205546 86 (-24) (by decide) (by decide +kernel)
  | 6, _ => by exact const_val (f := single) false 8388608 87 (-23) (by decide) (by decide +kernel)
  | 7, _ => by exact const_val (f := single) false 16205546 86 (-24) (by decide) (by decide +kernel)
  | k + 8, h => absurd h (by omega)
theorem sizeSi (k : Nat) : -1298074214633706907132624082305024 ≤ vSi k ∧ vSi k ≤ 1298074214633706907132624082305024 := by
  unfold vSi; split <;> decide
/-! ### Terms and sums -/
theorem small_of {d B P : Int} (hP : 1 ≤ P) (hB : 0 ≤ B) (h1 : d * P ≤ B) (h2 : -B ≤ d * P) : d ≤ B ∧ -B ≤ d := by
  constructor
  · rcases Int.lt_or_le B d with h | h
    · have : d * 1 ≤ d * P := Int.mul_le_mul_of_nonneg_left hP (by omega)
      omega
    · exact h
  · rcases Int.lt_or_le d (-B) with h | h
    · have : -d * 1 ≤ -d * P := Int.mul_le_mul_of_nonneg_left hP (by omega)
      rw [Int.neg_mul, Int.neg_mul] at this
      omega
    · exact h
theorem rnd_bound (p : Nat) (v B : Int) (h1 : -B ≤ v) (h2 : v ≤ B) : -(2 * B) ≤ rnd p v ∧ rnd p v ≤ 2 * B := by
  obtain ⟨e1, e2⟩ := rnd_err p v B h1 h2
  have h3 : (1 : Int) ≤ 2 ^ (p + 1) := by have := two_powI (p + 1); omega
  obtain ⟨d1, d2⟩ := small_of h3 (by omega) e1 e2
  omega
/-- A term's word. -/
def tmW (k : FloatKind) (c : Int) (r : Nat) : Nat := (k.format.mul (floatOfInt k c) r).getD 0
def tmV (p : Nat) (c r : Int) : Int := rnd p (c * r)
theorem tm_size {p : Nat} {c r : Int} (hc : -1000000 ≤ c ∧ c ≤ 1000000) (hr : -1298074214633706907132624082305024 ≤ r ∧ r ≤ 1298074214633706907132624082305024) :
    (-1298074214633706907132624082305024000000 ≤ c * r ∧ c * r ≤ 1298074214633706907132624082305024000000) ∧ -2596148429267413814265248164610048000000 ≤ tmV p c r ∧ tmV p c r ≤ 2596148429267413814265248164610048000000 := by
  have h : -1298074214633706907132624082305024000000 ≤ c * r ∧ c * r ≤ 1298074214633706907132624082305024000000 := by
    rcases Int.le_total 0 c with h | h
    · have a := Int.mul_le_mul_of_nonneg_left hr.2 h
      have b := Int.mul_le_mul_of_nonneg_left hr.1 h
      omega
    · have a := Int.mul_le_mul_of_nonpos_left h hr.2
      have b := Int.mul_le_mul_of_nonpos_left h hr.1
      omega
  exact ⟨h, rnd_bound p _ _ h.1 h.2⟩
theorem tm_dbl {c r : Int} {x : Nat} (hc : -1000000 ≤ c ∧ c ≤ 1000000) (hx : ValD x r) (hr : -1298074214633706907132624082305024 ≤ r ∧ r ≤ 1298074214633706907132624082305024) :
    floatBits .mul .f64 (floatOfInt .f64 c) x = some (tmW .f64 c x) ∧ ValD (tmW .f64 c x) (tmV 52 c r) := by
  have hi : Val double tD (floatOfInt .f64 c) (c * 2 ^ 110) := int_val stdD (Nat.lt_of_le_of_lt (show c.natAbs ≤ 1000000 by omega) (by decide)) (Nat.lt_of_le_of_lt (show c.natAbs ≤ 1000000 by omega) (by decide))
  have hb := (tm_size (p := 52) hc hr).1
  obtain ⟨z, h1, h2⟩ := mul_val stdD hi hx (by omega)
  have e : tmW .f64 c x = z := by unfold tmW; rw [show FloatKind.f64.format = double from rfl, h1]; rfl
  rw [e]
  exact ⟨h1, h2⟩
theorem tm_sgl {c r : Int} {x : Nat} (hc : -1000000 ≤ c ∧ c ≤ 1000000) (hx : ValS x r) (hr : -1298074214633706907132624082305024 ≤ r ∧ r ≤ 1298074214633706907132624082305024) :
    floatBits .mul .f32 (floatOfInt .f32 c) x = some (tmW .f32 c x) ∧ ValS (tmW .f32 c x) (tmV 23 c r) := by
  have hi : Val single tS (floatOfInt .f32 c) (c * 2 ^ 110) := int_val stdS (Nat.lt_of_le_of_lt (show c.natAbs ≤ 1000000 by omega) (by decide)) (Nat.lt_of_le_of_lt (show c.natAbs ≤ 1000000 by omega) (by decide))
  have hb := (tm_size (p := 23) hc hr).1
  obtain ⟨z, h1, h2⟩ := mul_val stdS hi hx (by omega)
  have e : tmW .f32 c x = z := by unfold tmW; rw [show FloatKind.f32.format = single from rfl, h1]; rfl
  rw [e]
  exact ⟨h1, h2⟩
def smW (k : FloatKind) (g : Nat → Nat) : Nat → Nat
  | 0 => 0
  | n + 1 => (k.format.add (smW k g n) (g n)).getD 0
def smV (p : Nat) (h : Nat → Int) : Nat → Int
  | 0 => 0
  | n + 1 => rnd p (smV p h n + h n)
/-- A bound of the sum of n terms. -/
def bnd : Nat → Int
  | 0 => 0
  | n + 1 => 2 * (bnd n + 2596148429267413814265248164610048000000)
theorem bnd_le (n : Nat) (h : n ≤ 8) : 0 ≤ bnd n ∧ bnd n ≤ 2596148429267413814265248164610048000000000 := by
  rcases (show n = 0 ∨ n = 1 ∨ n = 2 ∨ n = 3 ∨ n = 4 ∨ n = 5 ∨ n = 6 ∨ n = 7 ∨ n = 8 by omega) with rfl | rfl | rfl | rfl | rfl | rfl | rfl | rfl | rfl <;> decide
theorem sm_val {k : FloatKind} {p lo t M : Nat} (H : Std k.format p lo t M) {g : Nat → Nat} {h : Nat → Int} (hg : ∀ n, n < 8 → Val k.format t (g n) (h n))
    (hb : ∀ n, n < 8 → -2596148429267413814265248164610048000000 ≤ h n ∧ h n ≤ 2596148429267413814265248164610048000000) :
    ∀ n, n ≤ 8 → Val k.format t (smW k g n) (smV p h n) ∧ -bnd n ≤ smV p h n ∧ smV p h n ≤ bnd n
  | 0, _ => ⟨zero_val H, by show -(0 : Int) ≤ 0; decide, by show (0 : Int) ≤ 0; decide⟩
  | n + 1, hn => by
    obtain ⟨hv, b1, b2⟩ := sm_val H hg hb n (by omega)
    have hgn := hg n (by omega)
    have hbn := hb n (by omega)
    have hl := bnd_le n (by omega)
    obtain ⟨z, h1, h2⟩ := add_val H hv hgn (by omega)
    have e : smW k g (n + 1) = z := by show (k.format.add (smW k g n) (g n)).getD 0 = z; rw [h1]; rfl
    rw [e]
    exact ⟨h2, rnd_bound p _ (bnd n + 2596148429267413814265248164610048000000) (by omega) (by omega)⟩
theorem sm_step {k : FloatKind} {p lo t M : Nat} (H : Std k.format p lo t M) {g : Nat → Nat} {h : Nat → Int} (hg : ∀ n, n < 8 → Val k.format t (g n) (h n))
    (hb : ∀ n, n < 8 → -2596148429267413814265248164610048000000 ≤ h n ∧ h n ≤ 2596148429267413814265248164610048000000) (n : Nat) (hn : n < 8) :
    floatBits .add k (smW k g n) (g n) = some (smW k g (n + 1)) := by
  obtain ⟨hv, b1, b2⟩ := sm_val H hg hb n (by omega)
  have hbn := hb n hn
  have hl := bnd_le n (by omega)
  obtain ⟨z, h1, -⟩ := add_val H hv (hg n hn) (by omega)
  show k.format.add (smW k g n) (g n) = some ((k.format.add (smW k g n) (g n)).getD 0)
  rw [h1]; rfl
theorem smV_congr {p : Nat} {h h' : Nat → Int} : ∀ n, (∀ j, j < n → h j = h' j) → smV p h n = smV p h' n
  | 0, _ => rfl
  | n + 1, e => by
    show rnd p (smV p h n + h n) = rnd p (smV p h' n + h' n)
    rw [smV_congr n (fun j hj => e j (by omega)), e n (by omega)]
theorem smV_neg (p : Nat) (h : Nat → Int) : ∀ n, smV p (fun k => -h k) n = -smV p h n
  | 0 => rfl
  | n + 1 => by
    show rnd p (smV p (fun k => -h k) n + -h n) = -rnd p (smV p h n + h n)
    rw [smV_neg p h n, ← Int.neg_add, rnd_neg]
theorem tmV_neg (p : Nat) (c r : Int) : tmV p (-c) r = -tmV p c r := by unfold tmV; rw [Int.neg_mul, rnd_neg]
/-! ### Points -/
def wpr (c : Nat → Int) (n : Nat) : Nat := smW .f64 (fun k => tmW .f64 (c k) (wDr k)) n
def wpi (c : Nat → Int) (n : Nat) : Nat := smW .f64 (fun k => tmW .f64 (c k) (wDi k)) n
def spr (c : Nat → Int) (n : Nat) : Nat := smW .f32 (fun k => tmW .f32 (c k) (wSr k)) n
def spi (c : Nat → Int) (n : Nat) : Nat := smW .f32 (fun k => tmW .f32 (c k) (wSi k)) n
def vwr (c : Nat → Int) (n : Nat) : Int := smV 52 (fun k => tmV 52 (c k) (vDr k)) n
def vwi (c : Nat → Int) (n : Nat) : Int := smV 52 (fun k => tmV 52 (c k) (vDi k)) n
def vsr (c : Nat → Int) (n : Nat) : Int := smV 23 (fun k => tmV 23 (c k) (vSr k)) n
def vsi (c : Nat → Int) (n : Nat) : Int := smV 23 (fun k => tmV 23 (c k) (vSi k)) n
/-- Coefficients that are none too great. -/
def Okc (c : Nat → Int) : Prop := ∀ k, k < 8 → -1000000 ≤ c k ∧ c k ≤ 1000000
theorem wide_val {c : Nat → Int} (hc : Okc c) (n : Nat) (hn : n ≤ 8) : (ValD (wpr c n) (vwr c n) ∧ -bnd n ≤ vwr c n ∧ vwr c n ≤ bnd n) ∧ (ValD (wpi c n) (vwi c n) ∧ -bnd n ≤ vwi c n ∧ vwi c n ≤ bnd n) :=
  ⟨sm_val (k := .f64) stdD (fun j hj => (tm_dbl (hc j hj) (rootDr j hj) (sizeDr j)).2) (fun j hj => (tm_size (hc j hj) (sizeDr j)).2) n hn,
   sm_val (k := .f64) stdD (fun j hj => (tm_dbl (hc j hj) (rootDi j hj) (sizeDi j)).2) (fun j hj => (tm_size (hc j hj) (sizeDi j)).2) n hn⟩
theorem sing_val {c : Nat → Int} (hc : Okc c) (n : Nat) (hn : n ≤ 8) : (ValS (spr c n) (vsr c n) ∧ -bnd n ≤ vsr c n ∧ vsr c n ≤ bnd n) ∧ (ValS (spi c n) (vsi c n) ∧ -bnd n ≤ vsi c n ∧ vsi c n ≤ bnd n) :=
  ⟨sm_val (k := .f32) stdS (fun j hj => (tm_sgl (hc j hj) (rootSr j hj) (sizeSr j)).2) (fun j hj => (tm_size (hc j hj) (sizeSr j)).2) n hn,
   sm_val (k := .f32) stdS (fun j hj => (tm_sgl (hc j hj) (rootSi j hj) (sizeSi j)).2) (fun j hj => (tm_size (hc j hj) (sizeSi j)).2) n hn⟩
theorem wide_step {c : Nat → Int} (hc : Okc c) (n : Nat) (hn : n < 8) : floatBits .add .f64 (wpr c n) (tmW .f64 (c n) (wDr n)) = some (wpr c (n + 1)) ∧ floatBits .add .f64 (wpi c n) (tmW .f64 (c n) (wDi n)) = some (wpi c (n + 1)) :=
  ⟨sm_step (k := .f64) stdD (fun j hj => (tm_dbl (hc j hj) (rootDr j hj) (sizeDr j)).2) (fun j hj => (tm_size (hc j hj) (sizeDr j)).2) n hn,
   sm_step (k := .f64) stdD (fun j hj => (tm_dbl (hc j hj) (rootDi j hj) (sizeDi j)).2) (fun j hj => (tm_size (hc j hj) (sizeDi j)).2) n hn⟩
theorem sing_step {c : Nat → Int} (hc : Okc c) (n : Nat) (hn : n < 8) : floatBits .add .f32 (spr c n) (tmW .f32 (c n) (wSr n)) = some (spr c (n + 1)) ∧ floatBits .add .f32 (spi c n) (tmW .f32 (c n) (wSi n)) = some (spi c (n + 1)) :=
  ⟨sm_step (k := .f32) stdS (fun j hj => (tm_sgl (hc j hj) (rootSr j hj) (sizeSr j)).2) (fun j hj => (tm_size (hc j hj) (sizeSr j)).2) n hn,
   sm_step (k := .f32) stdS (fun j hj => (tm_sgl (hc j hj) (rootSi j hj) (sizeSi j)).2) (fun j hj => (tm_size (hc j hj) (sizeSi j)).2) n hn⟩
theorem neg_points (c : Nat → Int) (n : Nat) : vwr (fun k => -c k) n = -vwr c n ∧ vwi (fun k => -c k) n = -vwi c n ∧ vsr (fun k => -c k) n = -vsr c n ∧ vsi (fun k => -c k) n = -vsi c n := by
  refine ⟨?_, ?_, ?_, ?_⟩
  · unfold vwr; rw [← smV_neg]; exact smV_congr n (fun j _ => tmV_neg _ _ _)
  · unfold vwi; rw [← smV_neg]; exact smV_congr n (fun j _ => tmV_neg _ _ _)
  · unfold vsr; rw [← smV_neg]; exact smV_congr n (fun j _ => tmV_neg _ _ _)
  · unfold vsi; rw [← smV_neg]; exact smV_congr n (fun j _ => tmV_neg _ _ _)
attribute [irreducible] tmW tmV
end Go.Proofs.Ytnidiikcnplebaa
/- Contracts of impl's points in both widths. -/
namespace Go.Proofs.Ytnidiikcnplebaa
set_option maxRecDepth 20000
open Go.ChangeShapes Go.WideShapes Go.ChangeAt Go.RowKit
set_option linter.unusedVariables false
set_option linter.unusedSimpArgs false

/-- A wide point as a value; a single one. -/
def cw (a b : Nat) : Value := .complex .f64 a b
def cs (a b : Nat) : Value := .complex .f32 a b
theorem WideRoot_yes (k : Nat) (hk : k < 8) (w : World) :
    Calls Try.prog 148 #[.int .i64 k] w fun e w' => e = .returned (.tuple #[cw (wDr k) (wDi k), .bool true]) ∧ w' = w := by
  rcases (show k = 0 ∨ k = 1 ∨ k = 2 ∨ k = 3 ∨ k = 4 ∨ k = 5 ∨ k = 6 ∨ k = 7 by omega) with rfl | rfl | rfl | rfl | rfl | rfl | rfl | rfl <;>
  · go_enter Try.func148, Try.ntmps148
    go_wp2
    go_ret2
    exact ⟨rfl, rfl⟩
theorem WideRoot_no (k : Int) (hk : k < 0 ∨ 7 < k) (w : World) :
    Calls Try.prog 148 #[.int .i64 k] w fun e w' => e = .returned (.tuple #[cw 0 0, .bool false]) ∧ w' = w := by
  have h0 : k ≠ 0 := by omega
  have h1 : k ≠ 1 := by omega
  have h2 : k ≠ 2 := by omega
  have h3 : k ≠ 3 := by omega
  have h4 : k ≠ 4 := by omega
  have h5 : k ≠ 5 := by omega
  have h6 : k ≠ 6 := by omega
  have h7 : k ≠ 7 := by omega
  clear hk
  go_enter Try.func148, Try.ntmps148
  go_wp2
  go_ret2
  exact ⟨rfl, rfl⟩
theorem SingleRoot_yes (k : Nat) (hk : k < 8) (w : World) :
    Calls Try.prog 132 #[.int .i64 k] w fun e w' => e = .returned (.tuple #[cs (wSr k) (wSi k), .bool true]) ∧ w' = w := by
  have R : ∀ w, (convert 102 35 (cw (wDr k) (wDi k))).run Try.prog w = .ok (cs (wSr k) (wSi k)) w := fun w =>
    run_convert_complex w _ _ .f64 .f32 _ _ _ _ (by kernel_rfl) (by kernel_rfl) (by
      rcases (show k = 0 ∨ k = 1 ∨ k = 2 ∨ k = 3 ∨ k = 4 ∨ k = 5 ∨ k = 6 ∨ k = 7 by omega) with rfl | rfl | rfl | rfl | rfl | rfl | rfl | rfl <;> decide +kernel)
  have C := WideRoot_yes k hk
  unfold cw cs at *
  generalize wDr k = a at *
  generalize wDi k = b at *
  generalize wSr k = c at *
  generalize wSi k = d at *
  go_enter Try.func132, Try.ntmps132
  go_wp2_with (first | (rw [R]) | (go_at_call 148; refine (C _).mono ?_; rintro e w2 ⟨rfl, rfl⟩))
  go_ret2
  exact ⟨rfl, rfl⟩
theorem SingleRoot_no (k : Int) (hk : k < 0 ∨ 7 < k) (w : World) :
    Calls Try.prog 132 #[.int .i64 k] w fun e w' => e = .returned (.tuple #[cs 0 0, .bool false]) ∧ w' = w := by
  have R : ∀ w, (convert 102 35 (cw 0 0)).run Try.prog w = .ok (cs 0 0) w := fun w =>
    run_convert_complex w _ _ .f64 .f32 _ _ _ _ (by kernel_rfl) (by kernel_rfl) (by decide +kernel)
  have C := WideRoot_no k hk
  clear hk
  unfold cw cs at *
  go_enter Try.func132, Try.ntmps132
  go_wp2_with (first | (rw [R]) | (go_at_call 148; refine (C _).mono ?_; rintro e w2 ⟨rfl, rfl⟩))
  go_ret2
  exact ⟨rfl, rfl⟩
theorem singleTerm_any (k : Nat) (hk : k < 8) (c : Int) (hc : -1000000 ≤ c ∧ c ≤ 1000000) (w : World) :
    Calls Try.prog 111 #[.int .i64 k, .int .i64 c] w fun e w' => e = .returned (cs (tmW .f32 c (wSr k)) (tmW .f32 c (wSi k))) ∧ w' = w := by
  have R1 : ∀ t w, (binOp .mul t (.float .f32 (floatOfInt .f32 c)) (.float .f32 (wSr k))).run Try.prog w = .ok (.float .f32 (tmW .f32 c (wSr k))) w := fun t w => run_float_arith w .mul t .f32 _ _ _ (tm_sgl hc (rootSr k hk) (sizeSr k)).1
  have R2 : ∀ t w, (binOp .mul t (.float .f32 (floatOfInt .f32 c)) (.float .f32 (wSi k))).run Try.prog w = .ok (.float .f32 (tmW .f32 c (wSi k))) w := fun t w => run_float_arith w .mul t .f32 _ _ _ (tm_sgl hc (rootSi k hk) (sizeSi k)).1
  have C := SingleRoot_yes k hk
  clear hc hk
  unfold cs at *
  generalize tmW .f32 c (wSr k) = x at *
  generalize tmW .f32 c (wSi k) = y at *
  generalize wSr k = a at *
  generalize wSi k = b at *
  go_enter Try.func111, Try.ntmps111
  go_wp2_with (first | rw [R1] | rw [R2] | (go_at_call 132; refine (C _).mono ?_; rintro e w2 ⟨rfl, rfl⟩))
  go_ret
  exact ⟨rfl, rfl⟩
end Go.Proofs.Ytnidiikcnplebaa
/- Contracts of what the laws compare floats with. -/
namespace Go.Proofs.Ytnidiikcnplebaa
set_option maxRecDepth 20000
open Go.ChangeShapes Go.WideShapes Go.ChangeAt Go.RowKit
set_option linter.unusedVariables false
set_option linter.unusedSimpArgs false

/-- A word of 64 bits that is no NaN. -/
def NN (x : Nat) : Prop := (Ieee.double.read x).isNaN = false
theorem nn_val {x : Nat} {v : Int} (h : ValD x v) : NN x := by
  obtain ⟨s, m, b, r, -⟩ := h
  unfold NN
  rw [r]; rfl
theorem ord_self {x : Nat} (h : NN x) : FloatKind.f64.format.order x x = some .eq := by
  unfold NN at h
  show (Ieee.double.read x).order (Ieee.double.read x) = some .eq
  generalize Ieee.double.read x = d at *
  cases d with
  | number s m e => simp [Ieee.Datum.order]
  | infinity s => cases s <;> rfl
  | nan s t => cases h
theorem ord_some {x y : Nat} (h : NN x) (k : NN y) : ∃ o, FloatKind.f64.format.order x y = some o := by
  unfold NN at *
  show ∃ o, (Ieee.double.read x).order (Ieee.double.read y) = some o
  generalize Ieee.double.read x = d at *
  generalize Ieee.double.read y = d' at *
  cases d <;> cases d' <;> first | (cases h; done) | (cases k; done) | exact ⟨_, rfl⟩
theorem nn_word (s : Bool) (rung : Nat) (h : rung ≤ 9218868437227405312) : NN (Ieee.double.word s rung) := by
  have e1 : Ieee.double.signWeight = 9223372036854775808 := by decide
  have e2 : Ieee.double.infRung = 9218868437227405312 := by decide
  have e3 : Ieee.double.binade = 4503599627370496 := by decide
  unfold NN Ieee.Format.read Ieee.Format.word
  rw [e1, e2, e3]
  have e4 : (if s = true then 9223372036854775808 + rung else rung) % 9223372036854775808 = rung := by cases s <;> simp <;> omega
  simp only [e4]
  split
  · rfl
  · split
    · rfl
    · rw [if_pos (by omega)]; rfl
theorem nn_write {d : Ieee.Datum} (h : d.isNaN = false) : NN (Ieee.double.write d) := by
  have e2 : Ieee.double.infRung = 9218868437227405312 := by decide
  cases d with
  | number s m e =>
    show NN (Ieee.double.nearest s m e)
    unfold Ieee.Format.nearest
    split
    · exact nn_word _ _ (by omega)
    · refine nn_word _ _ ?_
      rw [e2]; exact Nat.min_le_right _ _
  | infinity s => exact nn_word _ _ (by rw [e2]; exact Nat.le_refl _)
  | nan s t => cases h
theorem nn_zero : NN 0 := by unfold NN; decide +kernel
/-- One by a word that is no NaN. -/
theorem quo_nn {x : Nat} (h : NN x) : ∃ r, floatBits .quo .f64 4607182418800017408 x = some r ∧ NN r := by
  have h1 : Ieee.double.read 4607182418800017408 = .number false 4503599627370496 (-52) := by decide +kernel
  unfold NN at h
  show ∃ r, ((Ieee.double.read 4607182418800017408).quotient (Ieee.double.fractionBits + 2) (Ieee.double.read x)).map Ieee.double.write = some r ∧ NN r
  rw [h1]
  generalize Ieee.double.read x = d at *
  cases d with
  | number s m e =>
    unfold Ieee.Datum.quotient
    by_cases h0 : m = 0
    · simp only [h0, if_true]
      rw [if_neg (by decide)]
      exact ⟨_, rfl, nn_write rfl⟩
    · simp only [h0, if_false]
      exact ⟨_, rfl, nn_write rfl⟩
  | infinity s => exact ⟨_, rfl, nn_write rfl⟩
  | nan s t => cases h
theorem zeroAlike_same (x : Nat) (h : NN x) (w : World) : Calls Try.prog 49 #[.float .f64 x, .float .f64 x] w fun e w' => e = .returned (.bool true) ∧ w' = w := by
  obtain ⟨r, hr, nr⟩ := quo_nn h
  have O1 := ord_self h
  have O2 := ord_self nr
  have R : ∀ t w, (binOp .quo t (.float .f64 4607182418800017408) (.float .f64 x)).run Try.prog w = .ok (.float .f64 r) w := fun t w => run_float_arith w .quo t .f64 _ _ _ hr
  clear h hr nr
  go_enter Try.func49, Try.ntmps49
  go_wp2_with (rw [R])
  go_ret
  exact ⟨rfl, rfl⟩
theorem wideAlike_same (x y : Nat) (hx : NN x) (hy : NN y) (w : World) : Calls Try.prog 76 #[cw x y, cw x y] w fun e w' => e = .returned (.bool true) ∧ w' = w := by
  have C1 := fun w => zeroAlike_same x hx w
  have C2 := fun w => zeroAlike_same y hy w
  clear hx hy
  unfold cw
  go_enter Try.func76, Try.ntmps76
  go_wp2_with fail
  refine (C1 _).mono ?_; rintro e w2 ⟨rfl, rfl⟩
  go_wp2_with fail
  refine (C2 _).mono ?_; rintro e w3 ⟨rfl, rfl⟩
  go_wp2_with fail
  go_ret
  exact ⟨rfl, rfl⟩
theorem run_wider {a b x y : Nat} (h1 : floatToFloatBits .f32 a .f64 = some x) (h2 : floatToFloatBits .f32 b .f64 = some y) (w : World) :
    (convert 35 102 (cs a b)).run Try.prog w = .ok (cw x y) w :=
  run_convert_complex w _ _ .f32 .f64 _ _ _ _ (by kernel_rfl) (by kernel_rfl) (by unfold cConvBits; rw [h1, h2]; rfl)
theorem singleAlike_same {a b x y : Nat} (h1 : floatToFloatBits .f32 a .f64 = some x) (h2 : floatToFloatBits .f32 b .f64 = some y) (hx : NN x) (hy : NN y) (w : World) :
    Calls Try.prog 25 #[cs a b, cs a b] w fun e w' => e = .returned (.bool true) ∧ w' = w := by
  have C := fun w => wideAlike_same x y hx hy w
  have R := fun w => run_wider h1 h2 w
  clear h1 h2 hx hy
  unfold cw cs at *
  go_enter Try.func25, Try.ntmps25
  go_wp2_with (first | rw [R] | (go_at_call 76; refine (C _).mono ?_; rintro e w2 ⟨rfl, rfl⟩))
  go_ret
  exact ⟨rfl, rfl⟩
theorem sameFloat_same (x : Nat) (h : NN x) (w : World) : Calls Try.prog 124 #[.float .f64 x, .float .f64 x] w fun e w' => e = .returned (.bool true) ∧ w' = w := by
  obtain ⟨r, hr, nr⟩ := quo_nn h
  have O1 := ord_self h
  obtain ⟨o, O2⟩ := ord_some h nn_zero
  obtain ⟨p, O3⟩ := ord_some nr nn_zero
  have R : ∀ t w, (binOp .quo t (.float .f64 4607182418800017408) (.float .f64 x)).run Try.prog w = .ok (.float .f64 r) w := fun t w => run_float_arith w .quo t .f64 _ _ _ hr
  clear h hr nr
  cases o <;> cases p <;>
  · go_enter Try.func124, Try.ntmps124
    go_wp2_with (rw [R])
    go_ret
    exact ⟨rfl, rfl⟩
theorem sameComplex_same (x y : Nat) (hx : NN x) (hy : NN y) (w : World) : Calls Try.prog 96 #[cw x y, cw x y] w fun e w' => e = .returned (.bool true) ∧ w' = w := by
  have C1 := fun w => sameFloat_same x hx w
  have C2 := fun w => sameFloat_same y hy w
  clear hx hy
  unfold cw
  go_enter Try.func96, Try.ntmps96
  go_wp2_with fail
  refine (C1 _).mono ?_; rintro e w2 ⟨rfl, rfl⟩
  go_wp2_with fail
  refine (C2 _).mono ?_; rintro e w3 ⟨rfl, rfl⟩
  go_wp2_with fail
  go_ret
  exact ⟨rfl, rfl⟩
theorem within_yes {x y m p q : Nat} (h1 : floatBits .sub .f64 x y = some p) (h2 : floatBits .sub .f64 y x = some q) (O1 : FloatKind.f64.format.order p m = some .lt) (O2 : FloatKind.f64.format.order q m = some .lt) (w : World) :
    Calls Try.prog 29 #[.float .f64 x, .float .f64 y, .float .f64 m] w fun e w' => e = .returned (.bool true) ∧ w' = w := by
  have R1 : ∀ t w, (binOp .sub t (.float .f64 x) (.float .f64 y)).run Try.prog w = .ok (.float .f64 p) w := fun t w => run_float_arith w .sub t .f64 _ _ _ h1
  have R2 : ∀ t w, (binOp .sub t (.float .f64 y) (.float .f64 x)).run Try.prog w = .ok (.float .f64 q) w := fun t w => run_float_arith w .sub t .f64 _ _ _ h2
  clear h1 h2
  go_enter Try.func29, Try.ntmps29
  go_wp2_with (first | rw [R1] | rw [R2])
  go_ret
  exact ⟨rfl, rfl⟩
theorem run_ceq {p q x y : Nat} {o1 o2 : Ordering} (h1 : FloatKind.f64.format.order p x = some o1) (h2 : FloatKind.f64.format.order q y = some o2) (t : TypeId) (w : World) :
    (binOp .eql t (.complex .f64 p q) (.complex .f64 x y)).run Try.prog w = .ok (.bool (o1 == .eq && o2 == .eq)) w := by
  cases o1 <;> cases o2 <;> simp [binOp, Op.complexOp, Op.Complex.cmp, Op.floatCmp, h1, h2, go_sem, asBool]
end Go.Proofs.Ytnidiikcnplebaa
