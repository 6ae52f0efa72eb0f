/-
  The draws of chapter 1: turns and fractions out of a code.
-/
import Derived.Test.YtjfljelpjgkmjaaPick
namespace Go.Proofs.Ytjfljelpjgkmjaa
set_option maxRecDepth 20000
open Go.ChangeShapes Go.WideShapes Go.ChangeAt Go.RowKit
set_option linter.unusedVariables false
set_option linter.unusedSimpArgs false

/-- A number drawn from a reader: its bounds; at most c picks; only the reader's block turns. -/
def Drew (w : World) (R p c : Nat) (lo hi : Int) (e : Ending) (w' : World) : Prop :=
  ∃ (k : Int) (q : Nat), e = .returned (.int .i64 k) ∧ lo ≤ k ∧ k ≤ hi ∧ q ≤ p + c ∧ Rd w' R q ∧ w.grownBy w' (some R)

theorem turn_drawn (R p : Nat) (w : World) (h : Rd w R p) (hp : p ≤ 900000) :
    Calls Try.prog 65 #[.pointer (some ⟨R, 0, none⟩)] w (Drew w R p 2 (-1) 100) := by
  have hlt := h.lt
  have P1 := Lib.hid (pick_any R p 20 w h (by omega) (by omega))
  clear h
  go_enter Try.func65, Try.ntmps65
  go_wp2_with fail
  refine P1.out.mono ?_; rintro e w1 ⟨k, rfl, k0, k1, hr1, hg1⟩
  have z1 := hg1.size
  clear P1
  by_cases hk : k = 0
  · subst hk
    have P2 := Lib.hid (pick_any R (p + 1) 3 _ (hr1.alloc (.cells #[.int .i64 (-1), .int .i64 24, .int .i64 100] 3)) (by omega) (by omega))
    clear hr1
    go_wp2_with fail
    refine P2.out.mono ?_; rintro e w2 ⟨k, rfl, k0, k1, hr2, hg2⟩
    clear P2
    have hne : some (⟨w1.heap.size, 0, none⟩ : Addr).block ≠ some R := by simp; omega
    have hx : ∀ (j : Nat) (u : Value), (#[Value.int .i64 (-1), .int .i64 24, .int .i64 100] : Array Value)[j]? = some u → w2.cell? ⟨w1.heap.size, j, none⟩ = some u := fun j u hu =>
      hg2.cell ((World.cell?_alloc_at _ _ _ _ rfl).trans hu) hne
    have hg := only_trans' (only_alloc hg1 (.cells #[.int .i64 (-1), .int .i64 24, .int .i64 100] 3)) hg2
    have HG := Lib.hid hg; clear hg hg1 hg2
    have HR := Lib.hid hr2; clear hr2
    rcases (show k = 0 ∨ k = 1 ∨ k = 2 by omega) with rfl | rfl | rfl
    · have c := hx 0 _ rfl
      clear hx
      go_wp2_with fail
      go_ret
      exact ⟨_, _, rfl, by omega, by omega, by omega, HR.out, HG.out⟩
    · have c := hx 1 _ rfl
      clear hx
      go_wp2_with fail
      go_ret
      exact ⟨_, _, rfl, by omega, by omega, by omega, HR.out, HG.out⟩
    · have c := hx 2 _ rfl
      clear hx
      go_wp2_with fail
      go_ret
      exact ⟨_, _, rfl, by omega, by omega, by omega, HR.out, HG.out⟩
  · have hk' : (k == 0) = false := by simpa using hk
    have P2 := Lib.hid (pick_any R (p + 1) 24 _ hr1 (by omega) (by omega))
    clear hr1
    go_wp2_with fail
    refine P2.out.mono ?_; rintro e w2 ⟨k, rfl, k0, k1, hr2, hg2⟩
    go_wp2_with fail
    go_ret
    exact ⟨_, _, rfl, by omega, by omega, by omega, hr2, only_trans' hg1 hg2⟩

/-- Two numbers drawn out of a code: nothing that lay has turned. -/
def Drew2 (w : World) (lo hi lo' hi' : Int) (e : Ending) (w' : World) : Prop :=
  ∃ (a b : Int), e = .returned (.tuple #[.int .i64 a, .int .i64 b]) ∧ lo ≤ a ∧ a ≤ hi ∧ lo' ≤ b ∧ b ≤ hi' ∧ Below w.heap.size w w'
/-- One number drawn out of a code. -/
def Drew1 (w : World) (lo hi : Int) (e : Ending) (w' : World) : Prop :=
  ∃ (a : Int), e = .returned (.int .i64 a) ∧ lo ≤ a ∧ a ≤ hi ∧ Below w.heap.size w w'

/-- The denominators that are drawn, as they lie. -/
abbrev denCells : Array Value := #[.int .i64 1, .int .i64 2, .int .i64 3, .int .i64 4, .int .i64 6, .int .i64 8, .int .i64 12, .int .i64 24, .int .i64 5, .int .i64 0, .int .i64 (-1)]
theorem den_at (k : Nat) (hk : k < 11) : ∃ d : Int, denCells[k]? = some (.int .i64 d) ∧ -1 ≤ d ∧ d ≤ 24 := by
  have key : ∀ j : Fin 11, ∃ d : Fin 26, denCells[j.val]? = some (.int .i64 ((d.val : Int) - 1)) := by
    intro j
    match j with
    | 0 => exact ⟨2, rfl⟩
    | 1 => exact ⟨3, rfl⟩
    | 2 => exact ⟨4, rfl⟩
    | 3 => exact ⟨5, rfl⟩
    | 4 => exact ⟨7, rfl⟩
    | 5 => exact ⟨9, rfl⟩
    | 6 => exact ⟨13, rfl⟩
    | 7 => exact ⟨25, rfl⟩
    | 8 => exact ⟨6, rfl⟩
    | 9 => exact ⟨1, rfl⟩
    | 10 => exact ⟨0, rfl⟩
  obtain ⟨d, hd⟩ := key ⟨k, hk⟩
  exact ⟨_, hd, by omega, by omega⟩
/-- What a pick out of the list hands back, the list laid ahead of it or behind it. -/
def PickDen (W : World) (R p : Nat) (cell : World → Nat → Option Value) (e : Ending) (w' : World) : Prop :=
  ∃ (k : Nat) (d : Int), e = .returned (.int .i64 k) ∧ (k : Int) < 11 ∧ -1 ≤ d ∧ d ≤ 24 ∧ cell w' k = some (.int .i64 d) ∧ Hid (Rd w' R p) ∧ Hid (W.grownBy w' (some R))
theorem denA (W : World) (R p : Nat) (h : Rd W R p) (hp : p ≤ 900000) : Calls Try.prog 80 #[.pointer (some ⟨R, 0, none⟩), .int .i64 11] (W.alloc (.cells denCells 3)).drew
    (PickDen W R (p + 1) fun w' k => w'.cell? ⟨W.heap.size, k, none⟩) := by
  have hlt := h.lt
  have hd : Rd (W.alloc (.cells denCells 3)).drew R p := (h.alloc _).keep (row := none) ⟨rfl, rfl, rfl, Nat.le_refl _, fun _ _ _ => rfl⟩ (fun g e => by cases e)
  refine (pick_any R p 11 _ hd (by omega) (by omega)).mono ?_
  rintro e w' ⟨k, rfl, k0, k1, hr, hg⟩
  obtain ⟨j, rfl⟩ : ∃ j : Nat, k = j := ⟨k.toNat, by omega⟩
  obtain ⟨d, hd, d0, d1⟩ := den_at j (by omega)
  refine ⟨j, d, rfl, by omega, d0, d1, ?_, Lib.hid hr, Lib.hid ?_⟩
  · exact hg.cell (a := ⟨W.heap.size, j, none⟩) ((World.cell?_alloc_at _ _ _ _ rfl).trans hd) (by simp; omega)
  · exact only_trans' (b := (W.alloc (.cells denCells 3)).drew) ⟨rfl, rfl, rfl, by simp [World.drew], fun i hi _ => Below.heap_alloc W _ i hi⟩ hg
theorem denB (W : World) (R p : Nat) (h : Rd W R p) (hp : p ≤ 900000) : Calls Try.prog 80 #[.pointer (some ⟨R, 0, none⟩), .int .i64 11] W.drew
    (PickDen W R (p + 1) fun w' k => (w'.alloc (.cells denCells 3)).cell? ⟨w'.heap.size, k, none⟩) := by
  have hd : Rd W.drew R p := h.keep (row := none) ⟨rfl, rfl, rfl, Nat.le_refl _, fun _ _ _ => rfl⟩ (fun g e => by cases e)
  refine (pick_any R p 11 _ hd (by omega) (by omega)).mono ?_
  rintro e w' ⟨k, rfl, k0, k1, hr, hg⟩
  obtain ⟨j, rfl⟩ : ∃ j : Nat, k = j := ⟨k.toNat, by omega⟩
  obtain ⟨d, hd, d0, d1⟩ := den_at j (by omega)
  refine ⟨j, d, rfl, by omega, d0, d1, (World.cell?_alloc_at _ _ _ _ rfl).trans hd, Lib.hid hr, Lib.hid ?_⟩
  exact only_trans' (b := W.drew) ⟨rfl, rfl, rfl, Nat.le_refl _, fun _ _ _ => rfl⟩ hg

end Go.Proofs.Ytjfljelpjgkmjaa
