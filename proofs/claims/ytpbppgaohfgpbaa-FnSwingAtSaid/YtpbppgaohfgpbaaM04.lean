/-
  The reader of a law's code: opening it and picking a number.
  A block that holds a struct of any cells: reading it whole, writing it whole, handing it back.
  Exact points as a law's arguments: what their cells are.
  What impl's functions of exact points answer.
-/
import Derived.Test.YtpbppgaohfgpbaaM01
import Derived.Test.YtpbppgaohfgpbaaM00
import Derived.OwnWalk
import Derived.Laws.AppendOwn
import Derived.Laws.OwnMore
import Derived.Laws.BitsAllLaws
import Derived.Laws.BitsLemmas
import Derived.Deep.WholeRow
import Derived.Deep.RegionWith
import Derived.Lib.SmallJoins
import Derived.Deep.DeepHandedRow
import Derived.Test.YtpbppgaohfgpbaaM02
/- The reader of a law's code: opening it and picking a number. -/
namespace Go.Proofs.Ytpbppgaohfgpbaa
set_option maxRecDepth 20000
open Go.ChangeShapes Go.WideShapes Go.ChangeAt Go.RowKit
set_option linter.unusedVariables false
set_option linter.unusedSimpArgs false

/-- What the reader's bytes are, apart from the reader's own block. -/
def BytesBut (w : World) (R : Nat) (v : Value) : Prop :=
  (∃ a, v = .slice a 0 0) ∨ ∃ (b off len cap : Nat) (zs : List Int), v = .slice (some ⟨b, off, none⟩) len cap ∧ b < R ∧ len ≤ 2000 ∧
    (∀ i, i < len → w.cell? ⟨b, off + i, none⟩ = some (.int .u8 (zs.getD i 0))) ∧ (∀ i, 0 ≤ zs.getD i 0 ∧ zs.getD i 0 ≤ 255)
/-- A reader lies in block R and has picked p times. -/
def Rd (w : World) (R p : Nat) : Prop := ∃ v, w.heap[R]? = some (.cells #[v, .int .i64 p] 75 (0, 0)) ∧ BytesBut w R v

theorem Rd.lt {w : World} {R p : Nat} (h : Rd w R p) : R < w.heap.size := by
  obtain ⟨v, h, _⟩ := h
  exact Nat.lt_of_not_le fun hle => by rw [Array.getElem?_eq_none hle] at h; cases h

section
variable {w : World} {R : Nat} {v u : Value} {T : TypeId}
theorem two_fst (h : w.heap[R]? = some (.cells #[v, u] T (0, 0))) : w.cell? ⟨R, 0, none⟩ = some v := by simp [World.cell?, h]
theorem two_snd (h : w.heap[R]? = some (.cells #[v, u] T (0, 0))) : w.cell? ⟨R, 1, none⟩ = some u := by simp [World.cell?, h]
theorem two_free (h : w.heap[R]? = some (.cells #[v, u] T (0, 0))) (j : Nat) : w.frozen? ⟨R, j, none⟩ = false := by simp [World.frozen?, h]
theorem two_set (h : w.heap[R]? = some (.cells #[v, u] T (0, 0))) (x : Value) : (w.setCell ⟨R, 1, none⟩ x).heap[R]? = some (.cells #[v, x] T (0, 0)) := by
  have hlt : R < w.heap.size := Nat.lt_of_not_le fun hle => by rw [Array.getElem?_eq_none hle] at h; cases h
  simp [World.setCell, Array.getElem?_modify, h]
end
theorem only_drewN {a w : World} {row : Option Nat} (h : a.grownBy w row) (n : Nat) : a.grownBy (w.drewN n) row := ⟨h.os, h.tape, h.output, h.size, h.block⟩
theorem only_refl (w : World) (row : Option Nat) : w.grownBy w row := ⟨rfl, rfl, rfl, Nat.le_refl _, fun _ _ _ => rfl⟩
theorem only_trans' {a b c : World} {row : Option Nat} (h : a.grownBy b row) (k : b.grownBy c row) : a.grownBy c row :=
  ⟨k.os.trans h.os, k.tape.trans h.tape, k.output.trans h.output, Nat.le_trans h.size k.size, fun i hi hne => (k.block i (Nat.lt_of_lt_of_le hi h.size) hne).trans (h.block i hi hne)⟩

/-- What turns other blocks than the reader's and the code's leaves the reader as it was. -/
theorem Rd.keep {w w' : World} {R p : Nat} {row : Option Nat} (h : Rd w R p) (hg : w.grownBy w' row) (hr : ∀ g, row = some g → R < g) : Rd w' R p := by
  have hlt := h.lt
  obtain ⟨v, hR, hB⟩ := h
  refine ⟨v, (hg.block R hlt (fun e => by have := hr R e.symm; omega)).trans hR, ?_⟩
  rcases hB with h | ⟨b, off, len, cap, zs, rfl, hb, hl, hc, hz⟩
  · exact .inl h
  · refine .inr ⟨b, off, len, cap, zs, rfl, hb, hl, fun i hi => ?_, hz⟩
    exact (World.cell?_of_block (hg.block b (by omega) (fun e => by have := hr b e.symm; omega))).trans (hc i hi)
theorem Rd.alloc {w : World} {R p : Nat} (h : Rd w R p) (o : Obj) : Rd (w.alloc o) R p := h.keep (World.grownBy_alloc w o none) (fun g e => by cases e)
theorem only_alloc {a w : World} {row : Option Nat} (h : a.grownBy w row) (o : Obj) : a.grownBy (w.alloc o) row := only_trans' h (World.grownBy_alloc w o row)
theorem only_of_none {a w : World} (h : a.grownBy w none) (row : Option Nat) : a.grownBy w row := ⟨h.os, h.tape, h.output, h.size, fun i hi _ => h.block i hi (by simp)⟩
theorem below_only {w0 w w' : World} {B R : Nat} (h : Below B w0 w) (hg : w.grownBy w' (some R)) (hB : B ≤ w.heap.size) (hR : B ≤ R) : Below B w0 w' :=
  h.grown hg hB (fun k hk => by cases hk; exact hR)

/-- What a pick hands back. -/
def Picked (w : World) (R p : Nat) (n : Int) (e : Ending) (w' : World) : Prop :=
  ∃ k : Int, e = .returned (.int .i64 k) ∧ 0 ≤ k ∧ k < n ∧ Rd w' R p ∧ w.grownBy w' (some R)

theorem rd_step {w : World} {R p : Nat} (h : Rd w R p) (m : Nat) : Rd ((w.setCell ⟨R, 1, none⟩ (.int .i64 (p + 1))).drewN m) R (p + 1) ∧ w.grownBy ((w.setCell ⟨R, 1, none⟩ (.int .i64 (p + 1))).drewN m) (some R) := by
  obtain ⟨v, hR, hB⟩ := h
  have hg : w.grownBy (w.setCell ⟨R, 1, none⟩ (.int .i64 (p + 1))) (some R) :=
    ⟨rfl, rfl, rfl, by simp [World.setCell], fun i _ hne => Below.heap_setCell w _ _ i (by rintro rfl; exact hne rfl)⟩
  refine ⟨⟨v, ?_, ?_⟩, only_drewN hg m⟩
  · exact two_set hR _
  · rcases hB with h | ⟨b, off, len, cap, zs, rfl, hlt, hl, hc, hz⟩
    · exact .inl h
    · have hne : b ≠ R := by omega
      refine .inr ⟨b, off, len, cap, zs, rfl, hlt, hl, fun i hi => ?_, hz⟩
      exact (World.cell?_setCell_other _ _ _ _ (by simp [hne])).trans (hc i hi)

theorem ofInt_i64 (a : Nat) (ha : a < 9223372036854775808) : (BitVec.ofInt 64 (a : Int)).toNat = a := by
  rw [BitVec.ofInt_natCast, BitVec.toNat_ofNat]; exact Nat.mod_eq_of_lt (by omega)
theorem i64_xor_nat (a b : Nat) (ha : a < 9223372036854775808) (hb : b < 9223372036854775808) : bits .xor .i64 (a : Int) (b : Int) = ((a ^^^ b : Nat) : Int) := by
  have hx : a ^^^ b < 2 ^ 63 := Nat.xor_lt_two_pow (by omega) (by omega)
  show IntKind.i64.wrap ((BitVec.ofInt 64 (a : Int) ^^^ BitVec.ofInt 64 (b : Int)).toNat : Int) = _
  rw [BitVec.toNat_xor, ofInt_i64 a ha, ofInt_i64 b hb, IntKind.wrap_i64]
  omega

theorem pick_empty (R p : Nat) (n : Int) (a : Option Addr) (w : World) (hR : w.heap[R]? = some (.cells #[.slice a 0 0, .int .i64 p] 75 (0, 0))) (hp : p ≤ 1000000) (hn : 1 ≤ n) :
    Calls Try.prog 57 #[.pointer (some ⟨R, 0, none⟩), .int .i64 n] w fun e w' => e = .returned (.int .i64 0) ∧ ∃ m, w' = (w.setCell ⟨R, 1, none⟩ (.int .i64 (p + 1))).drewN m := by
  have c0 := two_fst hR
  have c1 := two_snd hR
  have f1 := two_free hR 1
  clear hR
  go_enter Try.func57, Try.ntmps57
  go_wp2_with fail
  go_ret
  exact ⟨rfl, 0, rfl⟩

theorem byte_rem {x n : Int} (h : 0 ≤ x) (hn : 1 ≤ n) : 0 ≤ x % n ∧ x % n < n := ⟨Int.emod_nonneg _ (by omega), Int.emod_lt_of_pos _ (by omega)⟩

theorem pick_byte (R p b off len cap : Nat) (z n : Int) (w : World) (hR : w.heap[R]? = some (.cells #[.slice (some ⟨b, off, none⟩) len cap, .int .i64 p] 75 (0, 0))) (hp : p ≤ 1000000) (hn : 1 ≤ n)
    (hb : b ≠ R) (hlt : p < len) (hl : len ≤ 2000) (hc : w.cell? ⟨b, off + p, none⟩ = some (.int .u8 z)) (hz0 : 0 ≤ z) (hz1 : z ≤ 255) :
    Calls Try.prog 57 #[.pointer (some ⟨R, 0, none⟩), .int .i64 n] w fun e w' => (∃ k : Int, e = .returned (.int .i64 k) ∧ 0 ≤ k ∧ k < n) ∧ ∃ m, w' = (w.setCell ⟨R, 1, none⟩ (.int .i64 (p + 1))).drewN m := by
  have c0 := two_fst hR
  have c1 := two_snd hR
  have f1 := two_free hR 1
  clear hR
  have hlt' : (p : Int) < (len : Int) := by omega
  have hl0 : ((len : Int) == 0) = false := by simp; omega
  have hcs : (w.setCell ⟨R, 1, none⟩ (.int .i64 (p + 1))).cell? ⟨b, off + p, none⟩ = some (.int .u8 z) := (World.cell?_setCell_other _ _ _ _ (by simp [hb])).trans hc
  clear hc
  go_enter Try.func57, Try.ntmps57
  go_wp2_with fail
  go_ret
  exact ⟨⟨_, rfl, byte_rem hz0 hn⟩, 0, rfl⟩

theorem xor_rem {E n : Int} (h0 : 0 ≤ E) (h1 : E ≤ 4611686018427387904) (hn : 1 ≤ n) : 0 ≤ (bits .xor .i64 E (E / 64)).tmod n ∧ (bits .xor .i64 E (E / 64)).tmod n < n := by
  obtain ⟨a, rfl⟩ : ∃ a : Nat, E = a := ⟨E.toNat, by omega⟩
  have e : ((a : Int) / 64) = ((a / 64 : Nat) : Int) := by omega
  rw [e, i64_xor_nat a (a / 64) (by omega) (by omega)]
  exact ⟨Int.tmod_nonneg _ (by omega), Int.tmod_lt_of_pos _ (by omega)⟩
theorem pick_none (R p b off cap : Nat) (n : Int) (w : World) (hR : w.heap[R]? = some (.cells #[.slice (some ⟨b, off, none⟩) 0 cap, .int .i64 p] 75 (0, 0))) (hp : p ≤ 1000000) (hn : 1 ≤ n) :
    Calls Try.prog 57 #[.pointer (some ⟨R, 0, none⟩), .int .i64 n] w fun e w' => e = .returned (.int .i64 0) ∧ ∃ m, w' = (w.setCell ⟨R, 1, none⟩ (.int .i64 (p + 1))).drewN m := by
  have c0 := two_fst hR
  have c1 := two_snd hR
  have f1 := two_free hR 1
  clear hR
  go_enter Try.func57, Try.ntmps57
  go_wp2_with fail
  go_ret
  exact ⟨rfl, 0, rfl⟩

theorem pick_past (R p b off len cap : Nat) (z z' n : Int) (w : World) (hR : w.heap[R]? = some (.cells #[.slice (some ⟨b, off, none⟩) len cap, .int .i64 p] 75 (0, 0))) (hp : p ≤ 1000000) (hn : 1 ≤ n)
    (hb : b ≠ R) (hlt : len ≤ p) (hl0 : 0 < len) (hl : len ≤ 2000) (hc : w.cell? ⟨b, off + p % len, none⟩ = some (.int .u8 z)) (hc' : w.cell? ⟨b, off + (p * 7 + 3) % len, none⟩ = some (.int .u8 z'))
    (hz0 : 0 ≤ z) (hz1 : z ≤ 255) (hz0' : 0 ≤ z') (hz1' : z' ≤ 255) :
    Calls Try.prog 57 #[.pointer (some ⟨R, 0, none⟩), .int .i64 n] w fun e w' => (∃ k : Int, e = .returned (.int .i64 k) ∧ 0 ≤ k ∧ k < n) ∧ ∃ m, w' = (w.setCell ⟨R, 1, none⟩ (.int .i64 (p + 1))).drewN m := by
  have c0 := two_fst hR
  have c1 := two_snd hR
  have f1 := two_free hR 1
  clear hR
  have hlt' : ¬ (p : Int) < (len : Int) := by omega
  have hle : ((len : Int) == 0) = false := by simp; omega
  have hl1 : (1 : Int) ≤ (len : Int) := by omega
  have m0 : (0 : Int) ≤ (p : Int) % (len : Int) := Int.emod_nonneg _ (by omega)
  have m1 : (p : Int) % (len : Int) < (len : Int) := Int.emod_lt_of_pos _ (by omega)
  have m2 : (0 : Int) ≤ ((p : Int) * 7 + 3) % (len : Int) := Int.emod_nonneg _ (by omega)
  have m3 : ((p : Int) * 7 + 3) % (len : Int) < (len : Int) := Int.emod_lt_of_pos _ (by omega)
  have q0 : (0 : Int) ≤ (p : Int) / (len : Int) := Int.ediv_nonneg (by omega) (by omega)
  have q1 : (p : Int) / (len : Int) ≤ 1000000 := by
    have := Int.ediv_le_self (b := (len : Int)) (show (0 : Int) ≤ (p : Int) by omega)
    omega
  have hcs : (w.setCell ⟨R, 1, none⟩ (.int .i64 (p + 1))).cell? ⟨b, off + p % len, none⟩ = some (.int .u8 z) := (World.cell?_setCell_other _ _ _ _ (by simp [hb])).trans hc
  have hcs' : (w.setCell ⟨R, 1, none⟩ (.int .i64 (p + 1))).cell? ⟨b, off + (p * 7 + 3) % len, none⟩ = some (.int .u8 z') := (World.cell?_setCell_other _ _ _ _ (by simp [hb])).trans hc'
  clear hc hc'
  go_enter Try.func57, Try.ntmps57
  go_wp2_with fail
  go_quiet (fail)
  go_wp2_with fail
  go_ret
  exact ⟨⟨_, rfl, xor_rem (by omega) (by omega) hn⟩, _, rfl⟩

/-- A pick of a number from 0 to n - 1: only the reader's own block turns. -/
theorem pick_any (R p : Nat) (n : Int) (w : World) (h : Rd w R p) (hp : p ≤ 1000000) (hn : 1 ≤ n) :
    Calls Try.prog 57 #[.pointer (some ⟨R, 0, none⟩), .int .i64 n] w (Picked w R (p + 1) n) := by
  have st := rd_step h
  obtain ⟨v, hR, hB⟩ := h
  rcases hB with ⟨a, rfl⟩ | ⟨b, off, len, cap, zs, rfl, hbw, hl, hc, hz⟩
  · refine (pick_empty R p n a w hR hp hn).mono ?_
    rintro e w' ⟨rfl, m, rfl⟩
    exact ⟨0, rfl, by omega, by omega, (st m).1, (st m).2⟩
  have hne : b ≠ R := by omega
  by_cases h0 : len = 0
  · subst h0
    have hR' : w.heap[R]? = some (.cells #[.slice (some ⟨b, off, none⟩) 0 cap, .int .i64 p] 75 (0, 0)) := hR
    refine (pick_none R p b off cap n w hR' hp hn).mono ?_
    rintro e w' ⟨rfl, m, rfl⟩
    exact ⟨0, rfl, by omega, by omega, (st m).1, (st m).2⟩
  by_cases hlt : p < len
  · refine (pick_byte R p b off len cap _ n w hR hp hn hne hlt hl (hc p hlt) (hz p).1 (hz p).2).mono ?_
    rintro e w' ⟨⟨k, rfl, k0, k1⟩, m, rfl⟩
    exact ⟨k, rfl, k0, k1, (st m).1, (st m).2⟩
  · refine (pick_past R p b off len cap _ _ n w hR hp hn hne (by omega) (by omega) hl (hc (p % len) (Nat.mod_lt _ (by omega))) (hc ((p * 7 + 3) % len) (Nat.mod_lt _ (by omega))) (hz _).1 (hz _).2 (hz _).1 (hz _).2).mono ?_
    rintro e w' ⟨⟨k, rfl, k0, k1⟩, m, rfl⟩
    exact ⟨k, rfl, k0, k1, (st m).1, (st m).2⟩

/-- What the opening of a code hands back: a reader in a new block. -/
def Opened (w : World) (e : Ending) (w' : World) : Prop :=
  e = .returned (.pointer (some ⟨w.heap.size, 0, none⟩)) ∧ Rd w' w.heap.size 0 ∧ Below w.heap.size w w'
theorem open_any (v : Value) (w : World) (h : CodeAt w v) : Calls Try.prog 39 #[v] w (Opened w) := by
  rcases h with ⟨a, rfl⟩ | ⟨b, off, len, cap, zs, rfl, hb, hlc, hcm, hlz, hc, hz⟩
  · go_enter Try.func39, Try.ntmps39
    go_wp2_with fail
    go_ret
    exact ⟨rfl, ⟨_, heap_alloc_last _ _, .inl ⟨a, rfl⟩⟩, (Below.refl _ _).alloc (Nat.le_refl _) _⟩
  · have hc' : ∀ i, i < len → ∀ o, (w.alloc o).cell? ⟨b, off + i, none⟩ = some (.int .u8 (zs.getD i 0)) := fun i hi o => by
      rw [World.cell?_alloc_past _ _ _ hb]; exact hc i hi
    unfold maxLen at hcm
    by_cases hl : len ≤ 2000
    · have hl' : ¬ (2000 : Int) < (len : Int) := by omega
      have C := fun i hi o => Lib.hid (hc' i hi o)
      clear hc hc'
      go_enter Try.func39, Try.ntmps39
      go_wp2_with fail
      go_ret
      exact ⟨rfl, ⟨_, heap_alloc_last _ _, .inr ⟨b, off, len, cap, zs, rfl, hb, hl, fun i hi => (C i hi _).out, hz⟩⟩, (Below.refl _ _).alloc (Nat.le_refl _) _⟩
    · have hl' : (2000 : Int) < (len : Int) := by omega
      have hlc' : (2000 : Int) ≤ (cap : Int) := by omega
      have C := fun i hi o => Lib.hid (hc' i hi o)
      clear hc hc'
      go_enter Try.func39, Try.ntmps39
      go_wp2_with fail
      go_ret
      exact ⟨rfl, ⟨_, heap_alloc_last _ _, .inr ⟨b, off, 2000, cap, zs, rfl, hb, by omega, fun i hi => (C i (by omega) _).out, hz⟩⟩, (Below.refl _ _).alloc (Nat.le_refl _) _⟩
end Go.Proofs.Ytpbppgaohfgpbaa
/- A block that holds a struct of any cells: reading it whole, writing it whole, handing it back. -/
namespace Go.Proofs.Ytpbppgaohfgpbaa
set_option maxRecDepth 20000
open Go.ChangeShapes Go.WideShapes Go.ChangeAt Go.RowKit
set_option linter.unusedVariables false
set_option linter.unusedSimpArgs false

theorem run_store_fl (P : Program) (w : World) (a : Addr) (k : FloatKind) (x : Nat) (m : Mode) : (store a (.float k x) m).run P w = stored P w a (.float k x) m := run_store P w a _ m rfl
theorem run_store_cx (P : Program) (w : World) (a : Addr) (k : FloatKind) (x y : Nat) (m : Mode) : (store a (.complex k x y) m).run P w = stored P w a (.complex k x y) m := run_store P w a _ m rfl
theorem bel1 (w : World) (o : Obj) : Below w.heap.size w (w.alloc o) := (Below.refl _ _).alloc (Nat.le_refl _) _
theorem bel2 (w : World) (o p : Obj) : Below w.heap.size w ((w.alloc o).alloc p) := (bel1 w o).alloc (by simp) _
theorem bel3 (w : World) (o p q : Obj) : Below w.heap.size w (((w.alloc o).alloc p).alloc q) := (bel2 w o p).alloc (by simp; omega) _
theorem belA {w W : World} (h : Below w.heap.size w W) (o : Obj) : Below w.heap.size w (W.alloc o) := h.alloc h.size o
theorem belT {w W V : World} (h : Below w.heap.size w W) (k : Below W.heap.size W V) : Below w.heap.size w V := h.trans (k.mono h.size)
/-- Block g holds these cells. -/
def BlkAt (w : World) (g : Nat) (T : TypeId) (cs : Array Value) : Prop := w.heap[g]? = some (.cells cs T (0, 0))
section
variable {w w' : World} {g : Nat} {T : TypeId} {cs cs' : Array Value}
theorem BlkAt.lt (h : BlkAt w g T cs) : g < w.heap.size := Nat.lt_of_not_le fun hle => by unfold BlkAt at h; rw [Array.getElem?_eq_none hle] at h; cases h
theorem BlkAt.cell (h : BlkAt w g T cs) {k : Nat} {v : Value} (hk : cs[k]? = some v) : w.cell? ⟨g, k, none⟩ = some v := by rw [cell_of_row _ _ _ _ _ _ h, hk]
theorem BlkAt.free (h : BlkAt w g T cs) (k : Nat) : w.frozen? ⟨g, k, none⟩ = false := frozen_of_row _ _ _ _ _ h
theorem BlkAt.other (h : BlkAt w g T cs) (a : Addr) (v : Value) (ha : g ≠ a.block) : BlkAt (w.setCell a v) g T cs := by
  unfold BlkAt
  rw [heap_setCell_other w a g v ha]; exact h
theorem BlkAt.set (h : BlkAt w g T cs) (k : Nat) (v : Value) : BlkAt (w.setCell ⟨g, k, none⟩ v) g T (cs.setIfInBounds k v) := by
  unfold BlkAt
  rw [heap_setCell_same w g k _ T _ h]
theorem BlkAt.alloc (h : BlkAt w g T cs) (o : Obj) : BlkAt (w.alloc o) g T cs := (heap_alloc_old w o h.lt).trans h
theorem BlkAt.new (w : World) (T : TypeId) (cs : Array Value) : BlkAt (w.alloc (.cells cs T)) w.heap.size T cs := heap_alloc_new _ _
theorem BlkAt.newAt {o : Obj} (e : o = .cells cs T) (h : w.heap.size = g) : BlkAt (w.alloc o) g T cs := by subst e; subst h; exact heap_alloc_new _ _
theorem BlkAt.setRow (h : BlkAt w g T cs) : BlkAt (w.setRow g cs') g T cs' := setRow_heap _ _ _ _ _ _ h
theorem BlkAt.rowOther (h : BlkAt w g T cs) (G : Nat) (ds : Array Value) (ha : g ≠ G) : BlkAt (w.setRow G ds) g T cs := (setRow_other _ _ _ _ ha).trans h
theorem BlkAt.below (h : BlkAt w g T cs) (hb : Below w.heap.size w w') : BlkAt w' g T cs := (hb.block _ h.lt).trans h
theorem BlkAt.drewN (h : BlkAt w g T cs) (m : Nat) : BlkAt (w.drewN m) g T cs := h
end
section
variable {P : Program} {fn : Func} {p q : Tmp} {ty : TypeId} {tmps : Array Value} {w : World} {g : Nat} {T : TypeId} {cs cs' : Array Value} {d : TypeDesc}
theorem run_blk (hg : BlkAt w g T cs) (hu : P.underlying ty = some d) (hd : (match d with | .struct _ | .array _ _ => true | _ => false) = true) (hi : (P.info? ty).map (·.size) = some cs.size) :
    (loadVar ty ⟨g, 0, none⟩).run P w = .ok (.agg cs) w := run_loadVar_row w g T ty cs (0, 0) d hg hu hd hi
theorem results_blk (h : fn.results = #[.cell p ty]) (hp : tmps.getD p undef = .pointer (some ⟨g, 0, none⟩)) (hg : BlkAt w g T cs) (hu : P.underlying ty = some d)
    (hd : (match d with | .struct _ | .array _ _ => true | _ => false) = true) (hi : (P.info? ty).map (·.size) = some cs.size) : (results fn tmps).run P w = .ok (.agg cs) w := by
  have hp' : tmps[p]?.getD undef = .pointer (some ⟨g, 0, none⟩) := by simpa using hp
  simp [results, h, hp', asAddr, run_blk hg hu hd hi]
theorem results_blk_tmp (h : fn.results = #[.cell p ty, .tmp q]) (hp : tmps.getD p undef = .pointer (some ⟨g, 0, none⟩)) (hg : BlkAt w g T cs) (hu : P.underlying ty = some d)
    (hd : (match d with | .struct _ | .array _ _ => true | _ => false) = true) (hi : (P.info? ty).map (·.size) = some cs.size) : (results fn tmps).run P w = .ok (.tuple #[.agg cs, tmps.getD q undef]) w := by
  have hp' : tmps[p]?.getD undef = .pointer (some ⟨g, 0, none⟩) := by simpa using hp
  simp [results, h, hp', asAddr, run_blk hg hu hd hi, Sem.run_bind]
theorem load_blk {ops : Array Oper} {rest : List Oper} {o : Oper} {a : Act} {Q : Exit → Act → World → Prop} (hgd : o.guard = none) {x : Operand} (ho : o.op = .load ty x)
    (hx : a.eval x = .pointer (some ⟨g, 0, none⟩)) (hg : BlkAt w g T cs) (hu : P.underlying ty = some d) (hd : (match d with | .struct _ | .array _ _ => true | _ => false) = true) (hi : (P.info? ty).map (·.size) = some cs.size)
    (h : wpList P ops Q rest (a.put o.dst (.agg cs)) w) : wpList P ops Q (o :: rest) a w :=
  wpList_load_row hgd ty x ho g hx T cs (0, 0) d hg hu hd hi h
theorem store_blk {ops : Array Oper} {rest : List Oper} {o : Oper} {a : Act} {Q : Exit → Act → World → Prop} (hgd : o.guard = none) {x y : Operand} (ho : o.op = .store ty x y)
    (hx : a.eval x = .pointer (some ⟨g, 0, none⟩)) (hy : a.eval y = .agg cs') (hg : BlkAt w g T cs) (hi : (P.info? ty).map (·.size) = some cs'.size) (hs : cs.size = cs'.size) (h1 : cs'.all (·.oneCell') = true)
    (h : wpList P ops Q rest (a.put o.dst undef) (w.setRow g cs')) : wpList P ops Q (o :: rest) a w :=
  wpList_store_row hgd ty x y ho g cs' hx hy T cs hg hi hs h1 h
theorem load_blk_step {o : Oper} {a : Act} {K : Act → World → Prop} {Q : Exit → Act → World → Prop} {x : Operand} (ho : o.op = .load ty x)
    (hx : a.eval x = .pointer (some ⟨g, 0, none⟩)) (hg : BlkAt w g T cs) (hu : P.underlying ty = some d) (hd : (match d with | .struct _ | .array _ _ => true | _ => false) = true) (hi : (P.info? ty).map (·.size) = some cs.size)
    (h : K (a.put o.dst (.agg cs)) w) : o.wp P a w K Q :=
  wp_load_row ty x ho g hx T cs (0, 0) d hg hu hd hi h
theorem store_blk_step {o : Oper} {a : Act} {K : Act → World → Prop} {Q : Exit → Act → World → Prop} {x y : Operand} (ho : o.op = .store ty x y)
    (hx : a.eval x = .pointer (some ⟨g, 0, none⟩)) (hy : a.eval y = .agg cs') (hg : BlkAt w g T cs) (hi : (P.info? ty).map (·.size) = some cs'.size) (hs : cs.size = cs'.size) (h1 : cs'.all (·.oneCell') = true)
    (h : K (a.put o.dst undef) (w.setRow g cs')) : o.wp P a w K Q :=
  wp_store_row ty x y ho g cs' hx hy T cs hg hi hs h1 h
end
end Go.Proofs.Ytpbppgaohfgpbaa
/- Exact points as a law's arguments: what their cells are. -/
namespace Go.Proofs.Ytpbppgaohfgpbaa
open Go.Joins Go.ChangeShapes Go.WideShapes Go.RowKit Go.Deep
set_option maxRecDepth 20000
set_option linter.unusedVariables false
set_option linter.unusedSimpArgs false

section
variable {H : Type} {enc : TypeId × Value → H} {P : Program} {w : World} {base : Nat} {spare : Nat → Bool} {held : Bool}
/-- The cells of an array of whole numbers are numbers. -/
theorem cells_of_array {fuel : Nat} {t e : TypeId} {n : Nat} {cs : List Value} {x : DataW H × List MemPlace} (ht : P.underlying t = some (.array n e)) (he : P.underlying e = some (.int .i64)) (hce : P.cellsOf e = 1) (hct : P.cellsOf t = n)
    (h : DataW.trod enc P w base spare held fuel t cs = some x) (hl : cs.length = n) : ∃ f, cs = lst n f := by
  cases fuel with
  | zero => simp [DataW.trod] at h
  | succ fuel =>
    simp only [DataW.trod, ht, hce, hct, Nat.mul_one, hl, if_true] at h
    · obtain ⟨xs, hm, hx⟩ := Option.map_eq_some_iff.1 h
      have key : ∀ i, i < n → ∃ z, cs[i]? = some (.int .i64 z) := by
        intro i hi
        have hxl : xs.length = n := by simpa using Lib.mapM_length hm
        obtain ⟨b, hb, hf⟩ := Lib.mapM_at hm i i (by simp [hi])
        obtain ⟨z, hc, _, _⟩ := DataW.trod_int he hf
        refine ⟨z, ?_⟩
        have := congrArg (·[0]?) hc
        simpa [List.getElem?_take, List.getElem?_drop] using this
      refine ⟨fun i => match cs[i]? with | some (.int _ z) => z | _ => 0, ?_⟩
      apply List.ext_getElem?
      intro i
      by_cases hi : i < n
      · obtain ⟨z, hz⟩ := key i hi
        simp [lst, hi, hz]
      · rw [List.getElem?_eq_none (by omega), List.getElem?_eq_none (by rw [lst_length]; omega)]
theorem open_one {r : Reach} {b0 : Nat} {t u e : TypeId} {n : Nat} {f0 : Field} {v : Value} {d : DataW H} {p : List MemPlace} (hs : P.underlying t = some (.struct #[f0])) (hft : f0.type = u) (hfo : f0.offset = 0)
    (hu : P.underlying u = some (.array n e)) (he : P.underlying e = some (.int .i64)) (hce : P.cellsOf e = 1) (hcu : P.cellsOf u = n) (hC : P.cellsOf t = n)
    (hv : Value.okWide P w r b0 t v) (h : DataW.Trod enc P w base spare held t v d p) : ∃ f, v = .agg (vec n f) := by
  obtain ⟨cs, rfl, hsz⟩ := okWide_struct hs hv
  obtain ⟨l⟩ := cs
  obtain ⟨fuel, hf⟩ := h
  obtain ⟨xs, m, _, hx, _, hlen, hg⟩ := DataW.trod_struct hs hf
  have h0 := hg 0 f0 rfl
  have hl : l.length = n := by rw [← hC, ← hsz]; simp
  rw [hft, hfo, hcu] at h0
  have e1 : ((Value.agg ⟨l⟩).cells.toList.drop 0).take n = l := by simp [Value.cells, ← hl]
  rw [e1] at h0
  obtain ⟨y, hy⟩ : ∃ y, xs[0]? = some y := ⟨_, List.getElem?_eq_getElem (by rw [hlen]; simp)⟩
  rw [hy] at h0
  obtain ⟨f, hfe⟩ := cells_of_array hu he hce hcu h0 hl
  exact ⟨f, by rw [hfe]; rfl⟩
end
theorem cells_int' : Try.prog.cellsOf 3 = 1 := by kernel_rfl
section
variable {H : Type} {enc : TypeId × Value → H} {fn : Func}
end
end Go.Proofs.Ytpbppgaohfgpbaa
/- What impl's functions of exact points answer. -/
namespace Go.Proofs.Ytpbppgaohfgpbaa
set_option maxRecDepth 20000
open Go.ChangeShapes Go.WideShapes Go.ChangeAt Go.RowKit
set_option linter.unusedVariables false
set_option linter.unusedSimpArgs false

theorem ret_bool' {a b : Bool} (h : a = b) : Ending.returned (.bool a) = .returned (.bool b) := by rw [h]

end Go.Proofs.Ytpbppgaohfgpbaa
