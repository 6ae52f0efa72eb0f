/-
  The laws' helpers on exact points: copying and comparing; and what both sides answer.
  The exact laws of exact points of one point or of numbers: both sides answer alike, for every argument.
  The reader of a law's code: opening it and picking a number.
  Three closed facts on the seat's program whose plain reckoning takes more memory than there is: they read the words of a long text letter by letter. Here the text is taken as a list first.
-/
import Derived.Test.YtnidiikcnplebaaM02
import Derived.Test.YtnidiikcnplebaaM03
import Derived.Deep.QuietTactic
import Derived.BigQuiet
import Derived.Test.YtnidiikcnplebaaM01
import Derived.Test.YtnidiikcnplebaaM00
import Derived.OwnWalk
import Derived.Laws.AppendOwn
import Derived.Laws.OwnMore
import Derived.Laws.BitsAllLaws
import Derived.Laws.BitsLemmas
import Derived.Deep.WholeRow
import Derived.Deep.RegionWith
/- The laws' helpers on exact points: copying and comparing; and what both sides answer. -/
namespace Go.Proofs.Ytnidiikcnplebaa
set_option maxRecDepth 20000
open Go.ChangeShapes Go.WideShapes Go.ChangeAt Go.RowKit
set_option linter.unusedVariables false
set_option linter.unusedSimpArgs false

theorem toInts_any (a : Nat → Int) (w : World) :
    Calls Try.prog 123 #[pt a] w fun e w' => e = .returned (pt a) ∧ Below w.heap.size w w' := by
  have sa := vec_size 8 a
  unfold pt at *
  go_enter Try.func123, Try.ntmps123
  go_upto_region 2 with fail
  show Code.wp _ _ _ _ ((box1 w a 38 38).alloc (.cells (vec 8 nul) 38))
  obtain ⟨hA, hO, hL⟩ := box1_facts w a 38 38
  have zE := hO.lt
  have hsz : (box1 w a 38 38).heap.size = w.heap.size + 1 + 1 := by simp [box1]
  have hA := hA.alloc (.cells (vec 8 nul) 38)
  have hO := hO.alloc (.cells (vec 8 nul) 38)
  have hL := hL.alloc (by omega) (.cells (vec 8 nul) 38)
  have hE : RowAt ((box1 w a 38 38).alloc (.cells (vec 8 nul) 38)) (w.heap.size + 1 + 1) 8 38 nul := RowAt.newAt rfl hsz
  clear zE hsz
  generalize (box1 w a 38 38).alloc (.cells (vec 8 nul) 38) = W at *
  go_wp2_with fail
  go_loopw [4] (fun i wr => ∃ k : Nat, k ≤ 8 ∧ i = .int .i64 k ∧ RowAt wr w.heap.size 8 38 a ∧ RowAt wr (w.heap.size + 1) 8 38 nul ∧ RowAt wr (w.heap.size + 1 + 1) 8 38 (mix k a nul) ∧ Below w.heap.size w wr) (fun i _ => 8 - (intOf i).toNat)
  case atStart => exact ⟨0, Nat.zero_le _, rfl, hA, hO, by rw [mix_zero]; exact hE, hL⟩
  case round =>
    clear hA hO hE hL
    obtain ⟨k, hk, rfl, hA, hO, hE, hL⟩ := hrel
    by_cases hlt : k < 8
    · have hlt' : (k : Int) < 8 := by omega
      have hk0 : (0 : Int) ≤ (k : Int) := by omega
      have cA := hA.cell hlt
      have cE := hE.cell hlt
      have fE := hE.free k
      rw [mix_at] at cE
      have hE2 := hE.set hlt (a k)
      rw [mix_step] at hE2
      have HE := Lib.hid hE2
      have HA := Lib.hid (hA.other ⟨w.heap.size + 1 + 1, k, none⟩ (.int .i64 (a k)) (by simp; try omega))
      have HO := Lib.hid (hO.other ⟨w.heap.size + 1 + 1, k, none⟩ (.int .i64 (a k)) (by simp; try omega))
      have HL := Lib.hid (hL.setCell (p := ⟨w.heap.size + 1 + 1, k, none⟩) (by simp; omega) (.int .i64 (a k)))
      clear hA hO hE hL hE2
      go_wp2_with fail
      go_roundw
      case rel => exact ⟨k + 1, by omega, by go_num, HA.out, HO.out, HE.out, HL.out⟩
      case measure => simp [intOf]; omega
    · obtain rfl : k = 8 := by omega
      have HE := Lib.hid hE; have HO := Lib.hid hO; have HL := Lib.hid hL
      clear hA hE hO hL
      go_wp2_with (first | (refine load_row rfl rfl rfl HE.out Try.underlying38 rfl info_arr8 ?_) | (refine store_row rfl rfl rfl rfl HO.out info_arr8 ?_))
      refine bodyPost_ret (results_row rfl rfl HO.out.setRow Try.underlying38 rfl info_arr8) rfl ?_
      exact ⟨by rw [vec_mix], below_setRow HL.out (by omega) _⟩

theorem toCyc_any (a : Nat → Int) (w : World) :
    Calls Try.prog 95 #[pt a] w fun e w' => e = .returned (pt a) ∧ Below w.heap.size w w' := by
  have sa := vec_size 8 a
  have P := fun w => toInts_any a w
  unfold pt at *
  go_enter Try.func95, Try.ntmps95
  go_upto_region 2 with fail
  show Code.wp _ _ _ _ ((box1 w a 123 40).alloc (.cells (vec 8 nul) 40))
  obtain ⟨hA, hO, hL⟩ := box1_facts w a 123 40
  have zE := hO.lt
  have hsz : (box1 w a 123 40).heap.size = w.heap.size + 1 + 1 := by simp [box1]
  have hA := hA.alloc (.cells (vec 8 nul) 40)
  have hO := hO.alloc (.cells (vec 8 nul) 40)
  have hL := hL.alloc (by omega) (.cells (vec 8 nul) 40)
  have hE : RowAt ((box1 w a 123 40).alloc (.cells (vec 8 nul) 40)) (w.heap.size + 1 + 1) 8 40 nul := RowAt.newAt rfl hsz
  clear zE hsz
  generalize (box1 w a 123 40).alloc (.cells (vec 8 nul) 40) = W at *
  go_wp2_with (refine load_row rfl rfl rfl hA Try.underlying38 rfl info_arr8 ?_)
  refine (P _).mono ?_; rintro e w2 ⟨rfl, hb2⟩
  have hO2 := hO.below hb2; have hE2 := hE.below hb2; have hL2 := below_next hL hb2
  clear hA hO hE hL hb2 P
  have HE := Lib.hid (hE2.setRow (f' := a))
  have HO := Lib.hid (hO2.rowOther (w.heap.size + 1 + 1) (vec 8 a) (by omega))
  have HL := Lib.hid (below_setRow hL2 (g := w.heap.size + 1 + 1) (by omega) (vec 8 a))
  clear hO2 hL2
  go_upto_region 3 with (refine store_row rfl rfl rfl rfl hE2 info_arr8 ?_)
  go_wp2_with (first | (refine load_row rfl rfl rfl HE.out Try.underlying40 rfl info_cyc ?_) | (refine store_row rfl rfl rfl rfl HO.out info_cyc ?_))
  refine bodyPost_ret (results_row rfl rfl HO.out.setRow Try.underlying40 rfl info_cyc) rfl ?_
  exact ⟨rfl, below_setRow HL.out (by omega) _⟩

theorem eqInts8_yes (a : Nat → Int) (w : World) :
    Calls Try.prog 125 #[pt a, pt a] w fun e w' => e = .returned (.bool true) ∧ Below w.heap.size w w' := by
  have sa := vec_size 8 a
  unfold pt at *
  go_enter Try.func125, Try.ntmps125
  go_upto_region 1 with fail
  show Code.wp _ _ _ _ (boxAB w a a 38)
  obtain ⟨hA, hB, hL, _⟩ := boxAB_facts w a a 38
  generalize boxAB w a a 38 = W at *
  go_wp2_with fail
  go_loopw [5] (fun i wr => ∃ k : Nat, k ≤ 8 ∧ i = .int .i64 k ∧ RowAt wr w.heap.size 8 38 a ∧ RowAt wr (w.heap.size + 1) 8 38 a ∧ Below w.heap.size w wr) (fun i _ => 8 - (intOf i).toNat)
  case atStart => exact ⟨0, Nat.zero_le _, rfl, hA, hB, hL⟩
  case round =>
    clear hA hB hL
    obtain ⟨k, hk, rfl, hA, hB, hL⟩ := hrel
    by_cases hlt : k < 8
    · have hlt' : (k : Int) < 8 := by omega
      have hk0 : (0 : Int) ≤ (k : Int) := by omega
      have cA := hA.cell hlt
      have cB := hB.cell hlt
      have HA := Lib.hid hA; have HB := Lib.hid hB; have HL := Lib.hid hL
      clear hA hB hL
      generalize a k = x at cA cB
      go_wp2_with fail
      go_quiet (fail)
      go_wp2_with fail
      go_roundw
      case rel => exact ⟨k + 1, by omega, by go_num, HA.out.drew _, HB.out.drew _, below_drewN HL.out _⟩
      case measure => simp [intOf]; omega
    · obtain rfl : k = 8 := by omega
      have HL := Lib.hid hL
      clear hA hB hL
      go_wp2_with fail
      go_ret
      exact ⟨rfl, HL.out⟩
theorem eqCyc_yes (a : Nat → Int) (w : World) :
    Calls Try.prog 97 #[pt a, pt a] w fun e w' => e = .returned (.bool true) ∧ Below w.heap.size w w' := by
  have sa := vec_size 8 a
  have P := fun w => eqInts8_yes a w
  unfold pt at *
  go_enter Try.func97, Try.ntmps97
  go_upto_region 1 with fail
  show Code.wp _ _ _ _ (boxAB w a a 40)
  obtain ⟨hA, hB, hL, _⟩ := boxAB_facts w a a 40
  generalize boxAB w a a 40 = W at *
  go_wp2_with (first | (refine load_row rfl rfl rfl hA Try.underlying38 rfl info_arr8 ?_) | (refine load_row rfl rfl rfl hB Try.underlying38 rfl info_arr8 ?_))
  refine (P _).mono ?_; rintro e w2 ⟨rfl, hb2⟩
  have hL2 := below_next hL hb2
  clear hA hB hL hb2 P
  go_wp2_with fail
  go_ret
  exact ⟨rfl, hL2⟩

end Go.Proofs.Ytnidiikcnplebaa
/- The exact laws of exact points of one point or of numbers: both sides answer alike, for every argument. -/
namespace Go.Proofs.Ytnidiikcnplebaa
set_option maxRecDepth 20000
open Go.ChangeShapes Go.WideShapes Go.ChangeAt Go.RowKit
set_option linter.unusedVariables false
set_option linter.unusedSimpArgs false

theorem info_law : (Try.prog.info? 123).map (·.size) = some 8 := by kernel_rfl
theorem size_law (a : Nat → Int) : (Try.prog.info? 123).map (·.size) = some (lst 8 a).length := by rw [lst_length]; exact info_law

end Go.Proofs.Ytnidiikcnplebaa
/- The reader of a law's code: opening it and picking a number. -/
namespace Go.Proofs.Ytnidiikcnplebaa
set_option maxRecDepth 20000
open Go.ChangeShapes Go.WideShapes Go.ChangeAt Go.RowKit
set_option linter.unusedVariables false
set_option linter.unusedSimpArgs false

/-- What the reader's bytes are, apart from the reader's own block. -/
def BytesBut (w : World) (R : Nat) (v : Value) : Prop :=
  (∃ a, v = .slice a 0 0) ∨ ∃ (b off len cap : Nat) (zs : List Int), v = .slice (some ⟨b, off, none⟩) len cap ∧ b < R ∧ len ≤ 2000 ∧
    (∀ i, i < len → w.cell? ⟨b, off + i, none⟩ = some (.int .u8 (zs.getD i 0))) ∧ (∀ i, 0 ≤ zs.getD i 0 ∧ zs.getD i 0 ≤ 255)
/-- A reader lies in block R and has picked p times. -/
def Rd (w : World) (R p : Nat) : Prop := ∃ v, w.heap[R]? = some (.cells #[v, .int .i64 p] 134 (0, 0)) ∧ BytesBut w R v

theorem Rd.lt {w : World} {R p : Nat} (h : Rd w R p) : R < w.heap.size := by
  obtain ⟨v, h, _⟩ := h
  exact Nat.lt_of_not_le fun hle => by rw [Array.getElem?_eq_none hle] at h; cases h

section
variable {w : World} {R : Nat} {v u : Value} {T : TypeId}
theorem two_fst (h : w.heap[R]? = some (.cells #[v, u] T (0, 0))) : w.cell? ⟨R, 0, none⟩ = some v := by simp [World.cell?, h]
theorem two_snd (h : w.heap[R]? = some (.cells #[v, u] T (0, 0))) : w.cell? ⟨R, 1, none⟩ = some u := by simp [World.cell?, h]
theorem two_free (h : w.heap[R]? = some (.cells #[v, u] T (0, 0))) (j : Nat) : w.frozen? ⟨R, j, none⟩ = false := by simp [World.frozen?, h]
theorem two_set (h : w.heap[R]? = some (.cells #[v, u] T (0, 0))) (x : Value) : (w.setCell ⟨R, 1, none⟩ x).heap[R]? = some (.cells #[v, x] T (0, 0)) := by
  have hlt : R < w.heap.size := Nat.lt_of_not_le fun hle => by rw [Array.getElem?_eq_none hle] at h; cases h
  simp [World.setCell, Array.getElem?_modify, h]
end
theorem only_drewN {a w : World} {row : Option Nat} (h : a.grownBy w row) (n : Nat) : a.grownBy (w.drewN n) row := ⟨h.os, h.tape, h.output, h.size, h.block⟩
theorem only_refl (w : World) (row : Option Nat) : w.grownBy w row := ⟨rfl, rfl, rfl, Nat.le_refl _, fun _ _ _ => rfl⟩
theorem only_trans' {a b c : World} {row : Option Nat} (h : a.grownBy b row) (k : b.grownBy c row) : a.grownBy c row :=
  ⟨k.os.trans h.os, k.tape.trans h.tape, k.output.trans h.output, Nat.le_trans h.size k.size, fun i hi hne => (k.block i (Nat.lt_of_lt_of_le hi h.size) hne).trans (h.block i hi hne)⟩

/-- What turns other blocks than the reader's and the code's leaves the reader as it was. -/
theorem Rd.keep {w w' : World} {R p : Nat} {row : Option Nat} (h : Rd w R p) (hg : w.grownBy w' row) (hr : ∀ g, row = some g → R < g) : Rd w' R p := by
  have hlt := h.lt
  obtain ⟨v, hR, hB⟩ := h
  refine ⟨v, (hg.block R hlt (fun e => by have := hr R e.symm; omega)).trans hR, ?_⟩
  rcases hB with h | ⟨b, off, len, cap, zs, rfl, hb, hl, hc, hz⟩
  · exact .inl h
  · refine .inr ⟨b, off, len, cap, zs, rfl, hb, hl, fun i hi => ?_, hz⟩
    exact (World.cell?_of_block (hg.block b (by omega) (fun e => by have := hr b e.symm; omega))).trans (hc i hi)
theorem Rd.alloc {w : World} {R p : Nat} (h : Rd w R p) (o : Obj) : Rd (w.alloc o) R p := h.keep (World.grownBy_alloc w o none) (fun g e => by cases e)
theorem only_alloc {a w : World} {row : Option Nat} (h : a.grownBy w row) (o : Obj) : a.grownBy (w.alloc o) row := only_trans' h (World.grownBy_alloc w o row)
theorem only_of_none {a w : World} (h : a.grownBy w none) (row : Option Nat) : a.grownBy w row := ⟨h.os, h.tape, h.output, h.size, fun i hi _ => h.block i hi (by simp)⟩
theorem below_only {w0 w w' : World} {B R : Nat} (h : Below B w0 w) (hg : w.grownBy w' (some R)) (hB : B ≤ w.heap.size) (hR : B ≤ R) : Below B w0 w' :=
  h.grown hg hB (fun k hk => by cases hk; exact hR)

/-- What a pick hands back. -/
def Picked (w : World) (R p : Nat) (n : Int) (e : Ending) (w' : World) : Prop :=
  ∃ k : Int, e = .returned (.int .i64 k) ∧ 0 ≤ k ∧ k < n ∧ Rd w' R p ∧ w.grownBy w' (some R)

theorem rd_step {w : World} {R p : Nat} (h : Rd w R p) (m : Nat) : Rd ((w.setCell ⟨R, 1, none⟩ (.int .i64 (p + 1))).drewN m) R (p + 1) ∧ w.grownBy ((w.setCell ⟨R, 1, none⟩ (.int .i64 (p + 1))).drewN m) (some R) := by
  obtain ⟨v, hR, hB⟩ := h
  have hg : w.grownBy (w.setCell ⟨R, 1, none⟩ (.int .i64 (p + 1))) (some R) :=
    ⟨rfl, rfl, rfl, by simp [World.setCell], fun i _ hne => Below.heap_setCell w _ _ i (by rintro rfl; exact hne rfl)⟩
  refine ⟨⟨v, ?_, ?_⟩, only_drewN hg m⟩
  · exact two_set hR _
  · rcases hB with h | ⟨b, off, len, cap, zs, rfl, hlt, hl, hc, hz⟩
    · exact .inl h
    · have hne : b ≠ R := by omega
      refine .inr ⟨b, off, len, cap, zs, rfl, hlt, hl, fun i hi => ?_, hz⟩
      exact (World.cell?_setCell_other _ _ _ _ (by simp [hne])).trans (hc i hi)

theorem ofInt_i64 (a : Nat) (ha : a < 9223372036854775808) : (BitVec.ofInt 64 (a : Int)).toNat = a := by
  rw [BitVec.ofInt_natCast, BitVec.toNat_ofNat]; exact Nat.mod_eq_of_lt (by omega)
theorem i64_xor_nat (a b : Nat) (ha : a < 9223372036854775808) (hb : b < 9223372036854775808) : bits .xor .i64 (a : Int) (b : Int) = ((a ^^^ b : Nat) : Int) := by
  have hx : a ^^^ b < 2 ^ 63 := Nat.xor_lt_two_pow (by omega) (by omega)
  show IntKind.i64.wrap ((BitVec.ofInt 64 (a : Int) ^^^ BitVec.ofInt 64 (b : Int)).toNat : Int) = _
  rw [BitVec.toNat_xor, ofInt_i64 a ha, ofInt_i64 b hb, IntKind.wrap_i64]
  omega

theorem pick_empty (R p : Nat) (n : Int) (a : Option Addr) (w : World) (hR : w.heap[R]? = some (.cells #[.slice a 0 0, .int .i64 p] 134 (0, 0))) (hp : p ≤ 1000000) (hn : 1 ≤ n) :
    Calls Try.prog 78 #[.pointer (some ⟨R, 0, none⟩), .int .i64 n] w fun e w' => e = .returned (.int .i64 0) ∧ ∃ m, w' = (w.setCell ⟨R, 1, none⟩ (.int .i64 (p + 1))).drewN m := by
  have c0 := two_fst hR
  have c1 := two_snd hR
  have f1 := two_free hR 1
  clear hR
  go_enter Try.func78, Try.ntmps78
  go_wp2_with fail
  go_ret
  exact ⟨rfl, 0, rfl⟩

theorem byte_rem {x n : Int} (h : 0 ≤ x) (hn : 1 ≤ n) : 0 ≤ x % n ∧ x % n < n := ⟨Int.emod_nonneg _ (by omega), Int.emod_lt_of_pos _ (by omega)⟩

theorem pick_byte (R p b off len cap : Nat) (z n : Int) (w : World) (hR : w.heap[R]? = some (.cells #[.slice (some ⟨b, off, none⟩) len cap, .int .i64 p] 134 (0, 0))) (hp : p ≤ 1000000) (hn : 1 ≤ n)
    (hb : b ≠ R) (hlt : p < len) (hl : len ≤ 2000) (hc : w.cell? ⟨b, off + p, none⟩ = some (.int .u8 z)) (hz0 : 0 ≤ z) (hz1 : z ≤ 255) :
    Calls Try.prog 78 #[.pointer (some ⟨R, 0, none⟩), .int .i64 n] w fun e w' => (∃ k : Int, e = .returned (.int .i64 k) ∧ 0 ≤ k ∧ k < n) ∧ ∃ m, w' = (w.setCell ⟨R, 1, none⟩ (.int .i64 (p + 1))).drewN m := by
  have c0 := two_fst hR
  have c1 := two_snd hR
  have f1 := two_free hR 1
  clear hR
  have hlt' : (p : Int) < (len : Int) := by omega
  have hl0 : ((len : Int) == 0) = false := by simp; omega
  have hcs : (w.setCell ⟨R, 1, none⟩ (.int .i64 (p + 1))).cell? ⟨b, off + p, none⟩ = some (.int .u8 z) := (World.cell?_setCell_other _ _ _ _ (by simp [hb])).trans hc
  clear hc
  go_enter Try.func78, Try.ntmps78
  go_wp2_with fail
  go_ret
  exact ⟨⟨_, rfl, byte_rem hz0 hn⟩, 0, rfl⟩

theorem xor_rem {E n : Int} (h0 : 0 ≤ E) (h1 : E ≤ 4611686018427387904) (hn : 1 ≤ n) : 0 ≤ (bits .xor .i64 E (E / 64)).tmod n ∧ (bits .xor .i64 E (E / 64)).tmod n < n := by
  obtain ⟨a, rfl⟩ : ∃ a : Nat, E = a := ⟨E.toNat, by omega⟩
  have e : ((a : Int) / 64) = ((a / 64 : Nat) : Int) := by omega
  rw [e, i64_xor_nat a (a / 64) (by omega) (by omega)]
  exact ⟨Int.tmod_nonneg _ (by omega), Int.tmod_lt_of_pos _ (by omega)⟩
theorem pick_none (R p b off cap : Nat) (n : Int) (w : World) (hR : w.heap[R]? = some (.cells #[.slice (some ⟨b, off, none⟩) 0 cap, .int .i64 p] 134 (0, 0))) (hp : p ≤ 1000000) (hn : 1 ≤ n) :
    Calls Try.prog 78 #[.pointer (some ⟨R, 0, none⟩), .int .i64 n] w fun e w' => e = .returned (.int .i64 0) ∧ ∃ m, w' = (w.setCell ⟨R, 1, none⟩ (.int .i64 (p + 1))).drewN m := by
  have c0 := two_fst hR
  have c1 := two_snd hR
  have f1 := two_free hR 1
  clear hR
  go_enter Try.func78, Try.ntmps78
  go_wp2_with fail
  go_ret
  exact ⟨rfl, 0, rfl⟩

theorem pick_past (R p b off len cap : Nat) (z z' n : Int) (w : World) (hR : w.heap[R]? = some (.cells #[.slice (some ⟨b, off, none⟩) len cap, .int .i64 p] 134 (0, 0))) (hp : p ≤ 1000000) (hn : 1 ≤ n)
    (hb : b ≠ R) (hlt : len ≤ p) (hl0 : 0 < len) (hl : len ≤ 2000) (hc : w.cell? ⟨b, off + p % len, none⟩ = some (.int .u8 z)) (hc' : w.cell? ⟨b, off + (p * 7 + 3) % len, none⟩ = some (.int .u8 z'))
    (hz0 : 0 ≤ z) (hz1 : z ≤ 255) (hz0' : 0 ≤ z') (hz1' : z' ≤ 255) :
    Calls Try.prog 78 #[.pointer (some ⟨R, 0, none⟩), .int .i64 n] w fun e w' => (∃ k : Int, e = .returned (.int .i64 k) ∧ 0 ≤ k ∧ k < n) ∧ ∃ m, w' = (w.setCell ⟨R, 1, none⟩ (.int .i64 (p + 1))).drewN m := by
  have c0 := two_fst hR
  have c1 := two_snd hR
  have f1 := two_free hR 1
  clear hR
  have hlt' : ¬ (p : Int) < (len : Int) := by omega
  have hle : ((len : Int) == 0) = false := by simp; omega
  have hl1 : (1 : Int) ≤ (len : Int) := by omega
  have m0 : (0 : Int) ≤ (p : Int) % (len : Int) := Int.emod_nonneg _ (by omega)
  have m1 : (p : Int) % (len : Int) < (len : Int) := Int.emod_lt_of_pos _ (by omega)
  have m2 : (0 : Int) ≤ ((p : Int) * 7 + 3) % (len : Int) := Int.emod_nonneg _ (by omega)
  have m3 : ((p : Int) * 7 + 3) % (len : Int) < (len : Int) := Int.emod_lt_of_pos _ (by omega)
  have q0 : (0 : Int) ≤ (p : Int) / (len : Int) := Int.ediv_nonneg (by omega) (by omega)
  have q1 : (p : Int) / (len : Int) ≤ 1000000 := by
    have := Int.ediv_le_self (b := (len : Int)) (show (0 : Int) ≤ (p : Int) by omega)
    omega
  have hcs : (w.setCell ⟨R, 1, none⟩ (.int .i64 (p + 1))).cell? ⟨b, off + p % len, none⟩ = some (.int .u8 z) := (World.cell?_setCell_other _ _ _ _ (by simp [hb])).trans hc
  have hcs' : (w.setCell ⟨R, 1, none⟩ (.int .i64 (p + 1))).cell? ⟨b, off + (p * 7 + 3) % len, none⟩ = some (.int .u8 z') := (World.cell?_setCell_other _ _ _ _ (by simp [hb])).trans hc'
  clear hc hc'
  go_enter Try.func78, Try.ntmps78
  go_wp2_with fail
  go_quiet (fail)
  go_wp2_with fail
  go_ret
  exact ⟨⟨_, rfl, xor_rem (by omega) (by omega) hn⟩, _, rfl⟩

/-- A pick of a number from 0 to n - 1: only the reader's own block turns. -/
theorem pick_any (R p : Nat) (n : Int) (w : World) (h : Rd w R p) (hp : p ≤ 1000000) (hn : 1 ≤ n) :
    Calls Try.prog 78 #[.pointer (some ⟨R, 0, none⟩), .int .i64 n] w (Picked w R (p + 1) n) := by
  have st := rd_step h
  obtain ⟨v, hR, hB⟩ := h
  rcases hB with ⟨a, rfl⟩ | ⟨b, off, len, cap, zs, rfl, hbw, hl, hc, hz⟩
  · refine (pick_empty R p n a w hR hp hn).mono ?_
    rintro e w' ⟨rfl, m, rfl⟩
    exact ⟨0, rfl, by omega, by omega, (st m).1, (st m).2⟩
  have hne : b ≠ R := by omega
  by_cases h0 : len = 0
  · subst h0
    have hR' : w.heap[R]? = some (.cells #[.slice (some ⟨b, off, none⟩) 0 cap, .int .i64 p] 134 (0, 0)) := hR
    refine (pick_none R p b off cap n w hR' hp hn).mono ?_
    rintro e w' ⟨rfl, m, rfl⟩
    exact ⟨0, rfl, by omega, by omega, (st m).1, (st m).2⟩
  by_cases hlt : p < len
  · refine (pick_byte R p b off len cap _ n w hR hp hn hne hlt hl (hc p hlt) (hz p).1 (hz p).2).mono ?_
    rintro e w' ⟨⟨k, rfl, k0, k1⟩, m, rfl⟩
    exact ⟨k, rfl, k0, k1, (st m).1, (st m).2⟩
  · refine (pick_past R p b off len cap _ _ n w hR hp hn hne (by omega) (by omega) hl (hc (p % len) (Nat.mod_lt _ (by omega))) (hc ((p * 7 + 3) % len) (Nat.mod_lt _ (by omega))) (hz _).1 (hz _).2 (hz _).1 (hz _).2).mono ?_
    rintro e w' ⟨⟨k, rfl, k0, k1⟩, m, rfl⟩
    exact ⟨k, rfl, k0, k1, (st m).1, (st m).2⟩

/-- What the opening of a code hands back: a reader in a new block. -/
def Opened (w : World) (e : Ending) (w' : World) : Prop :=
  e = .returned (.pointer (some ⟨w.heap.size, 0, none⟩)) ∧ Rd w' w.heap.size 0 ∧ Below w.heap.size w w'
theorem open_any (v : Value) (w : World) (h : CodeAt w v) : Calls Try.prog 63 #[v] w (Opened w) := by
  rcases h with ⟨a, rfl⟩ | ⟨b, off, len, cap, zs, rfl, hb, hlc, hcm, hlz, hc, hz⟩
  · go_enter Try.func63, Try.ntmps63
    go_wp2_with fail
    go_ret
    exact ⟨rfl, ⟨_, heap_alloc_last _ _, .inl ⟨a, rfl⟩⟩, (Below.refl _ _).alloc (Nat.le_refl _) _⟩
  · have hc' : ∀ i, i < len → ∀ o, (w.alloc o).cell? ⟨b, off + i, none⟩ = some (.int .u8 (zs.getD i 0)) := fun i hi o => by
      rw [World.cell?_alloc_past _ _ _ hb]; exact hc i hi
    unfold maxLen at hcm
    by_cases hl : len ≤ 2000
    · have hl' : ¬ (2000 : Int) < (len : Int) := by omega
      have C := fun i hi o => Lib.hid (hc' i hi o)
      clear hc hc'
      go_enter Try.func63, Try.ntmps63
      go_wp2_with fail
      go_ret
      exact ⟨rfl, ⟨_, heap_alloc_last _ _, .inr ⟨b, off, len, cap, zs, rfl, hb, hl, fun i hi => (C i hi _).out, hz⟩⟩, (Below.refl _ _).alloc (Nat.le_refl _) _⟩
    · have hl' : (2000 : Int) < (len : Int) := by omega
      have hlc' : (2000 : Int) ≤ (cap : Int) := by omega
      have C := fun i hi o => Lib.hid (hc' i hi o)
      clear hc hc'
      go_enter Try.func63, Try.ntmps63
      go_wp2_with fail
      go_ret
      exact ⟨rfl, ⟨_, heap_alloc_last _ _, .inr ⟨b, off, 2000, cap, zs, rfl, hb, by omega, fun i hi => (C i (by omega) _).out, hz⟩⟩, (Below.refl _ _).alloc (Nat.le_refl _) _⟩
end Go.Proofs.Ytnidiikcnplebaa
/- Three closed facts on the seat's program whose plain reckoning takes more memory than there is: they read the words of a long text letter by letter. Here the text is taken as a list first. -/
namespace Go.Proofs.Ytnidiikcnplebaa
open Go.ChangeShapes Go.WideShapes Go.ChangeAt Go.RowKit
set_option maxRecDepth 100000
set_option linter.unusedVariables false
set_option linter.unusedSimpArgs false

section
variable {P : Program} {rest : List (List Char)}
theorem make_of (hw : behindMainWord (wordsSigns P.initOrder.toList) = "cut".toList :: rest) : P.make = some .cut := by
  unfold Program.make
  rw [hw]
  rfl
theorem no_lifts : stripLifts liftWords ("cut".toList :: rest) = ([], "cut".toList :: rest) := by rfl
theorem lifts_of (hw : behindMainWord (wordsSigns P.initOrder.toList) = "cut".toList :: rest) : P.liftsFinal = false := by
  unfold Program.liftsFinal Program.headLifts
  rw [hw, no_lifts]
  cases rest <;> rfl
theorem may_of (hw : behindMainWord (wordsSigns P.initOrder.toList) = "cut".toList :: rest) (h1 : P.laysLater = false) (h2 : P.bearsReflect = false) (h3 : P.doorFits [] = true) : P.mayEnter = true := by
  unfold Program.mayEnter
  rw [hw]
  show (_ || _ || _) = true
  rw [no_lifts, h1, h2, h3]
  cases rest <;> rfl
end
def signs : { l : List Char // Try.prog.initOrder = String.ofList l } := ⟨_, rfl⟩
theorem signs_are : Try.prog.initOrder.toList = signs.1 := (congrArg String.toList signs.2).trans String.toList_ofList
theorem words_are : behindMainWord (wordsSigns Try.prog.initOrder.toList) = "cut".toList :: (behindMainWord (wordsSigns signs.1)).tail :=
  (congrArg (fun l => behindMainWord (wordsSigns l)) signs_are).trans (by kernel_rfl)
theorem make_is : Try.prog.make = some .cut := make_of words_are
theorem lifts_is : Try.prog.liftsFinal = false := lifts_of words_are
theorem lays_no : Try.prog.laysLater = false := by kernel_rfl
theorem bears_no : Try.prog.bearsReflect = false := by kernel_rfl
theorem door_yes : Try.prog.doorFits [] = true := by kernel_rfl
theorem may_is : Try.prog.mayEnter = true := may_of words_are lays_no bears_no door_yes
end Go.Proofs.Ytnidiikcnplebaa
