/-
  Contracts of spec's calculations with exact points, second part: turns, sums, products, mirrored points.
  Contracts of spec's mirrored points and of the functions of exact points that it gives.
  What spec's CycReal answers.
  The reader of a law's code: opening it and picking a number.
-/
import Derived.Test.YtibhlaojinedoaaM02
import Derived.Test.YtibhlaojinedoaaM01
import Derived.Test.YtibhlaojinedoaaM00
import Derived.OwnWalk
import Derived.Laws.AppendOwn
import Derived.Laws.OwnMore
import Derived.Laws.BitsAllLaws
import Derived.Laws.BitsLemmas
import Derived.Deep.WholeRow
import Derived.Deep.RegionWith
/- Contracts of spec's calculations with exact points, second part: turns, sums, products, mirrored points. -/
namespace Go.Proofs.Ytibhlaojinedoaa
set_option maxRecDepth 20000
open Go.ChangeShapes Go.WideShapes Go.ChangeAt Go.RowKit
set_option linter.unusedVariables false
set_option linter.unusedSimpArgs false

theorem size_cyc (a : Nat → Int) : (Try.prog.info? 80).map (·.size) = some (lst 8 a).length := by rw [lst_length]; exact info_cyc
theorem done_some (c : Nat → Int) : ∃ c' v', (∀ w, Calls Try.prog 54 #[.agg (vec 8 c)] w fun e w' => e = .returned (.tuple #[.agg (vec 8 c'), .bool v']) ∧ Below w.heap.size w w') ∧ ans true c = .tuple #[.agg (vec 8 c'), .bool v'] :=
  ⟨if okc c then c else nul, okc c, fun w => specDone_any c w, rfl⟩

theorem specTurned_any (a : Nat → Int) (n : Nat) (hn : n ≤ 23) (ha : InR a) (w : World) :
    Calls Try.prog 67 #[pt a, .int .i64 n] w fun e w' => e = .returned (pt (trn a n)) ∧ Below w.heap.size w w' := by
  have sa := vec_size 8 a
  have SB := fun k hk => stps_in ha k hk
  have er : pt (stps n a) = pt (trn a n) := pt_same (trn_steps a n hn)
  rw [← er]
  clear er
  unfold pt at *
  go_enter Try.func67, Try.ntmps67
  go_upto_region 1 with fail
  show Code.wp _ _ _ _ (box1 w a 80 80)
  obtain ⟨hA, hO, hL⟩ := box1_facts w a 80 80
  generalize box1 w a 80 80 = W at *
  go_wp2_with fail
  go_loopw [5] (fun i wr => ∃ k : Nat, k ≤ n ∧ i = .int .i64 k ∧ RowAt wr w.heap.size 8 80 (stps k a) ∧ RowAt wr (w.heap.size + 1) 8 80 nul ∧ Below w.heap.size w wr) (fun i _ => n - (intOf i).toNat)
  case atStart => exact ⟨0, Nat.zero_le _, rfl, hA, hO, hL⟩
  case round =>
    clear hA hO hL
    obtain ⟨k, hk, rfl, hA, hO, hL⟩ := hrel
    by_cases hlt : k < n
    · have hlt' : (k : Int) < (n : Int) := by omega
      have S := fun w => specStep_any (stps k a) (fun j hj => by have := SB k (by omega) j hj; omega) w
      have HS := Lib.hid SB
      clear SB
      go_wp2_with (refine load_row rfl rfl rfl hA Try.underlying80 rfl info_cyc ?_)
      refine (S _).mono ?_; rintro e w2 ⟨rfl, hb2⟩
      have hA2 := hA.below hb2
      have hO2 := hO.below hb2
      have hL2 := below_next hL hb2
      clear S hA hO hL hb2
      have HA : Hid (RowAt _ _ _ _ (stps (k + 1) a)) := Lib.hid (hA2.setRow (f' := stp (stps k a)))
      have HO := Lib.hid (hO2.rowOther w.heap.size (vec 8 (stp (stps k a))) (by omega))
      have HL := Lib.hid (below_setRow hL2 (Nat.le_refl _) (vec 8 (stp (stps k a))))
      clear hO2 hL2
      go_wp2_with (refine store_row rfl rfl rfl rfl hA2 info_cyc ?_)
      go_roundw
      case rel => exact ⟨k + 1, by omega, by go_num, HA.out, HO.out, HL.out⟩
      case measure => simp [intOf]; omega
    · obtain rfl : k = n := by omega
      have HA := Lib.hid hA; have HO := Lib.hid hO; have HL := Lib.hid hL
      clear hA hO hL SB
      go_wp2_with (first | (refine load_row rfl rfl rfl HA.out Try.underlying80 rfl info_cyc ?_) | (refine store_row rfl rfl rfl rfl HO.out info_cyc ?_))
      refine bodyPost_ret (results_row rfl rfl HO.out.setRow Try.underlying80 rfl info_cyc) rfl ?_
      exact ⟨rfl, below_setRow HL.out (by omega) _⟩

theorem specSum_any (a b : Nat → Int) (n : Int) (hn : -1000000 ≤ n ∧ n ≤ 1000000) (ha : ∀ j, j < 8 → -8000000000000000 ≤ a j ∧ a j ≤ 8000000000000000) (hb : ∀ j, j < 8 → -1000000000 ≤ b j ∧ b j ≤ 1000000000) (w : World) :
    Calls Try.prog 66 #[pt a, .int .i64 n, pt b] w fun e w' => e = .returned (pt (mul1 a n b)) ∧ Below w.heap.size w w' := by
  have sa := vec_size 8 a
  have sb := vec_size 8 b
  unfold pt at *
  go_enter Try.func66, Try.ntmps66
  go_upto_region 1 with fail
  show Code.wp _ _ _ _ (box2 w a b 80 80)
  obtain ⟨hA, hB, hO, hL⟩ := box2_facts w a b 80 80
  generalize box2 w a b 80 80 = W at *
  go_wp2_with fail
  go_loopw [7] (fun i wr => ∃ k : Nat, k ≤ 8 ∧ i = .int .i64 k ∧ RowAt wr w.heap.size 8 80 (mix k (mul1 a n b) a) ∧ RowAt wr (w.heap.size + 1) 8 80 b ∧ RowAt wr (w.heap.size + 1 + 1) 8 80 nul ∧ Below w.heap.size w wr) (fun i _ => 8 - (intOf i).toNat)
  case atStart => exact ⟨0, Nat.zero_le _, rfl, by rw [mix_zero]; exact hA, hB, hO, hL⟩
  case round =>
    clear hA hB hO hL
    obtain ⟨k, hk, rfl, hA, hB, hO, hL⟩ := hrel
    by_cases hlt : k < 8
    · have cA := hA.cell hlt
      have fA := hA.free k
      have cB := hB.cell hlt
      rw [mix_at] at cA
      have hlt' : (k : Int) < 8 := by omega
      have hk0 : (0 : Int) ≤ (k : Int) := by omega
      have b1 := ha k hlt
      have b2 := prod_in hn (hb k hlt)
      have w1 : IntKind.i64.wrap (n * b k) = n * b k := by rw [IntKind.wrap_i64]; omega
      have w2 : IntKind.i64.wrap (a k + n * b k) = a k + n * b k := by rw [IntKind.wrap_i64]; omega
      have hA2 := hA.set hlt (mul1 a n b k)
      rw [mix_step] at hA2
      have HA := Lib.hid hA2
      have HB := Lib.hid (hB.other ⟨w.heap.size, k, none⟩ (.int .i64 (a k + n * b k)) (by simp))
      have HO := Lib.hid (hO.other ⟨w.heap.size, k, none⟩ (.int .i64 (a k + n * b k)) (by simp; try omega))
      have HL := Lib.hid ((hL.setCell (p := ⟨w.heap.size, k, none⟩) (Nat.le_refl _) (.int .i64 (a k + n * b k))))
      clear hA hA2 hB hO hL ha hb
      go_wp2_with fail
      go_still_tail 14, (by kernel_rfl)
      go_wp2_with fail
      go_roundw
      case rel => exact ⟨k + 1, by omega, by go_num, HA.out, HB.out, HO.out, HL.out.drew⟩
      case measure => simp [intOf]; omega
    · obtain rfl : k = 8 := by omega
      have HA := Lib.hid hA; have HO := Lib.hid hO; have HL := Lib.hid hL
      clear hA hB hO hL ha hb
      go_wp2_with (first | (refine load_row rfl rfl rfl HA.out Try.underlying80 rfl info_cyc ?_) | (refine store_row rfl rfl rfl rfl HO.out info_cyc ?_))
      refine bodyPost_ret (results_row rfl rfl HO.out.setRow Try.underlying80 rfl info_cyc) rfl ?_
      exact ⟨by rw [vec_mix], below_setRow HL.out (by omega) _⟩

theorem specRoot_no (t : Int) (ht : t < 0 ∨ 23 < t) (w : World) :
    Calls Try.prog 60 #[.int .i64 t] w fun e w' => e = .returned (ans false nul) ∧ Below w.heap.size w w' := by
  rw [ans_no]
  have G := fun w => is_no t ht w
  go_enter Try.func60, Try.ntmps60
  go_wp2_with fail
  refine (G _).mono ?_; rintro e w' ⟨rfl, rfl⟩
  go_wp2_with (refine store_row rfl rfl rfl (show _ = Value.agg (vec 8 nul) from rfl) (RowAt.newAt zero8 rfl) info_cyc ?_)
  refine bodyPost_ret (results_row_tmp rfl rfl (RowAt.newAt zero8 rfl).setRow Try.underlying80 rfl info_cyc) rfl ?_
  exact ⟨rfl, below_setRow ((Below.refl _ _).alloc (Nat.le_refl _) _) (Nat.le_refl _) _⟩
theorem specRoot_yes (t : Nat) (ht : t ≤ 23) (w : World) :
    Calls Try.prog 60 #[.int .i64 t] w fun e w' => e = .returned (.tuple #[pt (trn one t), .bool true]) ∧ Below w.heap.size w w' := by
  have G := fun w => is_yes (t : Int) (by omega) (by omega) w
  have M := fun w => specTurned_any one t ht (fun j hj => by simp only [one]; split <;> omega) w
  unfold pt at *
  go_enter Try.func60, Try.ntmps60
  go_wp2_with fail
  refine (G _).mono ?_; rintro e w' ⟨rfl, rfl⟩
  go_upto_region 4 with fail
  show Code.wp _ _ _ _ ((w.alloc (.cells (vec 8 nul) 80)).alloc (.cells (vec 8 nul) 80))
  have hO := pair_first w 80
  have hE : RowAt ((w.alloc (.cells (vec 8 nul) 80)).alloc (.cells (vec 8 nul) 80)) (w.heap.size + 1) 8 80 nul := RowAt.newAt rfl (by simp)
  have hL : Below w.heap.size w ((w.alloc (.cells (vec 8 nul) 80)).alloc (.cells (vec 8 nul) 80)) := ((Below.refl _ _).alloc (Nat.le_refl _) _).alloc (by simp) _
  generalize (w.alloc (.cells (vec 8 nul) 80)).alloc (.cells (vec 8 nul) 80) = W3 at *
  have c0 := hE.cell (k := 0) (by omega)
  have f0 := hE.free 0
  have hE3 := (hE.set (k := 0) (by omega) 1).same (f' := one) (fun j _ => by simp only [upd, one, nul])
  have HE := Lib.hid hE3
  have HO := Lib.hid (hO.other ⟨w.heap.size + 1, 0, none⟩ (.int .i64 1) (by simp))
  have HL := Lib.hid (hL.setCell (p := ⟨w.heap.size + 1, 0, none⟩) (by simp) (.int .i64 1))
  clear hO hE hL hE3
  go_upto_region 5 with fail
  have hE4 := HE.out
  have hO4 := HO.out
  have hL4 := HL.out
  clear HE HO HL c0 f0 G
  generalize W3.setCell ⟨w.heap.size + 1, 0, none⟩ (.int .i64 1) = W4 at *
  go_wp2_with (refine load_row rfl rfl rfl hE4 Try.underlying80 rfl info_cyc ?_)
  refine (M _).mono ?_; rintro e w4 ⟨rfl, hb4⟩
  have hO5 := hO4.below hb4
  have hL5 := below_next hL4 hb4
  clear hE4 hO4 hL4 hb4 M
  go_wp2_with (refine store_row rfl rfl rfl rfl hO5 info_cyc ?_)
  refine bodyPost_ret (results_row_tmp rfl rfl hO5.setRow Try.underlying80 rfl info_cyc) rfl ?_
  exact ⟨rfl, below_setRow hL5 (by omega) _⟩

end Go.Proofs.Ytibhlaojinedoaa
/- Contracts of spec's mirrored points and of the functions of exact points that it gives. -/
namespace Go.Proofs.Ytibhlaojinedoaa
set_option maxRecDepth 20000
open Go.ChangeShapes Go.WideShapes Go.ChangeAt Go.RowKit
set_option linter.unusedVariables false
set_option linter.unusedSimpArgs false

theorem specGaussIn_any (re im : Int) (w : World) :
    Calls Try.prog 61 #[.int .i64 re, .int .i64 im] w fun e w' => e = .returned (pt (gau re im)) ∧ Below w.heap.size w w' := by
  have hO := pair_first w 80
  have hE : RowAt ((w.alloc (.cells (vec 8 nul) 80)).alloc (.cells (vec 8 nul) 80)) (w.heap.size + 1) 8 80 nul := RowAt.newAt rfl (by simp)
  have hL : Below w.heap.size w ((w.alloc (.cells (vec 8 nul) 80)).alloc (.cells (vec 8 nul) 80)) := ((Below.refl _ _).alloc (Nat.le_refl _) _).alloc (by simp) _
  go_enter Try.func61, Try.ntmps61
  go_upto_region 2 with fail
  show Code.wp _ _ _ _ ((w.alloc (.cells (vec 8 nul) 80)).alloc (.cells (vec 8 nul) 80))
  generalize (w.alloc (.cells (vec 8 nul) 80)).alloc (.cells (vec 8 nul) 80) = W3 at *
  have c0 := hE.cell (k := 0) (by omega)
  have f0 := hE.free 0
  have c6 := (hE.set (k := 0) (by omega) re).cell (k := 6) (by omega)
  have f6 := (hE.set (k := 0) (by omega) re).free 6
  have hE3 : RowAt ((W3.setCell ⟨w.heap.size + 1, 0, none⟩ (.int .i64 re)).setCell ⟨w.heap.size + 1, 6, none⟩ (.int .i64 im)) (w.heap.size + 1) 8 80 (gau re im) :=
    ((hE.set (k := 0) (by omega) re).set (k := 6) (by omega) im).same (fun j _ => by simp only [upd, gau, nul]; split <;> split <;> first | rfl | omega)
  have hO3 := (hO.other ⟨w.heap.size + 1, 0, none⟩ (.int .i64 re) (by simp)).other ⟨w.heap.size + 1, 6, none⟩ (.int .i64 im) (by simp)
  have hL3 := (hL.setCell (p := ⟨w.heap.size + 1, 0, none⟩) (by simp) (.int .i64 re)).setCell (p := ⟨w.heap.size + 1, 6, none⟩) (by simp) (.int .i64 im)
  have HE := Lib.hid hE3
  have HO := Lib.hid hO3
  have HL := Lib.hid hL3
  clear hO hE hL hE3 hO3 hL3
  go_upto_region 4 with fail
  go_wp2_with (first | (refine load_row rfl rfl rfl HE.out Try.underlying80 rfl info_cyc ?_) | (refine store_row rfl rfl rfl rfl HO.out info_cyc ?_))
  refine bodyPost_ret (results_row rfl rfl HO.out.setRow Try.underlying80 rfl info_cyc) rfl ?_
  exact ⟨rfl, below_setRow HL.out (by omega) _⟩

end Go.Proofs.Ytibhlaojinedoaa
/- What spec's CycReal answers. -/
namespace Go.Proofs.Ytibhlaojinedoaa
set_option maxRecDepth 20000
open Go.ChangeShapes Go.WideShapes Go.ChangeAt Go.RowKit
set_option linter.unusedVariables false
set_option linter.unusedSimpArgs false

end Go.Proofs.Ytibhlaojinedoaa
/- The reader of a law's code: opening it and picking a number. -/
namespace Go.Proofs.Ytibhlaojinedoaa
set_option maxRecDepth 20000
open Go.ChangeShapes Go.WideShapes Go.ChangeAt Go.RowKit
set_option linter.unusedVariables false
set_option linter.unusedSimpArgs false

/-- What the reader's bytes are, apart from the reader's own block. -/
def BytesBut (w : World) (R : Nat) (v : Value) : Prop :=
  (∃ a, v = .slice a 0 0) ∨ ∃ (b off len cap : Nat) (zs : List Int), v = .slice (some ⟨b, off, none⟩) len cap ∧ b < R ∧ len ≤ 2000 ∧
    (∀ i, i < len → w.cell? ⟨b, off + i, none⟩ = some (.int .u8 (zs.getD i 0))) ∧ (∀ i, 0 ≤ zs.getD i 0 ∧ zs.getD i 0 ≤ 255)
/-- A reader lies in block R and has picked p times. -/
def Rd (w : World) (R p : Nat) : Prop := ∃ v, w.heap[R]? = some (.cells #[v, .int .i64 p] 60 (0, 0)) ∧ BytesBut w R v

theorem Rd.lt {w : World} {R p : Nat} (h : Rd w R p) : R < w.heap.size := by
  obtain ⟨v, h, _⟩ := h
  exact Nat.lt_of_not_le fun hle => by rw [Array.getElem?_eq_none hle] at h; cases h

section
variable {w : World} {R : Nat} {v u : Value} {T : TypeId}
theorem two_fst (h : w.heap[R]? = some (.cells #[v, u] T (0, 0))) : w.cell? ⟨R, 0, none⟩ = some v := by simp [World.cell?, h]
theorem two_snd (h : w.heap[R]? = some (.cells #[v, u] T (0, 0))) : w.cell? ⟨R, 1, none⟩ = some u := by simp [World.cell?, h]
theorem two_free (h : w.heap[R]? = some (.cells #[v, u] T (0, 0))) (j : Nat) : w.frozen? ⟨R, j, none⟩ = false := by simp [World.frozen?, h]
theorem two_set (h : w.heap[R]? = some (.cells #[v, u] T (0, 0))) (x : Value) : (w.setCell ⟨R, 1, none⟩ x).heap[R]? = some (.cells #[v, x] T (0, 0)) := by
  have hlt : R < w.heap.size := Nat.lt_of_not_le fun hle => by rw [Array.getElem?_eq_none hle] at h; cases h
  simp [World.setCell, Array.getElem?_modify, h]
end
theorem only_drewN {a w : World} {row : Option Nat} (h : a.grownBy w row) (n : Nat) : a.grownBy (w.drewN n) row := ⟨h.os, h.tape, h.output, h.size, h.block⟩
theorem only_refl (w : World) (row : Option Nat) : w.grownBy w row := ⟨rfl, rfl, rfl, Nat.le_refl _, fun _ _ _ => rfl⟩
theorem only_trans' {a b c : World} {row : Option Nat} (h : a.grownBy b row) (k : b.grownBy c row) : a.grownBy c row :=
  ⟨k.os.trans h.os, k.tape.trans h.tape, k.output.trans h.output, Nat.le_trans h.size k.size, fun i hi hne => (k.block i (Nat.lt_of_lt_of_le hi h.size) hne).trans (h.block i hi hne)⟩

/-- What turns other blocks than the reader's and the code's leaves the reader as it was. -/
theorem Rd.keep {w w' : World} {R p : Nat} {row : Option Nat} (h : Rd w R p) (hg : w.grownBy w' row) (hr : ∀ g, row = some g → R < g) : Rd w' R p := by
  have hlt := h.lt
  obtain ⟨v, hR, hB⟩ := h
  refine ⟨v, (hg.block R hlt (fun e => by have := hr R e.symm; omega)).trans hR, ?_⟩
  rcases hB with h | ⟨b, off, len, cap, zs, rfl, hb, hl, hc, hz⟩
  · exact .inl h
  · refine .inr ⟨b, off, len, cap, zs, rfl, hb, hl, fun i hi => ?_, hz⟩
    exact (World.cell?_of_block (hg.block b (by omega) (fun e => by have := hr b e.symm; omega))).trans (hc i hi)
theorem Rd.alloc {w : World} {R p : Nat} (h : Rd w R p) (o : Obj) : Rd (w.alloc o) R p := h.keep (World.grownBy_alloc w o none) (fun g e => by cases e)
theorem only_alloc {a w : World} {row : Option Nat} (h : a.grownBy w row) (o : Obj) : a.grownBy (w.alloc o) row := only_trans' h (World.grownBy_alloc w o row)
theorem only_of_none {a w : World} (h : a.grownBy w none) (row : Option Nat) : a.grownBy w row := ⟨h.os, h.tape, h.output, h.size, fun i hi _ => h.block i hi (by simp)⟩
theorem below_only {w0 w w' : World} {B R : Nat} (h : Below B w0 w) (hg : w.grownBy w' (some R)) (hB : B ≤ w.heap.size) (hR : B ≤ R) : Below B w0 w' :=
  h.grown hg hB (fun k hk => by cases hk; exact hR)

/-- What a pick hands back. -/
def Picked (w : World) (R p : Nat) (n : Int) (e : Ending) (w' : World) : Prop :=
  ∃ k : Int, e = .returned (.int .i64 k) ∧ 0 ≤ k ∧ k < n ∧ Rd w' R p ∧ w.grownBy w' (some R)

theorem rd_step {w : World} {R p : Nat} (h : Rd w R p) (m : Nat) : Rd ((w.setCell ⟨R, 1, none⟩ (.int .i64 (p + 1))).drewN m) R (p + 1) ∧ w.grownBy ((w.setCell ⟨R, 1, none⟩ (.int .i64 (p + 1))).drewN m) (some R) := by
  obtain ⟨v, hR, hB⟩ := h
  have hg : w.grownBy (w.setCell ⟨R, 1, none⟩ (.int .i64 (p + 1))) (some R) :=
    ⟨rfl, rfl, rfl, by simp [World.setCell], fun i _ hne => Below.heap_setCell w _ _ i (by rintro rfl; exact hne rfl)⟩
  refine ⟨⟨v, ?_, ?_⟩, only_drewN hg m⟩
  · exact two_set hR _
  · rcases hB with h | ⟨b, off, len, cap, zs, rfl, hlt, hl, hc, hz⟩
    · exact .inl h
    · have hne : b ≠ R := by omega
      refine .inr ⟨b, off, len, cap, zs, rfl, hlt, hl, fun i hi => ?_, hz⟩
      exact (World.cell?_setCell_other _ _ _ _ (by simp [hne])).trans (hc i hi)

theorem ofInt_i64 (a : Nat) (ha : a < 9223372036854775808) : (BitVec.ofInt 64 (a : Int)).toNat = a := by
  rw [BitVec.ofInt_natCast, BitVec.toNat_ofNat]; exact Nat.mod_eq_of_lt (by omega)
theorem i64_xor_nat (a b : Nat) (ha : a < 9223372036854775808) (hb : b < 9223372036854775808) : bits .xor .i64 (a : Int) (b : Int) = ((a ^^^ b : Nat) : Int) := by
  have hx : a ^^^ b < 2 ^ 63 := Nat.xor_lt_two_pow (by omega) (by omega)
  show IntKind.i64.wrap ((BitVec.ofInt 64 (a : Int) ^^^ BitVec.ofInt 64 (b : Int)).toNat : Int) = _
  rw [BitVec.toNat_xor, ofInt_i64 a ha, ofInt_i64 b hb, IntKind.wrap_i64]
  omega

theorem pick_empty (R p : Nat) (n : Int) (a : Option Addr) (w : World) (hR : w.heap[R]? = some (.cells #[.slice a 0 0, .int .i64 p] 60 (0, 0))) (hp : p ≤ 1000000) (hn : 1 ≤ n) :
    Calls Try.prog 16 #[.pointer (some ⟨R, 0, none⟩), .int .i64 n] w fun e w' => e = .returned (.int .i64 0) ∧ ∃ m, w' = (w.setCell ⟨R, 1, none⟩ (.int .i64 (p + 1))).drewN m := by
  have c0 := two_fst hR
  have c1 := two_snd hR
  have f1 := two_free hR 1
  clear hR
  go_enter Try.func16, Try.ntmps16
  go_wp2_with fail
  go_ret
  exact ⟨rfl, 0, rfl⟩

theorem byte_rem {x n : Int} (h : 0 ≤ x) (hn : 1 ≤ n) : 0 ≤ x % n ∧ x % n < n := ⟨Int.emod_nonneg _ (by omega), Int.emod_lt_of_pos _ (by omega)⟩

theorem pick_byte (R p b off len cap : Nat) (z n : Int) (w : World) (hR : w.heap[R]? = some (.cells #[.slice (some ⟨b, off, none⟩) len cap, .int .i64 p] 60 (0, 0))) (hp : p ≤ 1000000) (hn : 1 ≤ n)
    (hb : b ≠ R) (hlt : p < len) (hl : len ≤ 2000) (hc : w.cell? ⟨b, off + p, none⟩ = some (.int .u8 z)) (hz0 : 0 ≤ z) (hz1 : z ≤ 255) :
    Calls Try.prog 16 #[.pointer (some ⟨R, 0, none⟩), .int .i64 n] w fun e w' => (∃ k : Int, e = .returned (.int .i64 k) ∧ 0 ≤ k ∧ k < n) ∧ ∃ m, w' = (w.setCell ⟨R, 1, none⟩ (.int .i64 (p + 1))).drewN m := by
  have c0 := two_fst hR
  have c1 := two_snd hR
  have f1 := two_free hR 1
  clear hR
  have hlt' : (p : Int) < (len : Int) := by omega
  have hl0 : ((len : Int) == 0) = false := by simp; omega
  have hcs : (w.setCell ⟨R, 1, none⟩ (.int .i64 (p + 1))).cell? ⟨b, off + p, none⟩ = some (.int .u8 z) := (World.cell?_setCell_other _ _ _ _ (by simp [hb])).trans hc
  clear hc
  go_enter Try.func16, Try.ntmps16
  go_wp2_with fail
  go_ret
  exact ⟨⟨_, rfl, byte_rem hz0 hn⟩, 0, rfl⟩

theorem xor_rem {E n : Int} (h0 : 0 ≤ E) (h1 : E ≤ 4611686018427387904) (hn : 1 ≤ n) : 0 ≤ (bits .xor .i64 E (E / 64)).tmod n ∧ (bits .xor .i64 E (E / 64)).tmod n < n := by
  obtain ⟨a, rfl⟩ : ∃ a : Nat, E = a := ⟨E.toNat, by omega⟩
  have e : ((a : Int) / 64) = ((a / 64 : Nat) : Int) := by omega
  rw [e, i64_xor_nat a (a / 64) (by omega) (by omega)]
  exact ⟨Int.tmod_nonneg _ (by omega), Int.tmod_lt_of_pos _ (by omega)⟩
theorem pick_none (R p b off cap : Nat) (n : Int) (w : World) (hR : w.heap[R]? = some (.cells #[.slice (some ⟨b, off, none⟩) 0 cap, .int .i64 p] 60 (0, 0))) (hp : p ≤ 1000000) (hn : 1 ≤ n) :
    Calls Try.prog 16 #[.pointer (some ⟨R, 0, none⟩), .int .i64 n] w fun e w' => e = .returned (.int .i64 0) ∧ ∃ m, w' = (w.setCell ⟨R, 1, none⟩ (.int .i64 (p + 1))).drewN m := by
  have c0 := two_fst hR
  have c1 := two_snd hR
  have f1 := two_free hR 1
  clear hR
  go_enter Try.func16, Try.ntmps16
  go_wp2_with fail
  go_ret
  exact ⟨rfl, 0, rfl⟩

theorem pick_past (R p b off len cap : Nat) (z z' n : Int) (w : World) (hR : w.heap[R]? = some (.cells #[.slice (some ⟨b, off, none⟩) len cap, .int .i64 p] 60 (0, 0))) (hp : p ≤ 1000000) (hn : 1 ≤ n)
    (hb : b ≠ R) (hlt : len ≤ p) (hl0 : 0 < len) (hl : len ≤ 2000) (hc : w.cell? ⟨b, off + p % len, none⟩ = some (.int .u8 z)) (hc' : w.cell? ⟨b, off + (p * 7 + 3) % len, none⟩ = some (.int .u8 z'))
    (hz0 : 0 ≤ z) (hz1 : z ≤ 255) (hz0' : 0 ≤ z') (hz1' : z' ≤ 255) :
    Calls Try.prog 16 #[.pointer (some ⟨R, 0, none⟩), .int .i64 n] w fun e w' => (∃ k : Int, e = .returned (.int .i64 k) ∧ 0 ≤ k ∧ k < n) ∧ ∃ m, w' = (w.setCell ⟨R, 1, none⟩ (.int .i64 (p + 1))).drewN m := by
  have c0 := two_fst hR
  have c1 := two_snd hR
  have f1 := two_free hR 1
  clear hR
  have hlt' : ¬ (p : Int) < (len : Int) := by omega
  have hle : ((len : Int) == 0) = false := by simp; omega
  have hl1 : (1 : Int) ≤ (len : Int) := by omega
  have m0 : (0 : Int) ≤ (p : Int) % (len : Int) := Int.emod_nonneg _ (by omega)
  have m1 : (p : Int) % (len : Int) < (len : Int) := Int.emod_lt_of_pos _ (by omega)
  have m2 : (0 : Int) ≤ ((p : Int) * 7 + 3) % (len : Int) := Int.emod_nonneg _ (by omega)
  have m3 : ((p : Int) * 7 + 3) % (len : Int) < (len : Int) := Int.emod_lt_of_pos _ (by omega)
  have q0 : (0 : Int) ≤ (p : Int) / (len : Int) := Int.ediv_nonneg (by omega) (by omega)
  have q1 : (p : Int) / (len : Int) ≤ 1000000 := by
    have := Int.ediv_le_self (b := (len : Int)) (show (0 : Int) ≤ (p : Int) by omega)
    omega
  have hcs : (w.setCell ⟨R, 1, none⟩ (.int .i64 (p + 1))).cell? ⟨b, off + p % len, none⟩ = some (.int .u8 z) := (World.cell?_setCell_other _ _ _ _ (by simp [hb])).trans hc
  have hcs' : (w.setCell ⟨R, 1, none⟩ (.int .i64 (p + 1))).cell? ⟨b, off + (p * 7 + 3) % len, none⟩ = some (.int .u8 z') := (World.cell?_setCell_other _ _ _ _ (by simp [hb])).trans hc'
  clear hc hc'
  go_enter Try.func16, Try.ntmps16
  go_wp2_with fail
  go_quiet (fail)
  go_wp2_with fail
  go_ret
  exact ⟨⟨_, rfl, xor_rem (by omega) (by omega) hn⟩, _, rfl⟩

/-- A pick of a number from 0 to n - 1: only the reader's own block turns. -/
theorem pick_any (R p : Nat) (n : Int) (w : World) (h : Rd w R p) (hp : p ≤ 1000000) (hn : 1 ≤ n) :
    Calls Try.prog 16 #[.pointer (some ⟨R, 0, none⟩), .int .i64 n] w (Picked w R (p + 1) n) := by
  have st := rd_step h
  obtain ⟨v, hR, hB⟩ := h
  rcases hB with ⟨a, rfl⟩ | ⟨b, off, len, cap, zs, rfl, hbw, hl, hc, hz⟩
  · refine (pick_empty R p n a w hR hp hn).mono ?_
    rintro e w' ⟨rfl, m, rfl⟩
    exact ⟨0, rfl, by omega, by omega, (st m).1, (st m).2⟩
  have hne : b ≠ R := by omega
  by_cases h0 : len = 0
  · subst h0
    have hR' : w.heap[R]? = some (.cells #[.slice (some ⟨b, off, none⟩) 0 cap, .int .i64 p] 60 (0, 0)) := hR
    refine (pick_none R p b off cap n w hR' hp hn).mono ?_
    rintro e w' ⟨rfl, m, rfl⟩
    exact ⟨0, rfl, by omega, by omega, (st m).1, (st m).2⟩
  by_cases hlt : p < len
  · refine (pick_byte R p b off len cap _ n w hR hp hn hne hlt hl (hc p hlt) (hz p).1 (hz p).2).mono ?_
    rintro e w' ⟨⟨k, rfl, k0, k1⟩, m, rfl⟩
    exact ⟨k, rfl, k0, k1, (st m).1, (st m).2⟩
  · refine (pick_past R p b off len cap _ _ n w hR hp hn hne (by omega) (by omega) hl (hc (p % len) (Nat.mod_lt _ (by omega))) (hc ((p * 7 + 3) % len) (Nat.mod_lt _ (by omega))) (hz _).1 (hz _).2 (hz _).1 (hz _).2).mono ?_
    rintro e w' ⟨⟨k, rfl, k0, k1⟩, m, rfl⟩
    exact ⟨k, rfl, k0, k1, (st m).1, (st m).2⟩

/-- What the opening of a code hands back: a reader in a new block. -/
def Opened (w : World) (e : Ending) (w' : World) : Prop :=
  e = .returned (.pointer (some ⟨w.heap.size, 0, none⟩)) ∧ Rd w' w.heap.size 0 ∧ Below w.heap.size w w'
theorem open_any (v : Value) (w : World) (h : CodeAt w v) : Calls Try.prog 14 #[v] w (Opened w) := by
  rcases h with ⟨a, rfl⟩ | ⟨b, off, len, cap, zs, rfl, hb, hlc, hcm, hlz, hc, hz⟩
  · go_enter Try.func14, Try.ntmps14
    go_wp2_with fail
    go_ret
    exact ⟨rfl, ⟨_, heap_alloc_last _ _, .inl ⟨a, rfl⟩⟩, (Below.refl _ _).alloc (Nat.le_refl _) _⟩
  · have hc' : ∀ i, i < len → ∀ o, (w.alloc o).cell? ⟨b, off + i, none⟩ = some (.int .u8 (zs.getD i 0)) := fun i hi o => by
      rw [World.cell?_alloc_past _ _ _ hb]; exact hc i hi
    unfold maxLen at hcm
    by_cases hl : len ≤ 2000
    · have hl' : ¬ (2000 : Int) < (len : Int) := by omega
      have C := fun i hi o => Lib.hid (hc' i hi o)
      clear hc hc'
      go_enter Try.func14, Try.ntmps14
      go_wp2_with fail
      go_ret
      exact ⟨rfl, ⟨_, heap_alloc_last _ _, .inr ⟨b, off, len, cap, zs, rfl, hb, hl, fun i hi => (C i hi _).out, hz⟩⟩, (Below.refl _ _).alloc (Nat.le_refl _) _⟩
    · have hl' : (2000 : Int) < (len : Int) := by omega
      have hlc' : (2000 : Int) ≤ (cap : Int) := by omega
      have C := fun i hi o => Lib.hid (hc' i hi o)
      clear hc hc'
      go_enter Try.func14, Try.ntmps14
      go_wp2_with fail
      go_ret
      exact ⟨rfl, ⟨_, heap_alloc_last _ _, .inr ⟨b, off, 2000, cap, zs, rfl, hb, by omega, fun i hi => (C i (by omega) _).out, hz⟩⟩, (Below.refl _ _).alloc (Nat.le_refl _) _⟩
end Go.Proofs.Ytibhlaojinedoaa
