/-
  Both sides: the paths of moves.
  Both sides: the paths of moves, told.
  The laws' helpers on lists of points in words: compared, marked, held.
  Both sides: lengths of moves.
-/
import Derived.Test.YtpbppgaohfgpbaaM27
import Derived.Test.YtpbppgaohfgpbaaM23
import Derived.Test.YtpbppgaohfgpbaaM22
import Derived.Test.YtpbppgaohfgpbaaM07
/- Both sides: the paths of moves. -/
namespace Go.Proofs.Ytpbppgaohfgpbaa
set_option maxRecDepth 20000
open Go.ChangeShapes Go.WideShapes Go.ChangeAt Go.RowKit
set_option linter.unusedVariables false
set_option linter.unusedSimpArgs false

/-- So many units, as a part of a point. -/
def quoW (n : Int) (g : Nat) : Nat := (floatBits .quo .f32 (floatOfInt .f32 n) (sclW g)).getD 0
theorem fs_int {n : Int} (h : -10000000000 ≤ n ∧ n ≤ 10000000000) : FS (floatOfInt .f32 n) (decide (n < 0)) (rndN 23 n.natAbs * 2 ^ loS) := by
  refine int_fv fmtS n (fits_small (by decide) ?_)
  have e : n.natAbs * 2 ^ loS < 2 ^ (34 + loS) := by
    rw [Nat.pow_add]; exact Nat.mul_lt_mul_of_pos_right (by omega) (Nat.two_pow_pos _)
  have := log_of_lt e (by omega)
  rw [loS_eq] at this; rw [loS_eq]; omega
theorem quo_some {n : Int} {g : Nat} (h : -10000000000 ≤ n ∧ n ≤ 10000000000) (hg : g ≤ 8) : floatBits .quo .f32 (floatOfInt .f32 n) (sclW g) = some (quoW n g) := by
  obtain ⟨m, b, r, -⟩ := fs_int h
  have hs := scl_read hg
  unfold quoW
  have : ∃ z, floatBits .quo .f32 (floatOfInt .f32 n) (sclW g) = some z := by
    show ∃ z, ((Ieee.single.read (floatOfInt .f32 n)).quotient (Ieee.single.fractionBits + 2) (Ieee.single.read (sclW g))).map Ieee.single.write = some z
    rw [r, hs]
    simp only [Ieee.Datum.quotient]
    rw [if_neg (Nat.ne_of_gt (Nat.two_pow_pos 23))]
    exact ⟨_, rfl⟩
  obtain ⟨z, hz⟩ := this
  rw [hz]; rfl
def ptW (g : Nat) (m : Mv) : Pn := (quoW m.1 g, quoW m.2 g)
/-- The points that moves lead to. -/
def pathL (g : Nat) (xs : List Mv) : List Pn := (List.range xs.length).map fun k => ptW g (sumM (xs.take (k + 1)))
theorem pathL_len (g : Nat) (xs : List Mv) : (pathL g xs).length = xs.length := by simp [pathL]
theorem pathL_at {g k : Nat} {xs : List Mv} (h : k < xs.length) : (pathL g xs)[k]? = some (ptW g (sumM (xs.take (k + 1)))) := by simp [pathL, h]
theorem pathL_next {g k : Nat} {xs : List Mv} (h : k < xs.length) : (pathL g xs).take (k + 1) = (pathL g xs).take k ++ [ptW g (sumM (xs.take (k + 1)))] := take_nextL (pathL_at h)
def mpO (xs : List Mv) (g : Int) : Option (List Pn) := if mvB xs && grB g && pvB (pathL g.toNat xs) then some (pathL g.toNat xs) else none
theorem mpO_1 {xs : List Mv} {g : Int} (h : mvB xs = false) : mpO xs g = none := by unfold mpO; rw [h]; rfl
theorem mpO_2 {xs : List Mv} {g : Int} (h : grB g = false) : mpO xs g = none := by unfold mpO; rw [h, Bool.and_false]; rfl
theorem mpO_3 {xs : List Mv} {n : Nat} (h : pvB (pathL n xs) = false) : mpO xs n = none := by
  unfold mpO
  rw [Int.toNat_natCast, h, Bool.and_false]; rfl
theorem mpO_yes {xs : List Mv} {n : Nat} (h : mvB xs = true) (h2 : grB n = true) (h3 : pvB (pathL n xs) = true) : mpO xs n = some (pathL n xs) := by
  unfold mpO
  rw [Int.toNat_natCast, h, h2, h3]; rfl
theorem sumM_in {xs : List Mv} (h : ∀ y ∈ xs, big y ≤ 10000000) (hl : xs.length ≤ 100) {k : Nat} (hk : k ≤ xs.length) : (-1000000000 ≤ (sumM (xs.take k)).1 ∧ (sumM (xs.take k)).1 ≤ 1000000000) ∧ (-1000000000 ≤ (sumM (xs.take k)).2 ∧ (sumM (xs.take k)).2 ≤ 1000000000) := by
  have := sumM_big h k hk
  unfold big at this
  omega
end Go.Proofs.Ytpbppgaohfgpbaa
/- Both sides: the paths of moves, told. -/
namespace Go.Proofs.Ytpbppgaohfgpbaa
set_option maxRecDepth 20000
open Go.ChangeShapes Go.WideShapes Go.ChangeAt Go.RowKit
set_option linter.unusedVariables false
set_option linter.unusedSimpArgs false

end Go.Proofs.Ytpbppgaohfgpbaa
/- The laws' helpers on lists of points in words: compared, marked, held. -/
namespace Go.Proofs.Ytpbppgaohfgpbaa
set_option maxRecDepth 20000
open Go.ChangeShapes Go.WideShapes Go.ChangeAt Go.RowKit
set_option linter.unusedVariables false
set_option linter.unusedSimpArgs false

/-! ### Words widened -/
def wdW (x : Nat) : Nat := (floatToFloatBits .f32 x .f64).getD 0
theorem wd_fin {x : Nat} (h : finS x = true) : floatToFloatBits .f32 x .f64 = some (wdW x) ∧ NN (wdW x) := by
  obtain ⟨z, hz, hd⟩ := fs_wider (fin_fs h)
  unfold wdW
  rw [hz]
  refine ⟨rfl, ?_⟩
  obtain ⟨m, b, r, -⟩ := hd
  show NN z
  unfold NN
  rw [r]; rfl
theorem swap_eq {F : FuncId} {args : Array Value} {w : World} {v : Value} (h : Calls Try.prog F args w fun e w' => e = .returned v ∧ w' = w) : Calls Try.prog F args w fun e w' => e = .returned v ∧ w = w' := h.mono fun _ _ ⟨a, b⟩ => ⟨a, b.symm⟩
set_option maxHeartbeats 2000000 in
theorem samePoints_yes (va vb : Value) (L : List Pn) (w : World) (ha : ReadsL encC w va L) (hb : ReadsL encC w vb L) (hf : ∀ a ∈ L, ptF a = true) (hl : L.length ≤ 1000000) : Calls Try.prog 34 #[va, vb] w fun e w' => e = .returned (.bool true) ∧ Below w.heap.size w w' := by
  obtain ⟨p, cap, rfl, hc1, hc2, hp0, hp⟩ := ha
  obtain ⟨q, cap2, rfl, hd1, hd2, hq0, hq⟩ := hb
  simp only [maxLen] at hc2
  have hlb : ((L.length : Int) != (L.length : Int)) = false := by simp
  have HP := Lib.hid hp
  have HQ := Lib.hid hq
  have HF := Lib.hid hf
  clear hp hq hf
  go_enter Try.func34, Try.ntmps34
  go_wp2
  go_loopw [5] (fun i wr => ∃ k m : Nat, k ≤ L.length ∧ i = .int .i64 k ∧ wr = w.drewN m) (fun i _ => L.length - (intOf i).toNat)
  case atStart => exact ⟨0, 0, Nat.zero_le _, rfl, rfl⟩
  case round =>
    obtain ⟨k, m, hk, rfl, rfl⟩ := hrel
    by_cases hlt : k < L.length
    · have hkz : (k : Int) < (L.length : Int) := by omega
      have hk0 : (0 : Int) ≤ (k : Int) := by omega
      obtain ⟨c, hc⟩ : ∃ c, L[k]? = some c := ⟨_, List.getElem?_eq_getElem hlt⟩
      obtain ⟨g, o, rfl, hg, hr⟩ := HP.out (by rintro rfl; have := hp0 rfl; omega)
      obtain ⟨g2, o2, rfl, hg2, hr2⟩ := HQ.out (by rintro rfl; have := hq0 rfl; omega)
      have c1 := pt_cell hr hc
      have c2 := pt_cell hr2 hc
      have fc := ptF_parts (HF.out c (List.mem_of_getElem? hc))
      obtain ⟨h1, n1⟩ := wd_fin fc.1
      obtain ⟨h2, n2⟩ := wd_fin fc.2
      have C := fun w => swap_eq (singleAlike_same h1 h2 n1 n2 w)
      clear hr hr2 hc hg hg2 fc h1 h2 n1 n2
      unfold cs at *
      go_wp2_with fail
      go_quiet (first | (go_at_call 15; exact calm2 (C _)))
      clear C c1 c2
      go_wp2_with fail
      go_roundw
      case rel => exact ⟨k + 1, _, by omega, by go_num, rfl⟩
      case measure => simp [intOf]; omega
    · obtain rfl : k = L.length := by omega
      go_wp2
      go_ret
      exact ⟨rfl, below_drewN (Below.refl _ _) m⟩
/-! ### Marks -/
def mkW (k : Nat) : Nat := floatOfInt .f32 ((k : Nat) : Int)
abbrev oneS : Nat := 1065353216
theorem mk_narrow (k : Nat) (h : k < 128) : floatToFloatBits .f64 (floatOfInt .f64 ((k : Nat) : Int)) .f32 = some (mkW k) := by
  have key : ∀ k : Fin 128, floatToFloatBits .f64 (floatOfInt .f64 ((k.val : Nat) : Int)) .f32 = some (mkW k.val) := by decide +kernel
  exact key ⟨k, h⟩
theorem mk_self (k : Nat) (h : k < 128) : FloatKind.f32.format.order (mkW k) (mkW k) = some .eq := by
  have key : ∀ k : Fin 128, FloatKind.f32.format.order (mkW k.val) (mkW k.val) = some .eq := by decide +kernel
  exact key ⟨k, h⟩
theorem run_mark (k : Nat) (h : k < 128) (w : World) : (convert 34 23 (.complex .f64 (floatOfInt .f64 ((k : Nat) : Int)) 4607182418800017408)).run Try.prog w = .ok (.complex .f32 (mkW k) oneS) w :=
  run_convert_complex w _ _ .f64 .f32 _ _ _ _ (by kernel_rfl) (by kernel_rfl) (by unfold cConvBits; rw [mk_narrow k h, show floatToFloatBits .f64 4607182418800017408 .f32 = some oneS by decide +kernel]; rfl)
theorem run_cne {p q : Nat} (h1 : FloatKind.f32.format.order p p = some .eq) (h2 : FloatKind.f32.format.order q q = some .eq) (t : TypeId) (w : World) :
    (binOp .neq t (.complex .f32 p q) (.complex .f32 p q)).run Try.prog w = .ok (.bool false) w := by
  simp [binOp, Op.complexOp, Op.Complex.cmp, Op.floatCmp, h1, h2, go_sem, asBool]
theorem run_store_cpx (P : Program) (w : World) (a : Addr) (p q : Nat) (m : Mode) : (store a (.complex .f32 p q) m).run P w = stored P w a (.complex .f32 p q) m := run_store P w a _ m rfl
theorem store_cpx {P : Program} {w : World} {a : Addr} {p q : Nat} {old : Value} (h1 : w.cell? a = some old) (h2 : w.frozen? a = false) (m : Mode) : (store a (.complex .f32 p q) m).run P w = .ok () (w.setCell a (.complex .f32 p q)) := by
  rw [run_store_cpx]
  unfold stored
  rw [h1, h2]
  rfl
def mkZL (m : Nat) : List Value := (List.range m).map fun (p : Nat) => Value.complex .f32 (mkW (1 + p)) oneS
theorem mkZL_len (m : Nat) : (mkZL m).length = m := by simp [mkZL]
theorem mkZL_at {m p : Nat} (h : p < m) : (mkZL m)[p]? = some (.complex .f32 (mkW (1 + p)) oneS) := by simp [mkZL, h]
theorem mkZL_next (m : Nat) : mkZL (m + 1) = mkZL m ++ [.complex .f32 (mkW (1 + m)) oneS] := by simp [mkZL, List.range_succ]
def mkdZ (cs : List Value) (p : Nat) : List Value := mkZL p ++ cs.drop p
theorem mkdZ_none (cs : List Value) : mkdZ cs 0 = cs := rfl
theorem mkdZ_all {n : Nat} {cs : List Value} (h : cs.length = n) : mkdZ cs n = mkZL n := by
  unfold mkdZ
  rw [List.drop_of_length_le (by omega), List.append_nil]
theorem mkdZ_old {p : Nat} {cs : List Value} (h : p < cs.length) : (mkdZ cs p)[p]? = some cs[p] := by
  unfold mkdZ
  rw [List.getElem?_append_right (by rw [mkZL_len]; omega), mkZL_len, Nat.sub_self, List.getElem?_drop, Nat.add_zero, List.getElem?_eq_getElem h]
theorem mkdZ_step {p : Nat} {cs : List Value} (h : p < cs.length) : (mkdZ cs p).set p (.complex .f32 (mkW (1 + p)) oneS) = mkdZ cs (p + 1) := by
  have e : cs.drop p = cs[p] :: cs.drop (p + 1) := List.drop_eq_getElem_cons h
  unfold mkdZ
  rw [e, mkZL_next, List.set_append_right _ _ (by rw [mkZL_len]; omega), mkZL_len, Nat.sub_self, List.set_cons_zero, List.append_assoc]
  rfl
theorem markZ_number (n : Nat) : ∃ M : Int, Aside ((1 + (n : Int)) = M) ∧ ¬ M < 0 ∧ (M != M) = false := ⟨_, (show _ = _ from rfl), by omega, by simp⟩
end Go.Proofs.Ytpbppgaohfgpbaa
/- Both sides: lengths of moves. -/
namespace Go.Proofs.Ytpbppgaohfgpbaa
set_option maxRecDepth 20000
open Go.ChangeShapes Go.WideShapes Go.ChangeAt Go.RowKit
set_option linter.unusedVariables false
set_option linter.unusedSimpArgs false

theorem max_size (a : Int) : max a (-a) = ((a.natAbs : Nat) : Int) := by omega
def lenO (xs : List Mv) : Int := if mvB xs = true then lensM xs else -1
theorem lensM_big {xs : List Mv} (h : ∀ y ∈ xs, big y ≤ 10000000) : ∀ k, k ≤ xs.length → 0 ≤ lensM (xs.take k) ∧ lensM (xs.take k) ≤ 20000000 * (k : Int)
  | 0, _ => by simp [lensM]
  | k + 1, hk => by
    obtain ⟨a, ha⟩ : ∃ a, xs[k]? = some a := ⟨_, List.getElem?_eq_getElem (by omega)⟩
    rw [lensM_next ha]
    have h1 := lensM_big h k (by omega)
    have h2 := h a (List.mem_of_getElem? ha)
    unfold big at h2
    unfold lenM
    omega
end Go.Proofs.Ytpbppgaohfgpbaa
