/-
  What the exact laws of chapter 10 need of the results: a bit, finite words, short lists.
  The laws' helpers on lists of points in words: compared, marked, held.
-/
import Derived.Test.YtnidiikcnplebaaM25
import Derived.Test.YtnidiikcnplebaaM12
import Derived.Test.YtnidiikcnplebaaM11
/- What the exact laws of chapter 10 need of the results: a bit, finite words, short lists. -/
namespace Go.Proofs.Ytnidiikcnplebaa
set_option maxRecDepth 20000
open Go.ChangeShapes Go.WideShapes Go.ChangeAt Go.RowKit
set_option linter.unusedVariables false
set_option linter.unusedSimpArgs false

def BitC (w : World) (o : Option (List Pn)) (bit : Bool) (e : Ending) (w' : World) : Prop :=
  Below w.heap.size w w' ∧ ∃ v', e = .returned (.tuple #[v', .bool bit]) ∧ OwnL encC 1 w' w.heap.size 35 v' (o.getD [])
theorem told_bitC {w w' : World} {o : Option (List Pn)} {bit : Bool} {e : Ending} (hb : o.isSome = bit) (h : ToldC w o e w') : BitC w o bit e w' := by
  subst hb
  exact h
def BitM (w : World) (o : Option (List Mv)) (bit : Bool) (e : Ending) (w' : World) : Prop :=
  Below w.heap.size w w' ∧ ∃ v', e = .returned (.tuple #[v', .bool bit]) ∧ OwnL encM 2 w' w.heap.size 45 v' (o.getD [])
theorem told_bitM {w w' : World} {o : Option (List Mv)} {bit : Bool} {e : Ending} (hb : o.isSome = bit) (h : ToldM w o e w') : BitM w o bit e w' := by
  subst hb
  exact h
theorem pathO_short (xs : List V) : ((pathO xs).getD []).length ≤ 100 := by
  unfold pathO
  split
  · next h => rw [Bool.and_eq_true] at h; exact (pvB_parts h.2).2.1
  · simp
theorem pathO_fin (xs : List V) : ∀ a ∈ (pathO xs).getD [], ptF a = true := by
  unfold pathO
  split
  · next h => rw [Bool.and_eq_true] at h; exact fun a ha => ptR_fin ((pvB_parts h.2).2.2 a ha)
  · intro a ha; simp at ha
theorem mpO_short (xs : List Mv) (g : Int) : ((mpO xs g).getD []).length ≤ 100 := by
  unfold mpO
  split
  · next h => rw [Bool.and_eq_true] at h; exact (pvB_parts h.2).2.1
  · simp
theorem mpO_fin (xs : List Mv) (g : Int) : ∀ a ∈ (mpO xs g).getD [], ptF a = true := by
  unfold mpO
  split
  · next h => rw [Bool.and_eq_true] at h; exact fun a ha => ptR_fin ((pvB_parts h.2).2.2 a ha)
  · intro a ha; simp at ha
theorem tdO_short (xs : List Mv) : ((tdO xs).getD []).length ≤ 100 := by
  unfold tdO
  split
  · next h => rw [Bool.and_eq_true] at h; exact (mvB_parts h.2).1
  · simp

end Go.Proofs.Ytnidiikcnplebaa
/- The laws' helpers on lists of points in words: compared, marked, held. -/
namespace Go.Proofs.Ytnidiikcnplebaa
set_option maxRecDepth 20000
open Go.ChangeShapes Go.WideShapes Go.ChangeAt Go.RowKit
set_option linter.unusedVariables false
set_option linter.unusedSimpArgs false

/-! ### Words widened -/
def wdW (x : Nat) : Nat := (floatToFloatBits .f32 x .f64).getD 0
theorem wd_fin {x : Nat} (h : finS x = true) : floatToFloatBits .f32 x .f64 = some (wdW x) ∧ NN (wdW x) := by
  obtain ⟨z, hz, hd⟩ := fs_wider (fin_fs h)
  unfold wdW
  rw [hz]
  refine ⟨rfl, ?_⟩
  obtain ⟨m, b, r, -⟩ := hd
  show NN z
  unfold NN
  rw [r]; rfl
theorem swap_eq {F : FuncId} {args : Array Value} {w : World} {v : Value} (h : Calls Try.prog F args w fun e w' => e = .returned v ∧ w' = w) : Calls Try.prog F args w fun e w' => e = .returned v ∧ w = w' := h.mono fun _ _ ⟨a, b⟩ => ⟨a, b.symm⟩
set_option maxHeartbeats 2000000 in
theorem eqZ_yes (va vb : Value) (L : List Pn) (w : World) (ha : ReadsL encC w va L) (hb : ReadsL encC w vb L) (hf : ∀ a ∈ L, ptF a = true) (hl : L.length ≤ 1000000) : Calls Try.prog 52 #[va, vb] w fun e w' => e = .returned (.bool true) ∧ Below w.heap.size w w' := by
  obtain ⟨p, cap, rfl, hc1, hc2, hp0, hp⟩ := ha
  obtain ⟨q, cap2, rfl, hd1, hd2, hq0, hq⟩ := hb
  simp only [maxLen] at hc2
  have hlb : ((L.length : Int) != (L.length : Int)) = false := by simp
  have HP := Lib.hid hp
  have HQ := Lib.hid hq
  have HF := Lib.hid hf
  clear hp hq hf
  go_enter Try.func52, Try.ntmps52
  go_wp2
  go_loopw [5] (fun i wr => ∃ k m : Nat, k ≤ L.length ∧ i = .int .i64 k ∧ wr = w.drewN m) (fun i _ => L.length - (intOf i).toNat)
  case atStart => exact ⟨0, 0, Nat.zero_le _, rfl, rfl⟩
  case round =>
    obtain ⟨k, m, hk, rfl, rfl⟩ := hrel
    by_cases hlt : k < L.length
    · have hkz : (k : Int) < (L.length : Int) := by omega
      have hk0 : (0 : Int) ≤ (k : Int) := by omega
      obtain ⟨c, hc⟩ : ∃ c, L[k]? = some c := ⟨_, List.getElem?_eq_getElem hlt⟩
      obtain ⟨g, o, rfl, hg, hr⟩ := HP.out (by rintro rfl; have := hp0 rfl; omega)
      obtain ⟨g2, o2, rfl, hg2, hr2⟩ := HQ.out (by rintro rfl; have := hq0 rfl; omega)
      have c1 := pt_cell hr hc
      have c2 := pt_cell hr2 hc
      have fc := ptF_parts (HF.out c (List.mem_of_getElem? hc))
      obtain ⟨h1, n1⟩ := wd_fin fc.1
      obtain ⟨h2, n2⟩ := wd_fin fc.2
      have R := fun w => run_wider h1 h2 w
      have C := fun w => swap_eq (sameComplex_same (wdW c.1) (wdW c.2) n1 n2 w)
      clear hr hr2 hc hg hg2 fc h1 h2 n1 n2
      unfold cs cw at *
      generalize wdW c.1 = x at *
      generalize wdW c.2 = y at *
      go_wp2_with fail
      go_quiet (first | rw [R] | (go_at_call 96; exact calm2 (C _)))
      clear R C c1 c2
      go_wp2_with fail
      go_roundw
      case rel => exact ⟨k + 1, _, by omega, by go_num, rfl⟩
      case measure => simp [intOf]; omega
    · obtain rfl : k = L.length := by omega
      go_wp2
      go_ret
      exact ⟨rfl, below_drewN (Below.refl _ _) m⟩
set_option maxHeartbeats 2000000 in
theorem samePoints_yes (va vb : Value) (L : List Pn) (w : World) (ha : ReadsL encC w va L) (hb : ReadsL encC w vb L) (hf : ∀ a ∈ L, ptF a = true) (hl : L.length ≤ 1000000) : Calls Try.prog 23 #[va, vb] w fun e w' => e = .returned (.bool true) ∧ Below w.heap.size w w' := by
  obtain ⟨p, cap, rfl, hc1, hc2, hp0, hp⟩ := ha
  obtain ⟨q, cap2, rfl, hd1, hd2, hq0, hq⟩ := hb
  simp only [maxLen] at hc2
  have hlb : ((L.length : Int) != (L.length : Int)) = false := by simp
  have HP := Lib.hid hp
  have HQ := Lib.hid hq
  have HF := Lib.hid hf
  clear hp hq hf
  go_enter Try.func23, Try.ntmps23
  go_wp2
  go_loopw [5] (fun i wr => ∃ k m : Nat, k ≤ L.length ∧ i = .int .i64 k ∧ wr = w.drewN m) (fun i _ => L.length - (intOf i).toNat)
  case atStart => exact ⟨0, 0, Nat.zero_le _, rfl, rfl⟩
  case round =>
    obtain ⟨k, m, hk, rfl, rfl⟩ := hrel
    by_cases hlt : k < L.length
    · have hkz : (k : Int) < (L.length : Int) := by omega
      have hk0 : (0 : Int) ≤ (k : Int) := by omega
      obtain ⟨c, hc⟩ : ∃ c, L[k]? = some c := ⟨_, List.getElem?_eq_getElem hlt⟩
      obtain ⟨g, o, rfl, hg, hr⟩ := HP.out (by rintro rfl; have := hp0 rfl; omega)
      obtain ⟨g2, o2, rfl, hg2, hr2⟩ := HQ.out (by rintro rfl; have := hq0 rfl; omega)
      have c1 := pt_cell hr hc
      have c2 := pt_cell hr2 hc
      have fc := ptF_parts (HF.out c (List.mem_of_getElem? hc))
      obtain ⟨h1, n1⟩ := wd_fin fc.1
      obtain ⟨h2, n2⟩ := wd_fin fc.2
      have C := fun w => swap_eq (singleAlike_same h1 h2 n1 n2 w)
      clear hr hr2 hc hg hg2 fc h1 h2 n1 n2
      unfold cs at *
      go_wp2_with fail
      go_quiet (first | (go_at_call 25; exact calm2 (C _)))
      clear C c1 c2
      go_wp2_with fail
      go_roundw
      case rel => exact ⟨k + 1, _, by omega, by go_num, rfl⟩
      case measure => simp [intOf]; omega
    · obtain rfl : k = L.length := by omega
      go_wp2
      go_ret
      exact ⟨rfl, below_drewN (Below.refl _ _) m⟩
/-! ### Marks -/
def mkW (k : Nat) : Nat := floatOfInt .f32 ((k : Nat) : Int)
abbrev oneS : Nat := 1065353216
theorem mk_narrow (k : Nat) (h : k < 128) : floatToFloatBits .f64 (floatOfInt .f64 ((k : Nat) : Int)) .f32 = some (mkW k) := by
  have key : ∀ k : Fin 128, floatToFloatBits .f64 (floatOfInt .f64 ((k.val : Nat) : Int)) .f32 = some (mkW k.val) := by decide +kernel
  exact key ⟨k, h⟩
theorem mk_self (k : Nat) (h : k < 128) : FloatKind.f32.format.order (mkW k) (mkW k) = some .eq := by
  have key : ∀ k : Fin 128, FloatKind.f32.format.order (mkW k.val) (mkW k.val) = some .eq := by decide +kernel
  exact key ⟨k, h⟩
theorem run_mark (k : Nat) (h : k < 128) (w : World) : (convert 102 35 (.complex .f64 (floatOfInt .f64 ((k : Nat) : Int)) 4607182418800017408)).run Try.prog w = .ok (.complex .f32 (mkW k) oneS) w :=
  run_convert_complex w _ _ .f64 .f32 _ _ _ _ (by kernel_rfl) (by kernel_rfl) (by unfold cConvBits; rw [mk_narrow k h, show floatToFloatBits .f64 4607182418800017408 .f32 = some oneS by decide +kernel]; rfl)
theorem run_cne {p q : Nat} (h1 : FloatKind.f32.format.order p p = some .eq) (h2 : FloatKind.f32.format.order q q = some .eq) (t : TypeId) (w : World) :
    (binOp .neq t (.complex .f32 p q) (.complex .f32 p q)).run Try.prog w = .ok (.bool false) w := by
  simp [binOp, Op.complexOp, Op.Complex.cmp, Op.floatCmp, h1, h2, go_sem, asBool]
theorem run_store_cpx (P : Program) (w : World) (a : Addr) (p q : Nat) (m : Mode) : (store a (.complex .f32 p q) m).run P w = stored P w a (.complex .f32 p q) m := run_store P w a _ m rfl
theorem store_cpx {P : Program} {w : World} {a : Addr} {p q : Nat} {old : Value} (h1 : w.cell? a = some old) (h2 : w.frozen? a = false) (m : Mode) : (store a (.complex .f32 p q) m).run P w = .ok () (w.setCell a (.complex .f32 p q)) := by
  rw [run_store_cpx]
  unfold stored
  rw [h1, h2]
  rfl
def mkZL (m : Nat) : List Value := (List.range m).map fun (p : Nat) => Value.complex .f32 (mkW (1 + p)) oneS
theorem mkZL_len (m : Nat) : (mkZL m).length = m := by simp [mkZL]
theorem mkZL_at {m p : Nat} (h : p < m) : (mkZL m)[p]? = some (.complex .f32 (mkW (1 + p)) oneS) := by simp [mkZL, h]
theorem mkZL_next (m : Nat) : mkZL (m + 1) = mkZL m ++ [.complex .f32 (mkW (1 + m)) oneS] := by simp [mkZL, List.range_succ]
def mkdZ (cs : List Value) (p : Nat) : List Value := mkZL p ++ cs.drop p
theorem mkdZ_none (cs : List Value) : mkdZ cs 0 = cs := rfl
theorem mkdZ_all {n : Nat} {cs : List Value} (h : cs.length = n) : mkdZ cs n = mkZL n := by
  unfold mkdZ
  rw [List.drop_of_length_le (by omega), List.append_nil]
theorem mkdZ_old {p : Nat} {cs : List Value} (h : p < cs.length) : (mkdZ cs p)[p]? = some cs[p] := by
  unfold mkdZ
  rw [List.getElem?_append_right (by rw [mkZL_len]; omega), mkZL_len, Nat.sub_self, List.getElem?_drop, Nat.add_zero, List.getElem?_eq_getElem h]
theorem mkdZ_step {p : Nat} {cs : List Value} (h : p < cs.length) : (mkdZ cs p).set p (.complex .f32 (mkW (1 + p)) oneS) = mkdZ cs (p + 1) := by
  have e : cs.drop p = cs[p] :: cs.drop (p + 1) := List.drop_eq_getElem_cons h
  unfold mkdZ
  rw [e, mkZL_next, List.set_append_right _ _ (by rw [mkZL_len]; omega), mkZL_len, Nat.sub_self, List.set_cons_zero, List.append_assoc]
  rfl
set_option maxHeartbeats 2000000 in
theorem markZ_own (B g n cap : Nat) (ws : List Pn) (w : World) (hlen : ws.length = n) (ho : w.ownsRow B 35 1 (.slice (some ⟨g, 0, none⟩) n cap) n (flt encC ws)) (hm : n ≤ 100) :
    Calls Try.prog 55 #[.slice (some ⟨g, 0, none⟩) n cap, .int .i64 1] w fun e w' => e = .returned (.int .i64 (1 + (n : Int))) ∧ w'.ownsRow B 35 1 (.slice (some ⟨g, 0, none⟩) n cap) n (mkZL n) ∧ w.grownBy w' (some g) := by
  obtain ⟨cs, hcs⟩ : ∃ cs, cs = flt encC ws := ⟨_, rfl⟩
  have HF : Aside (cs.length = n) := (show _ = _ from by rw [hcs, flt_length encC_ok, hlen, Nat.mul_one])
  rw [← hcs] at ho
  rw [← mkdZ_none cs] at ho
  have HO0 := Lib.hid ho
  clear hcs ho hlen
  go_enter Try.func55, Try.ntmps55
  go_wp2_with fail
  go_loopw [1, 5] (fun ks i wr => ∃ k : Nat, k ≤ n ∧ i = .int .i64 k ∧ ks = .int .i64 ((1 + k : Nat) : Int) ∧ wr.ownsRow B 35 1 (.slice (some ⟨g, 0, none⟩) n cap) n (mkdZ cs k) ∧ w.grownBy wr (some g)) (fun _ i _ => n - (intOf i).toNat)
  case atStart => exact ⟨0, Nat.zero_le _, rfl, rfl, HO0.out, World.grownBy.refl _ _⟩
  case round =>
    clear HO0
    obtain ⟨k, hk, rfl, rfl, hO, hg⟩ := hrel
    by_cases hlt : k < n
    · have hkz : (k : Int) < (n : Int) := by omega
      have hk0z : (0 : Int) ≤ (k : Int) := by omega
      have hpl : k < cs.length := by rw [HF.out]; omega
      have hcell : wr.cell? ⟨g, k, none⟩ = some cs[k] := by rw [hO.cellAt k (by omega), mkdZ_old hpl]
      have hfr := hO.frozenAt k
      generalize cs[k] = old at *
      have q1 : IntKind.i64.wrap (((1 + k : Nat) : Int) + 1) = ((1 + (k + 1) : Nat) : Int) := by rw [IntKind.wrap_i64]; omega
      obtain ⟨h1, h2⟩ := hO.stored k (.complex .f32 (mkW (1 + k)) oneS)
      rw [mkdZ_step hpl] at h1
      have R := fun w => run_mark (1 + k) (by omega) w
      have ST := fun m => store_cpx (P := Try.prog) (p := mkW (1 + k)) (q := oneS) hcell hfr m
      have H1 := Lib.hid h1
      have H2 := Lib.hid (grown_trans hg h2)
      clear h1 h2 hO hg hpl
      generalize mkW (1 + k) = mw at *
      obtain ⟨m0, hm0⟩ : ∃ m : Int, ((1 + k : Nat) : Int) = m := ⟨_, rfl⟩
      obtain ⟨m1, hm1⟩ : ∃ m : Int, ((1 + (k + 1) : Nat) : Int) = m := ⟨_, rfl⟩
      rw [hm0] at q1 R ⊢
      rw [hm1] at q1
      have HM1 := Lib.hid hm1
      clear hm0 hm1
      go_wp2_with (first | rw [R] | rw [ST])
      go_roundw
      case rel => exact ⟨k + 1, by omega, by go_num, by rw [HM1.out], H1.out, H2.out⟩
      case measure => simp [intOf]; omega
    · obtain rfl : k = n := by omega
      rw [mkdZ_all HF.out] at hO
      have H1 := Lib.hid hO
      have H2 := Lib.hid hg
      clear hO hg
      go_wp2_with fail
      go_ret
      exact ⟨ret_int (by omega), H1.out, H2.out⟩
theorem markZ_nil (w : World) : Calls Try.prog 55 #[.slice none 0 0, .int .i64 1] w fun e w' => e = .returned (.int .i64 1) ∧ w = w' := by
  go_enter Try.func55, Try.ntmps55
  go_wp2_with fail
  refine wp_loop_rounds 1 ?_
  rw [rounds_succ]
  go_wp2_with fail
  go_ret
  exact ⟨rfl, rfl⟩
theorem markZ_any {w : World} {B : Nat} {v : Value} {xs : List Pn} (h : OwnL encC 1 w B 35 v xs) (hl : xs.length ≤ 100) :
    Calls Try.prog 55 #[v, .int .i64 1] w fun e w' => e = .returned (.int .i64 (1 + (xs.length : Int))) ∧ w'.ownsRow B 35 1 v xs.length (mkZL xs.length) ∧ w.grownBy w' v.ownBlock := by
  have h2 := h.2
  rcases h2 with ⟨rfl, h0⟩ | ⟨g, cap, cur, rfl, _⟩
  · refine (markZ_nil w).mono ?_
    rintro e w' ⟨rfl, rfl⟩
    refine ⟨by rw [h0]; rfl, ?_, World.grownBy.refl _ _⟩
    rw [h0]; exact World.ownsRow_nil _ _ _ _
  · exact markZ_own B g xs.length cap xs w rfl h hl
set_option maxHeartbeats 2000000 in
theorem heldZ_own (B g n cap : Nat) (w : World) (ho : w.ownsRow B 35 1 (.slice (some ⟨g, 0, none⟩) n cap) n (mkZL n)) (hm : n ≤ 100) :
    Calls Try.prog 56 #[.slice (some ⟨g, 0, none⟩) n cap, .int .i64 1] w fun e w' => e = .returned (.int .i64 (1 + (n : Int))) ∧ w = w' := by
  have HO := Lib.hid ho
  clear ho
  go_enter Try.func56, Try.ntmps56
  go_wp2_with fail
  go_loop [1, 5] (fun ks i => ∃ k : Nat, k ≤ n ∧ i = .int .i64 k ∧ ks = .int .i64 ((1 + k : Nat) : Int)) (fun _ i => n - (intOf i).toNat)
  case atStart => exact ⟨0, Nat.zero_le _, rfl, rfl⟩
  case round =>
    obtain ⟨k, hk, rfl, rfl⟩ := hrel
    by_cases hlt : k < n
    · have hkz : (k : Int) < (n : Int) := by omega
      have hk0z : (0 : Int) ≤ (k : Int) := by omega
      have c0 : w.cell? ⟨g, k, none⟩ = some (.complex .f32 (mkW (1 + k)) oneS) := by rw [HO.out.cellAt k (by omega), mkZL_at (by omega)]
      have q1 : IntKind.i64.wrap (((1 + k : Nat) : Int) + 1) = ((1 + (k + 1) : Nat) : Int) := by rw [IntKind.wrap_i64]; omega
      have R := fun w => run_mark (1 + k) (by omega) w
      have E := fun t w => run_cne (mk_self (1 + k) (by omega)) (show FloatKind.f32.format.order oneS oneS = some .eq by decide +kernel) t w
      generalize mkW (1 + k) = mw at *
      obtain ⟨m0, hm0⟩ : ∃ m : Int, ((1 + k : Nat) : Int) = m := ⟨_, rfl⟩
      obtain ⟨m1, hm1⟩ : ∃ m : Int, ((1 + (k + 1) : Nat) : Int) = m := ⟨_, rfl⟩
      rw [hm0] at q1 R ⊢
      rw [hm1] at q1
      have HM1 := Lib.hid hm1
      clear hm0 hm1
      go_wp2_with (first | rw [R] | rw [E])
      go_round
      case rel => exact ⟨k + 1, by omega, by go_num, by rw [HM1.out]⟩
      case measure => simp [intOf]; omega
    · obtain rfl : k = n := by omega
      go_wp2_with fail
      go_ret
      exact ⟨ret_int (by omega), rfl⟩
theorem heldZ_nil (w : World) : Calls Try.prog 56 #[.slice none 0 0, .int .i64 1] w fun e w' => e = .returned (.int .i64 1) ∧ w = w' := by
  go_enter Try.func56, Try.ntmps56
  go_wp2_with fail
  refine wp_loop_rounds 1 ?_
  rw [rounds_succ]
  go_wp2_with fail
  go_ret
  exact ⟨rfl, rfl⟩
theorem heldZ_any {w : World} {B n : Nat} {v : Value} (h : w.ownsRow B 35 1 v n (mkZL n)) (hm : n ≤ 100) :
    Calls Try.prog 56 #[v, .int .i64 1] w fun e w' => e = .returned (.int .i64 (1 + (n : Int))) ∧ w = w' := by
  have h2 := h.2
  rcases h2 with ⟨rfl, rfl⟩ | ⟨g, cap, cur, rfl, _⟩
  · exact heldZ_nil w
  · exact heldZ_own B g n cap w h hm
theorem markZ_number (n : Nat) : ∃ M : Int, Aside ((1 + (n : Int)) = M) ∧ ¬ M < 0 ∧ (M != M) = false := ⟨_, (show _ = _ from rfl), by omega, by simp⟩
end Go.Proofs.Ytnidiikcnplebaa
