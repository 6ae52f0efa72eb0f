/-
  The walks of the laws FnWideRoot and FnSingleRoot.
-/
import Derived.Test.YtmbhbocfnpklpaaWideX
import Derived.Test.YtmbhbocfnpklpaaDrawWide
import Derived.Test.YtmbhbocfnpklpaaLawCycBase
namespace Go.Proofs.Ytmbhbocfnpklpaa
set_option maxRecDepth 20000
open Go.ChangeShapes Go.WideShapes Go.ChangeAt Go.RowKit
set_option linter.unusedVariables false
set_option linter.unusedSimpArgs false

/-- The point of a wide root is the root. -/
def rootSame (k : Nat) : Bool := okc (trn one k) && FloatKind.f64.format.order (wpr (trn one k) 8) (wDr k) == some .eq && FloatKind.f64.format.order (wpi (trn one k) 8) (wDi k) == some .eq
theorem rootSame_all : ∀ k, k < 8 → rootSame k = true := by decide +kernel
/-- The squares of a root's parts, their sum, and how far it is from one. -/
def sq1 (k : Nat) : Nat := (floatBits .mul .f64 (wDr k) (wDr k)).getD 0
def sq2 (k : Nat) : Nat := (floatBits .mul .f64 (wDi k) (wDi k)).getD 0
def sq3 (k : Nat) : Nat := (floatBits .add .f64 (sq1 k) (sq2 k)).getD 0
def sq4 (k : Nat) : Nat := (floatBits .sub .f64 (sq3 k) 4607182418800017408).getD 0
def sq5 (k : Nat) : Nat := (floatBits .sub .f64 4607182418800017408 (sq3 k)).getD 0
theorem sq_all : ∀ k, k < 8 → (floatBits .mul .f64 (wDr k) (wDr k) = some (sq1 k) ∧ floatBits .mul .f64 (wDi k) (wDi k) = some (sq2 k) ∧ floatBits .add .f64 (sq1 k) (sq2 k) = some (sq3 k)) ∧
    (floatBits .sub .f64 (sq3 k) 4607182418800017408 = some (sq4 k) ∧ floatBits .sub .f64 4607182418800017408 (sq3 k) = some (sq5 k)) ∧
    (FloatKind.f64.format.order (sq4 k) 4382569440205035030 = some .lt ∧ FloatKind.f64.format.order (sq5 k) 4382569440205035030 = some .lt) := by decide +kernel

set_option maxHeartbeats 4000000 in
theorem lawFnWideRoot_walk (v : Value) (w : World) (h : CodeAt w v) : Calls Try.prog 3 #[v] w (Fine w) := by
  have D := Lib.hid (drawWideRoot v w h)
  obtain ⟨pa, pn, pc, rfl, hpn⟩ := code_length h
  clear h
  by_cases hbig : 1048576 < pn
  · have hb : (1048576 : Int) < (pn : Int) := by omega
    go_enter Try.func3, Try.ntmps3
    go_wp2_with fail
    go_ret
    exact fine_same ⟨rfl, rfl⟩
  have hb : ¬ (1048576 : Int) < (pn : Int) := by omega
  go_enter Try.func3, Try.ntmps3
  go_wp2_with fail
  refine D.out.mono ?_; rintro e w1 ⟨t, rfl, t0, t1, hL⟩
  clear D hb hbig
  by_cases ht : 0 ≤ t ∧ t ≤ 7
  · obtain ⟨k, rfl⟩ : ∃ k : Nat, t = k := ⟨t.toNat, by omega⟩
    have hk : k < 8 := by omega
    clear t0 t1 ht
    have SP := fun w => specWideRoot_yes k hk w
    have IM := fun w => WideRoot_yes k hk w
    have Q := fun w => wideAlike_same _ _ (nn_const k hk).1 (nn_const k hk).2 w
    have CR := fun w => CycRoot_yes k (by omega) w
    have rs := rootSame_all k hk
    unfold rootSame at rs
    rw [Bool.and_eq_true, Bool.and_eq_true] at rs
    obtain ⟨⟨vc, o1⟩, o2⟩ := rs
    have o1 := eq_of_beq o1
    have o2 := eq_of_beq o2
    rw [ans_yes vc] at CR
    have WP := fun w => WidePoint_yes (trn one k) vc w
    obtain ⟨⟨m1, m2, m3⟩, ⟨m4, m5⟩, m6, m7⟩ := sq_all k hk
    have R1 : ∀ t w, (binOp .mul t (.float .f64 (wDr k)) (.float .f64 (wDr k))).run Try.prog w = .ok (.float .f64 (sq1 k)) w := fun t w => run_float_arith w .mul t .f64 _ _ _ m1
    have R2 : ∀ t w, (binOp .mul t (.float .f64 (wDi k)) (.float .f64 (wDi k))).run Try.prog w = .ok (.float .f64 (sq2 k)) w := fun t w => run_float_arith w .mul t .f64 _ _ _ m2
    have R3 : ∀ t w, (binOp .add t (.float .f64 (sq1 k)) (.float .f64 (sq2 k))).run Try.prog w = .ok (.float .f64 (sq3 k)) w := fun t w => run_float_arith w .add t .f64 _ _ _ m3
    have WI := fun w => within_yes m4 m5 m6 m7 w
    have CE : ∀ t w, (binOp .eql t (.complex .f64 (wpr (trn one k) 8) (wpi (trn one k) 8)) (.complex .f64 (wDr k) (wDi k))).run Try.prog w = .ok (.bool true) w := fun t w => run_ceq o1 o2 t w
    clear m1 m2 m3 m4 m5 m6 m7 o1 o2 vc
    generalize wpr (trn one k) 8 = pr at *
    generalize wpi (trn one k) 8 = pi at *
    generalize wDr k = x at *
    generalize wDi k = y at *
    generalize sq1 k = q1 at *
    generalize sq2 k = q2 at *
    generalize sq3 k = q3 at *
    have sc := vec_size 8 (trn one k)
    unfold pt cw at *
    generalize trn one k = c at *
    go_wp2_with (first | (go_at_call 16; refine (IM _).mono ?_; rintro e w2 ⟨rfl, rfl⟩) | (go_at_call 17; refine (SP _).mono ?_; rintro e w2 ⟨rfl, rfl⟩) | (go_at_call 18; refine (Q _).mono ?_; rintro e w2 ⟨rfl, rfl⟩))
    refine (CR _).mono ?_; rintro e w2 ⟨rfl, hb2⟩
    replace hL := below_next hL hb2
    clear hb2 CR
    go_upto_region 9 with (refine store_row rfl rfl rfl rfl (RowAt.newAt zero8 rfl) info_cyc ?_)
    show Code.wp _ _ _ _ (sole w2 c 30)
    have hA := sole_first w2 c 30
    replace hL := sole_below hL c 30
    generalize sole w2 c 30 = W at *
    go_wp2_with (refine load_row rfl rfl rfl hA Try.underlying30 rfl info_cyc ?_)
    refine (WP _).mono ?_; rintro e w3 ⟨rfl, hb2⟩
    replace hL := below_next hL hb2
    clear hb2 WP hA
    go_wp2_with (first | rw [R1] | rw [R2] | rw [R3] | rw [CE] | (go_at_call 21; refine (WI _).mono ?_; rintro e w2 ⟨rfl, rfl⟩))
    go_ret
    exact ⟨rfl, hL⟩
  · have SP := fun w => specWideRoot_no t (by omega) w
    have IM := fun w => WideRoot_no t (by omega) w
    have Q := fun w => wideAlike_same 0 0 nn_zero nn_zero w
    clear t0 t1 ht
    unfold cw at *
    go_wp2_with (first | (go_at_call 16; refine (IM _).mono ?_; rintro e w2 ⟨rfl, rfl⟩) | (go_at_call 17; refine (SP _).mono ?_; rintro e w2 ⟨rfl, rfl⟩) | (go_at_call 18; refine (Q _).mono ?_; rintro e w2 ⟨rfl, rfl⟩))
    go_ret
    exact ⟨rfl, hL⟩

set_option maxHeartbeats 4000000 in
theorem lawFnSingleRoot_walk (v : Value) (w : World) (h : CodeAt w v) : Calls Try.prog 4 #[v] w (Fine w) := by
  have D := Lib.hid (drawSingleRoot v w h)
  obtain ⟨pa, pn, pc, rfl, hpn⟩ := code_length h
  clear h
  by_cases hbig : 1048576 < pn
  · have hb : (1048576 : Int) < (pn : Int) := by omega
    go_enter Try.func4, Try.ntmps4
    go_wp2_with fail
    go_ret
    exact fine_same ⟨rfl, rfl⟩
  have hb : ¬ (1048576 : Int) < (pn : Int) := by omega
  go_enter Try.func4, Try.ntmps4
  go_wp2_with fail
  refine D.out.mono ?_; rintro e w1 ⟨t, rfl, t0, t1, hL⟩
  clear D hb hbig
  by_cases ht : 0 ≤ t ∧ t ≤ 7
  · obtain ⟨k, rfl⟩ : ∃ k : Nat, t = k := ⟨t.toNat, by omega⟩
    have hk : k < 8 := by omega
    clear t0 t1 ht
    have SP := fun w => specSingleRoot_yes k hk w
    have IM := fun w => SingleRoot_yes k hk w
    have WR := fun w => WideRoot_yes k hk w
    have RN := fun w => narrow_root k hk w
    have s1 := sizeSr k
    have s2 := sizeSi k
    obtain ⟨p, q, hp, hq, vp, vq⟩ := single_wider (rootSr k hk) (rootSi k hk) (by omega) (by omega)
    have Q := fun w => singleAlike_same hp hq (nn_val vp) (nn_val vq) w
    clear hp hq vp vq s1 s2 hk
    generalize wDr k = x at *
    generalize wDi k = y at *
    generalize wSr k = x' at *
    generalize wSi k = y' at *
    unfold cs cw at *
    go_wp2_with (first | rw [RN] | (go_at_call 23; refine (IM _).mono ?_; rintro e w2 ⟨rfl, rfl⟩) | (go_at_call 24; refine (SP _).mono ?_; rintro e w2 ⟨rfl, rfl⟩) | (go_at_call 25; refine (Q _).mono ?_; rintro e w2 ⟨rfl, rfl⟩) | (go_at_call 16; refine (WR _).mono ?_; rintro e w2 ⟨rfl, rfl⟩))
    go_ret
    exact ⟨rfl, hL⟩
  · have SP := fun w => specSingleRoot_no t (by omega) w
    have IM := fun w => SingleRoot_no t (by omega) w
    have Q := fun w => singleAlike_same (a := 0) (b := 0) (x := 0) (y := 0) (by decide +kernel) (by decide +kernel) nn_zero nn_zero w
    clear t0 t1 ht
    unfold cs at *
    go_wp2_with (first | (go_at_call 23; refine (IM _).mono ?_; rintro e w2 ⟨rfl, rfl⟩) | (go_at_call 24; refine (SP _).mono ?_; rintro e w2 ⟨rfl, rfl⟩) | (go_at_call 25; refine (Q _).mono ?_; rintro e w2 ⟨rfl, rfl⟩))
    go_ret
    exact ⟨rfl, hL⟩
end Go.Proofs.Ytmbhbocfnpklpaa
