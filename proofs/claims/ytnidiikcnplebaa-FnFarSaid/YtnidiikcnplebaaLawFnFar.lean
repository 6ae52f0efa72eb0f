/-
  The walk of the law FnFar.
-/
import Derived.Test.YtnidiikcnplebaaM30
import Derived.Test.YtnidiikcnplebaaM27
namespace Go.Proofs.Ytnidiikcnplebaa
set_option maxRecDepth 20000
open Go.ChangeShapes Go.WideShapes Go.ChangeAt Go.RowKit
set_option linter.unusedVariables false
set_option linter.unusedSimpArgs false

theorem read_full {f : Ieee.Format} {p lo M : Nat} (H : Fmt f p lo M) {x m b : Nat} {s : Bool} (h : f.read x = .number s m ((b : Int) - (lo : Int))) : b = 0 ∨ 2 ^ p ≤ m := by
  obtain ⟨-, hl, hb, hi, -, hM, -⟩ := H
  have hp : 0 < 2 ^ p := Nat.two_pow_pos p
  unfold Ieee.Format.read at h
  rw [hb, hi, hl] at h
  simp only at h
  split at h
  · injection h with _ e2 e3
    exact .inl (by omega)
  · split at h
    · injection h with _ e2 e3
      exact .inr (by omega)
    · split at h <;> cases h
theorem read_part {x y m b n c : Nat} {s t : Bool} (r : Ieee.single.read x = .number s m ((b : Int) - (loS : Int))) (r' : Ieee.single.read y = .number t n ((c : Int) - (loS : Int))) (e : m * 2 ^ b = n * 2 ^ c) : b ≤ c → m = n ∧ b = c := by
  intro h
  rcases Nat.lt_or_eq_of_le h with h | h
  · exfalso
    obtain ⟨b1, e1, hm, -⟩ := read_shape fmtS r
    rcases read_full fmtS r' with h0 | h0
    · omega
    · have e2 : n * 2 ^ c = n * 2 ^ (c - b) * 2 ^ b := by rw [Nat.mul_assoc, ← Nat.pow_add]; congr 2; omega
      rw [e2] at e
      have e3 := Nat.eq_of_mul_eq_mul_right (Nat.two_pow_pos b) e
      have e4 : 2 ^ 1 ≤ 2 ^ (c - b) := Nat.pow_le_pow_right (by decide) (by omega)
      have e5 : n * 2 ^ 1 ≤ n * 2 ^ (c - b) := Nat.mul_le_mul_left _ e4
      have e6 : (2 : Nat) ^ (23 + 1) = 2 ^ 23 * 2 := rfl
      omega
  · subst h
    exact ⟨Nat.eq_of_mul_eq_mul_right (Nat.two_pow_pos b) e, rfl⟩
theorem same_read {x y V : Nat} {s : Bool} (hx : FS x s V) (hy : FS y s V) : Ieee.single.read x = Ieee.single.read y := by
  obtain ⟨m, b, r, e⟩ := hx
  obtain ⟨n, c, r', e'⟩ := hy
  have e2 : m * 2 ^ b = n * 2 ^ c := e.trans e'.symm
  rcases Nat.le_total b c with h | h
  · obtain ⟨rfl, rfl⟩ := read_part r r' e2 h
    rw [r, r']
  · obtain ⟨rfl, rfl⟩ := read_part r' r e2.symm h
    rw [r, r']
theorem same_wide {x y V : Nat} {s : Bool} (hx : FS x s V) (hy : FS y s V) : floatToFloatBits .f32 x .f64 = floatToFloatBits .f32 y .f64 := by
  have h := same_read hx hy
  unfold floatToFloatBits
  have e : FloatKind.f32.decode x = FloatKind.f32.decode y := h
  rw [e]
  rfl
theorem far_comm (a b : Pn) : farN a b = farN b a := by
  unfold farN
  rw [show ivS a.1 - ivS b.1 = -(ivS b.1 - ivS a.1) by omega, show ivS a.2 - ivS b.2 = -(ivS b.2 - ivS a.2) by omega, rnd_neg, rnd_neg, Int.natAbs_neg, Int.natAbs_neg]
theorem farL_comm (xs ys : List Pn) : farL xs ys = farL ys xs := by
  have key : ∀ (xs ys : List Pn) (m : Nat), (xs.zip ys).foldl farM m = (ys.zip xs).foldl farM m := by
    intro xs
    induction xs with
    | nil => intro ys m; simp
    | cons a xs ih =>
      intro ys m
      cases ys with
      | nil => simp
      | cons b ys =>
        simp only [List.zip_cons_cons, List.foldl_cons]
        rw [show farM m (a, b) = farM m (b, a) by unfold farM; simp only; rw [far_comm]]
        exact ih ys _
  exact key xs ys 0
theorem farB_comm (xs ys : List Pn) : farB xs ys = farB ys xs := by
  unfold farB
  rw [Bool.and_comm (pvB xs), show (xs.length == ys.length) = (ys.length == xs.length) from BEq.comm]
theorem rndN_none {n : Nat} (h : rndN 23 n = 0) : n = 0 := by
  rcases Nat.eq_zero_or_pos n with h0 | h0
  · exact h0
  · exfalso
    by_cases hl : 23 ≤ n.log2
    · have h2 := (cut_full hl h0).1
      unfold rndN at h
      have h3 : 0 < cutN n (n.log2 - 23) * 2 ^ (n.log2 - 23) := Nat.mul_pos (by have := Nat.two_pow_pos 23; omega) (Nat.two_pow_pos _)
      omega
    · have h2 := small_of_log (p := 23) (by omega : n.log2 < 23)
      have h3 := rndN_exact (p := 23) (n := n) (by have : (2 : Nat) ^ (23 + 1) = 2 ^ 23 * 2 := rfl; omega) 0
      rw [Nat.pow_zero, Nat.mul_one] at h3
      omega
theorem rnd_none {v : Int} (h : (rnd 23 v).natAbs = 0) : v = 0 := by
  rw [rnd_abs] at h
  have := rndN_none h
  omega
/-- Two points are one. -/
def eqP (z : Pn × Pn) : Bool := decide (ivS z.1.1 = ivS z.2.1 ∧ ivS z.1.2 = ivS z.2.2)
theorem farN_none (a b : Pn) : (farN a b == 0) = eqP (a, b) := by
  unfold eqP farN
  by_cases h : ivS a.1 = ivS b.1 ∧ ivS a.2 = ivS b.2
  · have e1 : ivS a.1 - ivS b.1 = 0 := by omega
    have e2 : ivS a.2 - ivS b.2 = 0 := by omega
    rw [e1, e2, rnd_zero, decide_eq_true h]; rfl
  · rw [decide_eq_false h, beq_eq_false_iff_ne]
    intro e
    refine h ⟨?_, ?_⟩
    · have := rnd_none (v := ivS a.1 - ivS b.1) (by omega); omega
    · have := rnd_none (v := ivS a.2 - ivS b.2) (by omega); omega
theorem farL_none (xs ys : List Pn) : (farL xs ys == 0) = (xs.zip ys).all eqP := by
  have key : ∀ (l : List (Pn × Pn)) (m : Nat), (l.foldl farM m == 0) = ((m == 0) && l.all eqP) := by
    intro l
    induction l with
    | nil => intro m; simp
    | cons z l ih =>
      intro m
      obtain ⟨a, b⟩ := z
      rw [List.foldl_cons, ih, List.all_cons, ← farN_none]
      unfold farM
      simp only
      rw [← Bool.and_assoc]
      congr 1
      rw [Bool.eq_iff_iff, Bool.and_eq_true, beq_iff_eq, beq_iff_eq, beq_iff_eq]
      omega
  exact key _ 0
theorem run_ceq32 {p q x y : Nat} {o1 o2 : Ordering} (h1 : FloatKind.f32.format.order p x = some o1) (h2 : FloatKind.f32.format.order q y = some o2) (t : TypeId) (w : World) :
    (binOp .eql t (.complex .f32 p q) (.complex .f32 x y)).run Try.prog w = .ok (.bool (o1 == .eq && o2 == .eq)) w := by
  cases o1 <;> cases o2 <;> simp [binOp, Op.complexOp, Op.Complex.cmp, Op.floatCmp, h1, h2, go_sem, asBool]
theorem ceq_points {a b : Pn} (ha : ptF a = true) (hb : ptF b = true) (t : TypeId) (w : World) : (binOp .eql t (cs a.1 a.2) (cs b.1 b.2)).run Try.prog w = .ok (.bool (eqP (a, b))) w := by
  have fa := ptF_parts ha
  have fb := ptF_parts hb
  have h := run_ceq32 (fs_order (fin_fs fa.1) (fin_fs fb.1)) (fs_order (fin_fs fa.2) (fin_fs fb.2)) t w
  refine h.trans ?_
  congr 2
  have i1 : ∀ x, sgnd (sgS x) (szS x) = ivS x := fun x => rfl
  rw [i1, i1, i1, i1]
  unfold eqP
  rw [Bool.eq_iff_iff, Bool.and_eq_true, decide_eq_true_iff, beq_iff_eq, beq_iff_eq, Int.compare_eq_eq, Int.compare_eq_eq]
theorem cmp_zero (V : Nat) : (some (compare (sgnd false V) (sgnd false 0)) == some Ordering.eq) = (V == 0) ∧ (some (compare (sgnd false V) (sgnd false 0)) == some Ordering.gt || some (compare (sgnd false V) (sgnd false 0)) == some Ordering.eq) = true := by
  simp only [sgnd, Bool.false_eq_true, if_false]
  by_cases h : V = 0
  · subst h; exact ⟨by decide, by decide⟩
  · have e : compare (V : Int) ((0 : Nat) : Int) = Ordering.gt := Int.compare_eq_gt.2 (by omega)
    rw [e]
    exact ⟨by simp [h], by decide⟩
set_option maxHeartbeats 4000000 in
theorem lawFnFar_walk (v : Value) (w : World) (h : CodeAt w v) : Calls Try.prog 11 #[v] w (Fine w) := by
  have D := Lib.hid (drawPathFar v w h)
  obtain ⟨pa, pn, pc, rfl, hpn⟩ := code_length h
  clear h
  by_cases hbig : 1048576 < pn
  · have hb : (1048576 : Int) < (pn : Int) := by omega
    go_enter Try.func11, Try.ntmps11
    go_wp2_with fail
    go_ret
    exact fine_same ⟨rfl, rfl⟩
  have hb : ¬ (1048576 : Int) < (pn : Int) := by omega
  go_enter Try.func11, Try.ntmps11
  go_wp2_with fail
  refine D.out.mono ?_; rintro e w1 ⟨v2, v3, xs, ys, rfl, hR, hS, hL⟩
  clear D
  have T1 := fun w h h2 => PathFar_any v2 v3 xs ys w h h2
  have T2 := fun w h h2 => specPathFar_any v2 v3 xs ys w h h2
  have T3 := fun w h h2 => PathFar_any v3 v2 ys xs w h h2
  have HR := Lib.hid hR
  have HS := Lib.hid hS
  clear hR hS
  have ec : farB ys xs = farB xs ys := farB_comm _ _
  have ed : farR ys xs = farR xs ys := by unfold farR; rw [ec, farL_comm]
  have hyes : farB xs ys = true → (farR xs ys == 0) = (xs.zip ys).all eqP ∧ xs.length = ys.length ∧ xs.length ≤ 100 ∧ (∀ a ∈ xs, ptF a = true) ∧ ∀ a ∈ ys, ptF a = true := fun hx => by
    rw [farR_yes hx, farL_none]
    unfold farB at hx
    rw [Bool.and_eq_true, Bool.and_eq_true, beq_iff_eq] at hx
    obtain ⟨⟨h1, h2⟩, h3⟩ := hx
    have p1 := pvB_parts h1
    have p2 := pvB_parts h2
    exact ⟨rfl, h3, p1.2.1, fun a ha => ptR_fin (p1.2.2 a ha), fun a ha => ptR_fin (p2.2.2 a ha)⟩
  unfold ToldF at T1 T2 T3
  simp only [ec, ed] at T3
  generalize farR xs ys = V at *
  go_wp2_with fail
  refine (T1 _ HR.out HS.out).mono ?_; rintro e w2 ⟨r1, rfl, f1, hb⟩
  have HR := Lib.hid (HR.out.below hb)
  have HS := Lib.hid (HS.out.below hb)
  replace hL := below_next hL hb
  clear hb T1
  go_wp2_with fail
  refine (T2 _ HR.out HS.out).mono ?_; rintro e w3 ⟨r2, rfl, f2, hb⟩
  have HR := Lib.hid (HR.out.below hb)
  have HS := Lib.hid (HS.out.below hb)
  replace hL := below_next hL hb
  clear hb T2
  obtain ⟨z, hz, nz⟩ : ∃ z, floatToFloatBits .f32 r1 .f64 = some z ∧ NN z := ⟨_, (wd_fin (fs_fin f1).1).1, (wd_fin (fs_fin f1).1).2⟩
  have hz2 : floatToFloatBits .f32 r2 .f64 = some z := (same_wide f2 f1).trans hz
  have ZA := fun w => swap_eq (zeroAlike_same z nz w)
  have R1 := fun w => run_convert_float_float (P := Try.prog) w 26 48 .f32 .f64 r1 z (by kernel_rfl) (by kernel_rfl) hz
  have R2 := fun w => run_convert_float_float (P := Try.prog) w 26 48 .f32 .f64 r2 z (by kernel_rfl) (by kernel_rfl) hz2
  clear hz hz2 nz
  cases hx : farB xs ys with
  | false =>
    clear hyes T3
    go_wp2_with (first | rw [R1] | rw [R2])
    refine (ZA _).mono ?_; rintro e w4 ⟨rfl, rfl⟩
    go_wp2_with (first | rw [R1] | rw [R2])
    refine (ZA _).mono ?_; rintro e w5 ⟨rfl, rfl⟩
    go_wp2
    go_ret
    exact ⟨rfl, hL⟩
  | true =>
    obtain ⟨hv, hlen, hl100, hfx, hfy⟩ := hyes hx
    simp only [hx] at T3
    clear hyes
    have HFX := Lib.hid hfx
    have HFY := Lib.hid hfy
    have HV := Lib.hid hv
    have F1 := Lib.hid f1
    have HLEN := Lib.hid hlen
    clear hfx hfy hv f2 f1 hx ec ed hlen
    go_wp2_with (first | rw [R1] | rw [R2])
    refine (ZA _).mono ?_; rintro e w4 ⟨rfl, rfl⟩
    clear ZA R1 R2
    go_wp2_with fail
    refine (T3 _ HS.out HR.out).mono ?_; rintro e w5 ⟨r3, rfl, f3, hb⟩
    have HR := Lib.hid (HR.out.below hb)
    have HS := Lib.hid (HS.out.below hb)
    replace hL := below_next hL hb
    have HL := Lib.hid hL
    have F3 := Lib.hid f3
    clear hb T3 f3 hL
    obtain ⟨p, cap, rfl, hc1, hc2, hp0, hp⟩ := HR.out
    obtain ⟨q, cap2, rfl, hd1, hd2, hq0, hq⟩ := HS.out
    simp only [maxLen] at hc2 hd2
    rw [← HLEN.out] at hd1 ⊢
    have HP := Lib.hid hp
    have HQ := Lib.hid hq
    have HQ0 := Lib.hid (fun (e : q = none) => (show xs.length ≤ 0 by have := hq0 e; omega))
    clear hp hq hq0
    go_wp2_with fail
    go_loopw [11, 12] (fun s i wr => ∃ k m : Nat, k ≤ xs.length ∧ i = .int .i64 k ∧ s = .bool (((xs.zip ys).take k).all eqP) ∧ wr = w5.drewN m) (fun _ i _ => xs.length - (intOf i).toNat)
    case atStart => exact ⟨0, 0, Nat.zero_le _, rfl, rfl, rfl⟩
    case round =>
      obtain ⟨k, m, hk, rfl, rfl, rfl⟩ := hrel
      by_cases hlt : k < xs.length
      · have hkz : (k : Int) < (xs.length : Int) := by omega
        have hk0 : (0 : Int) ≤ (k : Int) := by omega
        obtain ⟨c, hc⟩ : ∃ c, xs[k]? = some c := ⟨_, List.getElem?_eq_getElem hlt⟩
        obtain ⟨d, hd⟩ : ∃ d, ys[k]? = some d := ⟨_, List.getElem?_eq_getElem (by have := HLEN.out; omega)⟩
        obtain ⟨g, o, rfl, hg, hr⟩ := HP.out (by rintro rfl; have := hp0 rfl; omega)
        obtain ⟨g2, o2, rfl, hg2, hr2⟩ := HQ.out (by rintro rfl; have := HQ0.out rfl; omega)
        have c1 := pt_cell hr hc
        have c2 := pt_cell hr2 hd
        have E := fun t w => ceq_points (HFX.out c (List.mem_of_getElem? hc)) (HFY.out d (List.mem_of_getElem? hd)) t w
        have HN : Aside ((((xs.zip ys).take (k + 1)).all eqP) = ((((xs.zip ys).take k).all eqP) && eqP (c, d))) := (show _ = _ from by rw [take_nextL (zip_at hc hd), List.all_append]; simp)
        clear hr hr2 hg hg2 hc hd
        generalize ((xs.zip ys).take k).all eqP = s at *
        generalize eqP (c, d) = t at *
        obtain ⟨x, y⟩ := c
        obtain ⟨x2, y2⟩ := d
        simp only at c1 c2 E
        unfold cs at c1 c2 E
        cases s with
        | true =>
          go_wp2_with fail
          go_quiet (first | rw [E])
          clear c1 c2 E
          go_wp2_with fail
          go_roundw
          case rel => exact ⟨k + 1, _, by omega, by go_num, by rw [HN.out]; rfl, rfl⟩
          case measure => simp [intOf]; omega
        | false =>
          go_wp2_with fail
          go_quiet (first | rw [E])
          clear c1 c2 E
          go_wp2_with fail
          go_roundw
          case rel => exact ⟨k + 1, _, by omega, by go_num, by rw [HN.out]; rfl, rfl⟩
          case measure => simp [intOf]; omega
      · obtain rfl : k = xs.length := by omega
        have hz : (xs.zip ys).take xs.length = xs.zip ys := List.take_of_length_le (by rw [zip_len HLEN.out]; exact Nat.le_refl _)
        rw [hz, ← HV.out]
        have O1 := fs_order F3.out F1.out
        rw [show compare (sgnd false V) (sgnd false V) = Ordering.eq from Int.compare_eq_eq.2 rfl] at O1
        have O2 := fs_order F1.out fs_zero
        obtain ⟨e1, e2⟩ := cmp_zero V
        have e1' : (FloatKind.f32.format.order r1 0 == some Ordering.eq) = (V == 0) := by rw [O2]; exact e1
        have e2' : (FloatKind.f32.format.order r1 0 == some Ordering.gt || FloatKind.f32.format.order r1 0 == some Ordering.eq) = true := by rw [O2]; exact e2
        clear O2 e1 e2 hz HV
        generalize (V == 0) = bz at *
        have HLD := Lib.hid (below_drewN HL.out m)
        have e3 : FloatKind.f32.format.order r1 0 = some Ordering.gt ∨ bz = true := by
          rw [e1'] at e2'
          rw [Bool.or_eq_true, beq_iff_eq] at e2'
          exact e2'
        have E2 := Lib.hid e2'
        have E1 := Lib.hid e1'
        have E3 := Lib.hid e3
        clear e2' e3
        go_wp2_with fail
        all_goals
          first
          | (go_ret; first | exact ⟨rfl, HLD.out⟩ | exact ⟨ret_bool (by rw [← E1.out]; exact E2.out), HLD.out⟩)
          | (exfalso; have := E3.out; contradiction)
end Go.Proofs.Ytnidiikcnplebaa
