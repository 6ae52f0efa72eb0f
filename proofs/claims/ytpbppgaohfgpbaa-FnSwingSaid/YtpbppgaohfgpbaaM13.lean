/-
  Swings: the mathematics. The opposite and the half of a float of either width, over the whole range; steps of a swing.
  impl's swings: which are valid; a quarter, a half, a step, steps, in both widths.
  Lists of numbers in memory.
-/
import Derived.Test.YtpbppgaohfgpbaaM12
import Derived.Test.YtpbppgaohfgpbaaM04
import Derived.Test.YtpbppgaohfgpbaaM09
/- Swings: the mathematics. The opposite and the half of a float of either width, over the whole range; steps of a swing. -/
namespace Go.Proofs.Ytpbppgaohfgpbaa
set_option maxRecDepth 20000
set_option linter.unusedVariables false
set_option linter.unusedSimpArgs false
open Ieee

theorem cut_one (V : Nat) : 2 * cutN V 1 ≤ V + 1 ∧ V ≤ 2 * cutN V 1 + 1 := by
  have := cutN_err V 1
  omega
theorem cut_evenS (V : Nat) : cutN (V * 2) 1 = V := by
  have := cutN_scale0 V 1
  rwa [Nat.pow_one] at this
theorem cut_nil : cutN 0 1 = 0 := by have := cut_evenS 0; rwa [Nat.zero_mul] at this
/-- A half, rounded once. -/
theorem half_fv {f : Format} {p lo M : Nat} (H : Fmt f p lo M) {x y V : Nat} {s : Bool} (hx : Fv f lo x s V) (hy : f.read y = .number false (2 ^ p) (1 - (p : Int))) :
    ∃ z, f.div x y = some z ∧ Fv f lo z s (cutN V 1) := by
  have H0 := H
  have hlt := fv_lt H hx
  obtain ⟨m, b', rx, rfl⟩ := hx
  obtain ⟨b, e, hm, hb⟩ := read_shape H rx
  obtain rfl : b' = b := by omega
  obtain ⟨hf, hl, hbn, hi, hs, hM, hp0⟩ := H
  have hpp : 0 < 2 ^ p := Nat.two_pow_pos p
  have hml : m.log2 ≤ p := by have := log_of_lt hm (by omega); omega
  obtain ⟨k, hk⟩ : ∃ k, k = p + 2 - m.log2 := ⟨_, rfl⟩
  have hq : f.div x y = some (f.nearest s (m * 2 ^ (k + 1)) ((b' : Int) - (lo : Int) - 1 - ((k : Int) + 1))) := by
    unfold Format.div
    rw [rx, hy]
    simp only [Datum.quotient]
    rw [if_neg (by omega), hf, Nat.log2_two_pow, show p + 2 + p - m.log2 = k + p by omega, Nat.shiftLeft_eq, Nat.pow_add, ← Nat.mul_assoc, Nat.mul_div_cancel _ hpp, Nat.mul_mod_left]
    simp only [Option.map_some, Option.some.injEq, Format.write, bne_self_eq_false, Bool.toNat_false, Nat.add_zero, Bool.xor_false]
    rw [show 2 * (m * 2 ^ k) = m * 2 ^ (k + 1) by rw [Nat.pow_succ, Nat.mul_comm (2 ^ k) 2, Nat.mul_left_comm]]
    congr 1
    omega
  refine ⟨_, hq, ?_⟩
  rcases Nat.eq_zero_or_pos b' with h0 | hb0
  · subst h0
    rw [Nat.pow_zero, Nat.mul_one] at hlt ⊢
    rcases Nat.eq_zero_or_pos m with rfl | hm0
    · unfold Format.nearest
      rw [if_pos (by rw [Nat.zero_mul]), cut_nil]
      refine ⟨0, 0, ?_, by rw [Nat.zero_mul]⟩
      rw [read_smallF H0 s 0 hpp]; simp
    · have hc := cut_one m
      have hmag : (m * 2 ^ (k + 1)).log2 = m.log2 + (k + 1) := log2_up hm0 _
      have hmz : 0 < m * 2 ^ (k + 1) := Nat.mul_pos hm0 (Nat.two_pow_pos _)
      have hn : f.nearest s (m * 2 ^ (k + 1)) (((0 : Nat) : Int) - (lo : Int) - 1 - ((k : Int) + 1)) = f.word s (min (cutN m 1) (M * 2 ^ p)) := by
        unfold Format.nearest
        rw [if_neg (by omega)]
        simp only [hbn, hi, hf, hl, hmag]
        have hlast : max (((0 : Nat) : Int) - (lo : Int) - 1 - ((k : Int) + 1) + ((m.log2 + (k + 1) : Nat) : Int) - (p : Int)) (-(lo : Int)) = -(lo : Int) := by omega
        rw [hlast]
        rw [show (((0 : Nat) : Int) - (lo : Int) - 1 - ((k : Int) + 1) - -(lo : Int)).toNat = 0 by omega, show (-(lo : Int) - (((0 : Nat) : Int) - (lo : Int) - 1 - ((k : Int) + 1))).toNat = 1 + (k + 1) by omega, show (-(lo : Int) - -(lo : Int)).toNat = 0 by omega, Nat.shiftLeft_zero, Nat.zero_mul, Nat.zero_add, cut_cutN _ _ _ (by rw [hmag]; omega), cutN_scale]
      rw [hn]
      rw [Nat.pow_succ] at hm
      have hM1 : 3 * 2 ^ p ≤ M * 2 ^ p := Nat.mul_le_mul_right _ hM
      rw [Nat.min_eq_left (by omega)]
      generalize cutN m 1 = c at *
      by_cases hcp : c < 2 ^ p
      · refine ⟨c, 0, ?_, by rw [Nat.pow_zero, Nat.mul_one]⟩
        rw [read_smallF H0 s c hcp]; simp
      · have hc2 : c = 2 ^ p := by omega
        subst hc2
        refine ⟨2 ^ p, 0, ?_, by rw [Nat.pow_zero, Nat.mul_one]⟩
        rw [read_wordF H0 s (2 ^ p) (Nat.le_refl _) (by omega), Nat.mod_self, Nat.div_self hpp]
        simp
  · obtain ⟨c, rfl⟩ : ∃ c, b' = c + 1 := ⟨b' - 1, by omega⟩
    have e2 : m * 2 ^ (c + 1) = m * 2 ^ c * 2 := by rw [Nat.pow_succ, Nat.mul_assoc]
    rw [e2] at hlt ⊢
    rw [cut_evenS]
    have hr := rndN_exact hm c
    have := near_fv H0 s (m * 2 ^ (k + 1)) c (k + 1) (m * 2 ^ c) ((((c + 1 : Nat)) : Int) - (lo : Int) - 1 - ((k : Int) + 1)) (by omega) (by rw [Nat.mul_assoc, Nat.mul_assoc, Nat.mul_comm (2 ^ (k + 1))]) (fits_exact hM hr (by omega))
    rw [hr] at this
    exact this
/-- 0 less a float. -/
theorem minus_fv {f : Format} {p lo M : Nat} (H : Fmt f p lo M) {x V : Nat} {s : Bool} (hx : Fv f lo x s V) (h0 : Fv f lo 0 false 0) :
    ∃ z, f.sub 0 x = some z ∧ Fv f lo z (if V = 0 then false else !s) V := by
  have hfit := fv_fit H hx
  have e : sgnd false 0 - sgnd s V = sgnd (!s) V := by rw [sgnd_neg, sgnd_zero]; omega
  have ha : (sgnd false 0 - sgnd s V).natAbs = V := by rw [e, sgnd_abs]
  have := sub_fv H h0 hx (by rw [ha]; exact fits_exact H.2.2.2.2.2.1 hfit (fv_lt H hx))
  rw [ha, hfit, e] at this
  obtain ⟨z, hz, hv⟩ := this
  refine ⟨z, hz, ?_⟩
  have es : (if sgnd (!s) V = 0 then false && !s else decide (sgnd (!s) V < 0)) = (if V = 0 then false else !s) := by
    rcases Nat.eq_zero_or_pos V with rfl | hV
    · rw [sgnd_zero, if_pos rfl, if_pos rfl, Bool.false_and]
    · rw [if_neg (by cases s <;> simp [sgnd] <;> omega), if_neg (by omega)]
      cases s <;> simp [sgnd] <;> omega
  rw [es] at hv
  exact hv
/-! ### Words -/
abbrev w2S : Nat := 1073741824
abbrev w2D : Nat := 4611686018427387904
def ngS (x : Nat) : Nat := (single.sub 0 x).getD 0
def hvS (x : Nat) : Nat := (single.div x w2S).getD 0
def ngD (x : Nat) : Nat := (double.sub 0 x).getD 0
def hvD (x : Nat) : Nat := (double.div x w2D).getD 0
theorem fs_nil : FS 0 false 0 := ⟨0, 0, by rw [loS_eq]; decide +kernel, rfl⟩
theorem fd_nil : FD 0 false 0 := ⟨0, 0, by rw [loD_eq]; decide +kernel, rfl⟩
theorem ngS_fs {x V : Nat} {s : Bool} (h : FS x s V) : single.sub 0 x = some (ngS x) ∧ FS (ngS x) (if V = 0 then false else !s) V := by
  obtain ⟨z, hz, hv⟩ := minus_fv fmtS h fs_nil
  have e : ngS x = z := by unfold ngS; rw [hz]; rfl
  rw [e]; exact ⟨hz, hv⟩
theorem ngD_fd {x V : Nat} {s : Bool} (h : FD x s V) : double.sub 0 x = some (ngD x) ∧ FD (ngD x) (if V = 0 then false else !s) V := by
  obtain ⟨z, hz, hv⟩ := minus_fv fmtD h fd_nil
  have e : ngD x = z := by unfold ngD; rw [hz]; rfl
  rw [e]; exact ⟨hz, hv⟩
theorem hvS_fs {x V : Nat} {s : Bool} (h : FS x s V) : single.div x w2S = some (hvS x) ∧ FS (hvS x) s (cutN V 1) := by
  obtain ⟨z, hz, hv⟩ := half_fv fmtS h (y := w2S) (by decide +kernel)
  have e : hvS x = z := by unfold hvS; rw [hz]; rfl
  rw [e]; exact ⟨hz, hv⟩
theorem hvD_fd {x V : Nat} {s : Bool} (h : FD x s V) : double.div x w2D = some (hvD x) ∧ FD (hvD x) s (cutN V 1) := by
  obtain ⟨z, hz, hv⟩ := half_fv fmtD h (y := w2D) (by decide +kernel)
  have e : hvD x = z := by unfold hvD; rw [hz]; rfl
  rw [e]; exact ⟨hz, hv⟩
/-! ### Steps -/
def itr {α : Type} (f : α → α) : Nat → α → α
  | 0, a => a
  | n + 1, a => f (itr f n a)
theorem itr_next {α : Type} (f : α → α) (n : Nat) (a : α) : itr f (n + 1) a = f (itr f n a) := rfl
theorem itr_first {α : Type} (f : α → α) : ∀ (n : Nat) (a : α), itr f n (f a) = f (itr f n a)
  | 0, _ => rfl
  | n + 1, a => by rw [itr_next, itr_next, itr_first f n a]
theorem itr_add {α : Type} (f : α → α) (a : α) (m : Nat) : ∀ n, itr f (m + n) a = itr f n (itr f m a)
  | 0 => rfl
  | n + 1 => by rw [← Nat.add_assoc, itr_next, itr_next, itr_add f a m n]
theorem itr_keep {α : Type} {f : α → α} {P : α → Prop} (h : ∀ a, P a → P (f a)) : ∀ (n : Nat) (a : α), P a → P (itr f n a)
  | 0, _, ha => ha
  | n + 1, a, ha => h _ (itr_keep h n a ha)
def trS (a : Pn) : Pn := (ngS a.2, a.1)
def hlS (a : Pn) : Pn := (hvS a.1, hvS a.2)
def trD (a : Pn) : Pn := (ngD a.2, a.1)
def hlD (a : Pn) : Pn := (hvD a.1, hvD a.2)
def stS (t h : Nat) (a : Pn) : Pn := itr hlS h (itr trS t a)
def stD (t h : Nat) (a : Pn) : Pn := itr hlD h (itr trD t a)
def rnS (t h k : Nat) (a : Pn) : Pn := itr (stS t h) k a
def rnD (t h k : Nat) (a : Pn) : Pn := itr (stD t h) k a
/-- Both parts finite. -/
def FinS (a : Pn) : Prop := ∃ s V t W, FS a.1 s V ∧ FS a.2 t W
def FinD (a : Pn) : Prop := ∃ s V t W, FD a.1 s V ∧ FD a.2 t W
theorem finS_pt {a : Pn} : FinS a ↔ ptF a = true := by
  unfold ptF
  constructor
  · rintro ⟨s, V, t, W, h1, h2⟩
    rw [(fs_fin h1).1, (fs_fin h2).1]; rfl
  · intro h
    rw [Bool.and_eq_true] at h
    exact ⟨_, _, _, _, fin_fs h.1, fin_fs h.2⟩
theorem trS_fin {a : Pn} (h : FinS a) : FinS (trS a) := by
  obtain ⟨s, V, t, W, h1, h2⟩ := h
  exact ⟨_, _, _, _, (ngS_fs h2).2, h1⟩
theorem hlS_fin {a : Pn} (h : FinS a) : FinS (hlS a) := by
  obtain ⟨s, V, t, W, h1, h2⟩ := h
  exact ⟨_, _, _, _, (hvS_fs h1).2, (hvS_fs h2).2⟩
theorem trD_fin {a : Pn} (h : FinD a) : FinD (trD a) := by
  obtain ⟨s, V, t, W, h1, h2⟩ := h
  exact ⟨_, _, _, _, (ngD_fd h2).2, h1⟩
theorem hlD_fin {a : Pn} (h : FinD a) : FinD (hlD a) := by
  obtain ⟨s, V, t, W, h1, h2⟩ := h
  exact ⟨_, _, _, _, (hvD_fd h1).2, (hvD_fd h2).2⟩
theorem stS_fin {t h : Nat} {a : Pn} (ha : FinS a) : FinS (stS t h a) := itr_keep (P := FinS) (fun _ h => hlS_fin h) h _ (itr_keep (P := FinS) (fun _ h => trS_fin h) t _ ha)
theorem stD_fin {t h : Nat} {a : Pn} (ha : FinD a) : FinD (stD t h a) := itr_keep (P := FinD) (fun _ h => hlD_fin h) h _ (itr_keep (P := FinD) (fun _ h => trD_fin h) t _ ha)
theorem rnS_fin {t h : Nat} {a : Pn} (k : Nat) (ha : FinS a) : FinS (rnS t h k a) := itr_keep (P := FinS) (fun _ h => stS_fin h) k _ ha
theorem rnD_fin {t h : Nat} {a : Pn} (k : Nat) (ha : FinD a) : FinD (rnD t h k a) := itr_keep (P := FinD) (fun _ h => stD_fin h) k _ ha
theorem rnS_next (t h k : Nat) (a : Pn) : rnS t h (k + 1) a = stS t h (rnS t h k a) := rfl
theorem rnD_next (t h k : Nat) (a : Pn) : rnD t h (k + 1) a = stD t h (rnD t h k a) := rfl
/-! ### Numbers of a swing -/
/-- A point's parts as numbers of least floats. -/
def At (a : Pn) (x y : Int) : Prop := ∃ s V t W, FS a.1 s V ∧ FS a.2 t W ∧ x = sgnd s V ∧ y = sgnd t W
theorem at_fin {a : Pn} (h : FinS a) : ∃ x y, At a x y := by
  obtain ⟨s, V, t, W, h1, h2⟩ := h
  exact ⟨_, _, s, V, t, W, h1, h2, rfl, rfl⟩
theorem trS_at {a : Pn} {x y : Int} (h : At a x y) : At (trS a) (-y) x := by
  obtain ⟨s, V, t, W, h1, h2, rfl, rfl⟩ := h
  refine ⟨_, _, _, _, (ngS_fs h2).2, h1, ?_, rfl⟩
  by_cases hW : W = 0
  · subst hW; rw [if_pos rfl, sgnd_zero, sgnd_zero]; rfl
  · rw [if_neg hW, sgnd_neg]
def halfZ (x : Int) : Int := sgnd (decide (x < 0)) (cutN x.natAbs 1)
theorem half_sgnd (s : Bool) (V : Nat) : halfZ (sgnd s V) = sgnd s (cutN V 1) := by
  unfold halfZ
  rw [sgnd_abs]
  rcases Nat.eq_zero_or_pos V with rfl | hV
  · rw [cut_nil, sgnd_zero, sgnd_zero]
  · congr 1
    cases s <;> simp [sgnd] <;> omega
theorem hlS_at {a : Pn} {x y : Int} (h : At a x y) : At (hlS a) (halfZ x) (halfZ y) := by
  obtain ⟨s, V, t, W, h1, h2, rfl, rfl⟩ := h
  exact ⟨_, _, _, _, (hvS_fs h1).2, (hvS_fs h2).2, half_sgnd _ _, half_sgnd _ _⟩
theorem half_nil : halfZ 0 = 0 := by unfold halfZ; rw [show (0 : Int).natAbs = 0 from rfl, cut_nil, sgnd_zero]
theorem at_one {a : Pn} {x y u v : Int} (h1 : At a x y) (h2 : At a u v) : x = u ∧ y = v := by
  obtain ⟨s, V, t, W, a1, a2, rfl, rfl⟩ := h1
  obtain ⟨s', V', t', W', b1, b2, rfl, rfl⟩ := h2
  have c1 := fs_fin a1
  have c2 := fs_fin b1
  have c3 := fs_fin a2
  have c4 := fs_fin b2
  rw [← c1.2.1, ← c1.2.2, ← c2.2.1, ← c2.2.2, ← c3.2.1, ← c3.2.2, ← c4.2.1, ← c4.2.2]
  exact ⟨rfl, rfl⟩
/-- What rests stays at rest. -/
theorem stS_rest {t h : Nat} {a : Pn} (ha : At a 0 0) : At (stS t h a) 0 0 :=
  itr_keep (P := fun a => At a 0 0) (fun _ h => by have := hlS_at h; rwa [half_nil] at this) h _ (itr_keep (P := fun a => At a 0 0) (fun _ h => by have := trS_at h; rwa [Int.neg_zero] at this) t _ ha)
theorem rnS_rest {t h : Nat} {a : Pn} {m : Nat} (ha : At (rnS t h m a) 0 0) (n : Nat) (hn : m ≤ n) : At (rnS t h n a) 0 0 := by
  obtain ⟨k, rfl⟩ : ∃ k, n = m + k := ⟨n - m, by omega⟩
  unfold rnS at *
  rw [itr_add]
  exact itr_keep (P := fun a => At a 0 0) (fun _ h => stS_rest h) k _ ha
theorem stS_still (t : Nat) (a : Pn) : stS t 0 a = itr trS t a := rfl
theorem turn4_at {a : Pn} {x y : Int} (h : At a x y) : At (trS (trS (trS (trS a)))) x y := by
  have := trS_at (trS_at (trS_at (trS_at h)))
  rwa [Int.neg_neg, Int.neg_neg] at this
theorem round_at {t : Nat} (ht : t ≤ 3) {a : Pn} {x y : Int} (h : At a x y) : At (rnS t 0 4 a) x y := by
  have e : rnS t 0 4 a = itr trS (4 * t) a := by
    have : t = 0 ∨ t = 1 ∨ t = 2 ∨ t = 3 := by omega
    rcases this with rfl | rfl | rfl | rfl <;> rfl
  rw [e]
  have : t = 0 ∨ t = 1 ∨ t = 2 ∨ t = 3 := by omega
  rcases this with rfl | rfl | rfl | rfl
  · exact h
  · exact turn4_at h
  · exact turn4_at (turn4_at h)
  · exact turn4_at (turn4_at (turn4_at h))
end Go.Proofs.Ytpbppgaohfgpbaa
/- impl's swings: which are valid; a quarter, a half, a step, steps, in both widths. -/
namespace Go.Proofs.Ytpbppgaohfgpbaa
set_option maxRecDepth 20000
open Go.ChangeShapes Go.WideShapes Go.ChangeAt Go.RowKit
set_option linter.unusedVariables false
set_option linter.unusedSimpArgs false

attribute [local go_sem] run_store_fl run_store_cx
/-! ### Values -/
abbrev nS (a : Pn) : Value := .agg #[.float .f32 a.1, .float .f32 a.2]
abbrev nD (a : Pn) : Value := .agg #[.float .f64 a.1, .float .f64 a.2]
abbrev sW (a : Pn) (t h : Int) : Value := .agg #[.complex .f32 a.1 a.2, .int .i64 t, .int .i64 h]
theorem turnedS_any (a : Pn) (ha : FinS a) (w : World) : Calls Try.prog 77 #[nS a] w fun e w' => e = .returned (nS (trS a)) ∧ Below w.heap.size w w' := by
  obtain ⟨s, V, t, W, h1, h2⟩ := ha
  obtain ⟨hz, -⟩ := ngS_fs h2
  have R : ∀ t w, (binOp .sub t (.float .f32 0) (.float .f32 a.2)).run Try.prog w = .ok (.float .f32 (ngS a.2)) w := fun t w => run_float_arith w .sub t .f32 _ _ _ hz
  clear h1 h2 hz
  unfold trS
  obtain ⟨x, y⟩ := a
  simp only at R ⊢
  generalize ngS y = z at *
  go_enter Try.func77, Try.ntmps77
  go_wp2_with (rw [R])
  simp [bodyPost, results, Try.results77, go_sem]
  exact bel2 _ _ _
theorem halvedS_any (a : Pn) (ha : FinS a) (w : World) : Calls Try.prog 78 #[nS a] w fun e w' => e = .returned (nS (hlS a)) ∧ Below w.heap.size w w' := by
  obtain ⟨s, V, t, W, h1, h2⟩ := ha
  obtain ⟨hz, -⟩ := hvS_fs h1
  obtain ⟨hy, -⟩ := hvS_fs h2
  have R : ∀ t w, (binOp .quo t (.float .f32 a.1) (.float .f32 1073741824)).run Try.prog w = .ok (.float .f32 (hvS a.1)) w := fun t w => run_float_arith w .quo t .f32 _ _ _ hz
  have Q : ∀ t w, (binOp .quo t (.float .f32 a.2) (.float .f32 1073741824)).run Try.prog w = .ok (.float .f32 (hvS a.2)) w := fun t w => run_float_arith w .quo t .f32 _ _ _ hy
  clear h1 h2 hz hy
  unfold hlS
  obtain ⟨x, y⟩ := a
  simp only at R Q ⊢
  generalize hvS y = z at *
  generalize hvS x = u at *
  go_enter Try.func78, Try.ntmps78
  go_wp2_with (first | rw [R] | rw [Q])
  simp [bodyPost, results, Try.results78, go_sem]
  exact bel2 _ _ _
set_option maxHeartbeats 1000000 in
theorem nextS_any (a : Pn) (t h : Nat) (ha : FinS a) (b : Pn) (w : World) (ht : t ≤ 3) (hh : h ≤ 4) :
    Calls Try.prog 63 #[nS a, sW b t h] w fun e w' => e = .returned (nS (stS t h a)) ∧ Below w.heap.size w w' := by
  go_enter Try.func63, Try.ntmps63
  go_wp2_with fail
  go_loopw [7] (fun u wr => ∃ k : Nat, k ≤ t ∧ u = .int .i64 k ∧ BlkAt wr w.heap.size 52 #[.float .f32 (itr trS k a).1, .float .f32 (itr trS k a).2] ∧ BlkAt wr (w.heap.size + 1) 25 #[.complex .f32 b.1 b.2, .int .i64 t, .int .i64 h] ∧ BlkAt wr (w.heap.size + 1 + 1) 52 #[.float .f32 0, .float .f32 0] ∧ Below w.heap.size w wr) (fun u _ => t - (intOf u).toNat)
  case atStart =>
    exact ⟨0, Nat.zero_le _, rfl, ((BlkAt.newAt rfl rfl).alloc _).alloc _, (BlkAt.newAt rfl (by simp)).alloc _, BlkAt.newAt rfl (by simp), bel3 _ _ _ _⟩
  case round =>
    obtain ⟨k, hk, rfl, h1, h2, h3, hb⟩ := hrel
    by_cases hlt : k < t
    · have hf : FinS (itr trS k a) := itr_keep (P := FinS) (fun _ h => trS_fin h) k _ ha
      have C := fun w => turnedS_any _ hf w
      have HN := Lib.hid (itr_next trS k a)
      generalize itr trS k a = z at *
      have c0 := h1.cell (k := 0) rfl
      have c1 := h1.cell (k := 1) rfl
      have HB := Lib.hid hb
      have H1 := Lib.hid h1
      have H2 := Lib.hid h2
      have H3 := Lib.hid h3
      clear hf hb h1 h2 h3
      go_wp2_with fail
      refine (C _).mono ?_; rintro e w2 ⟨rfl, hb2⟩
      have h1 := H1.out.below hb2
      have h2 := H2.out.below hb2
      have h3 := H3.out.below hb2
      have hb := belT HB.out hb2
      clear c0 c1 HB H1 H2 H3 hb2 C
      generalize trS z = u at *
      have c0 := h1.cell (k := 0) rfl
      have c1 := h1.cell (k := 1) rfl
      have f0 := h1.free 0
      have f1 := h1.free 1
      have HB := Lib.hid hb
      have H1 := Lib.hid h1
      have H2 := Lib.hid h2
      have H3 := Lib.hid h3
      clear hb h1 h2 h3
      go_wp2
      go_roundw
      case rel => exact ⟨k + 1, by omega, by go_num, by rw [HN.out]; exact (H1.out.set 0 _).set 1 _, (H2.out.other _ _ (by simp)).other _ _ (by simp), (H3.out.other _ _ (by simp; omega)).other _ _ (by simp; omega), (HB.out.setCell (Nat.le_refl _) _).setCell (Nat.le_refl _) _⟩
      case measure => simp [intOf]; omega
    · obtain rfl : k = t := by omega
      have hf : FinS (itr trS k a) := itr_keep (P := FinS) (fun _ h => trS_fin h) k _ ha
      have HS : Hid (stS k h a = itr hlS h (itr trS k a)) := rfl
      generalize itr trS k a = a0 at *
      have d1 := h2.cell (k := 2) rfl
      have HB := Lib.hid hb
      have H1 := Lib.hid h1
      have H2 := Lib.hid h2
      have H3 := Lib.hid h3
      clear hb h1 h2 h3
      go_wp2_with fail
      clear d1
      go_loopw [14] (fun u wr => ∃ k : Nat, k ≤ h ∧ u = .int .i64 k ∧ BlkAt wr w.heap.size 52 #[.float .f32 (itr hlS k a0).1, .float .f32 (itr hlS k a0).2] ∧ BlkAt wr (w.heap.size + 1 + 1) 52 #[.float .f32 0, .float .f32 0] ∧ Below w.heap.size w wr) (fun u _ => h - (intOf u).toNat)
      case atStart => exact ⟨0, Nat.zero_le _, rfl, H1.out, H3.out, HB.out⟩
      case round =>
        clear H1 H2 H3 HB
        obtain ⟨m, hk, rfl, h1, h3, hb⟩ := hrel
        by_cases hlt : m < h
        · have hf : FinS (itr hlS m a0) := itr_keep (P := FinS) (fun _ h => hlS_fin h) m _ hf
          have C := fun w => halvedS_any _ hf w
          have HN := Lib.hid (itr_next hlS m a0)
          generalize itr hlS m a0 = z at *
          have c0 := h1.cell (k := 0) rfl
          have c1 := h1.cell (k := 1) rfl
          have HB := Lib.hid hb
          have H1 := Lib.hid h1
          have H3 := Lib.hid h3
          clear hf hb h1 h3
          go_wp2_with fail
          refine (C _).mono ?_; rintro e w2 ⟨rfl, hb2⟩
          have h1 := H1.out.below hb2
          have h3 := H3.out.below hb2
          have hb := belT HB.out hb2
          clear c0 c1 HB H1 H3 hb2 C
          generalize hlS z = u at *
          have c0 := h1.cell (k := 0) rfl
          have c1 := h1.cell (k := 1) rfl
          have f0 := h1.free 0
          have f1 := h1.free 1
          have HB := Lib.hid hb
          have H1 := Lib.hid h1
          have H3 := Lib.hid h3
          clear hb h1 h3
          go_wp2
          go_roundw
          case rel => exact ⟨m + 1, by omega, by go_num, by rw [HN.out]; exact (H1.out.set 0 _).set 1 _, (H3.out.other _ _ (by simp; omega)).other _ _ (by simp; omega), (HB.out.setCell (Nat.le_refl _) _).setCell (Nat.le_refl _) _⟩
          case measure => simp [intOf]; omega
        · obtain rfl : m = h := by omega
          rw [← HS.out] at h1
          have c0 := h1.cell (k := 0) rfl
          have c1 := h1.cell (k := 1) rfl
          have e0 := h3.cell (k := 0) rfl
          have e1 := h3.cell (k := 1) rfl
          have f0 := h3.free 0
          have f1 := h3.free 1
          have HB := Lib.hid hb
          have H3 := Lib.hid h3
          clear hb h1 h3 HS
          go_wp2
          refine bodyPost_ret (results_blk rfl rfl ((H3.out.set 0 _).set 1 _) Try.underlying52 rfl (by kernel_rfl)) rfl ⟨rfl, (HB.out.setCell (by simp; omega) _).setCell (by simp; omega) _⟩
theorem turnedD_any (a : Pn) (ha : FinD a) (w : World) : Calls Try.prog 79 #[nD a] w fun e w' => e = .returned (nD (trD a)) ∧ Below w.heap.size w w' := by
  obtain ⟨s, V, t, W, h1, h2⟩ := ha
  obtain ⟨hz, -⟩ := ngD_fd h2
  have R : ∀ t w, (binOp .sub t (.float .f64 0) (.float .f64 a.2)).run Try.prog w = .ok (.float .f64 (ngD a.2)) w := fun t w => run_float_arith w .sub t .f64 _ _ _ hz
  clear h1 h2 hz
  unfold trD
  obtain ⟨x, y⟩ := a
  simp only at R ⊢
  generalize ngD y = z at *
  go_enter Try.func79, Try.ntmps79
  go_wp2_with (rw [R])
  simp [bodyPost, results, Try.results79, go_sem]
  exact bel2 _ _ _
theorem halvedD_any (a : Pn) (ha : FinD a) (w : World) : Calls Try.prog 80 #[nD a] w fun e w' => e = .returned (nD (hlD a)) ∧ Below w.heap.size w w' := by
  obtain ⟨s, V, t, W, h1, h2⟩ := ha
  obtain ⟨hz, -⟩ := hvD_fd h1
  obtain ⟨hy, -⟩ := hvD_fd h2
  have R : ∀ t w, (binOp .quo t (.float .f64 a.1) (.float .f64 4611686018427387904)).run Try.prog w = .ok (.float .f64 (hvD a.1)) w := fun t w => run_float_arith w .quo t .f64 _ _ _ hz
  have Q : ∀ t w, (binOp .quo t (.float .f64 a.2) (.float .f64 4611686018427387904)).run Try.prog w = .ok (.float .f64 (hvD a.2)) w := fun t w => run_float_arith w .quo t .f64 _ _ _ hy
  clear h1 h2 hz hy
  unfold hlD
  obtain ⟨x, y⟩ := a
  simp only at R Q ⊢
  generalize hvD y = z at *
  generalize hvD x = u at *
  go_enter Try.func80, Try.ntmps80
  go_wp2_with (first | rw [R] | rw [Q])
  simp [bodyPost, results, Try.results80, go_sem]
  exact bel2 _ _ _
set_option maxHeartbeats 1000000 in
theorem nextD_any (a : Pn) (t h : Nat) (ha : FinD a) (b : Pn) (w : World) (ht : t ≤ 3) (hh : h ≤ 4) :
    Calls Try.prog 64 #[nD a, sW b t h] w fun e w' => e = .returned (nD (stD t h a)) ∧ Below w.heap.size w w' := by
  go_enter Try.func64, Try.ntmps64
  go_wp2_with fail
  go_loopw [7] (fun u wr => ∃ k : Nat, k ≤ t ∧ u = .int .i64 k ∧ BlkAt wr w.heap.size 58 #[.float .f64 (itr trD k a).1, .float .f64 (itr trD k a).2] ∧ BlkAt wr (w.heap.size + 1) 25 #[.complex .f32 b.1 b.2, .int .i64 t, .int .i64 h] ∧ BlkAt wr (w.heap.size + 1 + 1) 58 #[.float .f64 0, .float .f64 0] ∧ Below w.heap.size w wr) (fun u _ => t - (intOf u).toNat)
  case atStart =>
    exact ⟨0, Nat.zero_le _, rfl, ((BlkAt.newAt rfl rfl).alloc _).alloc _, (BlkAt.newAt rfl (by simp)).alloc _, BlkAt.newAt rfl (by simp), bel3 _ _ _ _⟩
  case round =>
    obtain ⟨k, hk, rfl, h1, h2, h3, hb⟩ := hrel
    by_cases hlt : k < t
    · have hf : FinD (itr trD k a) := itr_keep (P := FinD) (fun _ h => trD_fin h) k _ ha
      have C := fun w => turnedD_any _ hf w
      have HN := Lib.hid (itr_next trD k a)
      generalize itr trD k a = z at *
      have c0 := h1.cell (k := 0) rfl
      have c1 := h1.cell (k := 1) rfl
      have HB := Lib.hid hb
      have H1 := Lib.hid h1
      have H2 := Lib.hid h2
      have H3 := Lib.hid h3
      clear hf hb h1 h2 h3
      go_wp2_with fail
      refine (C _).mono ?_; rintro e w2 ⟨rfl, hb2⟩
      have h1 := H1.out.below hb2
      have h2 := H2.out.below hb2
      have h3 := H3.out.below hb2
      have hb := belT HB.out hb2
      clear c0 c1 HB H1 H2 H3 hb2 C
      generalize trD z = u at *
      have c0 := h1.cell (k := 0) rfl
      have c1 := h1.cell (k := 1) rfl
      have f0 := h1.free 0
      have f1 := h1.free 1
      have HB := Lib.hid hb
      have H1 := Lib.hid h1
      have H2 := Lib.hid h2
      have H3 := Lib.hid h3
      clear hb h1 h2 h3
      go_wp2
      go_roundw
      case rel => exact ⟨k + 1, by omega, by go_num, by rw [HN.out]; exact (H1.out.set 0 _).set 1 _, (H2.out.other _ _ (by simp)).other _ _ (by simp), (H3.out.other _ _ (by simp; omega)).other _ _ (by simp; omega), (HB.out.setCell (Nat.le_refl _) _).setCell (Nat.le_refl _) _⟩
      case measure => simp [intOf]; omega
    · obtain rfl : k = t := by omega
      have hf : FinD (itr trD k a) := itr_keep (P := FinD) (fun _ h => trD_fin h) k _ ha
      have HS : Hid (stD k h a = itr hlD h (itr trD k a)) := rfl
      generalize itr trD k a = a0 at *
      have d1 := h2.cell (k := 2) rfl
      have HB := Lib.hid hb
      have H1 := Lib.hid h1
      have H2 := Lib.hid h2
      have H3 := Lib.hid h3
      clear hb h1 h2 h3
      go_wp2_with fail
      clear d1
      go_loopw [14] (fun u wr => ∃ k : Nat, k ≤ h ∧ u = .int .i64 k ∧ BlkAt wr w.heap.size 58 #[.float .f64 (itr hlD k a0).1, .float .f64 (itr hlD k a0).2] ∧ BlkAt wr (w.heap.size + 1 + 1) 58 #[.float .f64 0, .float .f64 0] ∧ Below w.heap.size w wr) (fun u _ => h - (intOf u).toNat)
      case atStart => exact ⟨0, Nat.zero_le _, rfl, H1.out, H3.out, HB.out⟩
      case round =>
        clear H1 H2 H3 HB
        obtain ⟨m, hk, rfl, h1, h3, hb⟩ := hrel
        by_cases hlt : m < h
        · have hf : FinD (itr hlD m a0) := itr_keep (P := FinD) (fun _ h => hlD_fin h) m _ hf
          have C := fun w => halvedD_any _ hf w
          have HN := Lib.hid (itr_next hlD m a0)
          generalize itr hlD m a0 = z at *
          have c0 := h1.cell (k := 0) rfl
          have c1 := h1.cell (k := 1) rfl
          have HB := Lib.hid hb
          have H1 := Lib.hid h1
          have H3 := Lib.hid h3
          clear hf hb h1 h3
          go_wp2_with fail
          refine (C _).mono ?_; rintro e w2 ⟨rfl, hb2⟩
          have h1 := H1.out.below hb2
          have h3 := H3.out.below hb2
          have hb := belT HB.out hb2
          clear c0 c1 HB H1 H3 hb2 C
          generalize hlD z = u at *
          have c0 := h1.cell (k := 0) rfl
          have c1 := h1.cell (k := 1) rfl
          have f0 := h1.free 0
          have f1 := h1.free 1
          have HB := Lib.hid hb
          have H1 := Lib.hid h1
          have H3 := Lib.hid h3
          clear hb h1 h3
          go_wp2
          go_roundw
          case rel => exact ⟨m + 1, by omega, by go_num, by rw [HN.out]; exact (H1.out.set 0 _).set 1 _, (H3.out.other _ _ (by simp; omega)).other _ _ (by simp; omega), (HB.out.setCell (Nat.le_refl _) _).setCell (Nat.le_refl _) _⟩
          case measure => simp [intOf]; omega
        · obtain rfl : m = h := by omega
          rw [← HS.out] at h1
          have c0 := h1.cell (k := 0) rfl
          have c1 := h1.cell (k := 1) rfl
          have e0 := h3.cell (k := 0) rfl
          have e1 := h3.cell (k := 1) rfl
          have f0 := h3.free 0
          have f1 := h3.free 1
          have HB := Lib.hid hb
          have H3 := Lib.hid h3
          clear hb h1 h3 HS
          go_wp2
          refine bodyPost_ret (results_blk rfl rfl ((H3.out.set 0 _).set 1 _) Try.underlying58 rfl (by kernel_rfl)) rfl ⟨rfl, (HB.out.setCell (by simp; omega) _).setCell (by simp; omega) _⟩
end Go.Proofs.Ytpbppgaohfgpbaa
/- Lists of numbers in memory. -/
namespace Go.Proofs.Ytpbppgaohfgpbaa
set_option maxRecDepth 20000
open Go.ChangeShapes Go.WideShapes Go.ChangeAt Go.RowKit
set_option linter.unusedVariables false
set_option linter.unusedSimpArgs false

/-! Lists of numbers. -/
def encI (n : Int) : List Value := [.int .i64 n]
theorem encI_ok : Enc encI 1 := ⟨fun a => rfl, fun a v h => by rw [encI, List.mem_singleton] at h; subst h; rfl, by omega⟩
theorem flt_ints : ∀ xs : List Int, flt encI xs = xs.map (Value.int .i64)
  | [] => rfl
  | x :: xs => by rw [flt_cons, flt_ints xs]; rfl
theorem own_ints {w : World} {B T : Nat} {v : Value} {xs : List Int} (h : OwnL encI 1 w B T v xs) : w.ownsRow B T 1 v xs.length (xs.map (Value.int .i64)) := by
  rw [← flt_ints]; exact h
theorem lit1 (w : World) (x : Int) (T : Nat) : ReadsL encI (w.alloc (.cells #[.int .i64 x] T)) (.slice (some ⟨w.heap.size, 0, none⟩) 1 1) [x] := litL_reads (en := encI) w x T
theorem int_cell {w : World} {g o k : Nat} {xs : List Int} {x : Int} (h : w.rangeAt g o (flt encI xs)) (hx : xs[k]? = some x) : w.cell? ⟨g, o + k, none⟩ = some (.int .i64 x) := by
  have := cells_part encI_ok h hx 0 (.int .i64 x) rfl
  rwa [Nat.mul_one, Nat.add_zero] at this
def ToldI (w : World) (o : Option (List Int)) (e : Ending) (w' : World) : Prop :=
  Below w.heap.size w w' ∧ ∃ v', e = .returned (.tuple #[v', .bool o.isSome]) ∧ OwnL encI 1 w' w.heap.size 3 v' (o.getD [])
end Go.Proofs.Ytpbppgaohfgpbaa
