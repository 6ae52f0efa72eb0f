/-
  Rows: squares of the sizes of points, their sums (no program).
  impl: squares of sizes of points, lists of them, their sums.
-/
import Derived.Test.YtdgbpdeimckbfaaM16
import Derived.Test.YtdgbpdeimckbfaaM26
import Derived.Test.YtdgbpdeimckbfaaM17
import Derived.Test.YtdgbpdeimckbfaaM02
/- Rows: squares of the sizes of points, their sums (no program). -/
namespace Go.Proofs.Ytdgbpdeimckbfaa
set_option maxRecDepth 20000
set_option linter.unusedVariables false
set_option linter.unusedSimpArgs false

/-! Squares. -/
def mV (a : V) : V := dn (mir a.up)
theorem mir_add (f g : Nat → Int) : Eight (mir (add f g)) (add (mir f) (mir g)) := by
  refine eight_cases ?_ ?_ ?_ ?_ ?_ ?_ ?_ ?_ <;> simp [mir, add] <;> omega
theorem mV_add (a b : V) : mV (V.add a b) = V.add (mV a) (mV b) := by
  unfold mV; rw [add_up, ← dn_add]; exact dn_same (mir_add _ _)
theorem mV_zero : mV V.zero = V.zero := by
  unfold mV
  rw [zero_up]
  show dn (mir nul) = dn nul
  refine dn_same ?_
  refine eight_cases ?_ ?_ ?_ ?_ ?_ ?_ ?_ ?_ <;> simp [mir, nul]
theorem sig_mV (f : Nat → V) : ∀ n, mV (sig f n) = sig (fun k => mV (f k)) n
  | 0 => mV_zero
  | n + 1 => by
    show mV (V.add (sig f n) (f n)) = V.add (sig (fun k => mV (f k)) n) (mV (f n))
    rw [mV_add, sig_mV f n]
theorem mir_stp (f : Nat → Int) : Eight (stp (mir (stp f))) (mir f) := by
  refine eight_cases ?_ ?_ ?_ ?_ ?_ ?_ ?_ ?_ <;> simp [mir, stp] <;> omega
/-- A mirrored point turned on is the point turned back, mirrored. -/
theorem mV_step (a : V) : tV 1 (mV (tV 1 a)) = mV a := by
  unfold tV mV
  refine dn_same fun j hj => ?_
  have h1 : Eight (dn (stps 1 a.up)).up (stp a.up) := up_dn _
  have h2 : Eight (dn (mir (dn (stps 1 a.up)).up)).up (mir (stp a.up)) := fun j hj => (up_dn _ j hj).trans (mir_same' h1 j hj)
  exact (stp_same h2 j hj).trans (mir_stp a.up j hj)
theorem mV_turn (a : V) : ∀ t, tV t (mV (tV t a)) = mV a
  | 0 => by rw [tV_none, tV_none]
  | t + 1 => by
    have e : tV (t + 1) a = tV 1 (tV t a) := by rw [tV_more, Nat.add_comm]
    rw [e, ← tV_more, mV_step, mV_turn a t]
theorem mV_turned (a : V) {s t : Nat} (h : (s + t) % 24 = 0) : mV (tV t a) = tV s (mV a) := by
  rw [← mV_turn a t, tV_more]
  exact ((tV_same (n := 0) _ h).trans (tV_none _)).symm
/-- The sum of the squares of a transform's points is n times that of the row's. -/
theorem tr_squares {n : Nat} (h : rowLen n = true) (x : Nat → V) : sig (fun j => prV (tr (bw n) n x j) (mV (tr (bw n) n x j))) n = mulV n (sig (fun k => prV (x k) (mV (x k))) n) := by
  have e1 : ∀ j, mV (tr (bw n) n x j) = sig (fun k => tV (fw n * (j * k)) (mV (x k))) n := fun j => by
    unfold tr
    rw [sig_mV]
    refine sig_same n fun k _ => mV_turned _ ?_
    rw [← Nat.add_mul, Nat.mul_mod, fb]; simp
  have e2 : sig (fun j => prV (tr (bw n) n x j) (mV (tr (bw n) n x j))) n = sig (fun k => sig (fun j => prV (mV (x k)) (tV (fw n * (k * j)) (tr (bw n) n x j))) n) n := by
    rw [← sig_swap]
    refine sig_same n fun j _ => ?_
    rw [e1, sig_prV]
    refine sig_same n fun k _ => ?_
    rw [prV_turn, prV_comm, ← prV_turn, Nat.mul_comm j k]
  rw [e2, ← sig_const]
  have e3 : ∀ k, k < n → sig (fun j => prV (mV (x k)) (tV (fw n * (k * j)) (tr (bw n) n x j))) n = sig (fun _ => prV (x k) (mV (x k))) n := fun k hk => by
    rw [← sig_prV]
    show prV (mV (x k)) (tr (fw n) n (tr (bw n) n x) k) = _
    rw [tr_forth h x hk, ← sig_const, sig_prV]
    exact sig_same n fun _ _ => prV_comm _ _
  rw [sig_same n e3, sig_swap]
/-- Sums of lists of numbers. -/
def sigZ (f : Nat → Nat → Int) : Nat → Nat → Int
  | 0 => nul
  | n + 1 => add (sigZ f n) (f n)
theorem sigZ_same {f g : Nat → Nat → Int} : ∀ n, (∀ k, k < n → ∀ j, j < 4 → f k j = g k j) → ∀ j, j < 4 → sigZ f n j = sigZ g n j
  | 0, _ => fun j hj => rfl
  | n + 1, h => fun j hj => by
    show sigZ f n j + f n j = sigZ g n j + g n j
    rw [sigZ_same n (fun k hk => h k (by omega)) j hj, h n (by omega) j hj]
theorem rea_add (f g : Nat → Int) : ∀ j, j < 4 → rea (add f g) j = rea f j + rea g j := by
  refine four_cases ?_ ?_ ?_ ?_ <;> simp [rea, f4, add] <;> omega
theorem rea_scl (n : Int) (f : Nat → Int) : ∀ j, j < 4 → rea (scl n f) j = n * rea f j := by
  refine four_cases ?_ ?_ ?_ ?_ <;> simp [rea, f4, scl] <;> grind
theorem rea_up (f : Nat → Int) : rea (dn f).up = rea f := rea_same (up_dn f)
theorem sig_rea (f : Nat → V) : ∀ n, ∀ j, j < 4 → rea (sig f n).up j = sigZ (fun k => rea (f k).up) n j
  | 0 => fun j hj => by
    show rea V.zero.up j = nul j
    rw [zero_up]
    revert j
    refine four_cases ?_ ?_ ?_ ?_ <;> simp [rea, f4, nul]
  | n + 1 => fun j hj => by
    show rea (V.add (sig f n) (f n)).up j = sigZ (fun k => rea (f k).up) n j + rea (f n).up j
    rw [add_up, rea_add _ _ j hj, sig_rea f n j hj]
/-- Four times the square of a point's size. -/
def nrV (a : V) : Nat → Int := nrm a.up
theorem nrV_rea (a : V) : nrV a = rea (prV a (mV a)).up := by
  unfold nrV nrm prV mV
  rw [rea_up]
  exact rea_same fun j hj => (prd_same (up_dn _) j hj).symm
theorem squares_kept {n : Nat} (h : rowLen n = true) (x : Nat → V) : ∀ j, j < 4 → sigZ (fun i => nrV (tr (bw n) n x i)) n j = n * sigZ (fun i => nrV (x i)) n j := fun j hj => by
  have e1 : ∀ f : Nat → V, sigZ (fun i => nrV (f i)) n j = rea (sig (fun i => prV (f i) (mV (f i))) n).up j := fun f => by
    rw [sig_rea _ n j hj]
    exact sigZ_same n (fun k _ i _ => by rw [nrV_rea]) j hj
  rw [e1, e1, tr_squares h, ← mulV_dn, rea_up, rea_scl _ _ j hj]
/-- Zero or greater than 0. -/
def Pos4 (f : Nat → Int) : Prop := (∀ j, j < 4 → f j = 0) ∨ P4 (f 0) (f 1) (f 2) (f 3)
theorem pos_nrV (a : V) : Pos4 (nrV a) := by
  rcases nrm_sign a.up with ⟨_, h⟩ | ⟨_, h⟩
  · exact .inl (sgf_nil h)
  · exact .inr (sg4_pos.1 h)
theorem pos_add {f g : Nat → Int} (hf : Pos4 f) (hg : Pos4 g) : Pos4 (add f g) := by
  rcases hf with hf | hf
  · rcases hg with hg | hg
    · exact .inl fun j hj => by show f j + g j = 0; rw [hf j hj, hg j hj]; rfl
    · refine .inr ?_
      show P4 (f 0 + g 0) (f 1 + g 1) (f 2 + g 2) (f 3 + g 3)
      rw [hf 0 (by omega), hf 1 (by omega), hf 2 (by omega), hf 3 (by omega), Int.zero_add, Int.zero_add, Int.zero_add, Int.zero_add]; exact hg
  · rcases hg with hg | hg
    · refine .inr ?_
      show P4 (f 0 + g 0) (f 1 + g 1) (f 2 + g 2) (f 3 + g 3)
      rw [hg 0 (by omega), hg 1 (by omega), hg 2 (by omega), hg 3 (by omega), Int.add_zero, Int.add_zero, Int.add_zero, Int.add_zero]; exact hf
    · exact .inr (p4_add hf hg)
theorem pos_sum (f : Nat → V) : ∀ n, Pos4 (sigZ (fun i => nrV (f i)) n)
  | 0 => .inl fun j hj => rfl
  | n + 1 => pos_add (pos_sum f n) (pos_nrV (f n))
theorem pos_sign {f : Nat → Int} (h : Pos4 f) : 0 ≤ sgf f := by
  rcases h with h | h
  · rw [show sgf f = 0 from sg4_zero.2 ⟨h 0 (by omega), h 1 (by omega), h 2 (by omega), h 3 (by omega)⟩]; exact Int.le_refl _
  · rw [show sgf f = 1 from sg4_pos.2 h]; decide
theorem sigZ_head (f : Nat → Nat → Int) : ∀ n, ∀ j, sigZ f (n + 1) j = f 0 j + sigZ (fun k => f (k + 1)) n j
  | 0, j => by show nul j + f 0 j = f 0 j + nul j; rw [Int.add_comm]
  | n + 1, j => by
    show sigZ f (n + 1) j + f (n + 1) j = f 0 j + (sigZ (fun k => f (k + 1)) n j + f (n + 1) j)
    rw [sigZ_head f n j, Int.add_assoc]
theorem sigZ_next {f : Nat → Nat → Int} {n : Nat} (h : f n = f 0) (j : Nat) : sigZ (fun k => f (k + 1)) n j = sigZ f n j := by
  have h1 := sigZ_head f n j
  have h2 : sigZ f (n + 1) j = sigZ f n j + f n j := rfl
  rw [h2, h] at h1
  omega

/-- Sums of lists of numbers asked on the way. -/
def sumS (f : Nat → Nat → Int) (ok : (Nat → Int) → Bool) : Nat → Option (Nat → Int)
  | 0 => some nul
  | n + 1 => (sumS f ok n).bind fun s => if ok (add s (f n)) then some (add s (f n)) else none
theorem sumS_step {f : Nat → Nat → Int} {ok : (Nat → Int) → Bool} {n : Nat} {s : Nat → Int} (h : sumS f ok n = some s) : sumS f ok (n + 1) = if ok (add s (f n)) then some (add s (f n)) else none := by
  show (sumS f ok n).bind _ = _
  rw [h]; rfl
theorem sumS_sig {f : Nat → Nat → Int} {ok : (Nat → Int) → Bool} : ∀ {n : Nat} {s : Nat → Int}, sumS f ok n = some s → s = sigZ f n
  | 0, s, h => by simp only [sumS, Option.some.injEq] at h; exact h.symm
  | n + 1, s, h => by
    simp only [sumS, Option.bind_eq_some_iff] at h
    obtain ⟨s', h1, h2⟩ := h
    split at h2
    · simp only [Option.some.injEq] at h2
      rw [← h2, sumS_sig h1]; rfl
    · cases h2
theorem sumS_none {f : Nat → Nat → Int} {ok : (Nat → Int) → Bool} {m : Nat} (h : sumS f ok m = none) : ∀ {n : Nat}, m ≤ n → sumS f ok n = none
  | 0, hm => by rw [show m = 0 by omega] at h; exact h
  | n + 1, hm => by
    by_cases e : m = n + 1
    · rw [← e]; exact h
    · show (sumS f ok n).bind _ = none
      rw [sumS_none h (by omega)]; rfl
/-! What the laws say. -/
/-- A point whose size has a square. -/
def nOk (a : V) : Bool := okv (mV a) && okv (prV a (mV a))
/-- The square of the sizes of a row's points, each asked, then the sums (okS: what is asked of a sum). -/
def sqO (okS : (Nat → Int) → Bool) (xs : List V) : Option (Nat → Int) := if rowOk xs && xs.all nOk then sumS (fun k => nrV (at' xs k)) okS xs.length else none
theorem sumS_ok {f : Nat → Nat → Int} {ok : (Nat → Int) → Bool} (h0 : ok nul = true) : ∀ {n : Nat} {s : Nat → Int}, sumS f ok n = some s → ok s = true
  | 0, s, h => by simp only [sumS, Option.some.injEq] at h; rw [← h]; exact h0
  | n + 1, s, h => by
    simp only [sumS, Option.bind_eq_some_iff] at h
    obtain ⟨s', h1, h2⟩ := h
    split at h2
    · simp only [Option.some.injEq] at h2
      rw [← h2]; assumption
    · cases h2
theorem sqO_some {okS : (Nat → Int) → Bool} {xs : List V} {s : Nat → Int} (h : sqO okS xs = some s) : rowOk xs = true ∧ s = sigZ (fun k => nrV (at' xs k)) xs.length ∧ sumS (fun k => nrV (at' xs k)) okS xs.length = some s := by
  unfold sqO at h
  split at h
  · rename_i hc
    rw [Bool.and_eq_true] at hc
    exact ⟨hc.1, sumS_sig h, h⟩
  · cases h
theorem say_kept {okS : (Nat → Int) → Bool} {xs ys : List V} {s t : Nat → Int} (h : trF xs = some ys) (h2 : sqO okS ys = some s) (h3 : sqO okS xs = some t) : ∀ j, j < 4 → s j = xs.length * t j := fun j hj => by
  obtain ⟨k, hl, _, hy⟩ := trO_some h
  rw [(sqO_some h2).2.1, (sqO_some h3).2.1, hl, ← squares_kept (rowOk_len k) (at' xs) j hj]
  exact sigZ_same _ (fun i hi _ _ => by rw [hy i hi]) j hj
theorem say_sign {okS : (Nat → Int) → Bool} {xs : List V} {s : Nat → Int} (h : sqO okS xs = some s) : 0 ≤ sgf s := by
  rw [(sqO_some h).2.1]
  exact pos_sign (pos_sum _ _)
theorem say_shifted {okS : (Nat → Int) → Bool} {xs : List V} {s t : Nat → Int} (h : sqO okS xs = some s) (h2 : sqO okS (shL 1 xs) = some t) : ∀ j, j < 4 → t j = s j := fun j hj => by
  have k := (sqO_some h).1
  have h1 := (rowOk_short k).1
  rw [(sqO_some h).2.1, (sqO_some h2).2.1, shL_len]
  have e : ∀ i, i < 4 → sigZ (fun k => nrV (at' (shL 1 xs) k)) xs.length i = sigZ (fun k => (fun m => nrV (at' xs (m % xs.length))) (k + 1)) xs.length i := sigZ_same _ fun i hi _ _ => by rw [shL_at 1 hi]
  rw [e j hj, sigZ_next (f := fun m => nrV (at' xs (m % xs.length)))]
  · exact sigZ_same _ (fun i hi _ _ => by simp only [Nat.mod_eq_of_lt hi]) j hj
  · show nrV (at' xs (xs.length % xs.length)) = nrV (at' xs (0 % xs.length))
    rw [Nat.mod_self, Nat.zero_mod]
end Go.Proofs.Ytdgbpdeimckbfaa
/- impl: squares of sizes of points, lists of them, their sums. -/
namespace Go.Proofs.Ytdgbpdeimckbfaa
set_option maxRecDepth 20000
open Go.ChangeShapes Go.WideShapes Go.ChangeAt Go.RowKit
set_option linter.unusedVariables false
set_option linter.unusedSimpArgs false

/-! Lists of four numbers each. -/
abbrev Q4 : Type := Nat → Int
def enc4 (f : Q4) : List Value := lst 4 f
theorem enc4_ok : Enc enc4 4 := ⟨fun a => lst_length 4 _, fun a => lst_one 4 _, by omega⟩
theorem tyN : TyL Try.prog 104 108 4 := tyL_of (z := .agg (vec 4 nul)) (b := 32) Try.underlying104 (by kernel_rfl) (by omega) rfl
theorem rvalid4 (f : Nat → Int) (w : World) : Calls Try.prog 134 #[p4 f] w fun e w' => e = .returned (.bool (okf f)) ∧ Below w.heap.size w w' := by
  refine (rvalid_any (f 0) (f 1) (f 2) (f 3) w).mono ?_
  rintro e w' ⟨rfl, rfl⟩
  exact ⟨rfl, below_one _ _⟩
theorem okf_rea {a : Nat → Int} (va : okc a = true) : okf (rea a) = true := by
  have ia := okc_inR va
  have h0 := ia 0 (by omega); have h1 := ia 1 (by omega); have h2 := ia 2 (by omega); have h3 := ia 3 (by omega); have h4 := ia 4 (by omega); have h5 := ia 5 (by omega); have h6 := ia 6 (by omega); have h7 := ia 7 (by omega)
  clear ia
  show okr (4 * a 0 + 2 * a 4) (a 1 + 2 * a 3 - a 5 + a 7) (2 * a 2) (a 1 + a 5 - a 7) = true
  unfold okr rng
  simp only [Bool.and_eq_true, decide_eq_true_eq]
  omega
theorem nOk_in {a : V} (h : nOk a = true) : okv (mV a) = true ∧ okv (prV a (mV a)) = true := by
  unfold nOk at h; simpa [Bool.and_eq_true] using h
theorem okf_nrV {a : V} (h : nOk a = true) : okf (nrV a) = true := by
  rw [nrV_rea]; exact okf_rea (nOk_in h).2
section
variable {P : Program} {t e : TypeId} {ops : Array Oper} {rest : List Oper} {o : Oper} {a : Act} {Q : Exit → Act → World → Prop} {w : World}
theorem fill_4 (g : Nat → Value) (f : Nat → Int) : Instr.fill (fun i => some (i * 4, 4)) ((Array.range (1 * 4)).map g) [(0, .agg (vec 4 f))] = some (vec 4 f) := by
  have h1 : (Array.range (1 * 4)).map g = #[g 0, g 1, g 2, g 3] := by
    refine Array.ext (by simp) fun i h1 h2 => ?_
    simp only [Nat.one_mul, Array.size_map, Array.size_range] at h1
    have : i = 0 ∨ i = 1 ∨ i = 2 ∨ i = 3 := by omega
    rcases this with rfl | rfl | rfl | rfl <;> simp
  have h2 : vec 4 f = #[.int .i64 (f 0), .int .i64 (f 1), .int .i64 (f 2), .int .i64 (f 3)] := rfl
  rw [h1, h2]
  simp [Instr.fill, Value.cells]
theorem run_one4 (ty : TyL P t e 4) (f : Nat → Int) (w : World) : (Instr.buildSlice t 1 #[(0, .agg (vec 4 f))]).run P w = .ok (.slice (some ⟨w.heap.size, 0, none⟩) 1 1) (w.alloc (.cells (vec 4 f) e)) := by
  obtain ⟨i, z, hi, hz, hs, hby, hzs⟩ := ty.inf
  have hf := fill_4 (fun x => z.cells[x % z.cells.size]!) f
  simp [Instr.buildSlice, run_underlying ty.sl, sizeOf, typeInfo, zeroValue, hi, hz, hs, Sem.run_bind]
  rw [Nat.one_mul] at hf
  simp [hf, newRow]
theorem one4 (ty : TyL P t e 4) {x : Operand} {f : Nat → Int} (hgd : o.guard = none) (ho : o.op = .buildSlice t 1 #[(0, x)]) (hx : a.eval x = .agg (vec 4 f))
    (h : wpList P ops Q rest (a.put o.dst (.slice (some ⟨w.heap.size, 0, none⟩) 1 1)) (w.alloc (.cells (vec 4 f) e))) : wpList P ops Q (o :: rest) a w := by
  refine wpList_plain hgd fun K hK => ?_
  unfold Oper.wp execOp
  simp [ho, hx, Sem.run_bind, run_one4 ty f w, Result.andThen]
  exact hK _ _ h
theorem load_row8_on {T ty : TypeId} {d : TypeDesc} {g : Nat} {f : Nat → Int} (hw : Region.wanted o (yielded ops a.tmps) = true) {x : Operand} (ho : o.op = .load T x) (hx : a.eval x = .pointer (some ⟨g, 0, none⟩)) (hr : RowAt w g 8 ty f)
    (hu : P.underlying T = some d) (hd : d.isRow = true) (hi : (P.info? T).map (·.size) = some 8)
    (h : wpList P ops Q rest (a.put o.dst (.agg (vec 8 f))) w) : wpList P ops Q (o :: rest) a w :=
  wpList_step fun K hK => by
    rw [if_pos hw]
    exact wp_load_mid T x ho g 0 hx (lst 8 f) d hr.range hu hd (by rw [lst_length]; exact hi) (hK _ _ h)
/-- Reading four numbers of a list. -/
theorem load_four {T : TypeId} {d : TypeDesc} {g p : Nat} {f : Nat → Int} (hgd : o.guard = none) {x : Operand} (ho : o.op = .load T x) (hx : a.eval x = .pointer (some ⟨g, p, none⟩)) (hr : w.rangeAt g p (lst 4 f))
    (hu : P.underlying T = some d) (hd : d.isRow = true) (hi : (P.info? T).map (·.size) = some 4)
    (h : wpList P ops Q rest (a.put o.dst (p4 f)) w) : wpList P ops Q (o :: rest) a w :=
  wpList_load_mid hgd T x ho g p hx (lst 4 f) d hr hu hd (by rw [lst_length]; exact hi) h
end
theorem mirroredV (a : V) (ha : okv a = true) (w : World) : Calls Try.prog 165 #[pt a.up] w fun e w' => e = .returned (pt (mV a).up) ∧ Below w.heap.size w w' := by
  have e : pt (mir a.up) = pt (mV a).up := pt_same fun j hj => (up_dn _ j hj).symm
  rw [← e]; exact mirrored_any a.up (inR_bound ha) w
theorem timesM (a : V) (ha : okv a = true) (w : World) : Calls Try.prog 166 #[pt a.up, pt (mV a).up] w fun e w' => e = .returned (pt (prV a (mV a)).up) ∧ Below w.heap.size w w' := by
  have e : pt (prd a.up (mV a).up) = pt (prV a (mV a)).up := pt_same fun j hj => (up_dn _ j hj).symm
  rw [← e]
  refine times_wide a.up (mV a).up (inR_bound ha) (fun j hj => ?_) w
  have := four_mir (inR_bound ha) j hj
  rwa [← up_dn (mir a.up) j hj] at this
theorem realV (a : V) (h : nOk a = true) (w : World) : Calls Try.prog 167 #[pt (prV a (mV a)).up] w fun e w' => e = .returned (p4 (nrV a)) ∧ Below w.heap.size w w' := by
  rw [nrV_rea]
  exact realPart_any _ (fun j hj => by have := inR_bound (nOk_in h).2 j hj; omega) w
/-- The square of a size and true, or 0 and false. -/
def normO (a : V) : Value := if nOk a then .tuple #[p4 (nrV a), .bool true] else .tuple #[p4 nul, .bool false]
theorem normO_no {a : V} (h : nOk a = false) : normO a = .tuple #[p4 nul, .bool false] := by unfold normO; rw [h]; rfl
theorem normO_yes {a : V} (h : nOk a = true) : normO a = .tuple #[p4 (nrV a), .bool true] := by unfold normO; rw [h]; rfl

set_option maxHeartbeats 2000000 in
theorem norm_any (a : V) (ha : okv a = true) (w : World) : Calls Try.prog 133 #[pt a.up] w fun e w' => e = .returned (normO a) ∧ Below w.heap.size w w' := by
  have M := fun w => mirroredV a ha w
  have T := fun w => timesM a ha w
  have V1 := fun w => validOf (mV a) w
  have V2 := fun w => validOf (prV a (mV a)) w
  have RE := fun h w => realV a h w
  have hno : nOk a = (okv (mV a) && okv (prV a (mV a))) := rfl
  have hA0 : RowAt ((w.alloc (.cells (vec 8 a.up) 92)).alloc (.cells (vec 4 nul) 108)) w.heap.size 8 92 a.up := (RowAt.newAt rfl rfl).alloc _
  have hO0 : RowAt ((w.alloc (.cells (vec 8 a.up) 92)).alloc (.cells (vec 4 nul) 108)) (w.heap.size + 1) 4 108 nul := RowAt.newAt rfl (by simp)
  have hL0 : Below w.heap.size w ((w.alloc (.cells (vec 8 a.up) 92)).alloc (.cells (vec 4 nul) 108)) := below_two _ _ _
  have HA := Lib.hid hA0
  have HO := Lib.hid hO0
  have HL := Lib.hid hL0
  clear hA0 hO0 hL0
  generalize mV a = m at *
  generalize prV a m = p at *
  go_enter Try.func133, Try.ntmps133
  go_upto_region 1 with fail
  show Code.wp _ _ _ _ ((w.alloc (.cells (vec 8 a.up) 92)).alloc (.cells (vec 4 nul) 108))
  generalize (w.alloc (.cells (vec 8 a.up) 92)).alloc (.cells (vec 4 nul) 108) = W at *
  go_wp2_with (first | (refine load_row (ty := 92) (g := w.heap.size) rfl rfl rfl HA.out Try.underlying92 rfl info_exact ?_))
  refine (M _).mono ?_; rintro e w2 ⟨rfl, hb2⟩
  have HA2 := Lib.hid ((HA.out.below hb2).alloc (.cells (vec 8 m.up) 92))
  have HO2 := Lib.hid ((HO.out.below hb2).alloc (.cells (vec 8 m.up) 92))
  have HM2 := Lib.hid (RowAt.new w2 8 92 m.up)
  have hL2 := below_next HL.out hb2
  have HL2 := Lib.hid (hL2.alloc hL2.size (.cells (vec 8 m.up) 92))
  clear HA HO HL hb2 hL2 M
  go_upto_region 2 with (refine store_new (ty := 92) (f' := m.up) rfl rfl rfl rfl zero8 info_exact ?_)
  show Code.wp _ _ _ _ (w2.alloc (.cells (vec 8 m.up) 92))
  generalize w2.alloc (.cells (vec 8 m.up) 92) = W2 at *
  generalize w2.heap.size = gm at *
  go_wp2_with (first | (refine load_row (ty := 92) (g := w.heap.size) rfl rfl rfl HA2.out Try.underlying92 rfl info_exact ?_) | (refine load_row (ty := 92) (g := gm) rfl rfl rfl HM2.out Try.underlying92 rfl info_exact ?_))
  refine (T _).mono ?_; rintro e w3 ⟨rfl, hb3⟩
  have HO3 := Lib.hid ((HO2.out.below hb3).alloc (.cells (vec 8 p.up) 92))
  have HM3 := Lib.hid ((HM2.out.below hb3).alloc (.cells (vec 8 p.up) 92))
  have HP3 := Lib.hid (RowAt.new w3 8 92 p.up)
  have hL3 := below_next HL2.out hb3
  have HL3 := Lib.hid (hL3.alloc hL3.size (.cells (vec 8 p.up) 92))
  clear HA2 HO2 HM2 HL2 hb3 hL3 T
  go_upto_region 3 with (refine store_new (ty := 92) (f' := p.up) rfl rfl rfl rfl zero8 info_exact ?_)
  show Code.wp _ _ _ _ (w3.alloc (.cells (vec 8 p.up) 92))
  generalize w3.alloc (.cells (vec 8 p.up) 92) = W3 at *
  generalize w3.heap.size = gp at *
  go_wp2_with (first | (refine load_row (ty := 92) (g := gm) rfl rfl rfl HM3.out Try.underlying92 rfl info_exact ?_))
  refine (V1 _).mono ?_; rintro e w4 ⟨rfl, hb4⟩
  have HO4 := Lib.hid (HO3.out.below hb4)
  have HP4 := Lib.hid (HP3.out.below hb4)
  have HL4 := Lib.hid (below_next HL3.out hb4)
  clear HO3 HM3 HP3 HL3 hb4 V1
  cases h1 : okv m
  · have HF := Lib.hid (normO_no (a := a) (by rw [hno, h1]; rfl))
    clear hno h1 V2 RE
    go_wp2_with (first | (refine store_row (ty := 108) (g := w.heap.size + 1) rfl rfl rfl (show _ = Value.agg (vec 4 nul) from rfl) HO4.out info_radical ?_))
    refine bodyPost_ret (results_row_tmp rfl rfl HO4.out.setRow Try.underlying108 rfl info_radical) rfl ?_
    rw [HF.out]
    exact ⟨rfl, below_setRow HL4.out (by omega) _⟩
  · cases h2 : okv p
    · have HF := Lib.hid (normO_no (a := a) (by rw [hno, h1, h2]; rfl))
      rw [h2] at V2
      clear hno h1 h2 RE
      go_wp2_with (first | (refine load_row8_on (ty := 92) (g := gp) (by rfl) rfl rfl HP4.out Try.underlying92 rfl info_exact ?_))
      refine (V2 _).mono ?_; rintro e w5 ⟨rfl, hb5⟩
      have HO5 := Lib.hid (HO4.out.below hb5)
      have HL5 := Lib.hid (below_next HL4.out hb5)
      clear HO4 HP4 HL4 hb5 V2
      go_wp2_with (first | (refine store_row (ty := 108) (g := w.heap.size + 1) rfl rfl rfl (show _ = Value.agg (vec 4 nul) from rfl) HO5.out info_radical ?_))
      refine bodyPost_ret (results_row_tmp rfl rfl HO5.out.setRow Try.underlying108 rfl info_radical) rfl ?_
      rw [HF.out]
      exact ⟨rfl, below_setRow HL5.out (by omega) _⟩
    · have hy : nOk a = true := by rw [hno, h1, h2]; rfl
      have HF := Lib.hid (normO_yes hy)
      have RE := RE hy
      rw [h2] at V2
      clear hno h1 h2 hy
      go_wp2_with (first | (refine load_row8_on (ty := 92) (g := gp) (by rfl) rfl rfl HP4.out Try.underlying92 rfl info_exact ?_))
      refine (V2 _).mono ?_; rintro e w5 ⟨rfl, hb5⟩
      have HO5 := Lib.hid (HO4.out.below hb5)
      have HP5 := Lib.hid (HP4.out.below hb5)
      have HL5 := Lib.hid (below_next HL4.out hb5)
      clear HO4 HP4 HL4 hb5 V2
      go_wp2_with (first | (refine load_row (ty := 92) (g := gp) rfl rfl rfl HP5.out Try.underlying92 rfl info_exact ?_))
      refine (RE _).mono ?_; rintro e w6 ⟨rfl, hb6⟩
      have HO6 := Lib.hid (HO5.out.below hb6)
      have HL6 := Lib.hid (below_next HL5.out hb6)
      clear HO5 HP5 HL5 hb6 RE
      go_wp2_with (first | (refine store_row (ty := 108) (g := w.heap.size + 1) rfl rfl rfl rfl HO6.out info_radical ?_))
      refine bodyPost_ret (results_row_tmp rfl rfl HO6.out.setRow Try.underlying108 rfl info_radical) rfl ?_
      rw [HF.out]
      exact ⟨rfl, below_setRow HL6.out (by omega) _⟩

/-- What is told of a list of squares. -/
def ToldN (w : World) (o : Option (List Q4)) (e : Ending) (w' : World) : Prop :=
  Below w.heap.size w w' ∧ ∃ v', e = .returned (.tuple #[v', .bool o.isSome]) ∧ OwnL enc4 4 w' w.heap.size 108 v' (o.getD [])
/-- The squares of a row's sizes, where each has one. -/
def nsO (xs : List V) : Option (List Q4) := if xs.all nOk then some (xs.map nrV) else none
theorem nsO_no {xs : List V} {k : Nat} {c : V} (hc : xs[k]? = some c) (hk : nOk c = false) : nsO xs = none := by
  unfold nsO
  rw [List.all_eq_false.2 ⟨c, List.mem_of_getElem? hc, by rw [hk]; decide⟩]; rfl
theorem nsO_yes {xs : List V} (h : xs.all nOk = true) : nsO xs = some (xs.map nrV) := by unfold nsO; rw [h]; rfl
theorem nAll_take {xs : List V} {k : Nat} {c : V} (h : (xs.take k).all nOk = true) (hc : xs[k]? = some c) (hk : nOk c = true) : (xs.take (k + 1)).all nOk = true := by
  rw [take_nextV hc, List.all_append, h]; simp [hk]
theorem own4_none (w : World) (B T : Nat) : OwnL enc4 4 w B T (.slice none 0 0) ([] : List Q4) := World.ownsRow_nil w B T 4
set_option maxHeartbeats 2000000 in
theorem norms_any (v : Value) (xs : List V) (w : World) (hv : ReadsL encV w v xs) (hn : xs.length ≤ 1000) (hok : xs.all okv = true) : Calls Try.prog 93 #[v] w (ToldN w (nsO xs)) := by
  obtain ⟨p, cap, rfl, hc1, hc2, hp0, hp⟩ := hv
  simp only [maxLen] at hc2
  have HP := Lib.hid hp
  have HOK := Lib.hid hok
  clear hp hok
  go_enter Try.func93, Try.ntmps93
  go_wp2_with (refine makeL (en := enc4) tyN rfl rfl xs.length rfl rfl (by omega) (Below.refl _ w) (Nat.le_refl _) ?_; intro w2 ho1 hb1 hB1)
  go_loopw [4, 6, 7, 8, 14] (fun v' _ _ _ i wr => ∃ k : Nat, k ≤ xs.length ∧ i = .int .i64 k ∧ OwnL enc4 4 wr w.heap.size 108 v' ((xs.take k).map nrV) ∧ (xs.take k).all nOk = true ∧ Below w.heap.size w wr ∧ w.heap.size ≤ wr.heap.size) (fun _ _ _ _ i _ => xs.length - (intOf i).toNat)
  case atStart => exact ⟨0, Nat.zero_le _, rfl, ho1, rfl, hb1, hB1⟩
  case round =>
    clear ho1 hb1 hB1
    obtain ⟨k, hk, rfl, hO, hall, hbel, hB⟩ := hrel
    by_cases hlt : k < xs.length
    · have hkz : (k : Int) < (xs.length : Int) := by omega
      have hk0 : (0 : Int) ≤ (k : Int) := by omega
      obtain ⟨c, hc⟩ : ∃ c, xs[k]? = some c := ⟨_, List.getElem?_eq_getElem hlt⟩
      obtain ⟨g, o, rfl, hg, hr⟩ := HP.out (by rintro rfl; have := hp0 rfl; omega)
      have HE := Lib.hid (cells_part encV_ok (cells_below hr hg hbel) hc)
      have HO := Lib.hid hO
      have HL := Lib.hid hbel
      have HA := Lib.hid hall
      have HB := Lib.hid hB
      have HC := Lib.hid hc
      have hcok : okv c = true := by have := okAll_at HOK.out hlt; rwa [at_some hc] at this
      clear hr hO hbel hall hB hc
      have HW := Lib.hid (RowAt.new wr 8 92 c.up)
      have C := fun w => norm_any c hcok w
      cases h1 : nOk c
      · rw [normO_no h1] at C
        go_wp2_with (first | (refine load_part (T := 92) (f := c.up) rfl rfl rfl HE.out Try.underlying92 rfl info_exact ?_) | (refine store_new (ty := 92) rfl rfl rfl rfl zero8 info_exact ?_) | (refine load_row (ty := 92) (g := wr.heap.size) rfl rfl rfl HW.out Try.underlying92 rfl info_exact ?_))
        refine (C _).mono ?_; rintro e w2 ⟨rfl, hb2⟩
        have HBW := Lib.hid (below_next HL.out (below_next ((Below.refl wr.heap.size wr).alloc (Nat.le_refl _) _) (hb2.alloc hb2.size (.cells (vec 4 nul) 108))))
        clear hb2 C
        go_wp2_with (first | (refine store_new (ty := 108) rfl rfl rfl rfl zero4 info_radical ?_))
        go_ret2
        rw [nsO_no HC.out h1]
        exact ⟨HBW.out, _, rfl, own4_none _ _ _⟩
      · rw [normO_yes h1] at C
        go_wp2_with (first | (refine load_part (T := 92) (f := c.up) rfl rfl rfl HE.out Try.underlying92 rfl info_exact ?_) | (refine store_new (ty := 92) rfl rfl rfl rfl zero8 info_exact ?_) | (refine load_row (ty := 92) (g := wr.heap.size) rfl rfl rfl HW.out Try.underlying92 rfl info_exact ?_))
        refine (C _).mono ?_; rintro e w2 ⟨rfl, hb2⟩
        have HB2 := Lib.hid hb2
        clear hb2 C
        go_upto_region 6 with (first | (refine store_new (ty := 108) (f' := nrV c) rfl rfl rfl rfl zero4 info_radical ?_))
        show Code.wp _ _ _ _ (w2.alloc (.cells (vec 4 (nrV c)) 108))
        have HR3 := Lib.hid (RowAt.new w2 4 108 (nrV c))
        have hb3 : Below wr.heap.size wr (w2.alloc (.cells (vec 4 (nrV c)) 108)) := below_next ((Below.refl _ _).alloc (Nat.le_refl _) _) (HB2.out.alloc HB2.out.size _)
        have HO3 := Lib.hid (rows_below HO.out hb3)
        have HBW := Lib.hid (below_next HL.out hb3)
        have HBS := Lib.hid (Nat.le_trans HB.out hb3.size)
        clear hb3 HB2
        generalize w2.alloc (.cells (vec 4 (nrV c)) 108) = w3 at *
        go_wp2_with (first | (refine load_row (ty := 108) (g := w2.heap.size) rfl rfl rfl HR3.out Try.underlying108 rfl info_radical ?_; clear HR3) | (refine one4 tyN rfl rfl rfl ?_) |
          (refine appendL tyN enc4_ok rfl rfl rfl rfl (xs := (xs.take k).map nrV) (World.ownsRow.alloc HO3.out _) (litL_reads (en := enc4) _ (nrV c) _) (by simp; omega) (HBW.out.alloc HBS.out _) (by simp; have := HBS.out; omega) ?_; intro v2 w4 ho4 hb4 hB4 hgr4))
        go_roundw
        case rel =>
          refine ⟨k + 1, by omega, by go_num, ?_, nAll_take HA.out HC.out h1, hb4, hB4⟩
          rw [take_nextV HC.out, List.map_append]; exact ho4
        case measure => simp [intOf]; omega
    · obtain rfl : k = xs.length := by omega
      have HO := Lib.hid hO
      have HL := Lib.hid hbel
      have HA := Lib.hid hall
      clear hO hbel hall hB
      go_wp2
      go_ret2
      have ha := HA.out
      rw [List.take_length] at ha
      have ho := HO.out
      rw [List.take_length] at ho
      rw [nsO_yes ha]
      exact ⟨HL.out, _, rfl, ho⟩

/-! Their sums. -/
def at4 (fs : List Q4) (k : Nat) : Q4 := (fs[k]?).getD nul
theorem at4_some {fs : List Q4} {k : Nat} {f : Q4} (h : fs[k]? = some f) : at4 fs k = f := by unfold at4; rw [h]; rfl
def surdO (o : Option Q4) : Value := .tuple #[p4 (o.getD nul), .bool o.isSome]
theorem okf_nul : okf nul = true := by decide
set_option maxHeartbeats 2000000 in
theorem sumOf4_any (v : Value) (fs : List Q4) (w : World) (hv : ReadsL enc4 w v fs) (hn : fs.length ≤ 1000) (hall : ∀ f ∈ fs, okf f = true) :
    Calls Try.prog 94 #[v] w fun e w' => e = .returned (surdO (sumS (at4 fs) okf fs.length)) ∧ Below w.heap.size w w' := by
  obtain ⟨p, cap, rfl, hc1, hc2, hp0, hp⟩ := hv
  simp only [maxLen] at hc2
  have HP := Lib.hid hp
  have HBG := Lib.hid hall
  clear hp hall
  generalize hres : sumS (at4 fs) okf fs.length = res
  have HRES := Lib.hid hres
  clear hres
  have H0 := Lib.hid (show RowAt (((w.alloc (.cells (vec 4 nul) 108)).alloc (.cells (vec 4 nul) 108)).alloc (.cells (vec 4 nul) 108)) w.heap.size 4 108 nul from ((RowAt.newAt rfl rfl).alloc _).alloc _)
  have H1 := Lib.hid (show RowAt (((w.alloc (.cells (vec 4 nul) 108)).alloc (.cells (vec 4 nul) 108)).alloc (.cells (vec 4 nul) 108)) (w.heap.size + 1) 4 108 nul from (RowAt.newAt rfl (by simp)).alloc _)
  have H2 := Lib.hid (show RowAt (((w.alloc (.cells (vec 4 nul) 108)).alloc (.cells (vec 4 nul) 108)).alloc (.cells (vec 4 nul) 108)) (w.heap.size + 1 + 1) 4 108 nul from RowAt.newAt rfl (by simp))
  have HL0 := Lib.hid (show Below w.heap.size w (((w.alloc (.cells (vec 4 nul) 108)).alloc (.cells (vec 4 nul) 108)).alloc (.cells (vec 4 nul) 108)) from (((Below.refl _ _).alloc (Nat.le_refl _) _).alloc (by simp) _).alloc (by simp; omega) _)
  go_enter Try.func94, Try.ntmps94
  go_upto_region 2 with fail
  show Code.wp _ _ _ _ (((w.alloc (.cells (vec 4 nul) 108)).alloc (.cells (vec 4 nul) 108)).alloc (.cells (vec 4 nul) 108))
  generalize ((w.alloc (.cells (vec 4 nul) 108)).alloc (.cells (vec 4 nul) 108)).alloc (.cells (vec 4 nul) 108) = W at *
  generalize hbw : w.heap.size = b at *
  go_wp2
  go_loopw [7, 10] (fun _ i wr => ∃ (k : Nat) (s : Q4), k ≤ fs.length ∧ i = .int .i64 k ∧ sumS (at4 fs) okf k = some s ∧ okf s = true ∧ RowAt wr b 4 108 nul ∧ RowAt wr (b + 1) 4 108 nul ∧ RowAt wr (b + 1 + 1) 4 108 s ∧ Below b w wr) (fun _ i _ => fs.length - (intOf i).toNat)
  case atStart => exact ⟨0, nul, Nat.zero_le _, rfl, rfl, okf_nul, H0.out, H1.out, H2.out, HL0.out⟩
  case round =>
    clear H0 H1 H2 HL0
    obtain ⟨k, s, hk, rfl, hs, hsok, h0, h1, h2, hbel⟩ := hrel
    by_cases hlt : k < fs.length
    · have hkz : (k : Int) < (fs.length : Int) := by omega
      have hk0 : (0 : Int) ≤ (k : Int) := by omega
      obtain ⟨c, hc⟩ : ∃ c, fs[k]? = some c := ⟨_, List.getElem?_eq_getElem hlt⟩
      obtain ⟨g, o, rfl, hg, hr⟩ := HP.out (by rintro rfl; have := hp0 rfl; omega)
      have HE := Lib.hid (cells_part enc4_ok (cells_below hr hg hbel) hc)
      have PL := fun w => rplus_at s c hsok (HBG.out c (List.mem_of_getElem? hc)) w
      have VD := fun w => rvalid4 (add s c) w
      have HST : Aside (sumS (at4 fs) okf (k + 1) = if okf (add s c) then some (add s c) else none) := (show _ = _ from by rw [sumS_step hs, at4_some hc])
      have HR := Lib.hid (RowAt.new wr 4 108 c)
      have H0 := Lib.hid (h0.alloc (.cells (vec 4 c) 108))
      have H1 := Lib.hid (h1.alloc (.cells (vec 4 c) 108))
      have H2 := Lib.hid (h2.alloc (.cells (vec 4 c) 108))
      have hbz : b + 1 + 1 < wr.heap.size := h2.lt
      have HL := Lib.hid (hbel.alloc (by omega) (.cells (vec 4 c) 108))
      clear h0 h1 h2 hr hbel hs hc hsok
      go_upto_region 5 with (first | (refine load_four (T := 108) (f := c) rfl rfl rfl HE.out Try.underlying108 rfl info_radical ?_; clear HE) | (refine store_new (ty := 108) rfl rfl rfl rfl zero4 info_radical ?_))
      show Code.wp _ _ _ _ (wr.alloc (.cells (vec 4 c) 108))
      generalize wr.alloc (.cells (vec 4 c) 108) = W2 at *
      generalize wr.heap.size = gr at *
      go_wp2_with (first | (refine load_row (ty := 108) (g := b + 1 + 1) rfl rfl rfl H2.out Try.underlying108 rfl info_radical ?_) | (refine load_row (ty := 108) (g := gr) rfl rfl rfl HR.out Try.underlying108 rfl info_radical ?_))
      refine (PL _).mono ?_; rintro e w3 ⟨rfl, hb3⟩
      have H2' := Lib.hid (H2.out.below hb3)
      have hz3 : b + 1 + 1 < w3.heap.size := H2'.out.lt
      have H0 := Lib.hid ((H0.out.below hb3).rowOther (b + 1 + 1) (vec 4 (add s c)) (by omega))
      have H1 := Lib.hid ((H1.out.below hb3).rowOther (b + 1 + 1) (vec 4 (add s c)) (by omega))
      have H3 := Lib.hid (H2'.out.setRow (f' := add s c))
      have HL := Lib.hid (below_setRow (HL.out.trans (hb3.mono (by have := H2.out.lt; omega))) (by omega : b ≤ b + 1 + 1) (vec 4 (add s c)))
      clear hb3 H2 HR PL
      go_upto_region 6 with (first | (refine store_row (ty := 108) (g := b + 1 + 1) rfl rfl rfl rfl H2'.out info_radical ?_; clear H2'))
      show Code.wp _ _ _ _ (w3.setRow (b + 1 + 1) (vec 4 (add s c)))
      generalize w3.setRow (b + 1 + 1) (vec 4 (add s c)) = W4 at *
      go_wp2_with (first | (refine load_row (ty := 108) (g := b + 1 + 1) rfl rfl rfl H3.out Try.underlying108 rfl info_radical ?_))
      refine (VD _).mono ?_; rintro e w5 ⟨rfl, hb5⟩
      have hz5 : b ≤ W4.heap.size := by have := H3.out.lt; omega
      have H0 := Lib.hid (H0.out.below hb5)
      have H1 := Lib.hid (H1.out.below hb5)
      have H3 := Lib.hid (H3.out.below hb5)
      have HL := Lib.hid (HL.out.trans (hb5.mono hz5))
      clear hb5 VD
      cases hok : okf (add s c)
      · have HF : Aside (res = none) := (show res = none from by
          have h1 := HST.out
          rw [hok] at h1
          rw [← HRES.out]; exact sumS_none h1 (by omega))
        clear HST HRES
        go_wp2_with (first | (refine load_row (ty := 108) (g := b + 1) rfl rfl rfl H1.out Try.underlying108 rfl info_radical ?_) | (refine store_row (ty := 108) (g := b) rfl rfl rfl rfl H0.out info_radical ?_))
        refine bodyPost_ret (results_row_tmp rfl rfl H0.out.setRow Try.underlying108 rfl info_radical) rfl ?_
        rw [HF.out]
        exact ⟨rfl, by rw [hbw]; exact below_setRow HL.out (by omega) _⟩
      · have HST2 : Aside (sumS (at4 fs) okf (k + 1) = some (add s c)) := (show _ = _ from by rw [HST.out, hok]; rfl)
        clear HST
        go_wp2
        go_roundw
        case rel => exact ⟨k + 1, add s c, by omega, by go_num, HST2.out, hok, H0.out, H1.out, H3.out, HL.out⟩
        case measure => simp [intOf]; omega
    · obtain rfl : k = fs.length := by omega
      have HF : Aside (res = some s) := (show res = some s from by rw [← HRES.out]; exact hs)
      have H0 := Lib.hid h0
      have H2 := Lib.hid h2
      have HL := Lib.hid hbel
      clear h0 h1 h2 hbel hs HRES
      go_wp2_with (first | (refine load_row (ty := 108) (g := b + 1 + 1) rfl rfl rfl H2.out Try.underlying108 rfl info_radical ?_) | (refine store_row (ty := 108) (g := b) rfl rfl rfl rfl H0.out info_radical ?_))
      refine bodyPost_ret (results_row_tmp rfl rfl H0.out.setRow Try.underlying108 rfl info_radical) rfl ?_
      rw [HF.out]
      exact ⟨rfl, by rw [hbw]; exact below_setRow HL.out (by omega) _⟩
end Go.Proofs.Ytdgbpdeimckbfaa
