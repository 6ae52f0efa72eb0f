/-
  spec's grid points; impl's moves of a path.
  impl: the moves of a path.
  Both sides: the moves of a path, told.
  Both sides: which lists are moves; their lengths.
-/
import Derived.Test.YtpbppgaohfgpbaaM26
import Derived.Test.YtpbppgaohfgpbaaM22
import Derived.Maps.AppendAt
/- spec's grid points; impl's moves of a path. -/
namespace Go.Proofs.Ytpbppgaohfgpbaa
set_option maxRecDepth 20000
open Go.ChangeShapes Go.WideShapes Go.ChangeAt Go.RowKit
set_option linter.unusedVariables false
set_option linter.unusedSimpArgs false

/-! ### Lists of moves -/
theorem litM (w : World) (m : Mv) (T : Nat) : ReadsL encM (w.alloc (.cells #[.int .i64 m.1, .int .i64 m.2] T)) (.slice (some ⟨w.heap.size, 0, none⟩) 1 1) [m] := litL_reads (en := encM) w m T
theorem ownM_none (w : World) (B T : Nat) : OwnL encM 2 w B T (.slice none 0 0) ([] : List Mv) := World.ownsRow_nil w B T 2
theorem ownM_nil (w : World) (B T : Nat) (hB : B ≤ w.heap.size) : OwnL encM 2 (w.alloc (.cells #[] T)) B T (.slice (some ⟨w.heap.size, 0, none⟩) 0 0) ([] : List Mv) := World.ownsRow_made w #[] 0 hB (by simp [maxLen]) (by simp)
/-! ### Parts of paths joined -/
end Go.Proofs.Ytpbppgaohfgpbaa
/- impl: the moves of a path. -/
namespace Go.Proofs.Ytpbppgaohfgpbaa
set_option maxRecDepth 20000
open Go.ChangeShapes Go.WideShapes Go.ChangeAt Go.RowKit
set_option linter.unusedVariables false
set_option linter.unusedSimpArgs false

def startsL (xs : List Pn) : List Pn := (0, 0) :: xs.take (xs.length - 1)
/-! ### Moves from point to point -/
def prevP (xs : List Pn) (k : Nat) : Pn := ((0, 0) :: xs).getD k (0, 0)
def movesL (g : Nat) (xs : List Pn) : List Mv := List.zipWith (fun a z => subM (gpt g a) (gpt g z)) xs (startsL xs)
theorem starts_len {xs : List Pn} (h : 1 ≤ xs.length) : (startsL xs).length = xs.length := by unfold startsL; rw [List.length_cons, List.length_take]; omega
theorem starts_at {xs : List Pn} {k : Nat} (h : k < xs.length) : (startsL xs)[k]? = some (prevP xs k) := by
  unfold startsL prevP
  cases k with
  | zero => rfl
  | succ k =>
    rw [List.getElem?_cons_succ, List.getElem?_take, if_pos (by omega)]
    rw [List.getD_eq_getElem?_getD, List.getElem?_cons_succ, List.getElem?_eq_getElem (by omega)]; rfl
theorem prev_next {xs : List Pn} {k : Nat} {a : Pn} (h : xs[k]? = some a) : prevP xs (k + 1) = a := by
  unfold prevP
  rw [List.getD_eq_getElem?_getD, List.getElem?_cons_succ, h]; rfl
theorem prev_zero (xs : List Pn) : prevP xs 0 = (0, 0) := rfl
theorem moves_len {g : Nat} {xs : List Pn} (h : 1 ≤ xs.length) : (movesL g xs).length = xs.length := by
  unfold movesL; rw [List.length_zipWith, starts_len h]; omega
theorem moves_at {g k : Nat} {xs : List Pn} {a : Pn} (h : xs[k]? = some a) : (movesL g xs)[k]? = some (subM (gpt g a) (gpt g (prevP xs k))) := by
  unfold movesL
  rw [List.getElem?_zipWith, h, starts_at (List.getElem?_eq_some_iff.1 h).1]
theorem moves_next {g k : Nat} {xs : List Pn} {a : Pn} (h : xs[k]? = some a) : (movesL g xs).take (k + 1) = (movesL g xs).take k ++ [subM (gpt g a) (gpt g (prevP xs k))] := take_nextL (moves_at h)
theorem ptR_zero : ptR (0, 0) = true := by
  have h := fs_fin fs_zero
  have : inR 0 = true := by unfold inR; rw [h.1, h.2.2]; simp
  unfold ptR; rw [this]; rfl
theorem prev_in {xs : List Pn} {k : Nat} (h : ∀ a ∈ xs, ptR a = true) (hk : k ≤ xs.length) : ptR (prevP xs k) = true := by
  cases k with
  | zero => exact ptR_zero
  | succ k =>
    obtain ⟨a, ha⟩ : ∃ a, xs[k]? = some a := ⟨_, List.getElem?_eq_getElem (by omega)⟩
    rw [prev_next ha]
    exact h a (List.mem_of_getElem? ha)
theorem gpt_in {a : Pn} {g : Nat} (h : ptR a = true) (hg : g ≤ 8) : (-4194305 ≤ (gpt g a).1 ∧ (gpt g a).1 ≤ 4194305) ∧ (-4194305 ≤ (gpt g a).2 ∧ (gpt g a).2 ≤ 4194305) := by
  obtain ⟨u, y, Y, Z, -, -, i, -, -, -, -, -, -, -, -, -, -, -, h1⟩ := units_words (ptR_parts h).1 hg
  obtain ⟨u, y, Y, Z, -, -, i, -, -, -, -, -, -, -, -, -, -, -, h2⟩ := units_words (ptR_parts h).2 hg
  exact ⟨h1, h2⟩
end Go.Proofs.Ytpbppgaohfgpbaa
/- Both sides: the moves of a path, told. -/
namespace Go.Proofs.Ytpbppgaohfgpbaa
set_option maxRecDepth 20000
open Go.ChangeShapes Go.WideShapes Go.ChangeAt Go.RowKit
set_option linter.unusedVariables false
set_option linter.unusedSimpArgs false

/-- The moves that are told. -/
def pmO (xs : List Pn) (g : Int) : Option (List Mv) := if pvB xs && grB g then some (movesL g.toNat xs) else none
theorem pmO_1 {xs : List Pn} {g : Int} (h : pvB xs = false) : pmO xs g = none := by unfold pmO; rw [h]; rfl
theorem pmO_2 {xs : List Pn} {g : Int} (h : grB g = false) : pmO xs g = none := by unfold pmO; rw [h, Bool.and_false]; rfl
theorem pmO_yes {xs : List Pn} {n : Nat} (h : pvB xs = true) (h2 : grB n = true) : pmO xs n = some (movesL n xs) := by unfold pmO; rw [h, h2]; rfl
/-! ### Appending, and where the list lies then -/
section
variable {α : Type} {en : α → List Value} {K : Nat} {P : Program} {t e : TypeId} {ops : Array Oper} {rest : List Oper} {o : Oper} {a : Act} {Q : Exit → Act → World → Prop} {w0 w : World} {B : Nat}
theorem append_atL (ty : TyL P t e K) (E : Enc en K) (hgd : o.guard = none) {s x : Operand} (hop : o.op = .call { callee := .builtin .append, args := #[s, x], argTypes := #[t, t] })
    {v : Value} {xs ys : List α} {g2 o2 c : Nat} (hs : a.eval s = v) (hx : a.eval x = .slice (some ⟨g2, o2, none⟩) ys.length c) (hown : OwnL en K w B e v xs) (hr : w.rangeAt g2 o2 (flt en ys)) (hlen : xs.length + ys.length ≤ 1000000000) (hb : Below B w0 w) (hB : B ≤ w.heap.size)
    (h : ∀ v' w', OwnL en K w' B e v' (xs ++ ys) → Below B w0 w' → B ≤ w'.heap.size → w.grownBy w' v.ownBlock → (v'.ownBlock = v.ownBlock ∨ v'.ownBlock = some w.heap.size) → wpList P ops Q rest (a.put o.dst v') w') : wpList P ops Q (o :: rest) a w := by
  refine wpList_plain hgd fun k hK => ?_
  obtain ⟨i, z, hi, hz, hsz, hby, hzs⟩ := ty.inf
  have hby' : (xs.length + ys.length) * i.bytes ≤ 140737488355328 := by
    have := Nat.mul_le_mul hlen hby
    omega
  obtain ⟨v', w', hr1, ho, hgr, -, hat⟩ := run_append_own_at (P := P) w B t o.type e i z K i.bytes ty.sl hi hz hsz rfl hzs E.pos v xs.length (flt en xs) hown ⟨g2, o2, none⟩ ys.length c (flt en ys) (flt_length E ys)
    (fun j u hu => by rw [Addr.add_mid]; exact hr j u hu) (flt_oneCell E ys) (by simp only [maxLen]; omega) hby' hB
  unfold Oper.wp execOp
  simp only [hop, resolve, invoke, builtin, Sem.run_bind, Sem.run_pure, Result.andThen_ok, List.map_toArray, List.map_cons, List.map_nil, hs, hx, hr1]
  rw [← flt_append] at ho
  rw [← List.length_append] at ho
  exact hK _ _ (h v' w' ho (hb.grown hgr hB fun k hk => (hown.lt k hk).1) (Nat.le_trans hB hgr.size) hgr hat)
end
theorem own_setRow_ne {w : World} {B T n K gx : Nat} {v : Value} {cs : List Value} (h : w.ownsRow B T K v n cs) (hne : v.ownBlock ≠ some gx) (xs : Array Value) : (w.setRow gx xs).ownsRow B T K v n cs := by
  refine ⟨h.1, ?_⟩
  rcases h.2 with h0 | ⟨g, cap, cur, rfl, hB, hg, rest⟩
  · exact .inl h0
  · exact .inr ⟨g, cap, cur, rfl, hB, (setRow_other _ _ _ _ (fun e => hne (by rw [← e]; rfl))).trans hg, rest⟩
/-! ### spec's -/
def mfn (m : Mv) : Nat → Int := fun j => if j = 0 then m.1 else m.2
theorem mv_vec (m : Mv) : mvV m = .agg (vec 2 (mfn m)) := rfl
theorem unI_zero {g : Nat} : unI g 0 = 0 := by
  unfold unI
  rw [Int.zero_mul, Int.zero_add]
  have e : (2 : Int) ^ (loS - 1) = sgnd false (1 * 2 ^ (loS - 1)) := by rw [Nat.one_mul]; exact (cast_powI _).symm
  rw [e, rnd_exact (by decide), ← e]
  refine Int.ediv_eq_zero_of_lt (Int.le_of_lt (two_powI _)) ?_
  rw [← cast_powI, ← cast_powI, half_lo]
  have := Nat.two_pow_pos (loS - 1)
  omega
theorem iv_zero : ivS 0 = 0 := by rw [fs_iv fs_zero]; rfl
theorem gpt_zero (g : Nat) : gpt g (0, 0) = (0, 0) := by unfold gpt; simp only; rw [iv_zero, unI_zero]
end Go.Proofs.Ytpbppgaohfgpbaa
/- Both sides: which lists are moves; their lengths. -/
namespace Go.Proofs.Ytpbppgaohfgpbaa
set_option maxRecDepth 20000
open Go.ChangeShapes Go.WideShapes Go.ChangeAt Go.RowKit
set_option linter.unusedVariables false
set_option linter.unusedSimpArgs false

theorem mv_cells {w : World} {g o k : Nat} {xs : List Mv} {m : Mv} (h : w.rangeAt g o (flt encM xs)) (hx : xs[k]? = some m) : w.cell? ⟨g, o + k * 2, none⟩ = some (.int .i64 m.1) ∧ w.cell? ⟨g, o + k * 2 + 1, none⟩ = some (.int .i64 m.2) :=
  ⟨cells_part encM_ok h hx 0 _ rfl, cells_part encM_ok h hx 1 _ rfl⟩
theorem specIn_move (n : Int) (w : World) : Calls Try.prog 41 #[.int .i64 n, .int .i64 (-10000000), .int .i64 10000000] w fun e w' => e = .returned (.bool (okN n)) ∧ w = w' := by
  unfold okN
  by_cases h : -10000000 ≤ n ∧ n ≤ 10000000
  · rw [decide_eq_true h]; exact in_yes n _ _ h.1 h.2 w
  · rw [decide_eq_false h]; exact in_no n _ _ (by omega) w
end Go.Proofs.Ytpbppgaohfgpbaa
