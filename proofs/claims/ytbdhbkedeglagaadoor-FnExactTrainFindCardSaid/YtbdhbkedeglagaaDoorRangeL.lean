/-
  A range over a function's value with variables of its own: the iterator is entered with them behind yield; it gives the elements of a list; a round keeps some blocks.
-/
import Derived.Test.YtbdhbkedeglagaaDoorRoundWp
namespace Go.Proofs.YtbdhbkedeglagaaDoor
set_option maxRecDepth 20000
open Go.ChangeShapes Go.WideShapes Go.ChangeAt Go.RowKit
set_option linter.unusedVariables false
set_option linter.unusedSimpArgs false

section
variable {n : Nat} {P : Program} {α : Type}
/-- The function gf, with the variables bd, hands the elements of xs to yield, one after the other; it reads the blocks gl. -/
def GivesL (n : Nat) (P : Program) (gf : Nat) (bd : Array Value) (en : α → Array Value) (xs : List α) (gl : List Nat) (w : World) : Prop :=
  ∀ (l : Nat) (J Jx : List α → World → Prop) (W : World), Below w.heap.size w W → (∀ pre A C, J pre A → Below A.heap.size A C → J pre C) →
    (∀ pre x A, (∃ rest, xs = pre ++ x :: rest) → J pre A → YieldAt Fence.wide (n - 1) P l (en x) A fun e C => (e = .returned (.bool true) ∧ J (pre ++ [x]) C ∧ ∀ q ∈ gl, C.heap[q]? = A.heap[q]?) ∨ (e = .returned (.bool false) ∧ Jx (pre ++ [x]) C)) →
    J [] W → CallsIn Fence.wide n P gf (#[.func (.yield l) #[] #[]] ++ bd) W fun e C => (∃ v, e = .returned v) ∧ (J xs C ∨ ∃ pre x, (∃ rest, xs = pre ++ x :: rest) ∧ Jx (pre ++ [x]) C)
theorem below_put {B l : Nat} {A : World} {o o' : Obj} (hB : B ≤ l) (h : A.heap[l]? = some o) : Below B A (A.putObj l o') :=
  (Below.refl B A).grown (grownBy_putObj' A l o') (by have := (Array.getElem?_eq_some_iff.1 h).1; omega) (fun k e => by cases e; exact hB)
theorem here_below {A C : World} {l : Nat} {o : Obj} (h : A.heap[l]? = some o) (hb : Below A.heap.size A C) : C.heap[l]? = some o := (hb.block l (Array.getElem?_eq_some_iff.1 h).1).trans h

theorem range_vars {g : Operand} {ps : Array Tmp} {assign body : Code} {Q : Exit → Act → World → Prop} {a : Act} {w : World} {gf : Nat} {bd : Array Value}
    (h1 : 1 ≤ n) (hg : a.eval g = .func (.func gf) #[] bd) (eg : ∀ args w, (callFunc gf args).run P w = .ok (.enter gf args) w)
    {en : α → Array Value} {xs : List α} {gl : List Nat} {w0 : World} (hseq : GivesL (n - 1) P gf bd en xs gl w0) (hb0 : Below w0.heap.size w0 w) (hn0 : ∀ q ∈ gl, q < w.heap.size) (hps : ∀ x, (en x).size = ps.size)
    (I : List α → World → Prop) (Ix : Code → List α → World → Prop) (hI : ∀ pre A C, I pre A → Below w.heap.size A C → I pre C) (hIx : ∀ c pre A C, Ix c pre A → Below w.heap.size A C → Ix c pre C) (h0 : I [] w)
    (Ax : α → Act → World → Prop) (hAx : ∀ x a' A C, Ax x a' A → Below A.heap.size A C → Ax x a' C) (hAl : ∀ x a' A r o, Ax x a' A → A.heap[w.heap.size + 1]? = some (.loop r) → Ax x a' (A.putObj (w.heap.size + 1) o))
    (hassign : ∀ (l : Nat) (x : α) (A : World) (K : Act → World → Prop), w.heap.size + 1 < A.heap.size → (∀ a' C, Below A.heap.size A C → Ax x a' C → K a' C) →
      assign.wpIn (Fence.wide.inRound l) (n - 1 - 1) P (Exit.then K (fun _ _ _ => False)) { tmps := (ps.zip (en x)).foldl (fun t (p, v) => t.setIfInBounds p v) a.tmps, defers := [] } A)
    (hbody : ∀ (l : Nat) (pre : List α) (x : α) (a' : Act) (A : World), (∃ rest, xs = pre ++ x :: rest) → w.heap.size < A.heap.size → I pre A → Ax x a' A → body.wpIn (Fence.wide.inRound l) (n - 1 - 1) P (ownPostG w.heap.size (fun A C => ∀ q ∈ gl, C.heap[q]? = A.heap[q]?) I Ix (pre ++ [x]) A) a' A)
    (hdone : ∀ (D : Nat) (W : World), w.heap.size ≤ D → I xs W → W.heap[D]? = some (.deferred (some [])) → Q .normal { a with defers := { target := .collected D, args := #[] } :: a.defers } W)
    (hstop : ∀ (D : Nat) (c : Code) (pre : List α) (x : α) (W : World), w.heap.size ≤ D → (∃ rest, xs = pre ++ x :: rest) → Ix c (pre ++ [x]) W → W.heap[D]? = some (.deferred (some [])) → c.wpIn Fence.wide n P Q { a with defers := { target := .collected D, args := #[] } :: a.defers } W) :
    (Code.rangeFunc g ps assign body).wpIn Fence.wide n P Q a w := by
  refine wpIn_rangeFunc fun fn hfn => ?_
  obtain ⟨rc, hrc⟩ : ∃ rc : LoopState → Option Code → Loop, rc = fun st pe => { state := st, pending := pe, fn := fn, tmps := a.tmps, params := ps, assign := assign, body := body, defers := w.heap.size } := ⟨_, rfl⟩
  obtain ⟨U, hU⟩ : ∃ U, (w.alloc (.deferred (some []))).alloc (.loop (rc .ready none)) = U := ⟨_, rfl⟩
  have hbU : Below w.heap.size w U := by rw [← hU]; exact ((Below.refl _ w).alloc (Nat.le_refl _) _).alloc (by simp) _
  have hlU : U.heap[w.heap.size + 1]? = some (.loop (rc .ready none)) := by
    have := World.alloc_heap_new (w.alloc (.deferred (some []))) (.loop (rc .ready none))
    rw [World.size_alloc, hU] at this
    exact this
  have hdU : U.heap[w.heap.size]? = some (.deferred (some [])) := by
    rw [← hU]
    exact (Below.heap_alloc _ _ _ (by simp)).trans (World.alloc_heap_new w _)
  refine ⟨w.heap.size + 1, [{ target := .collected w.heap.size, args := #[] }], U, { target := .fn (.func gf) bd, args := #[.func (.yield (w.heap.size + 1)) #[] #[]] }, U, gf, #[.func (.yield (w.heap.size + 1)) #[] #[]] ++ bd, U, ?_, ?_, fun _ _ => trivial, ?_, fun _ => h1, ?_⟩
  · rw [← hU, hrc]; exact run_enterLoop_outer _ _ _ _ _
  · simp only [resolve, hg]
    simp [go_sem]
  · simp [invoke, go_sem, eg]
  · refine (hseq (w.heap.size + 1)
      (fun pre W => I pre W ∧ W.heap[w.heap.size + 1]? = some (.loop (rc .ready none)) ∧ W.heap[w.heap.size]? = some (.deferred (some [])))
      (fun pre W => ∃ c, Ix c pre W ∧ W.heap[w.heap.size + 1]? = some (.loop (rc .done (some c))) ∧ W.heap[w.heap.size]? = some (.deferred (some [])))
      U (hb0.trans (hbU.mono hb0.size)) ?abides ?round ⟨hI _ _ _ h0 hbU, hlU, hdU⟩).mono ?behind
    case abides =>
      rintro pre A C ⟨hi, hl, hd⟩ hb
      have hlt := (Array.getElem?_eq_some_iff.1 hl).1
      exact ⟨hI _ _ _ hi (hb.mono (by omega)), here_below hl hb, here_below hd hb⟩
    case round =>
      rintro pre x A hx ⟨hi, hl, hd⟩
      have hy := run_yield (P := P) (args := en x) hl (by rw [hrc]; exact hps x)
      rw [hrc] at hy
      have hlt := (Array.getElem?_eq_some_iff.1 hl).1
      refine ⟨fn, _, assign, body, hy, roundIn_of_wpIn hfn (hassign _ x A _ hlt fun a' C hAC hax => ?_)⟩
      have hlC := here_below hl hAC
      have hdC := here_below hd hAC
      have hiC := hI _ _ _ hi (hAC.mono (by omega))
      refine ⟨_, run_beginRound hlC (by rw [hrc]), ?_⟩
      obtain ⟨bz, hbz⟩ : ∃ bz : Loop, bz = { rc .ready none with state := .busy } := ⟨_, rfl⟩
      rw [← hbz]
      have hltC := (Array.getElem?_eq_some_iff.1 hlC).1
      have hB1 : Below w.heap.size C (C.putObj (w.heap.size + 1) (.loop bz)) := below_put (by omega) hlC
      have hl1 : (C.putObj (w.heap.size + 1) (.loop bz)).heap[w.heap.size + 1]? = some (.loop bz) := World.putObj_heap_same hltC
      have hd1 : (C.putObj (w.heap.size + 1) (.loop bz)).heap[w.heap.size]? = some (.deferred (some [])) := (World.putObj_heap_other (by omega)).trans hdC
      have hbd := hbody (w.heap.size + 1) pre x a' _ hx (Nat.lt_of_lt_of_le (Nat.lt_of_succ_lt hltC) hB1.size) (hI _ _ _ hiC hB1) (hAl _ _ _ _ (.loop bz) hax hlC)
      generalize C.putObj (w.heap.size + 1) (.loop bz) = D1 at *
      have hAD : ∀ q ∈ gl, D1.heap[q]? = A.heap[q]? := fun q hq => (hB1.block q (hn0 q hq)).trans (hAC.block q (by have := hn0 q hq; omega))
      have fin : ∀ (jump : Option Code) (E : World), KeepsFrom w.heap.size D1 E → (Instr.endRound (w.heap.size + 1) jump).run P E = .ok (.bool jump.isNone) (E.putObj (w.heap.size + 1) (.loop (rc (if jump.isNone then .ready else .done) jump))) ∧
          E.heap[w.heap.size + 1]? = some (.loop bz) ∧ (E.putObj (w.heap.size + 1) (.loop (rc (if jump.isNone then .ready else .done) jump))).heap[w.heap.size + 1]? = some (.loop (rc (if jump.isNone then .ready else .done) jump)) ∧
          (E.putObj (w.heap.size + 1) (.loop (rc (if jump.isNone then .ready else .done) jump))).heap[w.heap.size]? = some (.deferred (some [])) := fun jump E hk => by
        have hlE := hk.same _ _ (by omega) hl1 rfl
        have hdE := hk.same _ _ (Nat.le_refl _) hd1 rfl
        have he := run_endRound (P := P) jump hlE
        rw [hbz, hrc] at he
        refine ⟨by rw [hrc]; exact he, hlE, World.putObj_heap_same (Array.getElem?_eq_some_iff.1 hlE).1, (World.putObj_heap_other (by omega)).trans hdE⟩
      refine wpIn_mono hbd ?_
      rintro e a3 E hp
      cases e with
      | normal =>
        obtain ⟨hk, hb3, hi3⟩ := hp
        obtain ⟨hr, hl3, hl4, hd4⟩ := fin none E hk
        exact ⟨_, _, hr, .inl ⟨rfl, ⟨hI _ _ _ hi3 (below_put (by omega) hl3), hl4, hd4⟩, fun q hq => ((below_put (B := w.heap.size) (by omega) hl3).block q (hn0 q hq)).trans ((hb3 q hq).trans (hAD q hq))⟩⟩
      | ret =>
        obtain ⟨hk, hi3⟩ := hp
        obtain ⟨hr, hl3, hl4, hd4⟩ := fin (some .ret) E hk
        exact ⟨_, _, hr, .inr ⟨rfl, .ret, hIx _ _ _ _ hi3 (below_put (by omega) hl3), hl4, hd4⟩⟩
      | exit id =>
        obtain ⟨hk, hi3⟩ := hp
        obtain ⟨hr, hl3, hl4, hd4⟩ := fin (some (.exit id)) E hk
        exact ⟨_, _, hr, .inr ⟨rfl, .exit id, hIx _ _ _ _ hi3 (below_put (by omega) hl3), hl4, hd4⟩⟩
      | goto t =>
        obtain ⟨hk, hi3⟩ := hp
        obtain ⟨hr, hl3, hl4, hd4⟩ := fin (some (.goto t)) E hk
        exact ⟨_, _, hr, .inr ⟨rfl, .goto t, hIx _ _ _ _ hi3 (below_put (by omega) hl3), hl4, hd4⟩⟩
      | panic ch => exact hp.elim
      | outgrown => exact hp.elim
    case behind =>
      rintro e E ⟨⟨v, rfl⟩, (⟨hi, hl, hd⟩ | ⟨pre, x, hx, c, hi, hl, hd⟩)⟩
      · have he := run_endLoop (P := P) hl (by rw [hrc]; simp)
        rw [hrc] at he
        exact ⟨none, _, he, hdone _ _ (Nat.le_refl _) (hI _ _ _ hi (below_put (by omega) hl)) ((World.putObj_heap_other (by omega)).trans hd)⟩
      · have he := run_endLoop (P := P) hl (by rw [hrc]; simp)
        rw [hrc] at he
        exact ⟨some c, _, he, hstop _ c pre x _ (Nat.le_refl _) hx (hIx _ _ _ _ hi (below_put (by omega) hl)) ((World.putObj_heap_other (by omega)).trans hd)⟩
end
end Go.Proofs.YtbdhbkedeglagaaDoor
