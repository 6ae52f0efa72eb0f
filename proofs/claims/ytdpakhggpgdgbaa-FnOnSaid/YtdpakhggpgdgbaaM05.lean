/-
  A range over a method's value: the iterator is entered with what the value has bound ahead of yield; it gives the elements of a list.
  Three closed facts on the seat's program whose plain reckoning takes more memory than there is: they read the words of a long text letter by letter. Here the text is taken as a list first.
  The reader of a law's code: opening it and picking a number.
-/
import Derived.Test.YtdpakhggpgdgbaaM04
import Derived.Test.YtdpakhggpgdgbaaM00
import Derived.Test.YtdpakhggpgdgbaaM01
import Derived.OwnWalk
import Derived.Laws.AppendOwn
import Derived.Laws.OwnMore
import Derived.Laws.BitsAllLaws
import Derived.Laws.BitsLemmas
import Derived.Deep.WholeRow
import Derived.Deep.RegionWith
/- A range over a method's value: the iterator is entered with what the value has bound ahead of yield; it gives the elements of a list. -/
namespace Go.Proofs.Ytdpakhggpgdgbaa
set_option maxRecDepth 20000
open Go.ChangeShapes Go.WideShapes Go.ChangeAt Go.RowKit
set_option linter.unusedVariables false
set_option linter.unusedSimpArgs false

section
variable {n : Nat} {P : Program} {α : Type}
/-- The function gf, with bd bound, hands the elements of xs to yield, one after the other; it reads block gl. -/
def GivesB (n : Nat) (P : Program) (gf : Nat) (bd : Array Value) (en : α → Array Value) (xs : List α) (gl : Nat) (w : World) : Prop :=
  ∀ (l : Nat) (J Jx : List α → World → Prop) (W : World), Below w.heap.size w W → (∀ pre A C, J pre A → Below A.heap.size A C → J pre C) →
    (∀ pre x A, (∃ rest, xs = pre ++ x :: rest) → J pre A → YieldAt Fence.wide (n - 1) P l (en x) A fun e C => (e = .returned (.bool true) ∧ J (pre ++ [x]) C ∧ C.heap[gl]? = A.heap[gl]?) ∨ (e = .returned (.bool false) ∧ Jx (pre ++ [x]) C)) →
    J [] W → CallsIn Fence.wide n P gf (bd ++ #[.func (.yield l) #[] #[]]) W fun e C => (∃ v, e = .returned v) ∧ (J xs C ∨ ∃ pre x, (∃ rest, xs = pre ++ x :: rest) ∧ Jx (pre ++ [x]) C)
theorem below_put {B l : Nat} {A : World} {o o' : Obj} (hB : B ≤ l) (h : A.heap[l]? = some o) : Below B A (A.putObj l o') :=
  (Below.refl B A).grown (grownBy_putObj' A l o') (by have := (Array.getElem?_eq_some_iff.1 h).1; omega) (fun k e => by cases e; exact hB)
theorem here_below {A C : World} {l : Nat} {o : Obj} (h : A.heap[l]? = some o) (hb : Below A.heap.size A C) : C.heap[l]? = some o := (hb.block l (Array.getElem?_eq_some_iff.1 h).1).trans h

theorem range_bound {g : Operand} {ps : Array Tmp} {assign body : Code} {Q : Exit → Act → World → Prop} {a : Act} {w : World} {gf : Nat} {bd : Array Value}
    (h1 : 1 ≤ n) (hg : a.eval g = .func (.func gf) bd #[]) (eg : ∀ args w, (callFunc gf args).run P w = .ok (.enter gf args) w)
    {en : α → Array Value} {xs : List α} {gl : Nat} {w0 : World} (hseq : GivesB (n - 1) P gf bd en xs gl w0) (hb0 : Below w0.heap.size w0 w) (hn0 : gl < w.heap.size) (hps : ∀ x, (en x).size = ps.size)
    (I : List α → World → Prop) (Ix : Code → List α → World → Prop) (hI : ∀ pre A C, I pre A → Below w.heap.size A C → I pre C) (hIx : ∀ c pre A C, Ix c pre A → Below w.heap.size A C → Ix c pre C) (h0 : I [] w)
    (Ax : α → Act → World → Prop) (hAx : ∀ x a' A C, Ax x a' A → Below A.heap.size A C → Ax x a' C) (hAl : ∀ x a' A r o, Ax x a' A → A.heap[w.heap.size + 1]? = some (.loop r) → Ax x a' (A.putObj (w.heap.size + 1) o))
    (hassign : ∀ (l : Nat) (x : α) (A : World) (K : Act → World → Prop), w.heap.size + 1 < A.heap.size → (∀ a' C, Below A.heap.size A C → Ax x a' C → K a' C) →
      assign.wpIn (Fence.wide.inRound l) (n - 1 - 1) P (Exit.then K (fun _ _ _ => False)) { tmps := (ps.zip (en x)).foldl (fun t (p, v) => t.setIfInBounds p v) a.tmps, defers := [] } A)
    (hbody : ∀ (l : Nat) (pre : List α) (x : α) (a' : Act) (A : World), (∃ rest, xs = pre ++ x :: rest) → w.heap.size < A.heap.size → I pre A → Ax x a' A → body.wpIn (Fence.wide.inRound l) (n - 1 - 1) P (ownPostG w.heap.size (fun A C => C.heap[gl]? = A.heap[gl]?) I Ix (pre ++ [x]) A) a' A)
    (hdone : ∀ (D : Nat) (W : World), w.heap.size ≤ D → I xs W → W.heap[D]? = some (.deferred (some [])) → Q .normal { a with defers := { target := .collected D, args := #[] } :: a.defers } W)
    (hstop : ∀ (D : Nat) (c : Code) (pre : List α) (x : α) (W : World), w.heap.size ≤ D → (∃ rest, xs = pre ++ x :: rest) → Ix c (pre ++ [x]) W → W.heap[D]? = some (.deferred (some [])) → c.wpIn Fence.wide n P Q { a with defers := { target := .collected D, args := #[] } :: a.defers } W) :
    (Code.rangeFunc g ps assign body).wpIn Fence.wide n P Q a w := by
  refine wpIn_rangeFunc fun fn hfn => ?_
  obtain ⟨rc, hrc⟩ : ∃ rc : LoopState → Option Code → Loop, rc = fun st pe => { state := st, pending := pe, fn := fn, tmps := a.tmps, params := ps, assign := assign, body := body, defers := w.heap.size } := ⟨_, rfl⟩
  obtain ⟨U, hU⟩ : ∃ U, (w.alloc (.deferred (some []))).alloc (.loop (rc .ready none)) = U := ⟨_, rfl⟩
  have hbU : Below w.heap.size w U := by rw [← hU]; exact ((Below.refl _ w).alloc (Nat.le_refl _) _).alloc (by simp) _
  have hlU : U.heap[w.heap.size + 1]? = some (.loop (rc .ready none)) := by
    have := World.alloc_heap_new (w.alloc (.deferred (some []))) (.loop (rc .ready none))
    rw [World.size_alloc, hU] at this
    exact this
  have hdU : U.heap[w.heap.size]? = some (.deferred (some [])) := by
    rw [← hU]
    exact (Below.heap_alloc _ _ _ (by simp)).trans (World.alloc_heap_new w _)
  refine ⟨w.heap.size + 1, [{ target := .collected w.heap.size, args := #[] }], U, { target := .fn (.func gf) #[], args := bd ++ #[.func (.yield (w.heap.size + 1)) #[] #[]] }, U, gf, bd ++ #[.func (.yield (w.heap.size + 1)) #[] #[]], U, ?_, ?_, fun _ _ => trivial, ?_, fun _ => h1, ?_⟩
  · rw [← hU, hrc]; exact run_enterLoop_outer _ _ _ _ _
  · simp only [resolve, hg]
    simp [go_sem]
  · simp [invoke, go_sem, eg]
  · refine (hseq (w.heap.size + 1)
      (fun pre W => I pre W ∧ W.heap[w.heap.size + 1]? = some (.loop (rc .ready none)) ∧ W.heap[w.heap.size]? = some (.deferred (some [])))
      (fun pre W => ∃ c, Ix c pre W ∧ W.heap[w.heap.size + 1]? = some (.loop (rc .done (some c))) ∧ W.heap[w.heap.size]? = some (.deferred (some [])))
      U (hb0.trans (hbU.mono hb0.size)) ?abides ?round ⟨hI _ _ _ h0 hbU, hlU, hdU⟩).mono ?behind
    case abides =>
      rintro pre A C ⟨hi, hl, hd⟩ hb
      have hlt := (Array.getElem?_eq_some_iff.1 hl).1
      exact ⟨hI _ _ _ hi (hb.mono (by omega)), here_below hl hb, here_below hd hb⟩
    case round =>
      rintro pre x A hx ⟨hi, hl, hd⟩
      have hy := run_yield (P := P) (args := en x) hl (by rw [hrc]; exact hps x)
      rw [hrc] at hy
      have hlt := (Array.getElem?_eq_some_iff.1 hl).1
      refine ⟨fn, _, assign, body, hy, roundIn_of_wpIn hfn (hassign _ x A _ hlt fun a' C hAC hax => ?_)⟩
      have hlC := here_below hl hAC
      have hdC := here_below hd hAC
      have hiC := hI _ _ _ hi (hAC.mono (by omega))
      refine ⟨_, run_beginRound hlC (by rw [hrc]), ?_⟩
      obtain ⟨bz, hbz⟩ : ∃ bz : Loop, bz = { rc .ready none with state := .busy } := ⟨_, rfl⟩
      rw [← hbz]
      have hltC := (Array.getElem?_eq_some_iff.1 hlC).1
      have hB1 : Below w.heap.size C (C.putObj (w.heap.size + 1) (.loop bz)) := below_put (by omega) hlC
      have hl1 : (C.putObj (w.heap.size + 1) (.loop bz)).heap[w.heap.size + 1]? = some (.loop bz) := World.putObj_heap_same hltC
      have hd1 : (C.putObj (w.heap.size + 1) (.loop bz)).heap[w.heap.size]? = some (.deferred (some [])) := (World.putObj_heap_other (by omega)).trans hdC
      have hbd := hbody (w.heap.size + 1) pre x a' _ hx (Nat.lt_of_lt_of_le (Nat.lt_of_succ_lt hltC) hB1.size) (hI _ _ _ hiC hB1) (hAl _ _ _ _ (.loop bz) hax hlC)
      generalize C.putObj (w.heap.size + 1) (.loop bz) = D1 at *
      have hAD : D1.heap[gl]? = A.heap[gl]? := (hB1.block gl hn0).trans (hAC.block gl (by omega))
      have fin : ∀ (jump : Option Code) (E : World), KeepsFrom w.heap.size D1 E → (Instr.endRound (w.heap.size + 1) jump).run P E = .ok (.bool jump.isNone) (E.putObj (w.heap.size + 1) (.loop (rc (if jump.isNone then .ready else .done) jump))) ∧
          E.heap[w.heap.size + 1]? = some (.loop bz) ∧ (E.putObj (w.heap.size + 1) (.loop (rc (if jump.isNone then .ready else .done) jump))).heap[w.heap.size + 1]? = some (.loop (rc (if jump.isNone then .ready else .done) jump)) ∧
          (E.putObj (w.heap.size + 1) (.loop (rc (if jump.isNone then .ready else .done) jump))).heap[w.heap.size]? = some (.deferred (some [])) := fun jump E hk => by
        have hlE := hk.same _ _ (by omega) hl1 rfl
        have hdE := hk.same _ _ (Nat.le_refl _) hd1 rfl
        have he := run_endRound (P := P) jump hlE
        rw [hbz, hrc] at he
        refine ⟨by rw [hrc]; exact he, hlE, World.putObj_heap_same (Array.getElem?_eq_some_iff.1 hlE).1, (World.putObj_heap_other (by omega)).trans hdE⟩
      refine wpIn_mono hbd ?_
      rintro e a3 E hp
      cases e with
      | normal =>
        obtain ⟨hk, hb3, hi3⟩ := hp
        obtain ⟨hr, hl3, hl4, hd4⟩ := fin none E hk
        exact ⟨_, _, hr, .inl ⟨rfl, ⟨hI _ _ _ hi3 (below_put (by omega) hl3), hl4, hd4⟩, ((below_put (B := w.heap.size) (by omega) hl3).block gl hn0).trans (hb3.trans hAD)⟩⟩
      | ret =>
        obtain ⟨hk, hi3⟩ := hp
        obtain ⟨hr, hl3, hl4, hd4⟩ := fin (some .ret) E hk
        exact ⟨_, _, hr, .inr ⟨rfl, .ret, hIx _ _ _ _ hi3 (below_put (by omega) hl3), hl4, hd4⟩⟩
      | exit id =>
        obtain ⟨hk, hi3⟩ := hp
        obtain ⟨hr, hl3, hl4, hd4⟩ := fin (some (.exit id)) E hk
        exact ⟨_, _, hr, .inr ⟨rfl, .exit id, hIx _ _ _ _ hi3 (below_put (by omega) hl3), hl4, hd4⟩⟩
      | goto t =>
        obtain ⟨hk, hi3⟩ := hp
        obtain ⟨hr, hl3, hl4, hd4⟩ := fin (some (.goto t)) E hk
        exact ⟨_, _, hr, .inr ⟨rfl, .goto t, hIx _ _ _ _ hi3 (below_put (by omega) hl3), hl4, hd4⟩⟩
      | panic ch => exact hp.elim
      | outgrown => exact hp.elim
    case behind =>
      rintro e E ⟨⟨v, rfl⟩, (⟨hi, hl, hd⟩ | ⟨pre, x, hx, c, hi, hl, hd⟩)⟩
      · have he := run_endLoop (P := P) hl (by rw [hrc]; simp)
        rw [hrc] at he
        exact ⟨none, _, he, hdone _ _ (Nat.le_refl _) (hI _ _ _ hi (below_put (by omega) hl)) ((World.putObj_heap_other (by omega)).trans hd)⟩
      · have he := run_endLoop (P := P) hl (by rw [hrc]; simp)
        rw [hrc] at he
        exact ⟨some c, _, he, hstop _ c pre x _ (Nat.le_refl _) hx (hIx _ _ _ _ hi (below_put (by omega) hl)) ((World.putObj_heap_other (by omega)).trans hd)⟩
end
end Go.Proofs.Ytdpakhggpgdgbaa
/- Three closed facts on the seat's program whose plain reckoning takes more memory than there is: they read the words of a long text letter by letter. Here the text is taken as a list first. -/
namespace Go.Proofs.Ytdpakhggpgdgbaa
open Go.ChangeShapes Go.WideShapes Go.ChangeAt Go.RowKit
set_option maxRecDepth 100000
set_option linter.unusedVariables false
set_option linter.unusedSimpArgs false

section
variable {P : Program} {rest : List (List Char)}
theorem make_of (hw : behindMainWord (wordsSigns P.initOrder.toList) = "cut".toList :: rest) : P.make = some .cut := by
  unfold Program.make
  rw [hw]
  rfl
theorem no_lifts : stripLifts liftWords ("cut".toList :: rest) = ([], "cut".toList :: rest) := by rfl
theorem lifts_of (hw : behindMainWord (wordsSigns P.initOrder.toList) = "cut".toList :: rest) : P.liftsFinal = false := by
  unfold Program.liftsFinal Program.headLifts
  rw [hw, no_lifts]
  cases rest <;> rfl
theorem may_of (hw : behindMainWord (wordsSigns P.initOrder.toList) = "cut".toList :: rest) (h1 : P.laysLater = false) (h2 : P.bearsReflect = false) (h3 : P.doorFits [] = true) : P.mayEnter = true := by
  unfold Program.mayEnter
  rw [hw]
  show (_ || _ || _) = true
  rw [no_lifts, h1, h2, h3]
  cases rest <;> rfl
end
def signs : { l : List Char // Try.prog.initOrder = String.ofList l } := ⟨_, rfl⟩
theorem signs_are : Try.prog.initOrder.toList = signs.1 := (congrArg String.toList signs.2).trans String.toList_ofList
theorem words_are : behindMainWord (wordsSigns Try.prog.initOrder.toList) = "cut".toList :: (behindMainWord (wordsSigns signs.1)).tail :=
  (congrArg (fun l => behindMainWord (wordsSigns l)) signs_are).trans (by kernel_rfl)
theorem make_is : Try.prog.make = some .cut := make_of words_are
theorem lifts_is : Try.prog.liftsFinal = false := lifts_of words_are
theorem lays_no : Try.prog.laysLater = false := by kernel_rfl
theorem bears_no : Try.prog.bearsReflect = false := by kernel_rfl
theorem door_yes : Try.prog.doorFits [] = true := by kernel_rfl
theorem may_is : Try.prog.mayEnter = true := may_of words_are lays_no bears_no door_yes
end Go.Proofs.Ytdpakhggpgdgbaa
/- The reader of a law's code: opening it and picking a number. -/
namespace Go.Proofs.Ytdpakhggpgdgbaa
set_option maxRecDepth 20000
open Go.ChangeShapes Go.WideShapes Go.ChangeAt Go.RowKit
set_option linter.unusedVariables false
set_option linter.unusedSimpArgs false

/-- What the reader's bytes are, apart from the reader's own block. -/
def BytesBut (w : World) (R : Nat) (v : Value) : Prop :=
  (∃ a, v = .slice a 0 0) ∨ ∃ (b off len cap : Nat) (zs : List Int), v = .slice (some ⟨b, off, none⟩) len cap ∧ b < R ∧ len ≤ 2000 ∧
    (∀ i, i < len → w.cell? ⟨b, off + i, none⟩ = some (.int .u8 (zs.getD i 0))) ∧ (∀ i, 0 ≤ zs.getD i 0 ∧ zs.getD i 0 ≤ 255)
/-- A reader lies in block R and has picked p times. -/
def Rd (w : World) (R p : Nat) : Prop := ∃ v, w.heap[R]? = some (.cells #[v, .int .i64 p] 106 (0, 0)) ∧ BytesBut w R v

theorem Rd.lt {w : World} {R p : Nat} (h : Rd w R p) : R < w.heap.size := by
  obtain ⟨v, h, _⟩ := h
  exact Nat.lt_of_not_le fun hle => by rw [Array.getElem?_eq_none hle] at h; cases h

section
variable {w : World} {R : Nat} {v u : Value} {T : TypeId}
theorem two_fst (h : w.heap[R]? = some (.cells #[v, u] T (0, 0))) : w.cell? ⟨R, 0, none⟩ = some v := by simp [World.cell?, h]
theorem two_snd (h : w.heap[R]? = some (.cells #[v, u] T (0, 0))) : w.cell? ⟨R, 1, none⟩ = some u := by simp [World.cell?, h]
theorem two_free (h : w.heap[R]? = some (.cells #[v, u] T (0, 0))) (j : Nat) : w.frozen? ⟨R, j, none⟩ = false := by simp [World.frozen?, h]
theorem two_set (h : w.heap[R]? = some (.cells #[v, u] T (0, 0))) (x : Value) : (w.setCell ⟨R, 1, none⟩ x).heap[R]? = some (.cells #[v, x] T (0, 0)) := by
  have hlt : R < w.heap.size := Nat.lt_of_not_le fun hle => by rw [Array.getElem?_eq_none hle] at h; cases h
  simp [World.setCell, Array.getElem?_modify, h]
end
theorem only_drewN {a w : World} {row : Option Nat} (h : a.grownBy w row) (n : Nat) : a.grownBy (w.drewN n) row := ⟨h.os, h.tape, h.output, h.size, h.block⟩
theorem only_refl (w : World) (row : Option Nat) : w.grownBy w row := ⟨rfl, rfl, rfl, Nat.le_refl _, fun _ _ _ => rfl⟩
theorem only_trans' {a b c : World} {row : Option Nat} (h : a.grownBy b row) (k : b.grownBy c row) : a.grownBy c row :=
  ⟨k.os.trans h.os, k.tape.trans h.tape, k.output.trans h.output, Nat.le_trans h.size k.size, fun i hi hne => (k.block i (Nat.lt_of_lt_of_le hi h.size) hne).trans (h.block i hi hne)⟩

/-- What turns other blocks than the reader's and the code's leaves the reader as it was. -/
theorem Rd.keep {w w' : World} {R p : Nat} {row : Option Nat} (h : Rd w R p) (hg : w.grownBy w' row) (hr : ∀ g, row = some g → R < g) : Rd w' R p := by
  have hlt := h.lt
  obtain ⟨v, hR, hB⟩ := h
  refine ⟨v, (hg.block R hlt (fun e => by have := hr R e.symm; omega)).trans hR, ?_⟩
  rcases hB with h | ⟨b, off, len, cap, zs, rfl, hb, hl, hc, hz⟩
  · exact .inl h
  · refine .inr ⟨b, off, len, cap, zs, rfl, hb, hl, fun i hi => ?_, hz⟩
    exact (World.cell?_of_block (hg.block b (by omega) (fun e => by have := hr b e.symm; omega))).trans (hc i hi)
theorem Rd.alloc {w : World} {R p : Nat} (h : Rd w R p) (o : Obj) : Rd (w.alloc o) R p := h.keep (World.grownBy_alloc w o none) (fun g e => by cases e)
theorem only_alloc {a w : World} {row : Option Nat} (h : a.grownBy w row) (o : Obj) : a.grownBy (w.alloc o) row := only_trans' h (World.grownBy_alloc w o row)
theorem only_of_none {a w : World} (h : a.grownBy w none) (row : Option Nat) : a.grownBy w row := ⟨h.os, h.tape, h.output, h.size, fun i hi _ => h.block i hi (by simp)⟩
theorem below_only {w0 w w' : World} {B R : Nat} (h : Below B w0 w) (hg : w.grownBy w' (some R)) (hB : B ≤ w.heap.size) (hR : B ≤ R) : Below B w0 w' :=
  h.grown hg hB (fun k hk => by cases hk; exact hR)

/-- What a pick hands back. -/
def Picked (w : World) (R p : Nat) (n : Int) (e : Ending) (w' : World) : Prop :=
  ∃ k : Int, e = .returned (.int .i64 k) ∧ 0 ≤ k ∧ k < n ∧ Rd w' R p ∧ w.grownBy w' (some R)

theorem rd_step {w : World} {R p : Nat} (h : Rd w R p) (m : Nat) : Rd ((w.setCell ⟨R, 1, none⟩ (.int .i64 (p + 1))).drewN m) R (p + 1) ∧ w.grownBy ((w.setCell ⟨R, 1, none⟩ (.int .i64 (p + 1))).drewN m) (some R) := by
  obtain ⟨v, hR, hB⟩ := h
  have hg : w.grownBy (w.setCell ⟨R, 1, none⟩ (.int .i64 (p + 1))) (some R) :=
    ⟨rfl, rfl, rfl, by simp [World.setCell], fun i _ hne => Below.heap_setCell w _ _ i (by rintro rfl; exact hne rfl)⟩
  refine ⟨⟨v, ?_, ?_⟩, only_drewN hg m⟩
  · exact two_set hR _
  · rcases hB with h | ⟨b, off, len, cap, zs, rfl, hlt, hl, hc, hz⟩
    · exact .inl h
    · have hne : b ≠ R := by omega
      refine .inr ⟨b, off, len, cap, zs, rfl, hlt, hl, fun i hi => ?_, hz⟩
      exact (World.cell?_setCell_other _ _ _ _ (by simp [hne])).trans (hc i hi)

theorem ofInt_i64 (a : Nat) (ha : a < 9223372036854775808) : (BitVec.ofInt 64 (a : Int)).toNat = a := by
  rw [BitVec.ofInt_natCast, BitVec.toNat_ofNat]; exact Nat.mod_eq_of_lt (by omega)
theorem i64_xor_nat (a b : Nat) (ha : a < 9223372036854775808) (hb : b < 9223372036854775808) : bits .xor .i64 (a : Int) (b : Int) = ((a ^^^ b : Nat) : Int) := by
  have hx : a ^^^ b < 2 ^ 63 := Nat.xor_lt_two_pow (by omega) (by omega)
  show IntKind.i64.wrap ((BitVec.ofInt 64 (a : Int) ^^^ BitVec.ofInt 64 (b : Int)).toNat : Int) = _
  rw [BitVec.toNat_xor, ofInt_i64 a ha, ofInt_i64 b hb, IntKind.wrap_i64]
  omega

theorem pick_empty (R p : Nat) (n : Int) (a : Option Addr) (w : World) (hR : w.heap[R]? = some (.cells #[.slice a 0 0, .int .i64 p] 106 (0, 0))) (hp : p ≤ 1000000) (hn : 1 ≤ n) :
    Calls Try.prog 90 #[.pointer (some ⟨R, 0, none⟩), .int .i64 n] w fun e w' => e = .returned (.int .i64 0) ∧ ∃ m, w' = (w.setCell ⟨R, 1, none⟩ (.int .i64 (p + 1))).drewN m := by
  have c0 := two_fst hR
  have c1 := two_snd hR
  have f1 := two_free hR 1
  clear hR
  go_enter Try.func90, Try.ntmps90
  go_wp2_with fail
  go_ret
  exact ⟨rfl, 0, rfl⟩

theorem byte_rem {x n : Int} (h : 0 ≤ x) (hn : 1 ≤ n) : 0 ≤ x % n ∧ x % n < n := ⟨Int.emod_nonneg _ (by omega), Int.emod_lt_of_pos _ (by omega)⟩

theorem pick_byte (R p b off len cap : Nat) (z n : Int) (w : World) (hR : w.heap[R]? = some (.cells #[.slice (some ⟨b, off, none⟩) len cap, .int .i64 p] 106 (0, 0))) (hp : p ≤ 1000000) (hn : 1 ≤ n)
    (hb : b ≠ R) (hlt : p < len) (hl : len ≤ 2000) (hc : w.cell? ⟨b, off + p, none⟩ = some (.int .u8 z)) (hz0 : 0 ≤ z) (hz1 : z ≤ 255) :
    Calls Try.prog 90 #[.pointer (some ⟨R, 0, none⟩), .int .i64 n] w fun e w' => (∃ k : Int, e = .returned (.int .i64 k) ∧ 0 ≤ k ∧ k < n) ∧ ∃ m, w' = (w.setCell ⟨R, 1, none⟩ (.int .i64 (p + 1))).drewN m := by
  have c0 := two_fst hR
  have c1 := two_snd hR
  have f1 := two_free hR 1
  clear hR
  have hlt' : (p : Int) < (len : Int) := by omega
  have hl0 : ((len : Int) == 0) = false := by simp; omega
  have hcs : (w.setCell ⟨R, 1, none⟩ (.int .i64 (p + 1))).cell? ⟨b, off + p, none⟩ = some (.int .u8 z) := (World.cell?_setCell_other _ _ _ _ (by simp [hb])).trans hc
  clear hc
  go_enter Try.func90, Try.ntmps90
  go_wp2_with fail
  go_ret
  exact ⟨⟨_, rfl, byte_rem hz0 hn⟩, 0, rfl⟩

theorem xor_rem {E n : Int} (h0 : 0 ≤ E) (h1 : E ≤ 4611686018427387904) (hn : 1 ≤ n) : 0 ≤ (bits .xor .i64 E (E / 64)).tmod n ∧ (bits .xor .i64 E (E / 64)).tmod n < n := by
  obtain ⟨a, rfl⟩ : ∃ a : Nat, E = a := ⟨E.toNat, by omega⟩
  have e : ((a : Int) / 64) = ((a / 64 : Nat) : Int) := by omega
  rw [e, i64_xor_nat a (a / 64) (by omega) (by omega)]
  exact ⟨Int.tmod_nonneg _ (by omega), Int.tmod_lt_of_pos _ (by omega)⟩
theorem pick_none (R p b off cap : Nat) (n : Int) (w : World) (hR : w.heap[R]? = some (.cells #[.slice (some ⟨b, off, none⟩) 0 cap, .int .i64 p] 106 (0, 0))) (hp : p ≤ 1000000) (hn : 1 ≤ n) :
    Calls Try.prog 90 #[.pointer (some ⟨R, 0, none⟩), .int .i64 n] w fun e w' => e = .returned (.int .i64 0) ∧ ∃ m, w' = (w.setCell ⟨R, 1, none⟩ (.int .i64 (p + 1))).drewN m := by
  have c0 := two_fst hR
  have c1 := two_snd hR
  have f1 := two_free hR 1
  clear hR
  go_enter Try.func90, Try.ntmps90
  go_wp2_with fail
  go_ret
  exact ⟨rfl, 0, rfl⟩

theorem pick_past (R p b off len cap : Nat) (z z' n : Int) (w : World) (hR : w.heap[R]? = some (.cells #[.slice (some ⟨b, off, none⟩) len cap, .int .i64 p] 106 (0, 0))) (hp : p ≤ 1000000) (hn : 1 ≤ n)
    (hb : b ≠ R) (hlt : len ≤ p) (hl0 : 0 < len) (hl : len ≤ 2000) (hc : w.cell? ⟨b, off + p % len, none⟩ = some (.int .u8 z)) (hc' : w.cell? ⟨b, off + (p * 7 + 3) % len, none⟩ = some (.int .u8 z'))
    (hz0 : 0 ≤ z) (hz1 : z ≤ 255) (hz0' : 0 ≤ z') (hz1' : z' ≤ 255) :
    Calls Try.prog 90 #[.pointer (some ⟨R, 0, none⟩), .int .i64 n] w fun e w' => (∃ k : Int, e = .returned (.int .i64 k) ∧ 0 ≤ k ∧ k < n) ∧ ∃ m, w' = (w.setCell ⟨R, 1, none⟩ (.int .i64 (p + 1))).drewN m := by
  have c0 := two_fst hR
  have c1 := two_snd hR
  have f1 := two_free hR 1
  clear hR
  have hlt' : ¬ (p : Int) < (len : Int) := by omega
  have hle : ((len : Int) == 0) = false := by simp; omega
  have hl1 : (1 : Int) ≤ (len : Int) := by omega
  have m0 : (0 : Int) ≤ (p : Int) % (len : Int) := Int.emod_nonneg _ (by omega)
  have m1 : (p : Int) % (len : Int) < (len : Int) := Int.emod_lt_of_pos _ (by omega)
  have m2 : (0 : Int) ≤ ((p : Int) * 7 + 3) % (len : Int) := Int.emod_nonneg _ (by omega)
  have m3 : ((p : Int) * 7 + 3) % (len : Int) < (len : Int) := Int.emod_lt_of_pos _ (by omega)
  have q0 : (0 : Int) ≤ (p : Int) / (len : Int) := Int.ediv_nonneg (by omega) (by omega)
  have q1 : (p : Int) / (len : Int) ≤ 1000000 := by
    have := Int.ediv_le_self (b := (len : Int)) (show (0 : Int) ≤ (p : Int) by omega)
    omega
  have hcs : (w.setCell ⟨R, 1, none⟩ (.int .i64 (p + 1))).cell? ⟨b, off + p % len, none⟩ = some (.int .u8 z) := (World.cell?_setCell_other _ _ _ _ (by simp [hb])).trans hc
  have hcs' : (w.setCell ⟨R, 1, none⟩ (.int .i64 (p + 1))).cell? ⟨b, off + (p * 7 + 3) % len, none⟩ = some (.int .u8 z') := (World.cell?_setCell_other _ _ _ _ (by simp [hb])).trans hc'
  clear hc hc'
  go_enter Try.func90, Try.ntmps90
  go_wp2_with fail
  go_quiet (fail)
  go_wp2_with fail
  go_ret
  exact ⟨⟨_, rfl, xor_rem (by omega) (by omega) hn⟩, _, rfl⟩

/-- A pick of a number from 0 to n - 1: only the reader's own block turns. -/
theorem pick_any (R p : Nat) (n : Int) (w : World) (h : Rd w R p) (hp : p ≤ 1000000) (hn : 1 ≤ n) :
    Calls Try.prog 90 #[.pointer (some ⟨R, 0, none⟩), .int .i64 n] w (Picked w R (p + 1) n) := by
  have st := rd_step h
  obtain ⟨v, hR, hB⟩ := h
  rcases hB with ⟨a, rfl⟩ | ⟨b, off, len, cap, zs, rfl, hbw, hl, hc, hz⟩
  · refine (pick_empty R p n a w hR hp hn).mono ?_
    rintro e w' ⟨rfl, m, rfl⟩
    exact ⟨0, rfl, by omega, by omega, (st m).1, (st m).2⟩
  have hne : b ≠ R := by omega
  by_cases h0 : len = 0
  · subst h0
    have hR' : w.heap[R]? = some (.cells #[.slice (some ⟨b, off, none⟩) 0 cap, .int .i64 p] 106 (0, 0)) := hR
    refine (pick_none R p b off cap n w hR' hp hn).mono ?_
    rintro e w' ⟨rfl, m, rfl⟩
    exact ⟨0, rfl, by omega, by omega, (st m).1, (st m).2⟩
  by_cases hlt : p < len
  · refine (pick_byte R p b off len cap _ n w hR hp hn hne hlt hl (hc p hlt) (hz p).1 (hz p).2).mono ?_
    rintro e w' ⟨⟨k, rfl, k0, k1⟩, m, rfl⟩
    exact ⟨k, rfl, k0, k1, (st m).1, (st m).2⟩
  · refine (pick_past R p b off len cap _ _ n w hR hp hn hne (by omega) (by omega) hl (hc (p % len) (Nat.mod_lt _ (by omega))) (hc ((p * 7 + 3) % len) (Nat.mod_lt _ (by omega))) (hz _).1 (hz _).2 (hz _).1 (hz _).2).mono ?_
    rintro e w' ⟨⟨k, rfl, k0, k1⟩, m, rfl⟩
    exact ⟨k, rfl, k0, k1, (st m).1, (st m).2⟩

/-- What the opening of a code hands back: a reader in a new block. -/
def Opened (w : World) (e : Ending) (w' : World) : Prop :=
  e = .returned (.pointer (some ⟨w.heap.size, 0, none⟩)) ∧ Rd w' w.heap.size 0 ∧ Below w.heap.size w w'
theorem open_any (v : Value) (w : World) (h : CodeAt w v) : Calls Try.prog 57 #[v] w (Opened w) := by
  rcases h with ⟨a, rfl⟩ | ⟨b, off, len, cap, zs, rfl, hb, hlc, hcm, hlz, hc, hz⟩
  · go_enter Try.func57, Try.ntmps57
    go_wp2_with fail
    go_ret
    exact ⟨rfl, ⟨_, heap_alloc_last _ _, .inl ⟨a, rfl⟩⟩, (Below.refl _ _).alloc (Nat.le_refl _) _⟩
  · have hc' : ∀ i, i < len → ∀ o, (w.alloc o).cell? ⟨b, off + i, none⟩ = some (.int .u8 (zs.getD i 0)) := fun i hi o => by
      rw [World.cell?_alloc_past _ _ _ hb]; exact hc i hi
    unfold maxLen at hcm
    by_cases hl : len ≤ 2000
    · have hl' : ¬ (2000 : Int) < (len : Int) := by omega
      have C := fun i hi o => Lib.hid (hc' i hi o)
      clear hc hc'
      go_enter Try.func57, Try.ntmps57
      go_wp2_with fail
      go_ret
      exact ⟨rfl, ⟨_, heap_alloc_last _ _, .inr ⟨b, off, len, cap, zs, rfl, hb, hl, fun i hi => (C i hi _).out, hz⟩⟩, (Below.refl _ _).alloc (Nat.le_refl _) _⟩
    · have hl' : (2000 : Int) < (len : Int) := by omega
      have hlc' : (2000 : Int) ≤ (cap : Int) := by omega
      have C := fun i hi o => Lib.hid (hc' i hi o)
      clear hc hc'
      go_enter Try.func57, Try.ntmps57
      go_wp2_with fail
      go_ret
      exact ⟨rfl, ⟨_, heap_alloc_last _ _, .inr ⟨b, off, 2000, cap, zs, rfl, hb, by omega, fun i hi => (C i (by omega) _).out, hz⟩⟩, (Below.refl _ _).alloc (Nat.le_refl _) _⟩
end Go.Proofs.Ytdpakhggpgdgbaa
