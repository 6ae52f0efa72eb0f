/-
  impl: turns that change nothing; circles of a tidy design; akin designs.
  impl: the turns at which a design is as it is later.
-/
import Derived.Test.YtdbokcbbpegilaaM26
import Derived.Test.YtdbokcbbpegilaaM23
import Derived.Test.YtdbokcbbpegilaaM21
/- impl: turns that change nothing; circles of a tidy design; akin designs. -/
namespace Go.Proofs.Ytdbokcbbpegilaa
set_option maxRecDepth 20000
open Go.ChangeShapes Go.WideShapes Go.ChangeAt Go.RowKit
set_option linter.unusedVariables false
set_option linter.unusedSimpArgs false
attribute [local go_sem] Oper.semAt_some

/-! Circles of a tidy design. -/
def CircT (w : World) (o : Option (List Wh)) (e : Ending) (w' : World) : Prop :=
  Below w.heap.size w w' ∧ ∃ v', e = .returned (.tuple #[v', .bool o.isSome]) ∧ Own w' w.heap.size 72 v' (got o)
theorem tidyOf_any2 (v : Value) (ws : List Wh) (w : World) (hv : Reads w v ws) : Calls Try.prog 27 #[v] w (Told w (tid ws)) := DesignTidy_any v ws w hv
theorem tidyCircles_any (v : Value) (ws : List Wh) (w : World) (hv : Reads w v ws) : Calls Try.prog 73 #[v] w (CircT w (tid ws)) := by
  have T := tidyOf_any2 v ws w hv
  clear hv
  cases hx : tid ws with
  | none =>
    rw [hx] at T
    have T := Lib.hid T
    clear hx
    go_enter Try.func73, Try.ntmps73
    go_wp2_with fail
    refine T.out.mono ?_; rintro e w1 ⟨hb1, v1, rfl, -⟩
    have HB := Lib.hid hb1
    clear T hb1
    go_wp2
    go_ret2
    exact ⟨HB.out, _, rfl, own_nil _ _ _⟩
  | some R =>
    rw [hx] at T
    have hok := (tid_in hx).2.1.ok
    have C := fun v w h => circlesOf_any v R w h
    rw [hok, only_yes] at C
    have T := Lib.hid T
    clear hx hok
    go_enter Try.func73, Try.ntmps73
    go_wp2_with fail
    refine T.out.mono ?_; rintro e w1 ⟨hb1, v1, rfl, ho1⟩
    have C := Lib.hid (C v1 w1 (own_reads ho1))
    have HB := Lib.hid hb1
    clear T hb1 ho1
    go_wp2_with fail
    refine C.out.mono ?_; rintro e w2 ⟨hb2, v2, rfl, ho2⟩
    have HB2 := Lib.hid (below_next HB.out hb2)
    have HO2 := Lib.hid (own_mono ho2 HB.out.size)
    clear C hb2 ho2 HB
    go_wp2
    go_ret2
    exact ⟨HB2.out, _, rfl, HO2.out⟩

set_option maxHeartbeats 2000000 in
theorem DesignAkin_any (va vb : Value) (A B : List Wh) (w : World) (h1 : Reads w va A) (h2 : Reads w vb B) :
    Calls Try.prog 33 #[va, vb] w fun e w' => e = .returned (akinV (akinD A B)) ∧ Below w.heap.size w w' := by
  have TA := tidyCircles_any va A w h1
  have TB : ∀ w2 (h : Below w.heap.size w w2), Calls Try.prog 73 #[vb] w2 (CircT w2 (tid B)) := fun w2 h => tidyCircles_any vb B w2 (h2.below h)
  clear h1 h2
  cases hx : tid A with
  | none =>
    rw [akinD_one hx]
    rw [hx] at TA
    generalize tid B = y at *
    have TA := Lib.hid TA
    have TB := Lib.hid TB
    clear hx
    go_enter Try.func33, Try.ntmps33
    go_wp2_with fail
    refine TA.out.mono ?_; rintro e w1 ⟨hb1, v1, rfl, -⟩
    go_wp2_with fail
    refine (TB.out _ hb1).mono ?_; rintro e w2 ⟨hb2, v2, rfl, -⟩
    have HB := Lib.hid (below_next hb1 hb2)
    clear TA TB hb1 hb2
    go_wp2
    go_ret2
    exact ⟨rfl, HB.out⟩
  | some X =>
    cases hy : tid B with
    | none =>
      rw [akinD_two hy]
      rw [hx] at TA
      rw [hy] at TB
      have TA := Lib.hid TA
      have TB := Lib.hid TB
      clear hx hy
      go_enter Try.func33, Try.ntmps33
      go_wp2_with fail
      refine TA.out.mono ?_; rintro e w1 ⟨hb1, v1, rfl, -⟩
      go_wp2_with fail
      refine (TB.out _ hb1).mono ?_; rintro e w2 ⟨hb2, v2, rfl, -⟩
      have HB := Lib.hid (below_next hb1 hb2)
      clear TA TB hb1 hb2
      go_wp2
      go_ret2
      exact ⟨rfl, HB.out⟩
    | some Y =>
      rw [akinD_both hx hy]
      have L : ∀ v1 v2 w2, Reads w2 v1 X → Reads w2 v2 Y → Calls Try.prog 74 #[v1, v2] w2 fun e w' => e = .returned (.tuple #[.int .i64 (((akinO X Y).getD 0 : Nat) : Int), .bool (akinO X Y).isSome]) ∧ Below w2.heap.size w2 w' := fun v1 v2 w2 k1 k2 => by
        by_cases hl : X.length = Y.length
        · exact leastPair_any v1 v2 X Y w2 k1 k2 (fun c hc => valid_ok (tid_in hx).2.1.ok c hc) hl (valid_len (tid_in hx).2.1.ok)
        · rw [akinO_len hl]
          exact leastPair_len v1 v2 X Y w2 k1 k2 hl
      have e1 : akinV (akinO X Y) = .tuple #[.int .i64 (((akinO X Y).getD 0 : Nat) : Int), .bool (akinO X Y).isSome] := rfl
      rw [e1]
      clear e1
      generalize (((akinO X Y).getD 0 : Nat) : Int) = nn at *
      generalize (akinO X Y).isSome = bb at *
      rw [hx] at TA
      rw [hy] at TB
      have TA := Lib.hid TA
      have TB := Lib.hid TB
      clear hx hy
      go_enter Try.func33, Try.ntmps33
      go_wp2_with fail
      refine TA.out.mono ?_; rintro e w1 ⟨hb1, v1, rfl, ho1⟩
      rw [got_some] at ho1
      go_wp2_with fail
      refine (TB.out _ hb1).mono ?_; rintro e w2 ⟨hb2, v2, rfl, ho2⟩
      rw [got_some] at ho2
      have HB := Lib.hid (below_next hb1 hb2)
      have L := Lib.hid (L v1 v2 w2 (own_reads (own_below ho1 hb2)) (own_reads ho2))
      clear TA TB hb1 hb2 ho1 ho2
      go_wp2_with fail
      refine L.out.mono ?_; rintro e w3 ⟨rfl, hb3⟩
      have HB3 := Lib.hid (below_next HB.out hb3)
      clear L hb3 HB
      go_wp2
      go_ret2
      exact ⟨rfl, HB3.out⟩

/-! Rows of 24 Booleans. -/
def bvec (f : Nat → Bool) : Array Value := ((List.range 24).map fun j => Value.bool (f j)).toArray
theorem bvec_size (f : Nat → Bool) : (bvec f).size = 24 := by simp [bvec]
theorem bvec_at (f : Nat → Bool) {k : Nat} (h : k < 24) : (bvec f)[k]? = some (.bool (f k)) := by simp [bvec, h]
theorem bvec_same {f g : Nat → Bool} (h : ∀ j, j < 24 → f j = g j) : bvec f = bvec g := by
  unfold bvec
  congr 1
  exact List.map_congr_left fun j hj => by rw [h j (by simpa using hj)]
def RowB (w : World) (g : Nat) (T : TypeId) (f : Nat → Bool) : Prop := w.heap[g]? = some (.cells (bvec f) T (0, 0))
theorem RowB.lt {w : World} {g : Nat} {T : TypeId} {f : Nat → Bool} (h : RowB w g T f) : g < w.heap.size := (Array.getElem?_eq_some_iff.1 h).1
theorem RowB.cell {w : World} {g : Nat} {T : TypeId} {f : Nat → Bool} (h : RowB w g T f) {k : Nat} (hk : k < 24) : w.cell? ⟨g, k, none⟩ = some (.bool (f k)) := by
  rw [cell_of_row _ _ _ _ _ _ h, bvec_at f hk]
theorem RowB.free {w : World} {g : Nat} {T : TypeId} {f : Nat → Bool} (h : RowB w g T f) (k : Nat) : w.frozen? ⟨g, k, none⟩ = false := frozen_of_row _ _ _ _ _ h
theorem RowB.below {w w' : World} {g : Nat} {T : TypeId} {f : Nat → Bool} (h : RowB w g T f) (hb : Below w.heap.size w w') : RowB w' g T f := (hb.block g h.lt).trans h
theorem RowB.kept {A B : World} {g : Nat} {T : TypeId} {f : Nat → Bool} {row : Option Nat} (h : RowB A g T f) (hg : A.grownBy B row) (hr : ∀ r, row = some r → ∃ o : Obj, A.heap[r]? = some o ∧ o.isCells = false) : RowB B g T f :=
  (hg.block g h.lt (fun e => by
    obtain ⟨o, ho, hc⟩ := hr g e.symm
    rw [show A.heap[g]? = some (.cells (bvec f) T (0, 0)) from h] at ho
    cases ho
    cases hc)).trans h
def updB (f : Nat → Bool) (k : Nat) : Nat → Bool := fun j => if j = k then true else f j
theorem RowB.set {w : World} {g : Nat} {T : TypeId} {f : Nat → Bool} (h : RowB w g T f) {k : Nat} (hk : k < 24) : RowB (w.setCell ⟨g, k, none⟩ (.bool true)) g T (updB f k) := by
  have hl := h.lt
  have e : (bvec f).setIfInBounds k (.bool true) = bvec (updB f k) := by
    unfold bvec
    rw [List.setIfInBounds_toArray]
    congr 1
    refine List.ext_getElem? fun i => ?_
    by_cases hi : i < 24
    · by_cases e : k = i
      · subst e
        rw [List.getElem?_set_self (by simpa using hi)]
        simp [updB, hi]
      · rw [List.getElem?_set_ne e]
        have : ¬ i = k := fun h => e h.symm
        simp [updB, hi, this]
    · rw [List.getElem?_eq_none (by simp; omega), List.getElem?_eq_none (by simp; omega)]
  unfold RowB at *
  rw [← e]
  simp [World.setCell, Array.getElem?_modify, h]
theorem RowB.other {w : World} {g : Nat} {T : TypeId} {f : Nat → Bool} (h : RowB w g T f) (a : Addr) (v : Value) (ha : g ≠ a.block) : RowB (w.setCell a v) g T f := (Below.heap_setCell w a v g ha).trans h
theorem RowB.new (w : World) (T : TypeId) (f : Nat → Bool) {cs : Array Value} (e : cs = bvec f) : RowB (w.alloc (.cells cs T)) w.heap.size T f := by subst e; exact heap_alloc_new _ _
theorem RowB.setRow {w : World} {g : Nat} {T : TypeId} {f f' : Nat → Bool} (h : RowB w g T f) : RowB (w.setRow g (bvec f')) g T f' := setRow_heap _ _ _ _ _ _ h

/-! Turns that change nothing. -/
def stillQ (X : List Wh) (x : PT) : Bool := stillP X x.1.1 x.2.1
def stillF (X : List Wh) (pre : List PT) (b : Nat) : Bool := pre.any fun x => x.2.1 == b && stillQ X x
theorem stillF_yes {X : List Wh} {pre : List PT} {x : PT} (h : stillQ X x = true) : ∀ b, stillF X (pre ++ [x]) b = updB (stillF X pre) x.2.1 b := fun b => by
  unfold stillF updB
  rw [List.any_append]
  by_cases e : b = x.2.1
  · subst e; simp [h]
  · have : (x.2.1 == b) = false := by simp; omega
    simp [e, this]
theorem stillF_no {X : List Wh} {pre : List PT} {x : PT} (h : stillQ X x = false) : ∀ b, stillF X (pre ++ [x]) b = stillF X pre b := fun b => by
  unfold stillF
  rw [List.any_append]
  simp [h]
theorem stillF_all (X : List Wh) (b : Nat) (hb : b < 24) : stillF X (pairsTo 576) b = stillB X b := by
  apply Bool.eq_iff_iff.2
  unfold stillF
  rw [List.any_eq_true, stillB_true]
  constructor
  · rintro ⟨x, hx, h⟩
    rw [Bool.and_eq_true] at h
    have e : x.2.1 = b := by simpa using h.1
    exact ⟨x.1.1, x.1.2, by rw [← e]; exact h.2⟩
  · rintro ⟨a, ha, h⟩
    refine ⟨(⟨a, ha⟩, ⟨b, hb⟩), ?_, ?_⟩
    · rw [← pairAt_is ha hb]
      exact List.mem_map.2 ⟨24 * a + b, by simp; omega, rfl⟩
    · rw [Bool.and_eq_true]
      exact ⟨by simp, h⟩
def stillK (a b : Nat) (X : List Wh) (k : Nat) : Prop := ∀ i c, i < k → X[i]? = some c → stillW a b c = true
theorem stillP_of {a b : Nat} {X : List Wh} (h : stillK a b X X.length) : stillP X a b = true := by
  unfold stillP
  rw [List.all_eq_true]
  intro c hc
  obtain ⟨i, hi⟩ := List.getElem?_of_mem hc
  exact h i c (Array.getElem?_eq_some_iff.1 (by simpa using hi)).1 hi
theorem stillP_not {a b : Nat} {X : List Wh} {k : Nat} {c : Wh} (hc : X[k]? = some c) (h : stillW a b c = false) : stillP X a b = false := by
  unfold stillP
  exact List.all_eq_false.2 ⟨c, List.mem_of_getElem? hc, by rw [h]; decide⟩

end Go.Proofs.Ytdbokcbbpegilaa
/- impl: the turns at which a design is as it is later. -/
namespace Go.Proofs.Ytdbokcbbpegilaa
set_option maxRecDepth 20000
open Go.ChangeShapes Go.WideShapes Go.ChangeAt Go.RowKit
set_option linter.unusedVariables false
set_option linter.unusedSimpArgs false
attribute [local go_sem] Oper.semAt_some

theorem bvec_one (f : Nat → Bool) : (bvec f).all (·.oneCell') = true := by
  rw [Array.all_eq_true_iff_forall_mem]
  intro v hv
  simp only [bvec, List.mem_toArray, List.mem_map] at hv
  obtain ⟨k, _, rfl⟩ := hv
  rfl
section
variable {P : Program} {ops : Array Oper} {rest : List Oper} {o : Oper} {a : Act} {Q : Exit → Act → World → Prop} {w : World} {g : Nat} {ty T : TypeId} {f f' : Nat → Bool} {d : TypeDesc} {fn : Func} {p : Tmp} {tmps : Array Value}
theorem loadB (hgd : o.guard = none) {x : Operand} (ho : o.op = .load ty x) (hx : a.eval x = .pointer (some ⟨g, 0, none⟩)) (hg : RowB w g T f) (hu : P.underlying ty = some d)
    (hd : (match d with | .struct _ | .array _ _ => true | _ => false) = true) (hi : (P.info? ty).map (·.size) = some 24) (h : wpList P ops Q rest (a.put o.dst (.agg (bvec f))) w) : wpList P ops Q (o :: rest) a w :=
  wpList_load_row hgd ty x ho g hx T (bvec f) (0, 0) d hg hu hd (by rw [bvec_size]; exact hi) h
theorem storeB (hgd : o.guard = none) {x y : Operand} (ho : o.op = .store ty x y) (hx : a.eval x = .pointer (some ⟨g, 0, none⟩)) (hy : a.eval y = .agg (bvec f')) (hg : RowB w g T f) (hi : (P.info? ty).map (·.size) = some 24)
    (h : wpList P ops Q rest (a.put o.dst undef) (w.setRow g (bvec f'))) : wpList P ops Q (o :: rest) a w :=
  wpList_store_row hgd ty x y ho g (bvec f') hx hy T (bvec f) hg (by rw [bvec_size]; exact hi) (by rw [bvec_size, bvec_size]) (bvec_one f') h
theorem results_rowB (h : fn.results = #[.cell p ty]) (hp : tmps.getD p undef = .pointer (some ⟨g, 0, none⟩)) (hg : RowB w g T f) (hu : P.underlying ty = some d)
    (hd : (match d with | .struct _ | .array _ _ => true | _ => false) = true) (hi : (P.info? ty).map (·.size) = some 24) : (results fn tmps).run P w = .ok (.agg (bvec f)) w := by
  have hp' : tmps[p]?.getD undef = .pointer (some ⟨g, 0, none⟩) := by simpa using hp
  have e : (loadVar ty ⟨g, 0, none⟩).run P w = .ok (.agg (bvec f)) w := run_loadVar_row w g T ty (bvec f) (0, 0) d hg hu hd (by rw [bvec_size]; exact hi)
  simp [results, h, hp', asAddr, e]
end
theorem info_bools : (Try.prog.info? 44).map (·.size) = some 24 := by kernel_rfl

/-- What the function's own cells hold. -/
structure Box3 (n : Nat) (v : Value) (f : Nat → Bool) (W : World) : Prop where
  c1 : W.cell? ⟨n, 0, none⟩ = some v
  r2 : RowB W (n + 1) 44 (fun _ => false)
  r3 : RowB W (n + 1 + 1) 44 f
theorem Box3.keep {n : Nat} {v : Value} {f : Nat → Bool} {A B : World} {row : Option Nat} (h : Box3 n v f A) (hg : A.grownBy B row) (hr : ∀ r, row = some r → ∃ o : Obj, A.heap[r]? = some o ∧ o.isCells = false) : Box3 n v f B :=
  ⟨cell_kept h.c1 hg hr, h.r2.kept hg hr, h.r3.kept hg hr⟩
theorem Box3.below {n : Nat} {v : Value} {f : Nat → Bool} {A B : World} (h : Box3 n v f A) (hb : Below A.heap.size A B) : Box3 n v f B :=
  h.keep (row := none) ⟨hb.os, hb.tape, hb.output, hb.size, fun k hk _ => hb.block k hk⟩ (fun r e => by cases e)
theorem Box3.same {n : Nat} {v : Value} {f g : Nat → Bool} {A : World} (h : Box3 n v f A) (e : ∀ j, j < 24 → f j = g j) : Box3 n v g A := ⟨h.c1, h.r2, by have := h.r3; unfold RowB at *; rw [← bvec_same e]; exact this⟩
theorem Box3.found {n : Nat} {v : Value} {f : Nat → Bool} {A : World} (h : Box3 n v f A) {k : Nat} (hk : k < 24) : Box3 n v (updB f k) (A.setCell ⟨n + 1 + 1, k, none⟩ (.bool true)) :=
  ⟨by rw [World.cell?_setCell_other _ _ _ _ (by simp)]; exact h.c1, h.r2.other _ _ (by simp), h.r3.set hk⟩
def box3W (w : World) (v : Value) : World := ((w.alloc (.cells #[v] 76)).alloc (.cells (bvec fun _ => false) 44)).alloc (.cells (bvec fun _ => false) 44)
theorem box3W_size (w : World) (v : Value) : (box3W w v).heap.size = w.heap.size + 3 := by simp [box3W]
theorem box3W_below (w : World) (v : Value) : Below w.heap.size w (box3W w v) := (((Below.refl _ w).alloc (Nat.le_refl _) _).alloc (by simp) _).alloc (by simp; omega) _
theorem box3W_holds (w : World) (v : Value) : Box3 w.heap.size v (fun _ => false) (box3W w v) := by
  have c0 := box_on (.cells (bvec fun _ => false) 44) (box_on (.cells (bvec fun _ => false) 44) (box_here w v 76))
  have r2 := (RowB.new (w.alloc (.cells #[v] 76)) 44 (fun _ => false) rfl).below ((Below.refl _ _).alloc (Nat.le_refl _) (.cells (bvec fun _ => false) 44))
  have r3 := RowB.new ((w.alloc (.cells #[v] 76)).alloc (.cells (bvec fun _ => false) 44)) 44 (fun _ => false) rfl
  rw [World.size_alloc] at r2
  rw [World.size_alloc, World.size_alloc] at r3
  exact ⟨c0.1, r2, r3⟩
theorem stillF_none (X : List Wh) : stillF X [] = fun _ => false := rfl

set_option maxHeartbeats 4000000 in
theorem stillTurns_any (v : Value) (X : List Wh) (w : World) (h1 : Reads w v X) (hX : ∀ c ∈ X, inS c.s = true ∧ okv c.r = true) (hn : X.length ≤ 12) :
    Calls Try.prog 76 #[v] w fun e w' => e = .returned (.agg (bvec (stillB X))) ∧ Below w.heap.size w w' := by
  obtain ⟨p1, cap1, rfl, hc1, hc2, hp0, hp⟩ := h1
  simp only [maxLen] at hc2
  obtain ⟨m, hm⟩ : ∃ m, X.length = m := ⟨_, rfl⟩
  rw [hm] at hc1 hn ⊢
  have HM := Lib.hid hm
  have HX := Lib.hid hX
  have HP := Lib.hid hp
  clear hm hX hp
  refine (callsIn_wide (n := 3)).1 (callsIn_of_wp_marks Try.func76 rfl trivial ?_ rfl)
  refine (wpIn_wide (n := 3)).2 ?_
  simp only [Try.ntmps76, List.size_toArray, List.length_cons, List.length_nil, Nat.reduceAdd, Nat.reduceSub, Array.replicate_succ, Array.replicate_zero, List.push_toArray, List.append_toArray, List.nil_append, List.cons_append]
  go_wp2
  go_step3
  go_wp2
  go_step3
  go_wp2
  show Code.wp _ _ _ _ (box3W w (.slice p1 m cap1))
  have hB3 := box3W_holds w (.slice p1 m cap1)
  have hB0 := box3W_below w (.slice p1 m cap1)
  have hsz := box3W_size w (.slice p1 m cap1)
  generalize box3W w (.slice p1 m cap1) = W0 at *
  refine (wpIn_wide (n := 3)).1 ?_
  refine wpIn_rangeFunc_ownF rfl (by omega) (gf := 114) (lb := #[]) rfl trivial (enters_of Try.func114 (by kernel_rfl) rfl) (turnPairs_stops _ (by omega) W0) (fun _ _ => trivial) (fun _ _ _ _ _ _ _ _ => trivial) (Below.refl _ _) (fun _ => rfl)
    (fun pre W => Box3 w.heap.size (.slice p1 m cap1) (stillF X pre) W ∧ Below w.heap.size w W)
    (fun _ _ _ => False)
    (OwnFrom.and (Own.from (fun s A B row hs hg hr => hs.keep hg hr) _) (ownFrom_below (Nat.le_refl _) (by omega)))
    (fun c s A B row hs _ _ => hs)
    ⟨hB3, hB0⟩
    (fun x => { tmps := #[.slice p1 m cap1, .pointer (some { block := w.heap.size, off := 0 }), .pointer (some { block := w.heap.size + 1, off := 0 }), .pointer (some { block := w.heap.size + 1 + 1, off := 0 }), .int .i64 x.1.1, .int .i64 x.2.1, undef, undef, .int .i64 x.1.1, .int .i64 x.2.1, undef, undef, undef, undef, undef, undef, undef, undef, undef, undef, undef, undef, undef, undef, undef], defers := [] }) ?assign ?body ?done ?stop
  case assign =>
    intro l x W K hK
    dsimp only [encP]
    gi_wp2
    exact hK
  case body =>
    rintro l pre ⟨⟨a, ha⟩, ⟨b, hb⟩⟩ W ⟨hB3, hBel⟩ _
    have c1 := hB3.c1
    dsimp only
    gi_wp2
    clear c1
    gi_loopw [7, 12] (fun _ i wr => ∃ k : Nat, k ≤ m ∧ i = .int .i64 k ∧ Aside (stillK a b X k) ∧ Aside (Box3 w.heap.size (.slice p1 m cap1) (stillF X pre) wr) ∧ Aside (Below W.heap.size W wr)) (fun _ i _ => m - (intOf i).toNat)
    case atStart => exact ⟨0, Nat.zero_le _, rfl, Lib.hid (fun i _ h => absurd h (Nat.not_lt_zero i)), Lib.hid hB3, Lib.hid (Below.refl _ _)⟩
    case round =>
      obtain ⟨k, hk, rfl, hK, hB, hL⟩ := hrel
      have HBEL := Lib.hid hBel
      clear hBel hB3 hB0
      by_cases hlt : k < m
      · have hkz : (k : Int) < (m : Int) := by omega
        have hk0 : (0 : Int) ≤ (k : Int) := by omega
        obtain ⟨c, hc⟩ : ∃ c, X[k]? = some c := ⟨_, List.getElem?_eq_getElem (by have := HM.out; omega)⟩
        obtain ⟨g, o, rfl, hg, hr⟩ := HP.out (by rintro rfl; have := hp0 rfl; omega)
        have hall : Below w.heap.size w wr := HBEL.out.trans (hL.out.mono HBEL.out.size)
        have HE := Lib.hid (range_part (range_kept hr hg hall) hc)
        have hcv := HX.out c (List.mem_of_getElem? hc)
        have IS := fun w => isStill_any c a b (by omega) (by omega) hcv.1 hcv.2 w
        have HC := Lib.hid hc
        clear hr hg hcv hall hc
        gi_upto_region 6 with fail
        refine region_in (by rintro ⟨_, _, h⟩; exact h) rfl ?_
        go_wp2_with (first | (refine load_wheel (T := 72) rfl rfl rfl HE.out Try.underlying72 rfl info_circle ?_) | (refine store_new (ty := 72) rfl rfl rfl rfl zero9 info_circle ?_))
        show Code.wpIn _ _ _ _ _ _ (wr.alloc (.cells (vec 9 (wf c)) 72))
        have hX := RowAt.new wr 9 72 (wf c)
        have hL1 := hL.out.alloc hL.out.size (.cells (vec 9 (wf c)) 72)
        have hB1 := hB.out.below ((Below.refl wr.heap.size wr).alloc (Nat.le_refl _) (.cells (vec 9 (wf c)) 72))
        clear hL hB HE
        generalize wr.alloc (.cells (vec 9 (wf c)) 72) = W1 at *
        generalize wr.heap.size = g1 at *
        obtain ⟨r, hr⟩ : ∃ r, stillW a b c = r := ⟨_, rfl⟩
        rw [hr] at IS
        have HR := Lib.hid hr
        have HL1 := Lib.hid hL1
        have HB1 := Lib.hid hB1
        have HXX := Lib.hid hX
        clear hr hL1 hB1 hX
        gi_upto_region 7 with fail
        refine region_in (by rintro ⟨_, _, h⟩; exact h) (by rfl) ?_
        go_wp2_with (first | (refine load_row (ty := 72) (g := g1) rfl rfl rfl HXX.out Try.underlying72 rfl info_circle ?_))
        refine (IS _).mono ?_; rintro e w2 ⟨rfl, hb2⟩
        have HL2 := Lib.hid (HL1.out.trans (hb2.mono HL1.out.size))
        have HB2 := Lib.hid (HB1.out.below hb2)
        clear hb2 HL1 HB1 IS HXX
        cases r
        · go_wp2
          gi_wp2
          refine ⟨keeps_below HL2.out, trivial, HB2.out.same fun j _ => (stillF_no (x := (⟨a, ha⟩, ⟨b, hb⟩)) (stillP_not HC.out HR.out) j).symm, HBEL.out.trans (HL2.out.mono HBEL.out.size)⟩
        · go_wp2
          gi_wp2
          refine ⟨⟨k + 1, by omega, by go_num, Lib.hid (fun i c' hi hc => ?_), HB2, HL2⟩, by simp [intOf]; omega⟩
          by_cases e : i = k
          · subst e
            rw [HC.out] at hc
            rw [← Option.some.inj hc]
            exact HR.out
          · exact hK.out i c' (by omega) hc
      · have hkm : k = m := by omega
        subst hkm
        have c3 := hB.out.r3.cell hb
        have f3 := hB.out.r3.free b
        have hb0 : (0 : Int) ≤ (b : Int) := by omega
        have hb1 : (b : Int) < 24 := by omega
        generalize stillF X pre b = old at c3
        gi_wp2
        refine ⟨(keeps_below hL.out).trans (KeepsOthers.setCell _ _ _), trivial, (hB.out.found hb).same fun j _ => ((stillF_yes (x := (⟨a, ha⟩, ⟨b, hb⟩)) (stillP_of (by rw [HM.out]; exact hK.out))) j).symm, ?_⟩
        exact (HBEL.out.trans (hL.out.mono HBEL.out.size)).setCell (p := ⟨w.heap.size + 1 + 1, b, none⟩) (by simp; omega) _
  case done =>
    rintro D ys W hD rfl ⟨hB3, hB⟩ hK
    have HB := Lib.hid hB
    have HR2 := Lib.hid hB3.r2
    have HR3 := Lib.hid hB3.r3
    clear hB hB3
    go_wp2_with (first | (refine loadB (ty := 44) (g := w.heap.size + 1 + 1) rfl rfl rfl HR3.out Try.underlying44 rfl info_bools ?_) | (refine storeB (ty := 44) (g := w.heap.size + 1) rfl rfl rfl rfl HR2.out info_bools ?_))
    rw [Exit.noGoto_ret]
    have hK' : (W.setRow (w.heap.size + 1) (bvec (stillF X (pairsTo 576)))).heap[D]? = some (.deferred (some [])) := (setRow_other _ _ _ _ (by omega)).trans hK
    have hR5 := (HR2.out.setRow (f' := stillF X (pairsTo 576))).kept (grownBy_putObj' _ D (.deferred none)) (fun r e => by cases e; exact ⟨_, hK', rfl⟩)
    refine ⟨by simp, .inl ⟨_, _, rfl, run_takeDeferred hK', ?_⟩⟩
    exact ⟨_, results_rowB rfl rfl hR5 Try.underlying44 rfl info_bools, by rw [bvec_same fun j hj => stillF_all X j hj], (below_setRow HB.out (by omega) _).trans (belowK_b (w := w) (Nat.le_refl _) _ D _ _ (by omega) hK' rfl rfl)⟩
  case stop =>
    rintro D c pre W hD _ h _
    exact h.elim

/-! The turns as a list. -/
theorem index_bools {k : Nat} (f : Nat → Bool) (hk : k < 24) (w : World) : (Instr.index 44 (.agg (bvec f)) (.int .i64 k)).run Try.prog w = .ok (.bool (f k)) w := by
  obtain ⟨i, hi⟩ := Option.isSome_iff_exists.1 (show (Try.prog.info? 4).isSome = true by kernel_rfl)
  have hn : (0 : Int) ≤ (k : Int) ∧ (k : Int) < ((24 : Nat) : Int) := by omega
  have hk' : ¬ 24 ≤ k := by omega
  have hp : Try.prog.plainKey 4 = true := by kernel_rfl
  have hc : Try.prog.cellsOf 4 = 1 := by kernel_rfl
  simp [Instr.index, run_underlying Try.underlying44, asIntOf, hn, hk', Sem.run_bind, run_sizeOf w hi, hc, run_part_plain (w := w) hp (bvec_at f hk)]
def stillI (X : List Wh) (k : Nat) : List Int := ((List.range k).filter (stillB X)).map fun (b : Nat) => (b : Int)
theorem stillI_yes {X : List Wh} {k : Nat} (h : stillB X k = true) : stillI X (k + 1) = stillI X k ++ [(k : Int)] := by
  unfold stillI
  rw [List.range_succ, List.filter_append, List.map_append]
  simp [h]
theorem stillI_no {X : List Wh} {k : Nat} (h : stillB X k = false) : stillI X (k + 1) = stillI X k := by
  unfold stillI
  rw [List.range_succ, List.filter_append, List.map_append]
  simp [h]
theorem stillI_len (X : List Wh) (k : Nat) : (stillI X k).length ≤ k := by
  unfold stillI
  rw [List.length_map]
  exact Nat.le_trans (List.length_filter_le _ _) (by simp)
def stillO (ws : List Wh) : Option (List Int) := (tid ws).map fun X => stillI X 24

set_option maxHeartbeats 2000000 in
theorem DesignStill_any (v : Value) (ws : List Wh) (w : World) (hv : Reads w v ws) : Calls Try.prog 36 #[v] w (ToldI w (stillO ws)) := by
  have T := tidyCircles_any v ws w hv
  clear hv
  unfold stillO
  cases hx : tid ws with
  | none =>
    rw [hx] at T
    have T := Lib.hid T
    clear hx
    go_enter Try.func36, Try.ntmps36
    go_wp2_with fail
    refine T.out.mono ?_; rintro e w1 ⟨hb1, v1, rfl, -⟩
    have HB := Lib.hid hb1
    clear T hb1
    go_wp2
    go_ret2
    exact ⟨HB.out, _, rfl, World.ownsRow_nil _ _ _ _⟩
  | some X =>
    rw [hx] at T
    have hT := (tid_in hx).2.1
    have S := fun v w h => stillTurns_any v X w h (fun c hc => valid_ok hT.ok c hc) (valid_len hT.ok)
    have T := Lib.hid T
    have HSI : Aside (∀ k, stillB X k = true → stillI X (k + 1) = stillI X k ++ [(k : Int)]) := (show ∀ k, _ → _ from fun k h => stillI_yes h)
    have HSN : Aside (∀ k, stillB X k = false → stillI X (k + 1) = stillI X k) := (show ∀ k, _ → _ from fun k h => stillI_no h)
    have HLN := Lib.hid (stillI_len X)
    have IB := fun k (hk : k < 24) w => index_bools (k := k) (stillB X) hk w
    show Calls _ _ _ _ (ToldI w (some (stillI X 24)))
    obtain ⟨ii, hii⟩ : ∃ ii, stillI X = ii := ⟨_, rfl⟩
    obtain ⟨bb, hbb⟩ : ∃ bb, stillB X = bb := ⟨_, rfl⟩
    have h0 : ii 0 = [] := by rw [← hii]; rfl
    rw [hii] at HSI HSN HLN ⊢
    rw [hbb] at HSI HSN S IB
    clear hx hT hii hbb
    go_enter Try.func36, Try.ntmps36
    go_wp2_with fail
    refine T.out.mono ?_; rintro e w1 ⟨hb1, v1, rfl, ho1⟩
    rw [got_some] at ho1
    have HB1 := Lib.hid hb1
    have HO1 := Lib.hid ho1
    clear T hb1 ho1
    go_wp2_with (refine makeL (en := encI) tyI rfl rfl 24 rfl rfl (by omega) (Below.refl _ w1) (Nat.le_refl _) ?_; intro w2 ho2 hb2 hB2)
    have S := Lib.hid (S v1 w2 ((own_reads HO1.out).below hb2))
    go_wp2_with fail
    refine S.out.mono ?_; rintro e w3 ⟨rfl, hb3⟩
    have ho3 := rows_below ho2 hb3
    have hb4 := below_next hb2 hb3
    clear S ho2 hb2 hb3 hB2
    go_wp2
    go_loopw [6, 7, 8, 19] (fun v' _ _ i wr => ∃ k : Nat, k ≤ 24 ∧ i = .int .i64 k ∧ OwnL encI 1 wr w1.heap.size 3 v' (ii k) ∧ Below w1.heap.size w1 wr) (fun _ _ _ i _ => 24 - (intOf i).toNat)
    case atStart => exact ⟨0, Nat.zero_le _, rfl, by rw [h0]; exact ho3, hb4⟩
    case round =>
      clear ho3 hb4
      obtain ⟨k, hk, rfl, hO, hbel⟩ := hrel
      by_cases hlt : k < 24
      · have hkz : (k : Int) < 24 := by omega
        have hk0 : (0 : Int) ≤ (k : Int) := by omega
        have J := fun w => IB k hlt w
        have HO := Lib.hid hO
        have HL := Lib.hid hbel
        have hsl := HLN.out k
        clear hO hbel IB
        cases hst : bb k
        · rw [hst] at J
          have HY := Lib.hid (HSN.out k hst)
          clear hst
          go_wp2_with fail
          go_roundw
          case rel => exact ⟨k + 1, by omega, by go_num, by rw [HY.out]; exact HO.out, HL.out⟩
          case measure => simp [intOf]; omega
        · rw [hst] at J
          have HY := Lib.hid (HSI.out k hst)
          clear hst
          go_wp2_with (at_builtin; refine appendL tyI encI_ok rfl rfl rfl rfl (xs := ii k) (World.ownsRow.alloc HO.out _) (lit1 _ _ _) (by simp; omega) (HL.out.alloc HL.out.size _) (by simp; have := HL.out.size; omega) ?_; intro v2 w4 ho4 hb4 hB4 hgr4)
          go_roundw
          case rel => exact ⟨k + 1, by omega, by go_num, by rw [HY.out]; exact ho4, hb4⟩
          case measure => simp [intOf]; omega
      · obtain rfl : k = 24 := by omega
        have HO := Lib.hid hO
        have HL := Lib.hid hbel
        clear hO hbel
        go_wp2
        go_ret2
        exact ⟨below_next HB1.out HL.out, _, rfl, rows_mono HO.out HB1.out.size⟩

end Go.Proofs.Ytdbokcbbpegilaa
