/-
  impl: the ratio of a train.
-/
import Derived.Test.YtbdhbkedeglagaaDoorGearB
namespace Go.Proofs.YtbdhbkedeglagaaDoor
set_option maxRecDepth 20000
open Go.ChangeShapes Go.WideShapes Go.ChangeAt Go.RowKit
set_option linter.unusedVariables false
set_option linter.unusedSimpArgs false
attribute [local go_sem] Oper.semAt_some

/-- Some cells lie in a block of their own, and may be written. -/
def LieAt (W : World) (g : Nat) (cs : List Value) : Prop := W.rangeAt g 0 cs ∧ W.there g 0 cs.length
theorem LieAt.new (w : World) (cs : List Value) (T : TypeId) : LieAt (w.alloc (.cells cs.toArray T)) w.heap.size cs := by
  have hc : ∀ j v, cs[j]? = some v → (w.alloc (.cells cs.toArray T)).cell? ⟨w.heap.size, 0 + j, none⟩ = some v := fun j v hv => by
    rw [Nat.zero_add, cell_of_row _ _ _ _ _ _ (heap_alloc_new w _)]
    simpa using hv
  exact ⟨hc, fun j hj => ⟨by rw [hc j _ (List.getElem?_eq_getElem hj)]; rfl, frozen_of_row _ _ _ _ _ (heap_alloc_new w _)⟩⟩
theorem LieAt.below {B : Nat} {W W' : World} {g : Nat} {cs : List Value} (h : LieAt W g cs) (hg : g < B) (hb : Below B W W') : LieAt W' g cs :=
  ⟨fun j v hv => (World.cell?_of_block (hb.block g hg)).trans (h.1 j v hv), fun j hj => ⟨by rw [World.cell?_of_block (hb.block g hg)]; exact (h.2 j hj).1, by rw [World.frozen?_of_block (hb.block g hg)]; exact (h.2 j hj).2⟩⟩
theorem LieAt.cell {W : World} {g : Nat} {cs : List Value} (h : LieAt W g cs) (j : Nat) {v : Value} (hv : cs[j]? = some v) : W.cell? ⟨g, j, none⟩ = some v := by
  have := h.1 j v hv
  rwa [Nat.zero_add] at this
theorem LieAt.free {W : World} {g : Nat} {cs : List Value} (h : LieAt W g cs) (j : Nat) (hj : j < cs.length) : W.frozen? ⟨g, j, none⟩ = false := by
  have := (h.2 j hj).2
  rwa [Nat.zero_add] at this
theorem LieAt.put {W : World} {g : Nat} {cs : List Value} (h : LieAt W g cs) (vs : List Value) (hl : vs.length = cs.length) : LieAt (W.setCells g 0 vs) g vs :=
  ⟨World.rangeAt_setCells_same W g 0 vs (by rw [hl]; exact h.2), World.there_setCells (by rw [hl]; exact h.2) g 0 vs⟩
theorem LieAt.other {W : World} {g g' : Nat} {cs : List Value} (h : LieAt W g cs) (vs : List Value) (hg : g ≠ g') : LieAt (W.setCells g' 0 vs) g cs :=
  ⟨World.rangeAt_setCells_apart h.1 g' 0 vs (.inl hg), World.there_setCells h.2 g' 0 vs⟩
theorem LieAt.keep {W W' : World} {g : Nat} {cs : List Value} (h : LieAt W g cs) {row : Option Nat} (hg : W.grownBy W' row) (hr : ∀ r, row = some r → ∃ o : Obj, W.heap[r]? = some o ∧ o.isCells = false) : LieAt W' g cs := by
  refine ⟨fun j v hv => Go.cell_kept (h.1 j v hv) hg hr, fun j hj => ?_⟩
  obtain ⟨v, hv⟩ := Option.isSome_iff_exists.1 (h.2 j hj).1
  exact ⟨by rw [Go.cell_kept hv hg hr]; rfl, (Go.frozen_kept hv hg hr).trans (h.2 j hj).2⟩
theorem keeps_cells (W : World) (g : Nat) (vs : List Value) : KeepsOthers W (W.setCells g 0 vs) := by
  have go : ∀ (vs : List Value) (o : Nat) (W : World), KeepsOthers W (W.setCells g o vs) := fun vs => by
    induction vs with
    | nil => intro o W; exact KeepsOthers.refl W
    | cons v vs ih => intro o W; exact (KeepsOthers.setCell W ⟨g, o, none⟩ v).trans (ih (o + 1) _)
  exact go vs 0 W
theorem below_cells {B : Nat} {A W : World} (h : Below B A W) {g : Nat} (hg : B ≤ g) (vs : List Value) : Below B A (W.setCells g 0 vs) := by
  have go : ∀ (vs : List Value) (o : Nat) (W : World), Below B A W → Below B A (W.setCells g o vs) := fun vs => by
    induction vs with
    | nil => intro o W h; exact h
    | cons v vs ih => intro o W h; exact ih (o + 1) _ (h.setCell (p := ⟨g, o, none⟩) hg v)
  exact go vs 0 W h

/-- The function's own cells. -/
structure TBox (n : Nat) (t b s : Int) (W : World) : Prop where
  r : LieAt W n [.int .i64 0, .int .i64 0]
  e : LieAt W (n + 1) [.nilIface]
  q : LieAt W (n + 1 + 1) [.int .i64 t, .int .i64 b]
  s : LieAt W (n + 1 + 1 + 1) [.int .i64 s]
theorem TBox.below {n B : Nat} {t b s : Int} {W W' : World} (h : TBox n t b s W) (hn : n + 3 < B) (hb : Below B W W') : TBox n t b s W' :=
  ⟨h.r.below (by omega) hb, h.e.below (by omega) hb, h.q.below (by omega) hb, h.s.below (by omega) hb⟩

theorem TBox.putQ {n : Nat} {t b s : Int} {W : World} (h : TBox n t b s W) (p q : Int) : TBox n p q s (W.setCells (n + 1 + 1) 0 [.int .i64 p, .int .i64 q]) :=
  ⟨h.r.other _ (by omega), h.e.other _ (by omega), h.q.put _ rfl, h.s.other _ (by omega)⟩
theorem TBox.putS {n : Nat} {t b s : Int} {W : World} (h : TBox n t b s W) (z : Int) : TBox n t b z (W.setCells (n + 1 + 1 + 1) 0 [.int .i64 z]) :=
  ⟨h.r.other _ (by omega), h.e.other _ (by omega), h.q.other _ (by omega), h.s.put _ rfl⟩
theorem block_cells {g q : Nat} {vs : List Value} {W : World} (h : q ≠ g) : (W.setCells g 0 vs).heap[q]? = W.heap[q]? := by
  rcases Nat.lt_or_gt_of_ne h with h | h
  · exact (below_cells (B := g) (A := W) (W := W) (Below.refl g W) (Nat.le_refl _) vs).block q h
  · have go : ∀ (vs : List Value) (o : Nat) (W : World), (W.setCells g o vs).heap[q]? = W.heap[q]? := fun vs => by
      induction vs with
      | nil => intro o W; rfl
      | cons v vs ih => intro o W; exact (ih (o + 1) _).trans (Below.heap_setCell W _ v q (by simp; omega))
    exact go vs 0 W
theorem info_ratio : (Tryd.prog.info? 43).map (·.size) = some 2 := by kernel_rfl
theorem range_at {m : Nat} {pre rest : List Nat} {x : Nat} (h : List.range m = pre ++ x :: rest) : x = pre.length ∧ pre.length < m := by
  have h1 : (List.range m)[pre.length]? = some x := by rw [h]; simp
  have h2 := (List.getElem?_eq_some_iff.1 h1)
  obtain ⟨hl, he⟩ := h2
  simp at hl he
  exact ⟨he.symm, hl⟩
theorem Chunk_any (p : Option Addr) (l c : Nat) (w : World) : Calls Tryd.prog 33 #[.slice p l c, .int .i64 2] w fun e w' => e = .returned (.func (.func 38) #[] #[.pointer (some ⟨w.heap.size, 0, none⟩), .pointer (some ⟨w.heap.size + 1, 0, none⟩)]) ∧ w' = (w.alloc (.cells #[.slice p l c] 23)).alloc (.cells #[.int .i64 2] 3) := by
  go_enter Tryd.func33, Tryd.ntmps33
  go_wp2
  go_ret
  exact ⟨rfl, rfl⟩

theorem results_rat {fn : Func} (h : fn.results = #[.cell 2 43, .cell 3 45]) (tmps : Array Value) (n : Nat) (h2 : tmps.getD 2 undef = .pointer (some ⟨n, 0, none⟩)) (h3 : tmps.getD 3 undef = .pointer (some ⟨n + 1, 0, none⟩)) (W : World) (a b : Int) (c : Value)
    (l1 : LieAt W n [.int .i64 a, .int .i64 b]) (l2 : LieAt W (n + 1) [c]) : (results fn tmps).run Tryd.prog W = .ok (.tuple #[.agg #[.int .i64 a, .int .i64 b], c]) W := by
  have c1 := l1.cell 0 rfl
  have c2 := l1.cell 1 rfl
  have c3 := l2.cell 0 rfl
  have L := run_loadVar_mid (P := Tryd.prog) W n 0 43 [.int .i64 a, .int .i64 b] _ l1.1 Tryd.underlying43 rfl info_ratio
  simp at h2 h3
  simp [results, h, h2, h3, c1, c2, c3, go_sem]
/-- What is told of a train. -/
def trainV (o : Option (Int × Nat)) : Value := match o with
  | none => .agg #[.int .i64 0, .int .i64 0]
  | some p => .agg #[.int .i64 p.1, .int .i64 p.2]
def TrainTold (w : World) (o : Option (Int × Nat)) (e : Ending) (w' : World) : Prop :=
  ∃ er, e = .returned (.tuple #[trainV o, er]) ∧ ((o.isSome = true ∧ er = .nilIface) ∨ (o.isSome = false ∧ ∃ T x, er = .iface T x)) ∧ Below w.heap.size w w'

theorem trainR_no (v : Value) (w : World) (T : TypeId) (x : Value) (F : ∀ w', Below w.heap.size w w' → Calls Tryd.prog 32 #[v] w' fun e w'' => e = .returned (.iface T x) ∧ w' = w'') :
    Calls Tryd.prog 25 #[v] w (TrainTold w none) := by
  have F2 := F ((w.alloc (.cells #[.int .i64 0, .int .i64 0] 43)).alloc (.cells #[.nilIface] 45)) ((one_lies _ _).alloc (by simp) _)
  clear F
  go_enter Tryd.func25, Tryd.ntmps25
  go_wp2_with fail
  refine F2.mono ?_; rintro e w1 ⟨rfl, rfl⟩
  go_wp2
  refine bodyPost_ret (v := .tuple #[.agg #[.int .i64 0, .int .i64 0], .iface T x]) (by simp [results, Tryd.results25, go_sem]) rfl ⟨_, rfl, .inr ⟨rfl, T, x, rfl⟩, (one_lies _ _).alloc (by simp) _⟩

set_option maxHeartbeats 8000000 in
theorem trainR_yes (v : Value) (xs : List Int) (w : World) (hv : ReadsL encI w v xs) (hT : trainB xs = true) (T0 : TypeId) (p0 : Value) (hE : w.cell? ⟨0, 0, none⟩ = some (.iface T0 p0)) (hG : 0 < w.heap.size) :
    Calls Tryd.prog 25 #[v] w (TrainTold w (trainO xs)) := by
  obtain ⟨h2, h10, hev, hx⟩ := trainB_true.1 hT
  have F := fun w' (hb : Below w.heap.size w w') => fits_list v xs w' (hv.below hb) h2 h10 hev
  rw [misO_none hx] at F
  obtain ⟨p, cap, rfl, hc1, hc2, hp0, hp⟩ := hv
  obtain ⟨g, o, rfl, hg, hr⟩ := hp (by rintro rfl; have := hp0 rfl; omega)
  obtain ⟨m, hm⟩ : ∃ m, xs.length = 2 * m := ⟨xs.length / 2, by omega⟩
  have hm2 : xs.length / 2 = m := by omega
  have HR := Lib.hid hr
  have HX := Lib.hid hx
  have HE := Lib.hid hE
  have F2 := F ((w.alloc (.cells #[.int .i64 0, .int .i64 0] 43)).alloc (.cells #[.nilIface] 45)) ((one_lies _ _).alloc (by simp) _)
  clear hp hr hx F hp0 hE hT
  rw [hm] at F2 hc1 ⊢
  refine (callsIn_wide (n := 3)).1 (callsIn_of_wp_marks Tryd.func25 rfl trivial ?_ rfl)
  refine (wpIn_wide (n := 3)).2 ?_
  simp only [Tryd.ntmps25, List.size_toArray, List.length_cons, List.length_nil, Nat.reduceAdd, Nat.reduceSub, Array.replicate_succ, Array.replicate_zero, List.push_toArray, List.append_toArray, List.nil_append, List.cons_append]
  go_wp2_with fail
  refine F2.mono ?_; rintro e w1 ⟨rfl, rfl⟩
  go_wp2_with fail
  refine (Chunk_any _ _ _ _).mono ?_; rintro e w1 ⟨rfl, rfl⟩
  clear F2
  go_wp2_with fail
  show Code.wp _ _ _ _ ((((((w.alloc (.cells #[.int .i64 0, .int .i64 0] 43)).alloc (.cells #[.nilIface] 45)).alloc (.cells #[.int .i64 1, .int .i64 1] 43)).alloc (.cells #[.int .i64 1] 3)).alloc (.cells #[.slice (some ⟨g, o, none⟩) (2 * m) cap] 23)).alloc (.cells #[.int .i64 2] 3))
  have hW0 : ∃ W0, ((((((w.alloc (.cells #[.int .i64 0, .int .i64 0] 43)).alloc (.cells #[.nilIface] 45)).alloc (.cells #[.int .i64 1, .int .i64 1] 43)).alloc (.cells #[.int .i64 1] 3)).alloc (.cells #[.slice (some ⟨g, o, none⟩) (2 * m) cap] 23)).alloc (.cells #[.int .i64 2] 3)) = W0 ∧ W0.heap.size = w.heap.size + 6 ∧ TBox w.heap.size 1 1 1 W0 ∧ BoxS (w.heap.size + 1 + 1 + 1 + 1) (.slice (some ⟨g, o, none⟩) (2 * m) cap) W0 ∧ Below w.heap.size w W0 := by
    refine ⟨_, rfl, by simp, ?_, ?_, ?_⟩
    · have b1 := one_lies w (.cells #[.int .i64 0, .int .i64 0] 43)
      have l0 := LieAt.new w [.int .i64 0, .int .i64 0] 43
      have l1 := LieAt.new (w.alloc (.cells #[.int .i64 0, .int .i64 0] 43)) [.nilIface] 45
      have l2 := LieAt.new ((w.alloc (.cells #[.int .i64 0, .int .i64 0] 43)).alloc (.cells #[.nilIface] 45)) [.int .i64 1, .int .i64 1] 43
      have l3 := LieAt.new (((w.alloc (.cells #[.int .i64 0, .int .i64 0] 43)).alloc (.cells #[.nilIface] 45)).alloc (.cells #[.int .i64 1, .int .i64 1] 43)) [.int .i64 1] 3
      simp only [World.size_alloc] at l1 l2 l3
      have up : ∀ (W : World) (g : Nat) (cs : List Value) (o : Obj), g < W.heap.size → LieAt W g cs → LieAt (W.alloc o) g cs := fun W g cs o hg h => h.below hg (one_lies W o)
      refine ⟨?_, ?_, ?_, ?_⟩
      · exact up _ _ _ _ (by first | (simp; done) | (simp; omega)) (up _ _ _ _ (by first | (simp; done) | (simp; omega)) (up _ _ _ _ (by first | (simp; done) | (simp; omega)) (up _ _ _ _ (by first | (simp; done) | (simp; omega)) (up _ _ _ _ (by simp) l0))))
      · exact up _ _ _ _ (by first | (simp; done) | (simp; omega)) (up _ _ _ _ (by first | (simp; done) | (simp; omega)) (up _ _ _ _ (by first | (simp; done) | (simp; omega)) (up _ _ _ _ (by simp) l1)))
      · exact up _ _ _ _ (by first | (simp; done) | (simp; omega)) (up _ _ _ _ (by first | (simp; done) | (simp; omega)) (up _ _ _ _ (by simp) l2))
      · exact up _ _ _ _ (by first | (simp; done) | (simp; omega)) (up _ _ _ _ (by simp) l3)
    · have l4 := LieAt.new ((((w.alloc (.cells #[.int .i64 0, .int .i64 0] 43)).alloc (.cells #[.nilIface] 45)).alloc (.cells #[.int .i64 1, .int .i64 1] 43)).alloc (.cells #[.int .i64 1] 3)) [.slice (some ⟨g, o, none⟩) (2 * m) cap] 23
      have l5 := LieAt.new (((((w.alloc (.cells #[.int .i64 0, .int .i64 0] 43)).alloc (.cells #[.nilIface] 45)).alloc (.cells #[.int .i64 1, .int .i64 1] 43)).alloc (.cells #[.int .i64 1] 3)).alloc (.cells #[.slice (some ⟨g, o, none⟩) (2 * m) cap] 23)) [.int .i64 2] 3
      simp only [World.size_alloc] at l4 l5
      exact ⟨(l4.below (by simp) (one_lies _ (.cells #[.int .i64 2] 3))).cell 0 rfl, l5.cell 0 rfl⟩
    · exact (((((one_lies _ _).alloc (by simp) _).alloc (by simp; omega) _).alloc (by simp; omega) _).alloc (by simp; omega) _).alloc (by simp; omega) _
  obtain ⟨W0, eW, hsz, hB0, hS0, hL0⟩ := hW0
  rw [eW]
  clear eW
  have G := chunk_gives g o cap m (w.heap.size + 1 + 1 + 1 + 1) (3 - 1) (by omega) W0 (by omega) hc1 hc2 hS0 (by omega)
  clear hS0
  refine (wpIn_wide (n := 3)).1 ?_
  refine range_vars (by omega) rfl (enters_of Tryd.func38 (by kernel_rfl) rfl) G (Below.refl _ _) (fun r hr => by simp at hr; omega) (fun _ => rfl)
    (fun pre W => (∃ t b : Nat, ratN xs pre.length = some (t, b) ∧ TBox w.heap.size t b (sgnT pre.length) W) ∧ Below w.heap.size w W)
    (fun c pre W => (c = .ret ∧ ratN xs pre.length = none ∧ LieAt W w.heap.size [.int .i64 0, .int .i64 0] ∧ LieAt W (w.heap.size + 1) [.iface T0 p0]) ∧ Below w.heap.size w W)
    (fun pre A C h hb => ⟨by obtain ⟨⟨t, b, h1, h2⟩, -⟩ := h; exact ⟨t, b, h1, h2.below (by omega) hb⟩, h.2.trans (hb.mono (by omega))⟩)
    (fun c pre A C h hb => ⟨⟨h.1.1, h.1.2.1, h.1.2.2.1.below (by omega) hb, h.1.2.2.2.below (by omega) hb⟩, h.2.trans (hb.mono (by omega))⟩)
    ⟨⟨1, 1, rfl, hB0⟩, hL0⟩
    (fun x a' W => a' = { tmps := #[.slice (some ⟨g, o, none⟩) (2 * m) cap, undef, .pointer (some ⟨w.heap.size, 0, none⟩), .pointer (some ⟨w.heap.size + 1, 0, none⟩), .nilIface, .pointer (some ⟨w.heap.size + 1 + 1, 0, none⟩), .pointer (some ⟨w.heap.size + 1 + 1 + 1, 0, none⟩), .slice (some ⟨g, o + 2 * x, none⟩) 2 2, .slice (some ⟨g, o, none⟩) (2 * m) cap, .nilIface, .nilIface, .bool false, undef, undef, .agg #[.int .i64 1, .int .i64 1], .slice (some ⟨g, o, none⟩) (2 * m) cap, .func (.func 38) #[] #[.pointer (some ⟨w.heap.size + 1 + 1 + 1 + 1, 0, none⟩), .pointer (some ⟨w.heap.size + 1 + 1 + 1 + 1 + 1, 0, none⟩)], .slice (some ⟨g, o + 2 * x, none⟩) 2 2, undef, undef, undef, undef, undef, undef, undef, undef, undef, undef, undef, undef, undef, undef, undef, undef, undef, undef, undef, undef, undef, undef, undef, undef, undef, undef, undef, undef, undef, undef, undef, undef], defers := [] })
    (fun x a' A C h hb => h) (fun x a' A r o h hl => h)
    ?assign ?body ?done ?stop
  case assign =>
    intro l x A K hlt hK
    dsimp only [encK]
    gi_wp2
    exact hK _ _ (Below.refl _ _) rfl
  case body =>
    rintro l pre x a' A ⟨rest, hx⟩ hlt ⟨⟨t, b, hrat, hB⟩, hBel⟩ rfl
    obtain ⟨hxl, hpl⟩ := range_at hx
    obtain ⟨g1, g2, g3⟩ := nth_gear HX.out (j := 2 * x) (by omega)
    obtain ⟨g4, g5, g6⟩ := nth_gear HX.out (j := 2 * x + 1) (by omega)
    have c0 := int_cell HR.out g3
    have c1 := int_cell HR.out g6
    have HL := ratN_low (by omega) HX.out hrat
    have HM := ratN_most hrat
    have hnext : ratN xs (pre.length + 1) = stepR (some (t, b)) (nth xs (2 * x)) (nth xs (2 * x + 1)) := by
      rw [hxl]
      show stepR (ratN xs pre.length) _ _ = _
      rw [hrat]
    obtain ⟨s, hs⟩ : ∃ s, sgnT pre.length = s := ⟨_, rfl⟩
    have hs1 : s = 1 ∨ s = -1 := by rw [← hs]; exact sgnT_is _
    have HS : Aside (sgnT (pre.length + 1) = -s) := (show _ = _ from by rw [sgnT_next, hs])
    rw [hs] at hB
    have t1 := HL.t1
    have b1 := HL.b1
    simp only at HM
    unfold stepR at hnext
    simp only at hnext
    have mxb := Nat.mul_le_mul HM.1 g2
    have myb := Nat.mul_le_mul HM.2 g5
    have mx0 : 1 ≤ t * nth xs (2 * x) := Nat.mul_pos t1 (by omega)
    have my0 : 1 ≤ b * nth xs (2 * x + 1) := Nat.mul_pos b1 (by omega)
    generalize nth xs (2 * x) = X at *
    generalize nth xs (2 * x + 1) = Y at *
    have q1 : (t : Int) * (X : Int) = ((t * X : Nat) : Int) := (Int.natCast_mul _ _).symm
    have q2 : (b : Int) * (Y : Int) = ((b * Y : Nat) : Int) := (Int.natCast_mul _ _).symm
    generalize t * X = mx at *
    generalize b * Y = my at *
    have L := fun w => lowest_any mx my ⟨mx0, by omega⟩ ⟨my0, by omega⟩ w
    unfold ratV at L
    obtain ⟨p, hp⟩ : ∃ p, (lowT mx my).1 = p := ⟨_, rfl⟩
    obtain ⟨q, hq⟩ : ∃ q, (lowT mx my).2 = q := ⟨_, rfl⟩
    have elow : lowT mx my = (p, q) := by rw [← hp, ← hq]
    have hlow := lowT_pos mx0 my0
    rw [elow] at hnext hlow
    rw [hp, hq] at L
    simp only at hlow
    have q3 : IntKind.i64.wrap (mx : Int) = (mx : Int) := by rw [IntKind.wrap_i64]; omega
    have q4 : IntKind.i64.wrap (my : Int) = (my : Int) := by rw [IntKind.wrap_i64]; omega
    have q5 : IntKind.i64.wrap (-s) = -s := by rw [IntKind.wrap_i64]; omega
    have hpb : p ≤ 240000000000 := by omega
    have hqb : q ≤ 240000000000 := by omega
    have HNX := Lib.hid hnext
    have hSn : w.heap.size + 3 < A.drew.heap.size := by show _ < A.heap.size; omega
    have hSw : w.heap.size ≤ A.drew.heap.size := by omega
    have hSz : ∀ r ∈ [w.heap.size + 1 + 1 + 1 + 1, w.heap.size + 1 + 1 + 1 + 1 + 1], r < A.drew.heap.size := fun r hr => by
      show r < A.heap.size
      simp at hr; omega
    clear hnext elow hlow HM HL mxb myb mx0 my0 hs hp hq hrat hxl g3 g6 hx
    gi_upto_region 7 with fail
    refine wpIn_mono (Q := fun e a' w' => match e with | .normal => (a' = { tmps := #[.slice (some ⟨g, o, none⟩) (2 * m) cap, undef, .pointer (some ⟨w.heap.size, 0, none⟩), .pointer (some ⟨w.heap.size + 1, 0, none⟩), .nilIface, .pointer (some ⟨w.heap.size + 1 + 1, 0, none⟩), .pointer (some ⟨w.heap.size + 1 + 1 + 1, 0, none⟩), .slice (some ⟨g, o + 2 * x, none⟩) 2 2, .slice (some ⟨g, o, none⟩) (2 * m) cap, .nilIface, .nilIface, .bool false, undef, undef, .agg #[.int .i64 1, .int .i64 1], .slice (some ⟨g, o, none⟩) (2 * m) cap, .func (.func 38) #[] #[.pointer (some ⟨w.heap.size + 1 + 1 + 1 + 1, 0, none⟩), .pointer (some ⟨w.heap.size + 1 + 1 + 1 + 1 + 1, 0, none⟩)], .slice (some ⟨g, o + 2 * x, none⟩) 2 2, .pointer (some ⟨w.heap.size + 1 + 1, 0, none⟩), .int .i64 (t : Nat), .slice (some ⟨g, o + 2 * x, none⟩) 2 2, .pointer (some ⟨g, o + 2 * x, none⟩), .int .i64 (X : Nat), .int .i64 (mx : Nat), .pointer (some ⟨w.heap.size + 1 + 1, 1, none⟩), .int .i64 (b : Nat), .slice (some ⟨g, o + 2 * x, none⟩) 2 2, .pointer (some ⟨g, o + 2 * x + 1, none⟩), .int .i64 (Y : Nat), .int .i64 (my : Nat), .agg #[.int .i64 (p : Nat), .int .i64 (q : Nat)], .int .i64 s, .int .i64 (-s), undef, undef, undef, undef, undef, undef, undef, undef, undef, undef, undef, undef, undef, undef, undef, undef, undef], defers := [] } ∧ TBox w.heap.size p q (-s) w' ∧ Below w.heap.size w w' ∧ KeepsOthers A w' ∧ ∀ r ∈ [w.heap.size + 1 + 1 + 1 + 1, w.heap.size + 1 + 1 + 1 + 1 + 1], w'.heap[r]? = A.heap[r]?) | _ => False) ?reg ?rest
    case reg =>
     refine drawn_in (S := fun w' => Below w.heap.size w w') (by rintro ⟨_, _, h⟩; exact h) (by rfl) (by kernel_rfl) hBel.drew (fun hHeld => ?_)
     have hB : TBox w.heap.size t b s A.drew := ⟨hB.r, hB.e, hB.q, hB.s⟩
     have hKO : KeepsOthers A A.drew := KeepsOthers.drew A
     have hKB : ∀ r ∈ [w.heap.size + 1 + 1 + 1 + 1, w.heap.size + 1 + 1 + 1 + 1 + 1], A.drew.heap[r]? = A.heap[r]? := fun _ _ => rfl
     clear hBel
     generalize A.drew = W1 at *
     refine wpAnyH_take (i := 0) (oi := _) (v := .pointer (some ⟨w.heap.size + 1 + 1, 0, none⟩)) rfl (by kernel_rfl) (by kernel_rfl) (by kernel_rfl) (fun _ _ _ h => h) (Or.inl ⟨by rfl, fun w h => by go_simp⟩) hHeld ?_
     try simp only [Act.put, List.setIfInBounds_toArray, List.set_cons_zero, List.set_cons_succ, List.getElem_toArray, List.getElem_cons_succ, List.getElem_cons_zero]
     refine wpAnyH_take (i := 2) (oi := _) (v := .slice (some ⟨g, o + 2 * x, none⟩) 2 2) rfl (by kernel_rfl) (by kernel_rfl) (by kernel_rfl) (fun _ _ _ h => h) (Or.inl ⟨by rfl, fun w h => by go_simp⟩) hHeld ?_
     try simp only [Act.put, List.setIfInBounds_toArray, List.set_cons_zero, List.set_cons_succ, List.getElem_toArray, List.getElem_cons_succ, List.getElem_cons_zero]
     refine wpAnyH_take (i := 3) (oi := _) (v := .pointer (some ⟨g, o + 2 * x, none⟩)) rfl (by kernel_rfl) (by kernel_rfl) (by kernel_rfl) (fun _ _ _ h => h) (Or.inl ⟨by rfl, fun w h => by go_simp⟩) hHeld ?_
     try simp only [Act.put, List.setIfInBounds_toArray, List.set_cons_zero, List.set_cons_succ, List.getElem_toArray, List.getElem_cons_succ, List.getElem_cons_zero]
     refine wpAnyH_take (i := 4) (oi := _) (v := .int .i64 (X : Nat)) rfl (by kernel_rfl) (by kernel_rfl) (by kernel_rfl) (fun _ _ _ h => h) (Or.inl ⟨by rfl, fun w h => by have hcell := ((h.cell (p := ⟨g, o + 2 * x, none⟩) hg).trans c0); go_simp⟩) hHeld ?_
     try simp only [Act.put, List.setIfInBounds_toArray, List.set_cons_zero, List.set_cons_succ, List.getElem_toArray, List.getElem_cons_succ, List.getElem_cons_zero]
     refine wpAnyH_take (i := 6) (oi := _) (v := .pointer (some ⟨w.heap.size + 1 + 1, 1, none⟩)) rfl (by kernel_rfl) (by kernel_rfl) (by kernel_rfl) (fun _ _ _ h => h) (Or.inl ⟨by rfl, fun w h => by go_simp⟩) hHeld ?_
     try simp only [Act.put, List.setIfInBounds_toArray, List.set_cons_zero, List.set_cons_succ, List.getElem_toArray, List.getElem_cons_succ, List.getElem_cons_zero]
     refine wpAnyH_take (i := 8) (oi := _) (v := .slice (some ⟨g, o + 2 * x, none⟩) 2 2) rfl (by kernel_rfl) (by kernel_rfl) (by kernel_rfl) (fun _ _ _ h => h) (Or.inl ⟨by rfl, fun w h => by go_simp⟩) hHeld ?_
     try simp only [Act.put, List.setIfInBounds_toArray, List.set_cons_zero, List.set_cons_succ, List.getElem_toArray, List.getElem_cons_succ, List.getElem_cons_zero]
     refine wpAnyH_take (i := 9) (oi := _) (v := .pointer (some ⟨g, o + 2 * x + 1, none⟩)) rfl (by kernel_rfl) (by kernel_rfl) (by kernel_rfl) (fun _ _ _ h => h) (Or.inl ⟨by rfl, fun w h => by go_simp⟩) hHeld ?_
     try simp only [Act.put, List.setIfInBounds_toArray, List.set_cons_zero, List.set_cons_succ, List.getElem_toArray, List.getElem_cons_succ, List.getElem_cons_zero]
     refine wpAnyH_take (i := 10) (oi := _) (v := .int .i64 (Y : Nat)) rfl (by kernel_rfl) (by kernel_rfl) (by kernel_rfl) (fun _ _ _ h => h) (Or.inl ⟨by rfl, fun w h => by have hcell := ((h.cell (p := ⟨g, o + 2 * x + 1, none⟩) hg).trans c1); go_simp⟩) hHeld ?_
     try simp only [Act.put, List.setIfInBounds_toArray, List.set_cons_zero, List.set_cons_succ, List.getElem_toArray, List.getElem_cons_succ, List.getElem_cons_zero]
     refine wpAnyH_ready (rs := [1, 7, 13]) (by kernel_rfl) (by simp) ?_
     refine AllReadyH.cons (o := _) rfl (fun K hK => ?_) (AllReadyH.cons (o := _) rfl (fun K hK => ?_) (AllReadyH.cons (o := _) rfl (fun K hK => ?_) AllReadyH.nil))
     · skip
       have hc := hB.q.cell 0 rfl
       go_simp
       refine hK.out _ _ hHeld (fun hHeld => ?_)
       clear hK K hc
       try simp only [Act.put, List.setIfInBounds_toArray, List.set_cons_zero, List.set_cons_succ, List.getElem_toArray, List.getElem_cons_succ, List.getElem_cons_zero]
       refine wpAnyH_take (i := 5) (oi := _) (v := .int .i64 (mx : Nat)) rfl (by kernel_rfl) (by kernel_rfl) (by kernel_rfl) (fun _ _ _ h => h) (Or.inl ⟨by rfl, fun w h => by go_simp⟩) hHeld ?_
       try simp only [Act.put, List.setIfInBounds_toArray, List.set_cons_zero, List.set_cons_succ, List.getElem_toArray, List.getElem_cons_succ, List.getElem_cons_zero]
       refine wpAnyH_ready (rs := [7, 13]) (by kernel_rfl) (by simp) ?_
       refine AllReadyH.cons (o := _) rfl (fun K hK => ?_) (AllReadyH.cons (o := _) rfl (fun K hK => ?_) AllReadyH.nil)
       · skip
         have hc := hB.q.cell 1 rfl
         go_simp
         refine hK.out _ _ hHeld (fun hHeld => ?_)
         clear hK K hc
         try simp only [Act.put, List.setIfInBounds_toArray, List.set_cons_zero, List.set_cons_succ, List.getElem_toArray, List.getElem_cons_succ, List.getElem_cons_zero]
         refine wpAnyH_take (i := 11) (oi := _) (v := .int .i64 (my : Nat)) rfl (by kernel_rfl) (by kernel_rfl) (by kernel_rfl) (fun _ _ _ h => h) (Or.inl ⟨by rfl, fun w h => by go_simp⟩) hHeld ?_
         try simp only [Act.put, List.setIfInBounds_toArray, List.set_cons_zero, List.set_cons_succ, List.getElem_toArray, List.getElem_cons_succ, List.getElem_cons_zero]
         refine wpAnyH_ready (rs := [12, 13]) (by kernel_rfl) (by simp) ?_
         refine AllReadyH.cons (o := _) rfl (fun K hK => ?_) (AllReadyH.cons (o := _) rfl (fun K hK => ?_) AllReadyH.nil)
         · skip
           go_simp
           refine (L _).mono ?_; rintro e w2 ⟨rfl, hb2⟩
           go_wp2_with fail
           replace hKB := fun q hq => (hb2.block q (hSz q hq)).trans (hKB q hq)
           replace hKO := hKO.trans (keeps_below hb2)
           replace hB := hB.below hSn hb2
           refine hK.out _ _ (hHeld.trans (hb2.mono hSw)) (fun hHeld => ?_)
           clear hK K hb2
           try simp only [Act.put, List.setIfInBounds_toArray, List.set_cons_zero, List.set_cons_succ, List.getElem_toArray, List.getElem_cons_succ, List.getElem_cons_zero]
           refine wpAnyH_ready (rs := [13, 15]) (by kernel_rfl) (by simp) ?_
           refine AllReadyH.cons (o := _) rfl (fun K hK => ?_) (AllReadyH.cons (o := _) rfl (fun K hK => ?_) AllReadyH.nil)
           · skip
             have hc := hB.s.cell 0 rfl
             go_simp
             refine hK.out _ _ hHeld (fun hHeld => ?_)
             clear hK K hc
             try simp only [Act.put, List.setIfInBounds_toArray, List.set_cons_zero, List.set_cons_succ, List.getElem_toArray, List.getElem_cons_succ, List.getElem_cons_zero]
             refine wpAnyH_take (i := 14) (oi := _) (v := .int .i64 (-s)) rfl (by kernel_rfl) (by kernel_rfl) (by kernel_rfl) (fun _ _ _ h => h) (Or.inl ⟨by rfl, fun w h => by go_simp⟩) hHeld ?_
             try simp only [Act.put, List.setIfInBounds_toArray, List.set_cons_zero, List.set_cons_succ, List.getElem_toArray, List.getElem_cons_succ, List.getElem_cons_zero]
             refine wpAnyH_ready (rs := [15]) (by kernel_rfl) (by simp) ?_
             refine AllReadyH.cons (o := _) rfl (fun K hK => ?_) AllReadyH.nil
             rw [if_pos (by rfl)]
             refine wp_store_mid 43 _ _ rfl (w.heap.size + 1 + 1) 0 #[.int .i64 (p : Nat), .int .i64 (q : Nat)] rfl rfl hB.q.2 info_ratio (by simp [Value.oneCell']) ?_
             have hB3 := hB.putQ (p : Nat) (q : Nat)
             have hK3 := hKO.trans (keeps_cells _ (w.heap.size + 1 + 1) [.int .i64 (p : Nat), .int .i64 (q : Nat)])
             have hKB3 := fun r hr => (block_cells (g := w.heap.size + 1 + 1) (q := r) (vs := [.int .i64 (p : Nat), .int .i64 (q : Nat)]) (by simp at hr; omega)).trans (hKB r hr)
             refine hK.out _ _ (below_cells hHeld (by omega) _) (fun hHeld => ?_)
             clear hK K hB hKO hKB
             have hB := hB3
             have hKO := hK3
             have hKB := hKB3
             clear hB3 hK3 hKB3
             try simp only [Act.put, List.setIfInBounds_toArray, List.set_cons_zero, List.set_cons_succ, List.getElem_toArray, List.getElem_cons_succ, List.getElem_cons_zero]
             refine wpAnyH_ready (rs := [16]) (by kernel_rfl) (by simp) ?_
             refine AllReadyH.cons (o := _) rfl (fun K hK => ?_) AllReadyH.nil
             have hc := hB.s.cell 0 rfl
             have hf := hB.s.free 0 (by simp)
             have hB3 := hB.putS (-s)
             have hK3 := hKO.trans (keeps_cells _ (w.heap.size + 1 + 1 + 1) [.int .i64 (-s)])
             have hKB3 := fun r hr => (block_cells (g := w.heap.size + 1 + 1 + 1) (q := r) (vs := [.int .i64 (-s)]) (by simp at hr; omega)).trans (hKB r hr)
             go_simp
             refine hK.out _ _ (below_cells hHeld (g := w.heap.size + 1 + 1 + 1) (by omega) [.int .i64 (-s)]) (fun hHeld => ?_)
             clear hK K hB hKO hKB hc hf
             have hB := hB3
             have hKO := hK3
             have hKB := hKB3
             clear hB3 hK3 hKB3
             try simp only [Act.put, List.setIfInBounds_toArray, List.set_cons_zero, List.set_cons_succ, List.getElem_toArray, List.getElem_cons_succ, List.getElem_cons_zero]
             refine wpAnyH_done (by kernel_rfl) ?_ _
             exact ⟨rfl, hB, hHeld, hKO, hKB⟩
           · skip
             rw [if_pos (by rfl)]
             refine wp_store_mid 43 _ _ rfl (w.heap.size + 1 + 1) 0 #[.int .i64 (p : Nat), .int .i64 (q : Nat)] rfl rfl hB.q.2 info_ratio (by simp [Value.oneCell']) ?_
             have hB3 := hB.putQ (p : Nat) (q : Nat)
             have hK3 := hKO.trans (keeps_cells _ (w.heap.size + 1 + 1) [.int .i64 (p : Nat), .int .i64 (q : Nat)])
             have hKB3 := fun r hr => (block_cells (g := w.heap.size + 1 + 1) (q := r) (vs := [.int .i64 (p : Nat), .int .i64 (q : Nat)]) (by simp at hr; omega)).trans (hKB r hr)
             refine hK.out _ _ (below_cells hHeld (by omega) _) (fun hHeld => ?_)
             clear hK K hB hKO hKB
             have hB := hB3
             have hKO := hK3
             have hKB := hKB3
             clear hB3 hK3 hKB3
             try simp only [Act.put, List.setIfInBounds_toArray, List.set_cons_zero, List.set_cons_succ, List.getElem_toArray, List.getElem_cons_succ, List.getElem_cons_zero]
             refine wpAnyH_ready (rs := [13]) (by kernel_rfl) (by simp) ?_
             refine AllReadyH.cons (o := _) rfl (fun K hK => ?_) AllReadyH.nil
             have hc := hB.s.cell 0 rfl
             go_simp
             refine hK.out _ _ hHeld (fun hHeld => ?_)
             clear hK K hc
             try simp only [Act.put, List.setIfInBounds_toArray, List.set_cons_zero, List.set_cons_succ, List.getElem_toArray, List.getElem_cons_succ, List.getElem_cons_zero]
             refine wpAnyH_take (i := 14) (oi := _) (v := .int .i64 (-s)) rfl (by kernel_rfl) (by kernel_rfl) (by kernel_rfl) (fun _ _ _ h => h) (Or.inl ⟨by rfl, fun w h => by go_simp⟩) hHeld ?_
             try simp only [Act.put, List.setIfInBounds_toArray, List.set_cons_zero, List.set_cons_succ, List.getElem_toArray, List.getElem_cons_succ, List.getElem_cons_zero]
             refine wpAnyH_ready (rs := [16]) (by kernel_rfl) (by simp) ?_
             refine AllReadyH.cons (o := _) rfl (fun K hK => ?_) AllReadyH.nil
             have hc := hB.s.cell 0 rfl
             have hf := hB.s.free 0 (by simp)
             have hB3 := hB.putS (-s)
             have hK3 := hKO.trans (keeps_cells _ (w.heap.size + 1 + 1 + 1) [.int .i64 (-s)])
             have hKB3 := fun r hr => (block_cells (g := w.heap.size + 1 + 1 + 1) (q := r) (vs := [.int .i64 (-s)]) (by simp at hr; omega)).trans (hKB r hr)
             go_simp
             refine hK.out _ _ (below_cells hHeld (g := w.heap.size + 1 + 1 + 1) (by omega) [.int .i64 (-s)]) (fun hHeld => ?_)
             clear hK K hB hKO hKB hc hf
             have hB := hB3
             have hKO := hK3
             have hKB := hKB3
             clear hB3 hK3 hKB3
             try simp only [Act.put, List.setIfInBounds_toArray, List.set_cons_zero, List.set_cons_succ, List.getElem_toArray, List.getElem_cons_succ, List.getElem_cons_zero]
             refine wpAnyH_done (by kernel_rfl) ?_ _
             exact ⟨rfl, hB, hHeld, hKO, hKB⟩
         · skip
           have hc := hB.s.cell 0 rfl
           go_simp
           refine hK.out _ _ hHeld (fun hHeld => ?_)
           clear hK K hc
           try simp only [Act.put, List.setIfInBounds_toArray, List.set_cons_zero, List.set_cons_succ, List.getElem_toArray, List.getElem_cons_succ, List.getElem_cons_zero]
           refine wpAnyH_take (i := 14) (oi := _) (v := .int .i64 (-s)) rfl (by kernel_rfl) (by kernel_rfl) (by kernel_rfl) (fun _ _ _ h => h) (Or.inl ⟨by rfl, fun w h => by go_simp⟩) hHeld ?_
           try simp only [Act.put, List.setIfInBounds_toArray, List.set_cons_zero, List.set_cons_succ, List.getElem_toArray, List.getElem_cons_succ, List.getElem_cons_zero]
           refine wpAnyH_ready (rs := [12]) (by kernel_rfl) (by simp) ?_
           refine AllReadyH.cons (o := _) rfl (fun K hK => ?_) AllReadyH.nil
           go_simp
           refine (L _).mono ?_; rintro e w2 ⟨rfl, hb2⟩
           go_wp2_with fail
           replace hKB := fun q hq => (hb2.block q (hSz q hq)).trans (hKB q hq)
           replace hKO := hKO.trans (keeps_below hb2)
           replace hB := hB.below hSn hb2
           refine hK.out _ _ (hHeld.trans (hb2.mono hSw)) (fun hHeld => ?_)
           clear hK K hb2
           try simp only [Act.put, List.setIfInBounds_toArray, List.set_cons_zero, List.set_cons_succ, List.getElem_toArray, List.getElem_cons_succ, List.getElem_cons_zero]
           refine wpAnyH_ready (rs := [15]) (by kernel_rfl) (by simp) ?_
           refine AllReadyH.cons (o := _) rfl (fun K hK => ?_) AllReadyH.nil
           rw [if_pos (by rfl)]
           refine wp_store_mid 43 _ _ rfl (w.heap.size + 1 + 1) 0 #[.int .i64 (p : Nat), .int .i64 (q : Nat)] rfl rfl hB.q.2 info_ratio (by simp [Value.oneCell']) ?_
           have hB3 := hB.putQ (p : Nat) (q : Nat)
           have hK3 := hKO.trans (keeps_cells _ (w.heap.size + 1 + 1) [.int .i64 (p : Nat), .int .i64 (q : Nat)])
           have hKB3 := fun r hr => (block_cells (g := w.heap.size + 1 + 1) (q := r) (vs := [.int .i64 (p : Nat), .int .i64 (q : Nat)]) (by simp at hr; omega)).trans (hKB r hr)
           refine hK.out _ _ (below_cells hHeld (by omega) _) (fun hHeld => ?_)
           clear hK K hB hKO hKB
           have hB := hB3
           have hKO := hK3
           have hKB := hKB3
           clear hB3 hK3 hKB3
           try simp only [Act.put, List.setIfInBounds_toArray, List.set_cons_zero, List.set_cons_succ, List.getElem_toArray, List.getElem_cons_succ, List.getElem_cons_zero]
           refine wpAnyH_ready (rs := [16]) (by kernel_rfl) (by simp) ?_
           refine AllReadyH.cons (o := _) rfl (fun K hK => ?_) AllReadyH.nil
           have hc := hB.s.cell 0 rfl
           have hf := hB.s.free 0 (by simp)
           have hB3 := hB.putS (-s)
           have hK3 := hKO.trans (keeps_cells _ (w.heap.size + 1 + 1 + 1) [.int .i64 (-s)])
           have hKB3 := fun r hr => (block_cells (g := w.heap.size + 1 + 1 + 1) (q := r) (vs := [.int .i64 (-s)]) (by simp at hr; omega)).trans (hKB r hr)
           go_simp
           refine hK.out _ _ (below_cells hHeld (g := w.heap.size + 1 + 1 + 1) (by omega) [.int .i64 (-s)]) (fun hHeld => ?_)
           clear hK K hB hKO hKB hc hf
           have hB := hB3
           have hKO := hK3
           have hKB := hKB3
           clear hB3 hK3 hKB3
           try simp only [Act.put, List.setIfInBounds_toArray, List.set_cons_zero, List.set_cons_succ, List.getElem_toArray, List.getElem_cons_succ, List.getElem_cons_zero]
           refine wpAnyH_done (by kernel_rfl) ?_ _
           exact ⟨rfl, hB, hHeld, hKO, hKB⟩
       · skip
         have hc := hB.s.cell 0 rfl
         go_simp
         refine hK.out _ _ hHeld (fun hHeld => ?_)
         clear hK K hc
         try simp only [Act.put, List.setIfInBounds_toArray, List.set_cons_zero, List.set_cons_succ, List.getElem_toArray, List.getElem_cons_succ, List.getElem_cons_zero]
         refine wpAnyH_take (i := 14) (oi := _) (v := .int .i64 (-s)) rfl (by kernel_rfl) (by kernel_rfl) (by kernel_rfl) (fun _ _ _ h => h) (Or.inl ⟨by rfl, fun w h => by go_simp⟩) hHeld ?_
         try simp only [Act.put, List.setIfInBounds_toArray, List.set_cons_zero, List.set_cons_succ, List.getElem_toArray, List.getElem_cons_succ, List.getElem_cons_zero]
         refine wpAnyH_ready (rs := [7]) (by kernel_rfl) (by simp) ?_
         refine AllReadyH.cons (o := _) rfl (fun K hK => ?_) AllReadyH.nil
         have hc := hB.q.cell 1 rfl
         go_simp
         refine hK.out _ _ hHeld (fun hHeld => ?_)
         clear hK K hc
         try simp only [Act.put, List.setIfInBounds_toArray, List.set_cons_zero, List.set_cons_succ, List.getElem_toArray, List.getElem_cons_succ, List.getElem_cons_zero]
         refine wpAnyH_take (i := 11) (oi := _) (v := .int .i64 (my : Nat)) rfl (by kernel_rfl) (by kernel_rfl) (by kernel_rfl) (fun _ _ _ h => h) (Or.inl ⟨by rfl, fun w h => by go_simp⟩) hHeld ?_
         try simp only [Act.put, List.setIfInBounds_toArray, List.set_cons_zero, List.set_cons_succ, List.getElem_toArray, List.getElem_cons_succ, List.getElem_cons_zero]
         refine wpAnyH_ready (rs := [12]) (by kernel_rfl) (by simp) ?_
         refine AllReadyH.cons (o := _) rfl (fun K hK => ?_) AllReadyH.nil
         go_simp
         refine (L _).mono ?_; rintro e w2 ⟨rfl, hb2⟩
         go_wp2_with fail
         replace hKB := fun q hq => (hb2.block q (hSz q hq)).trans (hKB q hq)
         replace hKO := hKO.trans (keeps_below hb2)
         replace hB := hB.below hSn hb2
         refine hK.out _ _ (hHeld.trans (hb2.mono hSw)) (fun hHeld => ?_)
         clear hK K hb2
         try simp only [Act.put, List.setIfInBounds_toArray, List.set_cons_zero, List.set_cons_succ, List.getElem_toArray, List.getElem_cons_succ, List.getElem_cons_zero]
         refine wpAnyH_ready (rs := [15]) (by kernel_rfl) (by simp) ?_
         refine AllReadyH.cons (o := _) rfl (fun K hK => ?_) AllReadyH.nil
         rw [if_pos (by rfl)]
         refine wp_store_mid 43 _ _ rfl (w.heap.size + 1 + 1) 0 #[.int .i64 (p : Nat), .int .i64 (q : Nat)] rfl rfl hB.q.2 info_ratio (by simp [Value.oneCell']) ?_
         have hB3 := hB.putQ (p : Nat) (q : Nat)
         have hK3 := hKO.trans (keeps_cells _ (w.heap.size + 1 + 1) [.int .i64 (p : Nat), .int .i64 (q : Nat)])
         have hKB3 := fun r hr => (block_cells (g := w.heap.size + 1 + 1) (q := r) (vs := [.int .i64 (p : Nat), .int .i64 (q : Nat)]) (by simp at hr; omega)).trans (hKB r hr)
         refine hK.out _ _ (below_cells hHeld (by omega) _) (fun hHeld => ?_)
         clear hK K hB hKO hKB
         have hB := hB3
         have hKO := hK3
         have hKB := hKB3
         clear hB3 hK3 hKB3
         try simp only [Act.put, List.setIfInBounds_toArray, List.set_cons_zero, List.set_cons_succ, List.getElem_toArray, List.getElem_cons_succ, List.getElem_cons_zero]
         refine wpAnyH_ready (rs := [16]) (by kernel_rfl) (by simp) ?_
         refine AllReadyH.cons (o := _) rfl (fun K hK => ?_) AllReadyH.nil
         have hc := hB.s.cell 0 rfl
         have hf := hB.s.free 0 (by simp)
         have hB3 := hB.putS (-s)
         have hK3 := hKO.trans (keeps_cells _ (w.heap.size + 1 + 1 + 1) [.int .i64 (-s)])
         have hKB3 := fun r hr => (block_cells (g := w.heap.size + 1 + 1 + 1) (q := r) (vs := [.int .i64 (-s)]) (by simp at hr; omega)).trans (hKB r hr)
         go_simp
         refine hK.out _ _ (below_cells hHeld (g := w.heap.size + 1 + 1 + 1) (by omega) [.int .i64 (-s)]) (fun hHeld => ?_)
         clear hK K hB hKO hKB hc hf
         have hB := hB3
         have hKO := hK3
         have hKB := hKB3
         clear hB3 hK3 hKB3
         try simp only [Act.put, List.setIfInBounds_toArray, List.set_cons_zero, List.set_cons_succ, List.getElem_toArray, List.getElem_cons_succ, List.getElem_cons_zero]
         refine wpAnyH_done (by kernel_rfl) ?_ _
         exact ⟨rfl, hB, hHeld, hKO, hKB⟩
     · skip
       have hc := hB.q.cell 1 rfl
       go_simp
       refine hK.out _ _ hHeld (fun hHeld => ?_)
       clear hK K hc
       try simp only [Act.put, List.setIfInBounds_toArray, List.set_cons_zero, List.set_cons_succ, List.getElem_toArray, List.getElem_cons_succ, List.getElem_cons_zero]
       refine wpAnyH_take (i := 11) (oi := _) (v := .int .i64 (my : Nat)) rfl (by kernel_rfl) (by kernel_rfl) (by kernel_rfl) (fun _ _ _ h => h) (Or.inl ⟨by rfl, fun w h => by go_simp⟩) hHeld ?_
       try simp only [Act.put, List.setIfInBounds_toArray, List.set_cons_zero, List.set_cons_succ, List.getElem_toArray, List.getElem_cons_succ, List.getElem_cons_zero]
       refine wpAnyH_ready (rs := [1, 13]) (by kernel_rfl) (by simp) ?_
       refine AllReadyH.cons (o := _) rfl (fun K hK => ?_) (AllReadyH.cons (o := _) rfl (fun K hK => ?_) AllReadyH.nil)
       · skip
         have hc := hB.q.cell 0 rfl
         go_simp
         refine hK.out _ _ hHeld (fun hHeld => ?_)
         clear hK K hc
         try simp only [Act.put, List.setIfInBounds_toArray, List.set_cons_zero, List.set_cons_succ, List.getElem_toArray, List.getElem_cons_succ, List.getElem_cons_zero]
         refine wpAnyH_take (i := 5) (oi := _) (v := .int .i64 (mx : Nat)) rfl (by kernel_rfl) (by kernel_rfl) (by kernel_rfl) (fun _ _ _ h => h) (Or.inl ⟨by rfl, fun w h => by go_simp⟩) hHeld ?_
         try simp only [Act.put, List.setIfInBounds_toArray, List.set_cons_zero, List.set_cons_succ, List.getElem_toArray, List.getElem_cons_succ, List.getElem_cons_zero]
         refine wpAnyH_ready (rs := [12, 13]) (by kernel_rfl) (by simp) ?_
         refine AllReadyH.cons (o := _) rfl (fun K hK => ?_) (AllReadyH.cons (o := _) rfl (fun K hK => ?_) AllReadyH.nil)
         · skip
           go_simp
           refine (L _).mono ?_; rintro e w2 ⟨rfl, hb2⟩
           go_wp2_with fail
           replace hKB := fun q hq => (hb2.block q (hSz q hq)).trans (hKB q hq)
           replace hKO := hKO.trans (keeps_below hb2)
           replace hB := hB.below hSn hb2
           refine hK.out _ _ (hHeld.trans (hb2.mono hSw)) (fun hHeld => ?_)
           clear hK K hb2
           try simp only [Act.put, List.setIfInBounds_toArray, List.set_cons_zero, List.set_cons_succ, List.getElem_toArray, List.getElem_cons_succ, List.getElem_cons_zero]
           refine wpAnyH_ready (rs := [13, 15]) (by kernel_rfl) (by simp) ?_
           refine AllReadyH.cons (o := _) rfl (fun K hK => ?_) (AllReadyH.cons (o := _) rfl (fun K hK => ?_) AllReadyH.nil)
           · skip
             have hc := hB.s.cell 0 rfl
             go_simp
             refine hK.out _ _ hHeld (fun hHeld => ?_)
             clear hK K hc
             try simp only [Act.put, List.setIfInBounds_toArray, List.set_cons_zero, List.set_cons_succ, List.getElem_toArray, List.getElem_cons_succ, List.getElem_cons_zero]
             refine wpAnyH_take (i := 14) (oi := _) (v := .int .i64 (-s)) rfl (by kernel_rfl) (by kernel_rfl) (by kernel_rfl) (fun _ _ _ h => h) (Or.inl ⟨by rfl, fun w h => by go_simp⟩) hHeld ?_
             try simp only [Act.put, List.setIfInBounds_toArray, List.set_cons_zero, List.set_cons_succ, List.getElem_toArray, List.getElem_cons_succ, List.getElem_cons_zero]
             refine wpAnyH_ready (rs := [15]) (by kernel_rfl) (by simp) ?_
             refine AllReadyH.cons (o := _) rfl (fun K hK => ?_) AllReadyH.nil
             rw [if_pos (by rfl)]
             refine wp_store_mid 43 _ _ rfl (w.heap.size + 1 + 1) 0 #[.int .i64 (p : Nat), .int .i64 (q : Nat)] rfl rfl hB.q.2 info_ratio (by simp [Value.oneCell']) ?_
             have hB3 := hB.putQ (p : Nat) (q : Nat)
             have hK3 := hKO.trans (keeps_cells _ (w.heap.size + 1 + 1) [.int .i64 (p : Nat), .int .i64 (q : Nat)])
             have hKB3 := fun r hr => (block_cells (g := w.heap.size + 1 + 1) (q := r) (vs := [.int .i64 (p : Nat), .int .i64 (q : Nat)]) (by simp at hr; omega)).trans (hKB r hr)
             refine hK.out _ _ (below_cells hHeld (by omega) _) (fun hHeld => ?_)
             clear hK K hB hKO hKB
             have hB := hB3
             have hKO := hK3
             have hKB := hKB3
             clear hB3 hK3 hKB3
             try simp only [Act.put, List.setIfInBounds_toArray, List.set_cons_zero, List.set_cons_succ, List.getElem_toArray, List.getElem_cons_succ, List.getElem_cons_zero]
             refine wpAnyH_ready (rs := [16]) (by kernel_rfl) (by simp) ?_
             refine AllReadyH.cons (o := _) rfl (fun K hK => ?_) AllReadyH.nil
             have hc := hB.s.cell 0 rfl
             have hf := hB.s.free 0 (by simp)
             have hB3 := hB.putS (-s)
             have hK3 := hKO.trans (keeps_cells _ (w.heap.size + 1 + 1 + 1) [.int .i64 (-s)])
             have hKB3 := fun r hr => (block_cells (g := w.heap.size + 1 + 1 + 1) (q := r) (vs := [.int .i64 (-s)]) (by simp at hr; omega)).trans (hKB r hr)
             go_simp
             refine hK.out _ _ (below_cells hHeld (g := w.heap.size + 1 + 1 + 1) (by omega) [.int .i64 (-s)]) (fun hHeld => ?_)
             clear hK K hB hKO hKB hc hf
             have hB := hB3
             have hKO := hK3
             have hKB := hKB3
             clear hB3 hK3 hKB3
             try simp only [Act.put, List.setIfInBounds_toArray, List.set_cons_zero, List.set_cons_succ, List.getElem_toArray, List.getElem_cons_succ, List.getElem_cons_zero]
             refine wpAnyH_done (by kernel_rfl) ?_ _
             exact ⟨rfl, hB, hHeld, hKO, hKB⟩
           · skip
             rw [if_pos (by rfl)]
             refine wp_store_mid 43 _ _ rfl (w.heap.size + 1 + 1) 0 #[.int .i64 (p : Nat), .int .i64 (q : Nat)] rfl rfl hB.q.2 info_ratio (by simp [Value.oneCell']) ?_
             have hB3 := hB.putQ (p : Nat) (q : Nat)
             have hK3 := hKO.trans (keeps_cells _ (w.heap.size + 1 + 1) [.int .i64 (p : Nat), .int .i64 (q : Nat)])
             have hKB3 := fun r hr => (block_cells (g := w.heap.size + 1 + 1) (q := r) (vs := [.int .i64 (p : Nat), .int .i64 (q : Nat)]) (by simp at hr; omega)).trans (hKB r hr)
             refine hK.out _ _ (below_cells hHeld (by omega) _) (fun hHeld => ?_)
             clear hK K hB hKO hKB
             have hB := hB3
             have hKO := hK3
             have hKB := hKB3
             clear hB3 hK3 hKB3
             try simp only [Act.put, List.setIfInBounds_toArray, List.set_cons_zero, List.set_cons_succ, List.getElem_toArray, List.getElem_cons_succ, List.getElem_cons_zero]
             refine wpAnyH_ready (rs := [13]) (by kernel_rfl) (by simp) ?_
             refine AllReadyH.cons (o := _) rfl (fun K hK => ?_) AllReadyH.nil
             have hc := hB.s.cell 0 rfl
             go_simp
             refine hK.out _ _ hHeld (fun hHeld => ?_)
             clear hK K hc
             try simp only [Act.put, List.setIfInBounds_toArray, List.set_cons_zero, List.set_cons_succ, List.getElem_toArray, List.getElem_cons_succ, List.getElem_cons_zero]
             refine wpAnyH_take (i := 14) (oi := _) (v := .int .i64 (-s)) rfl (by kernel_rfl) (by kernel_rfl) (by kernel_rfl) (fun _ _ _ h => h) (Or.inl ⟨by rfl, fun w h => by go_simp⟩) hHeld ?_
             try simp only [Act.put, List.setIfInBounds_toArray, List.set_cons_zero, List.set_cons_succ, List.getElem_toArray, List.getElem_cons_succ, List.getElem_cons_zero]
             refine wpAnyH_ready (rs := [16]) (by kernel_rfl) (by simp) ?_
             refine AllReadyH.cons (o := _) rfl (fun K hK => ?_) AllReadyH.nil
             have hc := hB.s.cell 0 rfl
             have hf := hB.s.free 0 (by simp)
             have hB3 := hB.putS (-s)
             have hK3 := hKO.trans (keeps_cells _ (w.heap.size + 1 + 1 + 1) [.int .i64 (-s)])
             have hKB3 := fun r hr => (block_cells (g := w.heap.size + 1 + 1 + 1) (q := r) (vs := [.int .i64 (-s)]) (by simp at hr; omega)).trans (hKB r hr)
             go_simp
             refine hK.out _ _ (below_cells hHeld (g := w.heap.size + 1 + 1 + 1) (by omega) [.int .i64 (-s)]) (fun hHeld => ?_)
             clear hK K hB hKO hKB hc hf
             have hB := hB3
             have hKO := hK3
             have hKB := hKB3
             clear hB3 hK3 hKB3
             try simp only [Act.put, List.setIfInBounds_toArray, List.set_cons_zero, List.set_cons_succ, List.getElem_toArray, List.getElem_cons_succ, List.getElem_cons_zero]
             refine wpAnyH_done (by kernel_rfl) ?_ _
             exact ⟨rfl, hB, hHeld, hKO, hKB⟩
         · skip
           have hc := hB.s.cell 0 rfl
           go_simp
           refine hK.out _ _ hHeld (fun hHeld => ?_)
           clear hK K hc
           try simp only [Act.put, List.setIfInBounds_toArray, List.set_cons_zero, List.set_cons_succ, List.getElem_toArray, List.getElem_cons_succ, List.getElem_cons_zero]
           refine wpAnyH_take (i := 14) (oi := _) (v := .int .i64 (-s)) rfl (by kernel_rfl) (by kernel_rfl) (by kernel_rfl) (fun _ _ _ h => h) (Or.inl ⟨by rfl, fun w h => by go_simp⟩) hHeld ?_
           try simp only [Act.put, List.setIfInBounds_toArray, List.set_cons_zero, List.set_cons_succ, List.getElem_toArray, List.getElem_cons_succ, List.getElem_cons_zero]
           refine wpAnyH_ready (rs := [12]) (by kernel_rfl) (by simp) ?_
           refine AllReadyH.cons (o := _) rfl (fun K hK => ?_) AllReadyH.nil
           go_simp
           refine (L _).mono ?_; rintro e w2 ⟨rfl, hb2⟩
           go_wp2_with fail
           replace hKB := fun q hq => (hb2.block q (hSz q hq)).trans (hKB q hq)
           replace hKO := hKO.trans (keeps_below hb2)
           replace hB := hB.below hSn hb2
           refine hK.out _ _ (hHeld.trans (hb2.mono hSw)) (fun hHeld => ?_)
           clear hK K hb2
           try simp only [Act.put, List.setIfInBounds_toArray, List.set_cons_zero, List.set_cons_succ, List.getElem_toArray, List.getElem_cons_succ, List.getElem_cons_zero]
           refine wpAnyH_ready (rs := [15]) (by kernel_rfl) (by simp) ?_
           refine AllReadyH.cons (o := _) rfl (fun K hK => ?_) AllReadyH.nil
           rw [if_pos (by rfl)]
           refine wp_store_mid 43 _ _ rfl (w.heap.size + 1 + 1) 0 #[.int .i64 (p : Nat), .int .i64 (q : Nat)] rfl rfl hB.q.2 info_ratio (by simp [Value.oneCell']) ?_
           have hB3 := hB.putQ (p : Nat) (q : Nat)
           have hK3 := hKO.trans (keeps_cells _ (w.heap.size + 1 + 1) [.int .i64 (p : Nat), .int .i64 (q : Nat)])
           have hKB3 := fun r hr => (block_cells (g := w.heap.size + 1 + 1) (q := r) (vs := [.int .i64 (p : Nat), .int .i64 (q : Nat)]) (by simp at hr; omega)).trans (hKB r hr)
           refine hK.out _ _ (below_cells hHeld (by omega) _) (fun hHeld => ?_)
           clear hK K hB hKO hKB
           have hB := hB3
           have hKO := hK3
           have hKB := hKB3
           clear hB3 hK3 hKB3
           try simp only [Act.put, List.setIfInBounds_toArray, List.set_cons_zero, List.set_cons_succ, List.getElem_toArray, List.getElem_cons_succ, List.getElem_cons_zero]
           refine wpAnyH_ready (rs := [16]) (by kernel_rfl) (by simp) ?_
           refine AllReadyH.cons (o := _) rfl (fun K hK => ?_) AllReadyH.nil
           have hc := hB.s.cell 0 rfl
           have hf := hB.s.free 0 (by simp)
           have hB3 := hB.putS (-s)
           have hK3 := hKO.trans (keeps_cells _ (w.heap.size + 1 + 1 + 1) [.int .i64 (-s)])
           have hKB3 := fun r hr => (block_cells (g := w.heap.size + 1 + 1 + 1) (q := r) (vs := [.int .i64 (-s)]) (by simp at hr; omega)).trans (hKB r hr)
           go_simp
           refine hK.out _ _ (below_cells hHeld (g := w.heap.size + 1 + 1 + 1) (by omega) [.int .i64 (-s)]) (fun hHeld => ?_)
           clear hK K hB hKO hKB hc hf
           have hB := hB3
           have hKO := hK3
           have hKB := hKB3
           clear hB3 hK3 hKB3
           try simp only [Act.put, List.setIfInBounds_toArray, List.set_cons_zero, List.set_cons_succ, List.getElem_toArray, List.getElem_cons_succ, List.getElem_cons_zero]
           refine wpAnyH_done (by kernel_rfl) ?_ _
           exact ⟨rfl, hB, hHeld, hKO, hKB⟩
       · skip
         have hc := hB.s.cell 0 rfl
         go_simp
         refine hK.out _ _ hHeld (fun hHeld => ?_)
         clear hK K hc
         try simp only [Act.put, List.setIfInBounds_toArray, List.set_cons_zero, List.set_cons_succ, List.getElem_toArray, List.getElem_cons_succ, List.getElem_cons_zero]
         refine wpAnyH_take (i := 14) (oi := _) (v := .int .i64 (-s)) rfl (by kernel_rfl) (by kernel_rfl) (by kernel_rfl) (fun _ _ _ h => h) (Or.inl ⟨by rfl, fun w h => by go_simp⟩) hHeld ?_
         try simp only [Act.put, List.setIfInBounds_toArray, List.set_cons_zero, List.set_cons_succ, List.getElem_toArray, List.getElem_cons_succ, List.getElem_cons_zero]
         refine wpAnyH_ready (rs := [1]) (by kernel_rfl) (by simp) ?_
         refine AllReadyH.cons (o := _) rfl (fun K hK => ?_) AllReadyH.nil
         have hc := hB.q.cell 0 rfl
         go_simp
         refine hK.out _ _ hHeld (fun hHeld => ?_)
         clear hK K hc
         try simp only [Act.put, List.setIfInBounds_toArray, List.set_cons_zero, List.set_cons_succ, List.getElem_toArray, List.getElem_cons_succ, List.getElem_cons_zero]
         refine wpAnyH_take (i := 5) (oi := _) (v := .int .i64 (mx : Nat)) rfl (by kernel_rfl) (by kernel_rfl) (by kernel_rfl) (fun _ _ _ h => h) (Or.inl ⟨by rfl, fun w h => by go_simp⟩) hHeld ?_
         try simp only [Act.put, List.setIfInBounds_toArray, List.set_cons_zero, List.set_cons_succ, List.getElem_toArray, List.getElem_cons_succ, List.getElem_cons_zero]
         refine wpAnyH_ready (rs := [12]) (by kernel_rfl) (by simp) ?_
         refine AllReadyH.cons (o := _) rfl (fun K hK => ?_) AllReadyH.nil
         go_simp
         refine (L _).mono ?_; rintro e w2 ⟨rfl, hb2⟩
         go_wp2_with fail
         replace hKB := fun q hq => (hb2.block q (hSz q hq)).trans (hKB q hq)
         replace hKO := hKO.trans (keeps_below hb2)
         replace hB := hB.below hSn hb2
         refine hK.out _ _ (hHeld.trans (hb2.mono hSw)) (fun hHeld => ?_)
         clear hK K hb2
         try simp only [Act.put, List.setIfInBounds_toArray, List.set_cons_zero, List.set_cons_succ, List.getElem_toArray, List.getElem_cons_succ, List.getElem_cons_zero]
         refine wpAnyH_ready (rs := [15]) (by kernel_rfl) (by simp) ?_
         refine AllReadyH.cons (o := _) rfl (fun K hK => ?_) AllReadyH.nil
         rw [if_pos (by rfl)]
         refine wp_store_mid 43 _ _ rfl (w.heap.size + 1 + 1) 0 #[.int .i64 (p : Nat), .int .i64 (q : Nat)] rfl rfl hB.q.2 info_ratio (by simp [Value.oneCell']) ?_
         have hB3 := hB.putQ (p : Nat) (q : Nat)
         have hK3 := hKO.trans (keeps_cells _ (w.heap.size + 1 + 1) [.int .i64 (p : Nat), .int .i64 (q : Nat)])
         have hKB3 := fun r hr => (block_cells (g := w.heap.size + 1 + 1) (q := r) (vs := [.int .i64 (p : Nat), .int .i64 (q : Nat)]) (by simp at hr; omega)).trans (hKB r hr)
         refine hK.out _ _ (below_cells hHeld (by omega) _) (fun hHeld => ?_)
         clear hK K hB hKO hKB
         have hB := hB3
         have hKO := hK3
         have hKB := hKB3
         clear hB3 hK3 hKB3
         try simp only [Act.put, List.setIfInBounds_toArray, List.set_cons_zero, List.set_cons_succ, List.getElem_toArray, List.getElem_cons_succ, List.getElem_cons_zero]
         refine wpAnyH_ready (rs := [16]) (by kernel_rfl) (by simp) ?_
         refine AllReadyH.cons (o := _) rfl (fun K hK => ?_) AllReadyH.nil
         have hc := hB.s.cell 0 rfl
         have hf := hB.s.free 0 (by simp)
         have hB3 := hB.putS (-s)
         have hK3 := hKO.trans (keeps_cells _ (w.heap.size + 1 + 1 + 1) [.int .i64 (-s)])
         have hKB3 := fun r hr => (block_cells (g := w.heap.size + 1 + 1 + 1) (q := r) (vs := [.int .i64 (-s)]) (by simp at hr; omega)).trans (hKB r hr)
         go_simp
         refine hK.out _ _ (below_cells hHeld (g := w.heap.size + 1 + 1 + 1) (by omega) [.int .i64 (-s)]) (fun hHeld => ?_)
         clear hK K hB hKO hKB hc hf
         have hB := hB3
         have hKO := hK3
         have hKB := hKB3
         clear hB3 hK3 hKB3
         try simp only [Act.put, List.setIfInBounds_toArray, List.set_cons_zero, List.set_cons_succ, List.getElem_toArray, List.getElem_cons_succ, List.getElem_cons_zero]
         refine wpAnyH_done (by kernel_rfl) ?_ _
         exact ⟨rfl, hB, hHeld, hKO, hKB⟩
     · skip
       have hc := hB.s.cell 0 rfl
       go_simp
       refine hK.out _ _ hHeld (fun hHeld => ?_)
       clear hK K hc
       try simp only [Act.put, List.setIfInBounds_toArray, List.set_cons_zero, List.set_cons_succ, List.getElem_toArray, List.getElem_cons_succ, List.getElem_cons_zero]
       refine wpAnyH_take (i := 14) (oi := _) (v := .int .i64 (-s)) rfl (by kernel_rfl) (by kernel_rfl) (by kernel_rfl) (fun _ _ _ h => h) (Or.inl ⟨by rfl, fun w h => by go_simp⟩) hHeld ?_
       try simp only [Act.put, List.setIfInBounds_toArray, List.set_cons_zero, List.set_cons_succ, List.getElem_toArray, List.getElem_cons_succ, List.getElem_cons_zero]
       refine wpAnyH_ready (rs := [1, 7]) (by kernel_rfl) (by simp) ?_
       refine AllReadyH.cons (o := _) rfl (fun K hK => ?_) (AllReadyH.cons (o := _) rfl (fun K hK => ?_) AllReadyH.nil)
       · skip
         have hc := hB.q.cell 0 rfl
         go_simp
         refine hK.out _ _ hHeld (fun hHeld => ?_)
         clear hK K hc
         try simp only [Act.put, List.setIfInBounds_toArray, List.set_cons_zero, List.set_cons_succ, List.getElem_toArray, List.getElem_cons_succ, List.getElem_cons_zero]
         refine wpAnyH_take (i := 5) (oi := _) (v := .int .i64 (mx : Nat)) rfl (by kernel_rfl) (by kernel_rfl) (by kernel_rfl) (fun _ _ _ h => h) (Or.inl ⟨by rfl, fun w h => by go_simp⟩) hHeld ?_
         try simp only [Act.put, List.setIfInBounds_toArray, List.set_cons_zero, List.set_cons_succ, List.getElem_toArray, List.getElem_cons_succ, List.getElem_cons_zero]
         refine wpAnyH_ready (rs := [7]) (by kernel_rfl) (by simp) ?_
         refine AllReadyH.cons (o := _) rfl (fun K hK => ?_) AllReadyH.nil
         have hc := hB.q.cell 1 rfl
         go_simp
         refine hK.out _ _ hHeld (fun hHeld => ?_)
         clear hK K hc
         try simp only [Act.put, List.setIfInBounds_toArray, List.set_cons_zero, List.set_cons_succ, List.getElem_toArray, List.getElem_cons_succ, List.getElem_cons_zero]
         refine wpAnyH_take (i := 11) (oi := _) (v := .int .i64 (my : Nat)) rfl (by kernel_rfl) (by kernel_rfl) (by kernel_rfl) (fun _ _ _ h => h) (Or.inl ⟨by rfl, fun w h => by go_simp⟩) hHeld ?_
         try simp only [Act.put, List.setIfInBounds_toArray, List.set_cons_zero, List.set_cons_succ, List.getElem_toArray, List.getElem_cons_succ, List.getElem_cons_zero]
         refine wpAnyH_ready (rs := [12]) (by kernel_rfl) (by simp) ?_
         refine AllReadyH.cons (o := _) rfl (fun K hK => ?_) AllReadyH.nil
         go_simp
         refine (L _).mono ?_; rintro e w2 ⟨rfl, hb2⟩
         go_wp2_with fail
         replace hKB := fun q hq => (hb2.block q (hSz q hq)).trans (hKB q hq)
         replace hKO := hKO.trans (keeps_below hb2)
         replace hB := hB.below hSn hb2
         refine hK.out _ _ (hHeld.trans (hb2.mono hSw)) (fun hHeld => ?_)
         clear hK K hb2
         try simp only [Act.put, List.setIfInBounds_toArray, List.set_cons_zero, List.set_cons_succ, List.getElem_toArray, List.getElem_cons_succ, List.getElem_cons_zero]
         refine wpAnyH_ready (rs := [15]) (by kernel_rfl) (by simp) ?_
         refine AllReadyH.cons (o := _) rfl (fun K hK => ?_) AllReadyH.nil
         rw [if_pos (by rfl)]
         refine wp_store_mid 43 _ _ rfl (w.heap.size + 1 + 1) 0 #[.int .i64 (p : Nat), .int .i64 (q : Nat)] rfl rfl hB.q.2 info_ratio (by simp [Value.oneCell']) ?_
         have hB3 := hB.putQ (p : Nat) (q : Nat)
         have hK3 := hKO.trans (keeps_cells _ (w.heap.size + 1 + 1) [.int .i64 (p : Nat), .int .i64 (q : Nat)])
         have hKB3 := fun r hr => (block_cells (g := w.heap.size + 1 + 1) (q := r) (vs := [.int .i64 (p : Nat), .int .i64 (q : Nat)]) (by simp at hr; omega)).trans (hKB r hr)
         refine hK.out _ _ (below_cells hHeld (by omega) _) (fun hHeld => ?_)
         clear hK K hB hKO hKB
         have hB := hB3
         have hKO := hK3
         have hKB := hKB3
         clear hB3 hK3 hKB3
         try simp only [Act.put, List.setIfInBounds_toArray, List.set_cons_zero, List.set_cons_succ, List.getElem_toArray, List.getElem_cons_succ, List.getElem_cons_zero]
         refine wpAnyH_ready (rs := [16]) (by kernel_rfl) (by simp) ?_
         refine AllReadyH.cons (o := _) rfl (fun K hK => ?_) AllReadyH.nil
         have hc := hB.s.cell 0 rfl
         have hf := hB.s.free 0 (by simp)
         have hB3 := hB.putS (-s)
         have hK3 := hKO.trans (keeps_cells _ (w.heap.size + 1 + 1 + 1) [.int .i64 (-s)])
         have hKB3 := fun r hr => (block_cells (g := w.heap.size + 1 + 1 + 1) (q := r) (vs := [.int .i64 (-s)]) (by simp at hr; omega)).trans (hKB r hr)
         go_simp
         refine hK.out _ _ (below_cells hHeld (g := w.heap.size + 1 + 1 + 1) (by omega) [.int .i64 (-s)]) (fun hHeld => ?_)
         clear hK K hB hKO hKB hc hf
         have hB := hB3
         have hKO := hK3
         have hKB := hKB3
         clear hB3 hK3 hKB3
         try simp only [Act.put, List.setIfInBounds_toArray, List.set_cons_zero, List.set_cons_succ, List.getElem_toArray, List.getElem_cons_succ, List.getElem_cons_zero]
         refine wpAnyH_done (by kernel_rfl) ?_ _
         exact ⟨rfl, hB, hHeld, hKO, hKB⟩
       · skip
         have hc := hB.q.cell 1 rfl
         go_simp
         refine hK.out _ _ hHeld (fun hHeld => ?_)
         clear hK K hc
         try simp only [Act.put, List.setIfInBounds_toArray, List.set_cons_zero, List.set_cons_succ, List.getElem_toArray, List.getElem_cons_succ, List.getElem_cons_zero]
         refine wpAnyH_take (i := 11) (oi := _) (v := .int .i64 (my : Nat)) rfl (by kernel_rfl) (by kernel_rfl) (by kernel_rfl) (fun _ _ _ h => h) (Or.inl ⟨by rfl, fun w h => by go_simp⟩) hHeld ?_
         try simp only [Act.put, List.setIfInBounds_toArray, List.set_cons_zero, List.set_cons_succ, List.getElem_toArray, List.getElem_cons_succ, List.getElem_cons_zero]
         refine wpAnyH_ready (rs := [1]) (by kernel_rfl) (by simp) ?_
         refine AllReadyH.cons (o := _) rfl (fun K hK => ?_) AllReadyH.nil
         have hc := hB.q.cell 0 rfl
         go_simp
         refine hK.out _ _ hHeld (fun hHeld => ?_)
         clear hK K hc
         try simp only [Act.put, List.setIfInBounds_toArray, List.set_cons_zero, List.set_cons_succ, List.getElem_toArray, List.getElem_cons_succ, List.getElem_cons_zero]
         refine wpAnyH_take (i := 5) (oi := _) (v := .int .i64 (mx : Nat)) rfl (by kernel_rfl) (by kernel_rfl) (by kernel_rfl) (fun _ _ _ h => h) (Or.inl ⟨by rfl, fun w h => by go_simp⟩) hHeld ?_
         try simp only [Act.put, List.setIfInBounds_toArray, List.set_cons_zero, List.set_cons_succ, List.getElem_toArray, List.getElem_cons_succ, List.getElem_cons_zero]
         refine wpAnyH_ready (rs := [12]) (by kernel_rfl) (by simp) ?_
         refine AllReadyH.cons (o := _) rfl (fun K hK => ?_) AllReadyH.nil
         go_simp
         refine (L _).mono ?_; rintro e w2 ⟨rfl, hb2⟩
         go_wp2_with fail
         replace hKB := fun q hq => (hb2.block q (hSz q hq)).trans (hKB q hq)
         replace hKO := hKO.trans (keeps_below hb2)
         replace hB := hB.below hSn hb2
         refine hK.out _ _ (hHeld.trans (hb2.mono hSw)) (fun hHeld => ?_)
         clear hK K hb2
         try simp only [Act.put, List.setIfInBounds_toArray, List.set_cons_zero, List.set_cons_succ, List.getElem_toArray, List.getElem_cons_succ, List.getElem_cons_zero]
         refine wpAnyH_ready (rs := [15]) (by kernel_rfl) (by simp) ?_
         refine AllReadyH.cons (o := _) rfl (fun K hK => ?_) AllReadyH.nil
         rw [if_pos (by rfl)]
         refine wp_store_mid 43 _ _ rfl (w.heap.size + 1 + 1) 0 #[.int .i64 (p : Nat), .int .i64 (q : Nat)] rfl rfl hB.q.2 info_ratio (by simp [Value.oneCell']) ?_
         have hB3 := hB.putQ (p : Nat) (q : Nat)
         have hK3 := hKO.trans (keeps_cells _ (w.heap.size + 1 + 1) [.int .i64 (p : Nat), .int .i64 (q : Nat)])
         have hKB3 := fun r hr => (block_cells (g := w.heap.size + 1 + 1) (q := r) (vs := [.int .i64 (p : Nat), .int .i64 (q : Nat)]) (by simp at hr; omega)).trans (hKB r hr)
         refine hK.out _ _ (below_cells hHeld (by omega) _) (fun hHeld => ?_)
         clear hK K hB hKO hKB
         have hB := hB3
         have hKO := hK3
         have hKB := hKB3
         clear hB3 hK3 hKB3
         try simp only [Act.put, List.setIfInBounds_toArray, List.set_cons_zero, List.set_cons_succ, List.getElem_toArray, List.getElem_cons_succ, List.getElem_cons_zero]
         refine wpAnyH_ready (rs := [16]) (by kernel_rfl) (by simp) ?_
         refine AllReadyH.cons (o := _) rfl (fun K hK => ?_) AllReadyH.nil
         have hc := hB.s.cell 0 rfl
         have hf := hB.s.free 0 (by simp)
         have hB3 := hB.putS (-s)
         have hK3 := hKO.trans (keeps_cells _ (w.heap.size + 1 + 1 + 1) [.int .i64 (-s)])
         have hKB3 := fun r hr => (block_cells (g := w.heap.size + 1 + 1 + 1) (q := r) (vs := [.int .i64 (-s)]) (by simp at hr; omega)).trans (hKB r hr)
         go_simp
         refine hK.out _ _ (below_cells hHeld (g := w.heap.size + 1 + 1 + 1) (by omega) [.int .i64 (-s)]) (fun hHeld => ?_)
         clear hK K hB hKO hKB hc hf
         have hB := hB3
         have hKO := hK3
         have hKB := hKB3
         clear hB3 hK3 hKB3
         try simp only [Act.put, List.setIfInBounds_toArray, List.set_cons_zero, List.set_cons_succ, List.getElem_toArray, List.getElem_cons_succ, List.getElem_cons_zero]
         refine wpAnyH_done (by kernel_rfl) ?_ _
         exact ⟨rfl, hB, hHeld, hKO, hKB⟩
    case rest =>
      rintro e a' w' hq
      cases e <;> first | exact hq.elim | skip
      obtain ⟨rfl, hB', hBel', hKO, hKB⟩ := hq
      dsimp only
      have c2 := hB'.q.cell 0 rfl
      have c3 := hB'.q.cell 1 rfl
      clear hB L
      by_cases hM : p ≤ 1000000000 ∧ q ≤ 1000000000
      · have hp1 : ¬ (1000000000 : Int) < (p : Int) := by omega
        have hq1 : ¬ (1000000000 : Int) < (q : Int) := by omega
        have HN2 : Aside (ratN xs (pre.length + 1) = some (p, q)) := (show _ = _ from by rw [HNX.out, if_pos (by unfold inM; rw [Bool.and_eq_true]; exact ⟨decide_eq_true hM.1, decide_eq_true hM.2⟩)])
        gi_wp2
        exact ⟨hKO.from _, ⟨hKB _ (by simp), hKB _ (by simp)⟩, ⟨p, q, by rw [List.length_append]; exact HN2.out, by rw [List.length_append]; show TBox _ _ _ (sgnT (pre.length + 1)) _; rw [HS.out]; exact hB'⟩, hBel'⟩
      · have HN2 : Aside (ratN xs (pre.length + 1) = none) := (show _ = _ from by rw [HNX.out, if_neg (by unfold inM; rw [Bool.and_eq_true]; rintro ⟨h1, h2⟩; exact hM ⟨of_decide_eq_true h1, of_decide_eq_true h2⟩)])
        by_cases hp1 : (1000000000 : Int) < (p : Int)
        · gi_upto_region 9 with fail
          refine drawn_in (S := fun w'' => Below w.heap.size w w'') (by rintro ⟨_, _, h⟩; exact h) (by rfl) (by kernel_rfl) hBel'.drew (fun hHeld => ?_)
          have hR : LieAt w'.drew w.heap.size [.int .i64 0, .int .i64 0] := hB'.r
          have hEr : LieAt w'.drew (w.heap.size + 1) [.nilIface] := hB'.e
          have hKO : KeepsOthers A w'.drew := hKO.trans (KeepsOthers.drew w')
          clear hB' hBel' hKB
          generalize w'.drew = W1 at *
          refine wpAnyH_take (i := 0) (oi := _) (v := .agg #[.int .i64 0, .int .i64 0]) rfl (by kernel_rfl) (by kernel_rfl) (by kernel_rfl) (fun _ _ _ h => h) (Or.inl ⟨by rfl, fun w h => by go_simp⟩) hHeld ?_
          try simp only [Act.put, List.setIfInBounds_toArray, List.set_cons_zero, List.set_cons_succ, List.getElem_toArray, List.getElem_cons_succ, List.getElem_cons_zero]
          refine wpAnyH_take (i := 1) (oi := _) (v := .iface T0 p0) rfl (by kernel_rfl) (by kernel_rfl) (by kernel_rfl) (fun _ _ _ h => h) (Or.inl ⟨by rfl, fun w h => by have hcell := ((h.cell (p := ⟨0, 0, none⟩) hG).trans HE.out); go_simp⟩) hHeld ?_
          try simp only [Act.put, List.setIfInBounds_toArray, List.set_cons_zero, List.set_cons_succ, List.getElem_toArray, List.getElem_cons_succ, List.getElem_cons_zero]
          refine wpAnyH_ready (rs := [2]) (by kernel_rfl) (by simp) ?_
          refine AllReadyH.cons (o := _) rfl (fun K hK => ?_) AllReadyH.nil
          rw [if_pos (by rfl)]
          refine wp_store_mid 43 _ _ rfl w.heap.size 0 #[.int .i64 0, .int .i64 0] rfl rfl hR.2 info_ratio (by simp [Value.oneCell']) ?_
          have hR2 := hR.put [.int .i64 0, .int .i64 0] rfl
          have hE2 := hEr.other (g' := w.heap.size) [.int .i64 0, .int .i64 0] (by omega)
          have hK2 := hKO.trans (keeps_cells _ w.heap.size [.int .i64 0, .int .i64 0])
          refine hK.out _ _ (below_cells hHeld (Nat.le_refl _) _) (fun hHeld => ?_)
          clear hK K
          try simp only [Act.put, List.setIfInBounds_toArray, List.set_cons_zero, List.set_cons_succ, List.getElem_toArray, List.getElem_cons_succ, List.getElem_cons_zero]
          clear hR hEr hKO
          refine wpAnyH_ready (rs := [3]) (by kernel_rfl) (by simp) ?_
          refine AllReadyH.cons (o := _) rfl (fun K hK => ?_) AllReadyH.nil
          have hc := hE2.cell 0 rfl
          have hf := hE2.free 0 (by simp)
          have hR3 := hR2.other (g' := w.heap.size + 1) [.iface T0 p0] (by omega)
          have hE3 := hE2.put [.iface T0 p0] rfl
          have hK3 := hK2.trans (keeps_cells _ (w.heap.size + 1) [.iface T0 p0])
          go_simp
          refine hK.out _ _ (below_cells hHeld (g := w.heap.size + 1) (by omega) [.iface T0 p0]) (fun hHeld => ?_)
          clear hK K
          try simp only [Act.put, List.setIfInBounds_toArray, List.set_cons_zero, List.set_cons_succ, List.getElem_toArray, List.getElem_cons_succ, List.getElem_cons_zero]
          clear hR2 hE2 hK2 hc hf
          refine wpAnyH_done (by kernel_rfl) ?_ _
          gi_wp2
          exact ⟨hK3.from _, ⟨rfl, by rw [List.length_append]; exact HN2.out, hR3, hE3⟩, hHeld⟩
        · have hq1 : (1000000000 : Int) < (q : Int) := by omega
          gi_upto_region 9 with fail
          refine drawn_in (S := fun w'' => Below w.heap.size w w'') (by rintro ⟨_, _, h⟩; exact h) (by rfl) (by kernel_rfl) hBel'.drew (fun hHeld => ?_)
          have hR : LieAt w'.drew w.heap.size [.int .i64 0, .int .i64 0] := hB'.r
          have hEr : LieAt w'.drew (w.heap.size + 1) [.nilIface] := hB'.e
          have hKO : KeepsOthers A w'.drew := hKO.trans (KeepsOthers.drew w')
          clear hB' hBel' hKB
          generalize w'.drew = W1 at *
          refine wpAnyH_take (i := 0) (oi := _) (v := .agg #[.int .i64 0, .int .i64 0]) rfl (by kernel_rfl) (by kernel_rfl) (by kernel_rfl) (fun _ _ _ h => h) (Or.inl ⟨by rfl, fun w h => by go_simp⟩) hHeld ?_
          try simp only [Act.put, List.setIfInBounds_toArray, List.set_cons_zero, List.set_cons_succ, List.getElem_toArray, List.getElem_cons_succ, List.getElem_cons_zero]
          refine wpAnyH_take (i := 1) (oi := _) (v := .iface T0 p0) rfl (by kernel_rfl) (by kernel_rfl) (by kernel_rfl) (fun _ _ _ h => h) (Or.inl ⟨by rfl, fun w h => by have hcell := ((h.cell (p := ⟨0, 0, none⟩) hG).trans HE.out); go_simp⟩) hHeld ?_
          try simp only [Act.put, List.setIfInBounds_toArray, List.set_cons_zero, List.set_cons_succ, List.getElem_toArray, List.getElem_cons_succ, List.getElem_cons_zero]
          refine wpAnyH_ready (rs := [2]) (by kernel_rfl) (by simp) ?_
          refine AllReadyH.cons (o := _) rfl (fun K hK => ?_) AllReadyH.nil
          rw [if_pos (by rfl)]
          refine wp_store_mid 43 _ _ rfl w.heap.size 0 #[.int .i64 0, .int .i64 0] rfl rfl hR.2 info_ratio (by simp [Value.oneCell']) ?_
          have hR2 := hR.put [.int .i64 0, .int .i64 0] rfl
          have hE2 := hEr.other (g' := w.heap.size) [.int .i64 0, .int .i64 0] (by omega)
          have hK2 := hKO.trans (keeps_cells _ w.heap.size [.int .i64 0, .int .i64 0])
          refine hK.out _ _ (below_cells hHeld (Nat.le_refl _) _) (fun hHeld => ?_)
          clear hK K
          try simp only [Act.put, List.setIfInBounds_toArray, List.set_cons_zero, List.set_cons_succ, List.getElem_toArray, List.getElem_cons_succ, List.getElem_cons_zero]
          clear hR hEr hKO
          refine wpAnyH_ready (rs := [3]) (by kernel_rfl) (by simp) ?_
          refine AllReadyH.cons (o := _) rfl (fun K hK => ?_) AllReadyH.nil
          have hc := hE2.cell 0 rfl
          have hf := hE2.free 0 (by simp)
          have hR3 := hR2.other (g' := w.heap.size + 1) [.iface T0 p0] (by omega)
          have hE3 := hE2.put [.iface T0 p0] rfl
          have hK3 := hK2.trans (keeps_cells _ (w.heap.size + 1) [.iface T0 p0])
          go_simp
          refine hK.out _ _ (below_cells hHeld (g := w.heap.size + 1) (by omega) [.iface T0 p0]) (fun hHeld => ?_)
          clear hK K
          try simp only [Act.put, List.setIfInBounds_toArray, List.set_cons_zero, List.set_cons_succ, List.getElem_toArray, List.getElem_cons_succ, List.getElem_cons_zero]
          clear hR2 hE2 hK2 hc hf
          refine wpAnyH_done (by kernel_rfl) ?_ _
          gi_wp2
          exact ⟨hK3.from _, ⟨rfl, by rw [List.length_append]; exact HN2.out, hR3, hE3⟩, hHeld⟩
  case done =>
    rintro D W hD ⟨⟨t, b, hrat, hB⟩, hBel⟩ hK
    rw [List.length_range] at hrat hB
    have c1 := hB.s.cell 0 rfl
    have c2 := hB.q.cell 0 rfl
    have c3 := hB.q.cell 1 rfl
    have f1 := hB.r.free 0 (by simp)
    have f2 := hB.r.free 1 (by simp)
    have f3 := hB.e.free 0 (by simp)
    have d1 := hB.r.cell 0 rfl
    have d2 := hB.r.cell 1 rfl
    have d3 := hB.e.cell 0 rfl
    have HM := ratN_most hrat
    simp only at HM
    obtain ⟨s, hs⟩ : ∃ s, sgnT m = s := ⟨_, rfl⟩
    have hs1 : s = 1 ∨ s = -1 := by rw [← hs]; exact sgnT_is _
    rw [hs] at c1
    obtain ⟨z, hz⟩ : ∃ z : Int, s * (t : Int) = z := ⟨_, rfl⟩
    have hzb : -1000000000 ≤ z ∧ z ≤ 1000000000 := by rcases hs1 with rfl | rfl <;> omega
    have q1 : IntKind.i64.wrap z = z := by rw [IntKind.wrap_i64]; omega
    have HO : Aside (trainO xs = some (z, b)) := (show _ = _ from by
      unfold trainO
      rw [trainB_true.2 ⟨h2, h10, hev, HX.out⟩, if_pos rfl, hm2, hrat, hs]
      simp only [Option.map_some, hz])
    have HBE := Lib.hid hBel
    have HB := Lib.hid hB
    clear hs hrat hB hBel HM
    go_wp2_with fail
    have hB2 := HB.out
    have r1 := hB2.r.put [.int .i64 z, .int .i64 (b : Nat)] rfl
    have e1 := hB2.e.other (g' := w.heap.size) [.int .i64 z, .int .i64 (b : Nat)] (by omega)
    have r2 := r1.other (g' := w.heap.size + 1) [.nilIface] (by omega)
    have e2 := e1.put [.nilIface] rfl
    have k2 := (keeps_cells W w.heap.size [.int .i64 z, .int .i64 (b : Nat)]).trans (keeps_cells _ (w.heap.size + 1) [.nilIface])
    have b2 := below_cells (below_cells HBE.out (Nat.le_refl _) [.int .i64 z, .int .i64 (b : Nat)]) (g := w.heap.size + 1) (by omega) [.nilIface]
    have hK2 := k2.same D _ hK rfl
    refine ⟨by simp, .inl ⟨_, _, rfl, run_takeDeferred hK2, ?_⟩⟩
    refine ⟨_, results_rat rfl _ w.heap.size rfl rfl _ z b .nilIface (r2.keep (grownBy_putObj' _ D (.deferred none)) (fun r e => by cases e; exact ⟨_, hK2, rfl⟩)) (e2.keep (grownBy_putObj' _ D (.deferred none)) (fun r e => by cases e; exact ⟨_, hK2, rfl⟩)), ?_⟩
    rw [HO.out]
    exact ⟨_, rfl, .inl ⟨rfl, rfl⟩, b2.trans (below_put (by omega) hK2)⟩
  case stop =>
    rintro D c pre x W hD ⟨rest, hx⟩ ⟨⟨rfl, hnone, hR, hEr⟩, hBel⟩ hK
    obtain ⟨hxl, hpl⟩ := range_at hx
    have HO : Aside (trainO xs = none) := (show _ = _ from by
      unfold trainO
      rw [trainB_true.2 ⟨h2, h10, hev, HX.out⟩, if_pos rfl, hm2, ratN_none hnone (m := m) (by rw [List.length_append]; simp; omega)]
      rfl)
    refine (wpIn_wide (n := 3)).2 ?_
    go_wp2
    try rw [Exit.noGoto_ret]
    refine ⟨by simp, .inl ⟨_, _, rfl, run_takeDeferred hK, ?_⟩⟩
    refine ⟨_, results_rat rfl _ w.heap.size rfl rfl _ 0 0 (.iface T0 p0) (hR.keep (grownBy_putObj' _ D (.deferred none)) (fun r e => by cases e; exact ⟨_, hK, rfl⟩)) (hEr.keep (grownBy_putObj' _ D (.deferred none)) (fun r e => by cases e; exact ⟨_, hK, rfl⟩)), ?_⟩
    rw [HO.out]
    exact ⟨_, rfl, .inr ⟨rfl, T0, p0, rfl⟩, hBel.trans (below_put (by omega) hK)⟩
end Go.Proofs.YtbdhbkedeglagaaDoor
