/-
  spec's grid points; impl's moves of a path.
  impl: the moves of a path.
  Both sides: the moves of a path, told.
  Both sides: which lists are moves; their lengths.
-/
import Derived.Test.YtibhlaojinedoaaM25
import Derived.Test.YtibhlaojinedoaaM21
import Derived.Maps.AppendAt
/- spec's grid points; impl's moves of a path. -/
namespace Go.Proofs.Ytibhlaojinedoaa
set_option maxRecDepth 20000
open Go.ChangeShapes Go.WideShapes Go.ChangeAt Go.RowKit
set_option linter.unusedVariables false
set_option linter.unusedSimpArgs false

set_option maxHeartbeats 1000000 in
theorem specGridPoint_any (a : Pn) (g : Int) (w : World) : Calls Try.prog 7 #[csP a, .int .i64 g] w fun e w' => e = .returned (.tuple #[mvV (gpM a g), .bool (gpB a g)]) ∧ Below w.heap.size w w' := by
  have C1 := fun w => specPart_any a.1 w
  have C2 := fun w => specPart_any a.2 w
  have G := fun w => specIn_grid g w
  cases h1 : inR a.1 with
  | false =>
    have hf : gpB a g = false := by unfold gpB ptR; rw [h1]; rfl
    rw [hf, gpM_no hf]
    rw [h1] at C1
    clear G C2 h1 hf
    unfold csP cs at *
    go_enter Try.func7, Try.ntmps7
    go_wp2_with fail
    refine (C1 _).mono ?_; rintro e w2 ⟨rfl, rfl⟩
    go_wp2_with fail
    simp [bodyPost, results, Try.results7, go_sem]
    exact mv_lies _ _
  | true =>
    rw [h1] at C1
    cases h2 : inR a.2 with
    | false =>
      have hf : gpB a g = false := by unfold gpB ptR; rw [h1, h2]; rfl
      rw [hf, gpM_no hf]
      rw [h2] at C2
      clear G h1 h2 hf
      unfold csP cs at *
      go_enter Try.func7, Try.ntmps7
      go_wp2_with fail
      refine (C1 _).mono ?_; rintro e w2 ⟨rfl, rfl⟩
      go_wp2_with fail
      refine (C2 _).mono ?_; rintro e w2 ⟨rfl, rfl⟩
      go_wp2_with fail
      simp [bodyPost, results, Try.results7, go_sem]
      exact mv_lies _ _
    | true =>
      rw [h2] at C2
      cases h3 : grB g with
      | false =>
        have hf : gpB a g = false := by unfold gpB; rw [h3, Bool.and_false]
        rw [hf, gpM_no hf]
        rw [h3] at G
        clear h1 h2 h3 hf
        unfold csP cs at *
        go_enter Try.func7, Try.ntmps7
        go_wp2_with fail
        refine (C1 _).mono ?_; rintro e w2 ⟨rfl, rfl⟩
        go_wp2_with fail
        refine (C2 _).mono ?_; rintro e w2 ⟨rfl, rfl⟩
        go_wp2_with fail
        refine (G _).mono ?_; rintro e w2 ⟨rfl, rfl⟩
        go_wp2_with fail
        simp [bodyPost, results, Try.results7, go_sem]
        exact mv_lies _ _
      | true =>
        obtain ⟨n, rfl, hn⟩ := grB_yes h3
        have hp : ptR a = true := by unfold ptR; rw [h1, h2]; rfl
        have hf : gpB a n = true := by unfold gpB; rw [hp, h3]; rfl
        rw [hf, gpM_yes hf]
        rw [h3] at G
        have N := fun w => specGrid_any n a hn hp w
        clear h1 h2 h3 hf hp
        unfold mvV at *
        unfold csP cs at *
        generalize (gpt n a).1 = p at *
        generalize (gpt n a).2 = q at *
        go_enter Try.func7, Try.ntmps7
        go_wp2_with fail
        refine (C1 _).mono ?_; rintro e w2 ⟨rfl, rfl⟩
        go_wp2_with fail
        refine (C2 _).mono ?_; rintro e w2 ⟨rfl, rfl⟩
        go_wp2_with fail
        refine (G _).mono ?_; rintro e w2 ⟨rfl, rfl⟩
        go_wp2_with fail
        refine (N _).mono ?_; rintro e w3 ⟨rfl, hb3⟩
        have RR : RowAt w3 w.heap.size 2 27 nul := (RowAt.newAt rfl rfl : RowAt (w.alloc (.cells #[.int .i64 0, .int .i64 0] 27)) w.heap.size 2 27 nul).below hb3
        have K0 := RR.free 0
        have K1 := RR.free 1
        have K2 := RR.cell (k := 0) (by decide)
        have K3 := RR.cell (k := 1) (by decide)
        have S0 := RR.set (k := 0) (by decide) p
        have S1 := S0.set (k := 1) (by decide) q
        have K4 : (w3.setCell ⟨w.heap.size, 0, none⟩ (.int .i64 p)).cell? ⟨w.heap.size, 0, none⟩ = some (.int .i64 p) := S0.cell (k := 0) (by decide)
        have K5 : ((w3.setCell ⟨w.heap.size, 0, none⟩ (.int .i64 p)).setCell ⟨w.heap.size, 1, none⟩ (.int .i64 q)).cell? ⟨w.heap.size, 1, none⟩ = some (.int .i64 q) := S1.cell (k := 1) (by decide)
        have HB3 := Lib.hid (below_next (mv_lies w _) hb3)
        clear N hb3 RR S0 S1
        go_wp2_with fail
        simp [K4, K5, bodyPost, results, Try.results7, go_sem]
        exact (HB3.out.setCell (p := ⟨w.heap.size, 0, none⟩) (Nat.le_refl _) _).setCell (p := ⟨w.heap.size, 1, none⟩) (Nat.le_refl _) _
/-! ### Lists of moves -/
theorem tyM : TyL Try.prog 56 27 2 := tyL_of (z := .agg #[.int .i64 0, .int .i64 0]) (b := 16) Try.underlying56 (by kernel_rfl) (by omega) rfl
theorem tyN : TyL Try.prog 37 27 2 := tyL_of (z := .agg #[.int .i64 0, .int .i64 0]) (b := 16) Try.underlying37 (by kernel_rfl) (by omega) rfl
theorem litM (w : World) (m : Mv) (T : Nat) : ReadsL encM (w.alloc (.cells #[.int .i64 m.1, .int .i64 m.2] T)) (.slice (some ⟨w.heap.size, 0, none⟩) 1 1) [m] := litL_reads (en := encM) w m T
theorem ownM_none (w : World) (B T : Nat) : OwnL encM 2 w B T (.slice none 0 0) ([] : List Mv) := World.ownsRow_nil w B T 2
theorem ownM_nil (w : World) (B T : Nat) (hB : B ≤ w.heap.size) : OwnL encM 2 (w.alloc (.cells #[] T)) B T (.slice (some ⟨w.heap.size, 0, none⟩) 0 0) ([] : List Mv) := World.ownsRow_made w #[] 0 hB (by simp [maxLen]) (by simp)
def ToldM (w : World) (o : Option (List Mv)) (e : Ending) (w' : World) : Prop :=
  Below w.heap.size w w' ∧ ∃ v', e = .returned (.tuple #[v', .bool o.isSome]) ∧ OwnL encM 2 w' w.heap.size 27 v' (o.getD [])
theorem lessM_any (a b : Mv) (ha : -10000000000 ≤ a.1 ∧ a.1 ≤ 10000000000) (ha2 : -10000000000 ≤ a.2 ∧ a.2 ≤ 10000000000) (hb : -10000000000 ≤ b.1 ∧ b.1 ≤ 10000000000) (hb2 : -10000000000 ≤ b.2 ∧ b.2 ≤ 10000000000) (w : World) :
    Calls Try.prog 35 #[mvV a, mvV b] w fun e w' => e = .returned (mvV (subM a b)) ∧ Below w.heap.size w w' := by
  obtain ⟨a1, a2⟩ := a
  obtain ⟨b1, b2⟩ := b
  simp only at ha ha2 hb hb2
  unfold mvV subM
  have w1 : IntKind.i64.wrap (a1 - b1) = a1 - b1 := by rw [IntKind.wrap_i64]; omega
  have w2 : IntKind.i64.wrap (a2 - b2) = a2 - b2 := by rw [IntKind.wrap_i64]; omega
  go_enter Try.func35, Try.ntmps35
  go_wp2
  simp [bodyPost, results, Try.results35, go_sem]
  exact below_next (below_next (below_next (mv_lies w _) (mv_lies _ _)) (mv_lies _ _)) (Below.refl _ _)
/-! ### Parts of paths joined -/
set_option maxHeartbeats 1000000 in
theorem joined_two (g : Nat) (p1 p2 : Option Addr) (c1 c2 : Nat) (xs ys : List Pn) (w : World) (hg : g < w.heap.size) (h1 : w.cell? ⟨g, 0, none⟩ = some (.slice p1 xs.length c1)) (h2 : w.cell? ⟨g, 1, none⟩ = some (.slice p2 ys.length c2))
    (r1 : ReadsL encC w (.slice p1 xs.length c1) xs) (r2 : ReadsL encC w (.slice p2 ys.length c2) ys) (hl1 : xs.length ≤ 1000) (hl2 : ys.length ≤ 1000) :
    Calls Try.prog 47 #[.slice (some ⟨g, 0, none⟩) 2 2] w fun e w' => ∃ v', e = .returned v' ∧ OwnL encC 1 w' w.heap.size 23 v' (xs ++ ys) ∧ Below w.heap.size w w' := by
  have R1 := Lib.hid r1
  have R2 := Lib.hid r2
  have H1 := Lib.hid h1
  have H2 := Lib.hid h2
  clear r1 r2 h1 h2
  go_enter Try.func47, Try.ntmps47
  go_wp2
  go_loopw [3, 8] (fun v' i wr => Below w.heap.size w wr ∧ ((i = .int .i64 0 ∧ OwnL encC 1 wr w.heap.size 23 v' []) ∨ (i = .int .i64 1 ∧ OwnL encC 1 wr w.heap.size 23 v' xs) ∨ (i = .int .i64 2 ∧ OwnL encC 1 wr w.heap.size 23 v' (xs ++ ys)))) (fun _ i _ => 2 - (intOf i).toNat)
  case atStart => exact ⟨Below.refl _ _, .inl ⟨rfl, ownC_none _ _ _⟩⟩
  case round =>
    obtain ⟨hb, ⟨rfl, ho⟩ | ⟨rfl, ho⟩ | ⟨rfl, ho⟩⟩ := hrel
    · have k1 : wr.cell? ⟨g, 0, none⟩ = _ := (World.cell?_of_block (hb.block g hg)).trans H1.out
      have HB := Lib.hid hb
      have HO := Lib.hid ho
      have HR := Lib.hid (R1.out.below hb)
      have HZ := Lib.hid hb.size
      clear hb ho
      go_wp2_with (at_builtin; refine appendL tyPa encC_ok rfl rfl rfl rfl (xs := []) (ys := xs) HO.out HR.out (by simp; omega) HB.out HZ.out ?_; intro v2 w5 ho5 hb5 hB5 hgr5)
      go_roundw
      case rel => exact ⟨hb5, .inr (.inl ⟨by go_num, ho5⟩)⟩
      case measure => simp [intOf]
    · have k1 : wr.cell? ⟨g, 1, none⟩ = _ := (World.cell?_of_block (hb.block g hg)).trans H2.out
      have HB := Lib.hid hb
      have HO := Lib.hid ho
      have HR := Lib.hid (R2.out.below hb)
      have HZ := Lib.hid hb.size
      clear hb ho
      go_wp2_with (at_builtin; refine appendL tyPa encC_ok rfl rfl rfl rfl (xs := xs) (ys := ys) HO.out HR.out (by omega) HB.out HZ.out ?_; intro v2 w5 ho5 hb5 hB5 hgr5)
      go_roundw
      case rel => exact ⟨hb5, .inr (.inr ⟨by go_num, ho5⟩)⟩
      case measure => simp [intOf]
    · have HB := Lib.hid hb
      have HO := Lib.hid ho
      clear hb ho
      go_wp2
      go_ret
      exact ⟨_, rfl, HO.out, HB.out⟩
end Go.Proofs.Ytibhlaojinedoaa
/- impl: the moves of a path. -/
namespace Go.Proofs.Ytibhlaojinedoaa
set_option maxRecDepth 20000
open Go.ChangeShapes Go.WideShapes Go.ChangeAt Go.RowKit
set_option linter.unusedVariables false
set_option linter.unusedSimpArgs false

def startsL (xs : List Pn) : List Pn := (0, 0) :: xs.take (xs.length - 1)
set_option maxHeartbeats 1000000 in
theorem starts_any (v : Value) (xs : List Pn) (w : World) (hv : ReadsL encC w v xs) (h1 : 1 ≤ xs.length) (h2 : xs.length ≤ 100) :
    Calls Try.prog 34 #[v] w fun e w' => ∃ v', e = .returned v' ∧ OwnL encC 1 w' w.heap.size 23 v' (startsL xs) ∧ Below w.heap.size w w' := by
  obtain ⟨p, cap, rfl, hc1, hc2, hp0, hp⟩ := hv
  simp only [maxLen] at hc2
  obtain ⟨g, o, rfl, hg, hr⟩ := hp (by rintro rfl; have := hp0 rfl; omega)
  obtain ⟨n, hn⟩ : ∃ n, n = xs.length - 1 := ⟨_, rfl⟩
  have e1 : ((xs.length : Int) - 1) = (n : Int) := by omega
  have w1 : IntKind.i64.wrap ((xs.length : Int) - 1) = (n : Int) := by rw [IntKind.wrap_i64]; omega
  have i1 : (n : Int) ≤ (cap : Int) := by omega
  have i2 : n ≤ cap := by omega
  have HR := Lib.hid hr
  have HN := Lib.hid hn
  have hyl : (xs.take (xs.length - 1)).length = xs.length - 1 := by rw [List.length_take]; omega
  have J : Calls Try.prog 47 #[.slice (some ⟨w.heap.size + 1, 0, none⟩) 2 2] ((w.alloc (.cells #[.complex .f32 0 0] 23)).alloc (.cells #[.slice (some ⟨w.heap.size, 0, none⟩) 1 1, .slice (some ⟨g, o, none⟩) (xs.length - 1) (xs.length - 1)] 57)) fun e w' => ∃ v', e = .returned v' ∧ OwnL encC 1 w' w.heap.size 23 v' (startsL xs) ∧ Below w.heap.size w w' := by
    have hb : Below w.heap.size w ((w.alloc (.cells #[.complex .f32 0 0] 23)).alloc (.cells #[.slice (some ⟨w.heap.size, 0, none⟩) 1 1, .slice (some ⟨g, o, none⟩) (xs.length - 1) (xs.length - 1)] 57)) := below_next (mv_lies w _) (mv_lies _ _)
    have hW := heap_alloc_new (w.alloc (.cells #[.complex .f32 0 0] 23)) (.cells #[.slice (some ⟨w.heap.size, 0, none⟩) 1 1, .slice (some ⟨g, o, none⟩) (xs.length - 1) (xs.length - 1)] 57)
    have hsz : (w.alloc (.cells #[.complex .f32 0 0] 23)).heap.size = w.heap.size + 1 := by simp
    rw [hsz] at hW
    have r1 := ReadsL.below (litC w (0, 0) 23) (mv_lies (w.alloc (.cells #[cs (0 : Nat) (0 : Nat)] 23)) (.cells #[.slice (some ⟨w.heap.size, 0, none⟩) 1 1, .slice (some ⟨g, o, none⟩) (xs.length - 1) (xs.length - 1)] 57))
    have r2 : ReadsL encC ((w.alloc (.cells #[.complex .f32 0 0] 23)).alloc (.cells #[.slice (some ⟨w.heap.size, 0, none⟩) 1 1, .slice (some ⟨g, o, none⟩) (xs.length - 1) (xs.length - 1)] 57)) (.slice (some ⟨g, o, none⟩) (xs.take (xs.length - 1)).length (xs.length - 1)) (xs.take (xs.length - 1)) :=
      ⟨_, _, rfl, by omega, by simp only [maxLen]; omega, (fun e => by cases e), fun _ => ⟨g, o, rfl, Nat.lt_of_lt_of_le hg hb.size, by
        rw [flt_take encC_ok]
        intro j v hj
        rw [List.getElem?_take] at hj
        split at hj
        · exact cells_below hr hg hb j v hj
        · cases hj⟩⟩
    refine (joined_two (w.heap.size + 1) (some ⟨w.heap.size, 0, none⟩) (some ⟨g, o, none⟩) 1 (xs.length - 1) [(0, 0)] (xs.take (xs.length - 1)) _ (by simp) ?_ ?_ r1 r2 (by simp) (by omega)).mono ?_
    · exact cell_of_row _ _ _ _ _ _ hW
    · rw [hyl]; exact cell_of_row _ _ _ _ _ _ hW
    · rintro e x ⟨v', rfl, ho, hb2⟩
      exact ⟨v', rfl, rows_mono ho hb.size, below_next hb hb2⟩
  clear hr hp hp0 hyl
  go_enter Try.func34, Try.ntmps34
  go_wp2_with fail
  refine J.mono ?_; rintro e w2 ⟨v2, rfl, ho2, hb2⟩
  have HB2 := Lib.hid hb2
  have HO2 := Lib.hid ho2
  clear J hb2 ho2
  go_wp2_with fail
  go_ret
  exact ⟨v2, rfl, HO2.out, HB2.out⟩
/-! ### Moves from point to point -/
def prevP (xs : List Pn) (k : Nat) : Pn := ((0, 0) :: xs).getD k (0, 0)
def movesL (g : Nat) (xs : List Pn) : List Mv := List.zipWith (fun a z => subM (gpt g a) (gpt g z)) xs (startsL xs)
theorem starts_len {xs : List Pn} (h : 1 ≤ xs.length) : (startsL xs).length = xs.length := by unfold startsL; rw [List.length_cons, List.length_take]; omega
theorem starts_at {xs : List Pn} {k : Nat} (h : k < xs.length) : (startsL xs)[k]? = some (prevP xs k) := by
  unfold startsL prevP
  cases k with
  | zero => rfl
  | succ k =>
    rw [List.getElem?_cons_succ, List.getElem?_take, if_pos (by omega)]
    rw [List.getD_eq_getElem?_getD, List.getElem?_cons_succ, List.getElem?_eq_getElem (by omega)]; rfl
theorem prev_next {xs : List Pn} {k : Nat} {a : Pn} (h : xs[k]? = some a) : prevP xs (k + 1) = a := by
  unfold prevP
  rw [List.getD_eq_getElem?_getD, List.getElem?_cons_succ, h]; rfl
theorem prev_zero (xs : List Pn) : prevP xs 0 = (0, 0) := rfl
theorem moves_len {g : Nat} {xs : List Pn} (h : 1 ≤ xs.length) : (movesL g xs).length = xs.length := by
  unfold movesL; rw [List.length_zipWith, starts_len h]; omega
theorem moves_at {g k : Nat} {xs : List Pn} {a : Pn} (h : xs[k]? = some a) : (movesL g xs)[k]? = some (subM (gpt g a) (gpt g (prevP xs k))) := by
  unfold movesL
  rw [List.getElem?_zipWith, h, starts_at (List.getElem?_eq_some_iff.1 h).1]
theorem moves_next {g k : Nat} {xs : List Pn} {a : Pn} (h : xs[k]? = some a) : (movesL g xs).take (k + 1) = (movesL g xs).take k ++ [subM (gpt g a) (gpt g (prevP xs k))] := take_nextL (moves_at h)
theorem ptR_zero : ptR (0, 0) = true := by
  have h := fs_fin fs_zero
  have : inR 0 = true := by unfold inR; rw [h.1, h.2.2]; simp
  unfold ptR; rw [this]; rfl
theorem prev_in {xs : List Pn} {k : Nat} (h : ∀ a ∈ xs, ptR a = true) (hk : k ≤ xs.length) : ptR (prevP xs k) = true := by
  cases k with
  | zero => exact ptR_zero
  | succ k =>
    obtain ⟨a, ha⟩ : ∃ a, xs[k]? = some a := ⟨_, List.getElem?_eq_getElem (by omega)⟩
    rw [prev_next ha]
    exact h a (List.mem_of_getElem? ha)
theorem gpt_in {a : Pn} {g : Nat} (h : ptR a = true) (hg : g ≤ 8) : (-4194305 ≤ (gpt g a).1 ∧ (gpt g a).1 ≤ 4194305) ∧ (-4194305 ≤ (gpt g a).2 ∧ (gpt g a).2 ≤ 4194305) := by
  obtain ⟨u, y, Y, Z, -, -, i, -, -, -, -, -, -, -, -, -, -, -, h1⟩ := units_words (ptR_parts h).1 hg
  obtain ⟨u, y, Y, Z, -, -, i, -, -, -, -, -, -, -, -, -, -, -, h2⟩ := units_words (ptR_parts h).2 hg
  exact ⟨h1, h2⟩
set_option maxHeartbeats 1000000 in
theorem pathMoves_any (v : Value) (g : Nat) (xs : List Pn) (w : World) (hv : ReadsL encC w v xs) (hg : g ≤ 8) (hx : ∀ a ∈ xs, ptR a = true) (h1 : 1 ≤ xs.length) (h2 : xs.length ≤ 100) :
    Calls Try.prog 25 #[v, .int .i64 g] w fun e w' => ∃ v', e = .returned v' ∧ OwnL encM 2 w' w.heap.size 27 v' (movesL g xs) ∧ Below w.heap.size w w' := by
  have S := fun w2 hb => starts_any v xs w2 (hv.below hb) h1 h2
  obtain ⟨p, cap, rfl, hc1, hc2, hp0, hp⟩ := hv
  simp only [maxLen] at hc2
  obtain ⟨gg, o, rfl, hgg, hr⟩ := hp (by rintro rfl; have := hp0 rfl; omega)
  have HR := Lib.hid hr
  have HX := Lib.hid hx
  clear hr hx hp hp0
  go_enter Try.func25, Try.ntmps25
  go_wp2_with (refine makeL (en := encM) tyM rfl rfl xs.length rfl rfl (by omega) (Below.refl _ w) (Nat.le_refl _) ?_; intro w2 ho1 hb1 hB1)
  refine (S _ hb1).mono ?_; rintro e w3 ⟨v3, rfl, ho3, hb3⟩
  obtain ⟨p3, cap3, rfl, hd1, hd2, hq0, hq⟩ := ownL_reads ho3
  simp only [maxLen] at hd2
  rw [starts_len h1] at hd1 ho3 ⊢
  have hlt2 : w.heap.size < w2.heap.size := by
    have := hb1.size
    have h := (ho1.lt w.heap.size rfl).2
    exact h
  have HO1 := Lib.hid (rows_below ho1 hb3)
  have HB3 := Lib.hid (below_next hb1 hb3)
  have HO3 := Lib.hid ho3
  have HLT := Lib.hid hlt2
  clear ho1 hb1 hB1 ho3 hb3 hq hq0 S hlt2
  go_wp2_with fail
  go_loopw [5, 14] (fun v' i wr => ∃ k : Nat, k ≤ xs.length ∧ i = .int .i64 k ∧ v' = .slice (some ⟨w.heap.size, 0, none⟩) ((movesL g xs).take k).length xs.length ∧ OwnL encM 2 wr w.heap.size 27 (.slice (some ⟨w.heap.size, 0, none⟩) ((movesL g xs).take k).length xs.length) ((movesL g xs).take k) ∧ Below w.heap.size w wr ∧ w.heap.size ≤ wr.heap.size ∧ OwnL encC 1 wr w2.heap.size 23 (.slice p3 (startsL xs).length cap3) (startsL xs)) (fun _ i _ => xs.length - (intOf i).toNat)
  case atStart => exact ⟨0, Nat.zero_le _, rfl, rfl, HO1.out, HB3.out, HB3.out.size, by rw [starts_len h1]; exact HO3.out⟩
  case round =>
    obtain ⟨k, hk, rfl, rfl, hO, hbel, hB, hS⟩ := hrel
    by_cases hlt : k < xs.length
    · have hkz : (k : Int) < (xs.length : Int) := by omega
      have hk0 : (0 : Int) ≤ (k : Int) := by omega
      obtain ⟨a, ha⟩ : ∃ a, xs[k]? = some a := ⟨_, List.getElem?_eq_getElem hlt⟩
      have c1 := pt_cell (cells_below HR.out hgg hbel) ha
      obtain ⟨pp, cc, ee, -, -, hz0, hz⟩ := ownL_reads hS
      simp only [Value.slice.injEq, true_and] at ee
      obtain ⟨rfl, rfl⟩ := ee
      obtain ⟨g3, o3, rfl, hg3, hr3⟩ := hz (by rintro rfl; have := hz0 rfl; omega)
      have c2 := pt_cell hr3 (starts_at hlt)
      have ia := HX.out a (List.mem_of_getElem? ha)
      have iz := prev_in HX.out hk
      have N1 := fun w => nearest_any g a hg ia w
      have N2 := fun w => nearest_any g (prevP xs k) hg iz w
      have b1 := gpt_in ia hg
      have b2 := gpt_in iz hg
      have L := fun w => lessM_any (gpt g a) (gpt g (prevP xs k)) (by omega) (by omega) (by omega) (by omega) w
      have HN := Lib.hid (moves_next (g := g) ha)
      have HPL : Aside (((movesL g xs).take k).length + 1 ≤ xs.length) := (show _ ≤ _ from by rw [List.length_take]; omega)
      have HO := Lib.hid hO
      have HL := Lib.hid hbel
      have HB := Lib.hid hB
      have H3 := Lib.hid hS
      clear hO hbel hB hS ha ia iz b1 b2 hz hz0 hr3
      unfold csP at N1 N2
      unfold cs at c1 c2 N1 N2
      generalize gpt g a = ma at *
      generalize gpt g (prevP xs k) = mz at *
      generalize hsm : subM ma mz = ms at *
      clear hsm
      generalize (movesL g xs).take k = LL at *
      go_wp2_with fail
      refine (N1 _).mono ?_; rintro e w4 ⟨rfl, hb4⟩
      go_wp2_with fail
      refine (N2 _).mono ?_; rintro e w5 ⟨rfl, hb5⟩
      go_wp2_with fail
      refine (L _).mono ?_; rintro e w6 ⟨rfl, hb6⟩
      have hb7 : Below wr.heap.size wr w6 := below_next (below_next hb4 hb5) hb6
      have HO6 := Lib.hid (rows_below HO.out hb7)
      have HL6 := Lib.hid (below_next HL.out hb7)
      have HB6 := Lib.hid (Nat.le_trans HB.out hb7.size)
      have H36 := Lib.hid (rows_below H3.out hb7)
      clear hb4 hb5 hb6 hb7 N1 N2 L c1 c2 HO HL HB H3
      unfold mvV
      go_wp2_with (at_builtin; refine append_fitL tyM encM_ok rfl rfl rfl rfl (xs := LL) (ys := [ms]) (World.ownsRow.alloc HO6.out _) (litL_range (en := encM) _ ms _) HPL.out ?_; intro w7 ho7 hgr7)
      have H37 := Lib.hid (rows_above (u := .slice (some ⟨w.heap.size, 0, none⟩) 0 0) (World.ownsRow.alloc H36.out _) hgr7 (fun k hk => by cases hk; exact HLT.out))
      have HL7 := Lib.hid ((HL6.out.alloc HB6.out _).grown hgr7 (by simp; have := HB6.out; omega) (fun k hk => by cases hk; exact Nat.le_refl _))
      go_roundw
      case rel => exact ⟨k + 1, by omega, by go_num, by simp [HN.out], by rw [HN.out]; exact ho7, HL7.out, HL7.out.size, H37.out⟩
      case measure => simp [intOf]; omega
    · obtain rfl : k = xs.length := by omega
      have HO := Lib.hid hO
      have HL := Lib.hid hbel
      clear hO hbel hB hS
      go_wp2
      go_ret
      have ho := HO.out
      rw [List.take_of_length_le (by rw [moves_len h1]; exact Nat.le_refl _)] at ho
      exact ⟨_, by rw [List.take_of_length_le (by rw [moves_len h1]; exact Nat.le_refl _)]; rfl, ho, HL.out⟩
end Go.Proofs.Ytibhlaojinedoaa
/- Both sides: the moves of a path, told. -/
namespace Go.Proofs.Ytibhlaojinedoaa
set_option maxRecDepth 20000
open Go.ChangeShapes Go.WideShapes Go.ChangeAt Go.RowKit
set_option linter.unusedVariables false
set_option linter.unusedSimpArgs false

/-- The moves that are told. -/
def pmO (xs : List Pn) (g : Int) : Option (List Mv) := if pvB xs && grB g then some (movesL g.toNat xs) else none
theorem pmO_1 {xs : List Pn} {g : Int} (h : pvB xs = false) : pmO xs g = none := by unfold pmO; rw [h]; rfl
theorem pmO_2 {xs : List Pn} {g : Int} (h : grB g = false) : pmO xs g = none := by unfold pmO; rw [h, Bool.and_false]; rfl
theorem pmO_yes {xs : List Pn} {n : Nat} (h : pvB xs = true) (h2 : grB n = true) : pmO xs n = some (movesL n xs) := by unfold pmO; rw [h, h2]; rfl
theorem PathMoves_any (v : Value) (g : Int) (xs : List Pn) (w : World) (hv : ReadsL encC w v xs) : Calls Try.prog 10 #[v, .int .i64 g] w (ToldM w (pmO xs g)) := by
  have C := PathValid_any v xs w hv
  have G := fun w => gridValid_any g w
  cases h1 : pvB xs with
  | false =>
    rw [h1] at C
    rw [pmO_1 h1]
    obtain ⟨p, cap, rfl, -⟩ := hv
    go_enter Try.func10, Try.ntmps10
    go_wp2_with fail
    refine C.mono ?_; rintro e w2 ⟨rfl, hb2⟩
    have HB2 := Lib.hid hb2
    clear C hb2
    go_wp2_with fail
    go_ret2
    exact ⟨HB2.out, _, rfl, ownM_none _ _ _⟩
  | true =>
    rw [h1] at C
    cases h2 : grB g with
    | false =>
      rw [h2] at G
      rw [pmO_2 h2]
      obtain ⟨p, cap, rfl, -⟩ := hv
      go_enter Try.func10, Try.ntmps10
      go_wp2_with fail
      refine C.mono ?_; rintro e w2 ⟨rfl, hb2⟩
      have HB2 := Lib.hid hb2
      clear C hb2
      go_wp2_with fail
      refine (G _).mono ?_; rintro e w3 ⟨rfl, rfl⟩
      go_wp2_with fail
      go_ret2
      exact ⟨HB2.out, _, rfl, ownM_none _ _ _⟩
    | true =>
      rw [h2] at G
      obtain ⟨n, rfl, hn⟩ := grB_yes h2
      rw [pmO_yes h1 h2]
      have hq := pvB_parts h1
      have M := fun w2 hb => pathMoves_any v n xs w2 (hv.below hb) hn hq.2.2 hq.1 hq.2.1
      clear hq h1 h2
      obtain ⟨p, cap, rfl, -⟩ := hv
      generalize movesL n xs = ms at *
      go_enter Try.func10, Try.ntmps10
      go_wp2_with fail
      refine C.mono ?_; rintro e w2 ⟨rfl, hb2⟩
      have HB2 := Lib.hid hb2
      have M2 := M w2 hb2
      clear C hb2 M
      go_wp2_with fail
      refine (G _).mono ?_; rintro e w3 ⟨rfl, rfl⟩
      go_wp2_with fail
      refine M2.mono ?_; rintro e w4 ⟨v4, rfl, ho4, hb4⟩
      have HB4 := Lib.hid (below_next HB2.out hb4)
      have HO4 := Lib.hid (rows_mono ho4 HB2.out.size)
      clear M2 hb4 ho4
      go_wp2_with fail
      go_ret2
      exact ⟨HB4.out, _, rfl, HO4.out⟩
/-! ### Appending, and where the list lies then -/
section
variable {α : Type} {en : α → List Value} {K : Nat} {P : Program} {t e : TypeId} {ops : Array Oper} {rest : List Oper} {o : Oper} {a : Act} {Q : Exit → Act → World → Prop} {w0 w : World} {B : Nat}
theorem append_atL (ty : TyL P t e K) (E : Enc en K) (hgd : o.guard = none) {s x : Operand} (hop : o.op = .call { callee := .builtin .append, args := #[s, x], argTypes := #[t, t] })
    {v : Value} {xs ys : List α} {g2 o2 c : Nat} (hs : a.eval s = v) (hx : a.eval x = .slice (some ⟨g2, o2, none⟩) ys.length c) (hown : OwnL en K w B e v xs) (hr : w.rangeAt g2 o2 (flt en ys)) (hlen : xs.length + ys.length ≤ 1000000000) (hb : Below B w0 w) (hB : B ≤ w.heap.size)
    (h : ∀ v' w', OwnL en K w' B e v' (xs ++ ys) → Below B w0 w' → B ≤ w'.heap.size → w.grownBy w' v.ownBlock → (v'.ownBlock = v.ownBlock ∨ v'.ownBlock = some w.heap.size) → wpList P ops Q rest (a.put o.dst v') w') : wpList P ops Q (o :: rest) a w := by
  refine wpList_plain hgd fun k hK => ?_
  obtain ⟨i, z, hi, hz, hsz, hby, hzs⟩ := ty.inf
  have hby' : (xs.length + ys.length) * i.bytes ≤ 140737488355328 := by
    have := Nat.mul_le_mul hlen hby
    omega
  obtain ⟨v', w', hr1, ho, hgr, -, hat⟩ := run_append_own_at (P := P) w B t o.type e i z K i.bytes ty.sl hi hz hsz rfl hzs E.pos v xs.length (flt en xs) hown ⟨g2, o2, none⟩ ys.length c (flt en ys) (flt_length E ys)
    (fun j u hu => by rw [Addr.add_mid]; exact hr j u hu) (flt_oneCell E ys) (by simp only [maxLen]; omega) hby' hB
  unfold Oper.wp execOp
  simp only [hop, resolve, invoke, builtin, Sem.run_bind, Sem.run_pure, Result.andThen_ok, List.map_toArray, List.map_cons, List.map_nil, hs, hx, hr1]
  rw [← flt_append] at ho
  rw [← List.length_append] at ho
  exact hK _ _ (h v' w' ho (hb.grown hgr hB fun k hk => (hown.lt k hk).1) (Nat.le_trans hB hgr.size) hgr hat)
end
theorem own_setRow_ne {w : World} {B T n K gx : Nat} {v : Value} {cs : List Value} (h : w.ownsRow B T K v n cs) (hne : v.ownBlock ≠ some gx) (xs : Array Value) : (w.setRow gx xs).ownsRow B T K v n cs := by
  refine ⟨h.1, ?_⟩
  rcases h.2 with h0 | ⟨g, cap, cur, rfl, hB, hg, rest⟩
  · exact .inl h0
  · exact .inr ⟨g, cap, cur, rfl, hB, (setRow_other _ _ _ _ (fun e => hne (by rw [← e]; rfl))).trans hg, rest⟩
/-! ### spec's -/
def mfn (m : Mv) : Nat → Int := fun j => if j = 0 then m.1 else m.2
theorem mv_vec (m : Mv) : mvV m = .agg (vec 2 (mfn m)) := rfl
theorem zero2 : (Try.prog.info? 27).map (fun i => (i.zero, i.size)) = some (some (.agg (vec 2 nul)), 2) := by kernel_rfl
theorem info_mv : (Try.prog.info? 27).map (·.size) = some 2 := by kernel_rfl
theorem unI_zero {g : Nat} : unI g 0 = 0 := by
  unfold unI
  rw [Int.zero_mul, Int.zero_add]
  have e : (2 : Int) ^ (loS - 1) = sgnd false (1 * 2 ^ (loS - 1)) := by rw [Nat.one_mul]; exact (cast_powI _).symm
  rw [e, rnd_exact (by decide), ← e]
  refine Int.ediv_eq_zero_of_lt (Int.le_of_lt (two_powI _)) ?_
  rw [← cast_powI, ← cast_powI, half_lo]
  have := Nat.two_pow_pos (loS - 1)
  omega
theorem iv_zero : ivS 0 = 0 := by rw [fs_iv fs_zero]; rfl
theorem gpt_zero (g : Nat) : gpt g (0, 0) = (0, 0) := by unfold gpt; simp only; rw [iv_zero, unI_zero]
set_option maxHeartbeats 2000000 in
theorem specPathMoves_any (v : Value) (g : Int) (xs : List Pn) (w : World) (hv : ReadsL encC w v xs) : Calls Try.prog 11 #[v, .int .i64 g] w (ToldM w (pmO xs g)) := by
  have C := specPathValid_any v xs (w.alloc (.cells #[] 27)) (hv.below (mv_lies _ _))
  have G := fun w => specIn_grid g w
  cases h1 : pvB xs with
  | false =>
    rw [h1] at C
    rw [pmO_1 h1]
    obtain ⟨p, cap, rfl, -⟩ := hv
    go_enter Try.func11, Try.ntmps11
    go_wp2_with fail
    refine C.mono ?_; rintro e w2 ⟨rfl, rfl⟩
    clear C
    go_wp2_with fail
    go_ret2
    exact ⟨mv_lies _ _, _, rfl, ownM_nil _ _ _ (Nat.le_refl _)⟩
  | true =>
    rw [h1] at C
    cases h2 : grB g with
    | false =>
      rw [h2] at G
      rw [pmO_2 h2]
      obtain ⟨p, cap, rfl, -⟩ := hv
      go_enter Try.func11, Try.ntmps11
      go_wp2_with fail
      refine C.mono ?_; rintro e w2 ⟨rfl, rfl⟩
      clear C
      go_wp2_with fail
      refine (G _).mono ?_; rintro e w3 ⟨rfl, rfl⟩
      go_wp2_with fail
      go_ret2
      exact ⟨mv_lies _ _, _, rfl, ownM_nil _ _ _ (Nat.le_refl _)⟩
    | true =>
      rw [h2] at G
      obtain ⟨n, rfl, hn⟩ := grB_yes h2
      rw [pmO_yes h1 h2]
      have hq := pvB_parts h1
      have HX : Aside (∀ a ∈ xs, ptR a = true) := (show ∀ a ∈ xs, ptR a = true from hq.2.2)
      have hl1 := hq.1
      have hl2 := hq.2.1
      clear hq h1 h2
      obtain ⟨p, cap, rfl, hc1, hc2, hp0, hp⟩ := hv
      simp only [maxLen] at hc2
      obtain ⟨gg, o, rfl, hgg, hr⟩ := hp (by rintro rfl; have := hp0 rfl; omega)
      have HR := Lib.hid hr
      clear hp hp0 hr
      go_enter Try.func11, Try.ntmps11
      go_wp2_with fail
      refine C.mono ?_; rintro e w2 ⟨rfl, rfl⟩
      clear C
      go_wp2_with fail
      refine (G _).mono ?_; rintro e w3 ⟨rfl, rfl⟩
      clear G
      go_wp2_with fail
      have O0 : OwnL encM 2 ((w.alloc (.cells #[] 27)).alloc (.cells #[.int .i64 0, .int .i64 0] 27)) w.heap.size 27 (.slice (some ⟨w.heap.size, 0, none⟩) 0 0) [] := World.ownsRow.alloc (ownM_nil w w.heap.size 27 (Nat.le_refl _)) _
      have R0 : RowAt ((w.alloc (.cells #[] 27)).alloc (.cells #[.int .i64 0, .int .i64 0] 27)) (w.heap.size + 1) 2 27 (mfn (gpt n (prevP xs 0))) := by
        rw [prev_zero, gpt_zero]; exact RowAt.newAt rfl (by simp)
      have B0 : Below w.heap.size w ((w.alloc (.cells #[] 27)).alloc (.cells #[.int .i64 0, .int .i64 0] 27)) := below_next (mv_lies w _) (mv_lies _ _)
      have Z0 : w.heap.size + 2 ≤ ((w.alloc (.cells #[] 27)).alloc (.cells #[.int .i64 0, .int .i64 0] 27)).heap.size := by simp
      generalize (w.alloc (.cells #[] 27)).alloc (.cells #[.int .i64 0, .int .i64 0] 27) = W0 at *
      obtain ⟨g7, hg7⟩ : ∃ g7, g7 = w.heap.size + 1 := ⟨_, rfl⟩
      rw [← hg7] at R0 ⊢
      have HG7 := Lib.hid hg7
      clear hg7
      go_loopw [6, 8] (fun v' i wr => ∃ k : Nat, k ≤ xs.length ∧ i = .int .i64 k ∧ OwnL encM 2 wr w.heap.size 27 v' ((movesL n xs).take k) ∧ v'.ownBlock ≠ some g7 ∧ RowAt wr g7 2 27 (mfn (gpt n (prevP xs k))) ∧ Below w.heap.size w wr ∧ w.heap.size + 2 ≤ wr.heap.size) (fun _ i _ => xs.length - (intOf i).toNat)
      case atStart => exact ⟨0, Nat.zero_le _, rfl, O0, by rw [HG7.out]; simp [Value.ownBlock], R0, B0, Z0⟩
      case round =>
        clear O0 R0 B0 Z0
        obtain ⟨k, hk, rfl, hO, hne, hR7, hbel, hB⟩ := hrel
        by_cases hlt : k < xs.length
        · have hkz : (k : Int) < (xs.length : Int) := by omega
          have hk0 : (0 : Int) ≤ (k : Int) := by omega
          obtain ⟨a, ha⟩ : ∃ a, xs[k]? = some a := ⟨_, List.getElem?_eq_getElem hlt⟩
          have c1 := pt_cell (cells_below HR.out hgg hbel) ha
          have ia := HX.out a (List.mem_of_getElem? ha)
          have iz := prev_in HX.out hk
          have N1 := fun w => specGrid_any n a hn ia w
          have b1 := gpt_in ia hn
          have b2 := gpt_in iz hn
          have HN := Lib.hid (moves_next (g := n) ha)
          have HP := Lib.hid (prev_next ha)
          have HO := Lib.hid hO
          have HL := Lib.hid hbel
          have HB := Lib.hid hB
          have HE := Lib.hid hne
          have HR7 := Lib.hid hR7
          have hbs : (-10000000 ≤ (gpt n a).1 - (gpt n (prevP xs k)).1 ∧ (gpt n a).1 - (gpt n (prevP xs k)).1 ≤ 10000000) ∧ (-10000000 ≤ (gpt n a).2 - (gpt n (prevP xs k)).2 ∧ (gpt n a).2 - (gpt n (prevP xs k)).2 ≤ 10000000) := by omega
          clear hO hbel hB hne hR7 ha ia iz b1 b2
          unfold csP at N1
          unfold cs at c1 N1
          obtain ⟨ma, hma⟩ : ∃ ma, gpt n a = ma := ⟨_, rfl⟩
          have HMA := Lib.hid hma
          rw [hma] at N1 HN hbs
          clear hma
          generalize gpt n (prevP xs k) = mz at *
          have hsm : ((ma.1 - mz.1, ma.2 - mz.2) : Mv) = subM ma mz := rfl
          obtain ⟨m1, m2⟩ := ma
          obtain ⟨z1, z2⟩ := mz
          simp only at hbs hsm
          have w1 : IntKind.i64.wrap (m1 - z1) = m1 - z1 := by rw [IntKind.wrap_i64]; omega
          have w2 : IntKind.i64.wrap (m2 - z2) = m2 - z2 := by rw [IntKind.wrap_i64]; omega
          have HSM := Lib.hid hsm
          clear hsm hbs
          unfold mvV at N1
          go_wp2_with fail
          refine (N1 _).mono ?_; rintro e w4 ⟨rfl, hb4⟩
          have HR4 := Lib.hid (HR7.out.below hb4)
          have HO4 := Lib.hid (rows_below HO.out hb4)
          have HL4 := Lib.hid (below_next HL.out hb4)
          have HB4 := Lib.hid (Nat.le_trans HB.out hb4.size)
          clear hb4 N1 c1 HR7 HO HL HB
          go_upto_region 9 with fail
          show Code.wp _ _ _ _ (w4.alloc (.cells #[.int .i64 m1, .int .i64 m2] 27))
          have HR5 := Lib.hid (HR4.out.alloc (.cells #[.int .i64 m1, .int .i64 m2] 27))
          have HN5 : Aside (RowAt (w4.alloc (.cells #[.int .i64 m1, .int .i64 m2] 27)) w4.heap.size 2 27 (mfn (m1, m2))) := (show RowAt _ _ _ _ _ from RowAt.newAt rfl rfl)
          have HO5 := Lib.hid (World.ownsRow.alloc HO4.out (.cells #[.int .i64 m1, .int .i64 m2] 27))
          have HL5 := Lib.hid (below_next HL4.out (mv_lies w4 (.cells #[.int .i64 m1, .int .i64 m2] 27)))
          have HB5 : Aside (w.heap.size + 2 ≤ (w4.alloc (.cells #[.int .i64 m1, .int .i64 m2] 27)).heap.size) := (show _ ≤ _ from by have := HB4.out; simp; omega)
          have HE4 : Aside (u6.ownBlock ≠ some w4.heap.size) := (show _ ≠ _ from fun e => absurd (HO4.out.lt _ e).2 (Nat.lt_irrefl _))
          clear HR4 HO4 HL4 HB4
          generalize w4.alloc (.cells #[.int .i64 m1, .int .i64 m2] 27) = w5 at *
          generalize w4.heap.size = gn at *
          have k1 : w5.cell? ⟨g7, 0, none⟩ = some (.int .i64 z1) := HR5.out.cell (k := 0) (by decide)
          have k2 : w5.cell? ⟨g7, 1, none⟩ = some (.int .i64 z2) := HR5.out.cell (k := 1) (by decide)
          have k3 : w5.cell? ⟨gn, 0, none⟩ = some (.int .i64 m1) := HN5.out.cell (k := 0) (by decide)
          have k4 : w5.cell? ⟨gn, 1, none⟩ = some (.int .i64 m2) := HN5.out.cell (k := 1) (by decide)
          go_upto_region 10 with (at_builtin; refine append_atL tyN encM_ok rfl rfl rfl rfl (xs := (movesL n xs).take k) (ys := [(m1 - z1, m2 - z2)]) (World.ownsRow.alloc HO5.out _) (litL_range (en := encM) _ (m1 - z1, m2 - z2) _) (by simp; omega) (HL5.out.alloc (by have := HB5.out; omega) _) (by simp; have := HB5.out; omega) ?_; intro v2 w7 ho7 hb7 hB7 hgr7 hat7)
          have hlt7 := HR5.out.lt
          have hltn := HN5.out.lt
          have r7 : RowAt w7 g7 2 27 (mfn (z1, z2)) := (hgr7.block g7 (by simp; omega) (fun e => HE.out e.symm)).trans (HR5.out.alloc _)
          have rn : RowAt w7 gn 2 27 (mfn (m1, m2)) := (hgr7.block gn (by simp; omega) (fun e => HE4.out e.symm)).trans (HN5.out.alloc _)
          have HNE : Aside (v2.ownBlock ≠ some g7) := (show _ ≠ _ from by
            rcases hat7 with e | e
            · rw [e]; exact HE.out
            · rw [e]; intro e2; simp at e2; omega)
          have HO7 := Lib.hid (own_setRow_ne ho7 HNE.out (vec 2 (mfn (m1, m2))))
          have HR8 := Lib.hid (r7.setRow (f' := mfn (m1, m2)))
          have HL8 : Aside (Below w.heap.size w (w7.setRow g7 (vec 2 (mfn (m1, m2))))) := (show Below _ _ _ from below_setRow hb7 (by have := HG7.out; omega) _)
          have HB8 : Aside (w.heap.size + 2 ≤ (w7.setRow g7 (vec 2 (mfn (m1, m2)))).heap.size) := (show _ ≤ _ from by have := HB5.out; have := hgr7.size; simp at this ⊢; omega)
          have R7 := Lib.hid r7
          have RN := Lib.hid rn
          clear ho7 hb7 hB7 hgr7 hat7 r7 rn hlt7 hltn k1 k2 k3 k4 HR5 HN5 HO5 HL5 HB5 HE4
          go_wp2_with (first | (refine load_row (g := gn) rfl rfl rfl RN.out Try.underlying27 rfl info_mv ?_) | (refine store_row (g := g7) rfl rfl rfl rfl R7.out info_mv ?_))
          go_roundw
          case rel =>
            refine ⟨k + 1, by omega, by go_num, ?_, HNE.out, ?_, HL8.out, HB8.out⟩
            · rw [HN.out, ← HSM.out]; exact HO7.out
            · rw [HP.out, HMA.out]; exact HR8.out
          case measure => simp [intOf]; omega
        · obtain rfl : k = xs.length := by omega
          have HO := Lib.hid hO
          have HL := Lib.hid hbel
          clear hO hbel hB hR7 hne
          go_wp2
          go_ret2
          have ho := HO.out
          rw [List.take_of_length_le (by rw [moves_len hl1]; exact Nat.le_refl _)] at ho
          exact ⟨HL.out, _, rfl, ho⟩
end Go.Proofs.Ytibhlaojinedoaa
/- Both sides: which lists are moves; their lengths. -/
namespace Go.Proofs.Ytibhlaojinedoaa
set_option maxRecDepth 20000
open Go.ChangeShapes Go.WideShapes Go.ChangeAt Go.RowKit
set_option linter.unusedVariables false
set_option linter.unusedSimpArgs false

theorem mv_cells {w : World} {g o k : Nat} {xs : List Mv} {m : Mv} (h : w.rangeAt g o (flt encM xs)) (hx : xs[k]? = some m) : w.cell? ⟨g, o + k * 2, none⟩ = some (.int .i64 m.1) ∧ w.cell? ⟨g, o + k * 2 + 1, none⟩ = some (.int .i64 m.2) :=
  ⟨cells_part encM_ok h hx 0 _ rfl, cells_part encM_ok h hx 1 _ rfl⟩
theorem specIn_move (n : Int) (w : World) : Calls Try.prog 21 #[.int .i64 n, .int .i64 (-10000000), .int .i64 10000000] w fun e w' => e = .returned (.bool (okN n)) ∧ w = w' := by
  unfold okN
  by_cases h : -10000000 ≤ n ∧ n ≤ 10000000
  · rw [decide_eq_true h]; exact in_yes n _ _ h.1 h.2 w
  · rw [decide_eq_false h]; exact in_no n _ _ (by omega) w
end Go.Proofs.Ytibhlaojinedoaa
