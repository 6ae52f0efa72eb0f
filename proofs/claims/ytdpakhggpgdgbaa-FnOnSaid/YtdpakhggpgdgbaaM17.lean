/-
  Lists of numbers in memory.
  The exact laws' helpers on lists of exact points and of numbers, for a program that knows no wheels: copied, counted, compared, marked, held; and what the walks of the exact laws of polygons share.
  Polygons, the mathematics of other ways to count: turns as the winding of the steps, convex without a count of corners.
  impl: crosses and dots of exact points, halves of the plane.
-/
import Derived.Test.YtdpakhggpgdgbaaM06
import Derived.Test.YtdpakhggpgdgbaaM10
import Derived.Test.YtdpakhggpgdgbaaM04
import Derived.Test.YtdpakhggpgdgbaaM13
import Derived.Test.YtdpakhggpgdgbaaM16
import Derived.Laws.CopyRow
/- Lists of numbers in memory. -/
namespace Go.Proofs.Ytdpakhggpgdgbaa
set_option maxRecDepth 20000
open Go.ChangeShapes Go.WideShapes Go.ChangeAt Go.RowKit
set_option linter.unusedVariables false
set_option linter.unusedSimpArgs false

/-! Lists of numbers. -/
def encI (n : Int) : List Value := [.int .i64 n]
theorem encI_ok : Enc encI 1 := ⟨fun a => rfl, fun a v h => by rw [encI, List.mem_singleton] at h; subst h; rfl, by omega⟩
theorem tyI : TyL Try.prog 41 3 1 := tyL_of (z := .int .i64 0) (b := 8) Try.underlying41 (by kernel_rfl) (by omega) rfl
theorem flt_ints : ∀ xs : List Int, flt encI xs = xs.map (Value.int .i64)
  | [] => rfl
  | x :: xs => by rw [flt_cons, flt_ints xs]; rfl
theorem own_ints {w : World} {B T : Nat} {v : Value} {xs : List Int} (h : OwnL encI 1 w B T v xs) : w.ownsRow B T 1 v xs.length (xs.map (Value.int .i64)) := by
  rw [← flt_ints]; exact h
theorem lit1 (w : World) (x : Int) (T : Nat) : ReadsL encI (w.alloc (.cells #[.int .i64 x] T)) (.slice (some ⟨w.heap.size, 0, none⟩) 1 1) [x] := litL_reads (en := encI) w x T
theorem int_cell {w : World} {g o k : Nat} {xs : List Int} {x : Int} (h : w.rangeAt g o (flt encI xs)) (hx : xs[k]? = some x) : w.cell? ⟨g, o + k, none⟩ = some (.int .i64 x) := by
  have := cells_part encI_ok h hx 0 (.int .i64 x) rfl
  rwa [Nat.mul_one, Nat.add_zero] at this
def ToldI (w : World) (o : Option (List Int)) (e : Ending) (w' : World) : Prop :=
  Below w.heap.size w w' ∧ ∃ v', e = .returned (.tuple #[v', .bool o.isSome]) ∧ OwnL encI 1 w' w.heap.size 3 v' (o.getD [])
end Go.Proofs.Ytdpakhggpgdgbaa
/- The exact laws' helpers on lists of exact points and of numbers, for a program that knows no wheels: copied, counted, compared, marked, held; and what the walks of the exact laws of polygons share. -/
namespace Go.Proofs.Ytdpakhggpgdgbaa
set_option maxRecDepth 20000
open Go.ChangeShapes Go.WideShapes Go.ChangeAt Go.RowKit
set_option linter.unusedVariables false
set_option linter.unusedSimpArgs false

theorem made_zeros (n : Nat) : (madeCells (Value.agg (vec 8 nul)).cells (n * 8)).toList = flt encV (List.replicate n V.zero) := by
  apply List.ext_getElem?
  intro i
  by_cases hi : i < n * 8
  · have h1 := flt_at encV_ok (xs := List.replicate n V.zero) (i := i / 8) (a := V.zero) (by rw [List.getElem?_replicate, if_pos (by omega)]) (i % 8) (by omega)
    rw [show i / 8 * 8 + i % 8 = i from by omega] at h1
    rw [h1]
    have hz : ∀ k, k < 8 → (vec 8 nul)[k]! = .int .i64 0 := fun k hk => by
      rw [getElem!_pos (vec 8 nul) k (by rw [vec_size]; exact hk)]
      have := vec_at nul hk
      rw [Array.getElem?_eq_getElem (by rw [vec_size]; exact hk)] at this
      simpa [nul] using this
    have hm : i % 8 < 8 := by omega
    have h2 : (encV V.zero)[i % 8]? = some (.int .i64 0) := by
      unfold encV lst
      rw [zero_up]
      simp [hm, nul]
    rw [h2]
    simp [madeCells, Value.cells, hi, vec_size, hz _ hm]
  · rw [List.getElem?_eq_none (by simp [madeCells]; omega), List.getElem?_eq_none (by rw [flt_length encV_ok]; simp; omega)]
section
variable {P : Program} {t e : TypeId} {ops : Array Oper} {rest : List Oper} {o : Oper} {a : Act} {Q : Exit → Act → World → Prop} {w0 w : World} {B : Nat}
/-- 'make' of a list of zero points. -/
theorem make_fullL (ty : TyL P t e 8) (hz : (P.info? e).map (·.zero) = some (some (.agg (vec 8 nul)))) (hgd : o.guard = none) {l c : Operand} (hop : o.op = .makeSlice t l c) (n : Nat) (hl : a.eval l = .int .i64 n) (hc : a.eval c = .int .i64 n) (hn : n ≤ 1000000000)
    (h : ∀ w', w'.ownsRow w.heap.size e 8 (.slice (some ⟨w.heap.size, 0, none⟩) n n) n (flt encV (List.replicate n V.zero)) → Below w.heap.size w w' → wpList P ops Q rest (a.put o.dst (.slice (some ⟨w.heap.size, 0, none⟩) n n)) w') : wpList P ops Q (o :: rest) a w := by
  obtain ⟨i, z, hi, hz0, hs, hby, hzs⟩ := ty.inf
  have hzz : i.zero = some (.agg (vec 8 nul)) := by rw [hi] at hz; simpa using hz
  refine wpList_plain hgd fun K hK' => ?_
  have h1 : i.bytes * n ≤ 281474976710656 := by have := Nat.mul_le_mul hby hn; omega
  obtain ⟨w', hrun, r1, r2⟩ := run_make_full (P := P) w w.heap.size t e i _ 8 ty.sl hi hzz hs .i64 .i64 n h1 (by simp only [maxLen]; omega) (Nat.le_refl _)
  rw [made_zeros] at r1
  unfold Oper.wp
  simp [execOp, hop, hl, hc, hrun, Result.andThen]
  exact hK' _ _ (h w' r1 ((Below.refl _ _).grown r2 (Nat.le_refl _) fun k hk => by cases hk))
end

section
variable {P : Program} {ops : Array Oper} {rest : List Oper} {o : Oper} {a : Act} {Q : Exit → Act → World → Prop} {w : World}
theorem store_part {ty : TypeId} {g p : Nat} {f : Nat → Int} (hgd : o.guard = none) {x y : Operand} (ho : o.op = .store ty x y) (hx : a.eval x = .pointer (some ⟨g, p, none⟩)) (hy : a.eval y = pt f)
    (ht : w.there g p 8) (hi : (P.info? ty).map (·.size) = some 8) (h : wpList P ops Q rest (a.put o.dst undef) (w.setCells g p (lst 8 f))) : wpList P ops Q (o :: rest) a w :=
  wpList_store_mid hgd ty x y ho g p (vec 8 f) hx hy (by rw [vec_size]; exact ht) (by rw [vec_size]; exact hi) (vec_one 8 _) (show wpList P ops Q rest (a.put o.dst undef) (w.setCells g p (vec 8 f).toList) from h)
end

theorem szCycs_yes (v : Value) (ws : List V) (left : Int) (w : World) (hv : LiesL encV w v ws) (hl : left ≤ 1048576) (h : (ws.length : Int) ≤ left) :
    Calls Try.prog 43 #[v, .int .i64 left] w fun e w' => e = .returned (.int .i64 (left - (ws.length : Int))) ∧ w = w' := by
  obtain ⟨p, cap, rfl, hc1, hc2, -⟩ := hv
  have r1 : IntKind.i64.wrap (left - (ws.length : Int)) = left - (ws.length : Int) := by rw [IntKind.wrap_i64]; omega
  have hb : ¬ left - (ws.length : Int) < 0 := by omega
  go_enter Try.func43, Try.ntmps43
  go_wp2
  go_ret
  exact ⟨rfl, rfl⟩
theorem szCycs_no (v : Value) (ws : List V) (left : Int) (w : World) (hv : LiesL encV w v ws) (h0 : 0 ≤ left) (hl : left ≤ 1048576) (h : left < (ws.length : Int)) :
    Calls Try.prog 43 #[v, .int .i64 left] w fun e w' => e = .returned (.int .i64 (-1)) ∧ w = w' := by
  obtain ⟨p, cap, rfl, hc1, hc2, -⟩ := hv
  simp only [maxLen] at hc2
  have r1 : IntKind.i64.wrap (left - (ws.length : Int)) = left - (ws.length : Int) := by rw [IntKind.wrap_i64]; omega
  have hb : left - (ws.length : Int) < 0 := by omega
  go_enter Try.func43, Try.ntmps43
  go_wp2
  go_ret
  exact ⟨rfl, rfl⟩

theorem info_lawCyc8 : (Try.prog.info? 54).map (·.size) = some 8 := by kernel_rfl
theorem zero_cyc : (Try.prog.info? 32).map (·.zero) = some (some (.agg (vec 8 nul))) := by kernel_rfl
theorem size_cycL (c : V) : (Try.prog.info? 32).map (·.size) = some (encV c).length := by rw [encV_ok.len]; exact info_cyc
theorem own_belowL {w w' : World} {B T g n cap : Nat} {xs : List Value} (h : w.ownsRow B T 8 (.slice (some ⟨g, 0, none⟩) n cap) n xs) (hb : Below w.heap.size w w') : w'.ownsRow B T 8 (.slice (some ⟨g, 0, none⟩) n cap) n xs := by
  refine ⟨h.1, ?_⟩
  rcases h.2 with h0 | ⟨g', cap', cur, e, hB, hg, rest⟩
  · exact .inl h0
  · exact .inr ⟨g', cap', cur, e, hB, (hb.block g' (Array.getElem?_eq_some_iff.1 hg).1).trans hg, rest⟩

set_option maxHeartbeats 2000000 in
theorem toCycs_any (v : Value) (ws : List V) (w : World) (hv : LiesL encV w v ws) (hn : ws.length ≤ 1048576) :
    Calls Try.prog 44 #[v] w fun e w' => Below w.heap.size w w' ∧ ∃ v', e = .returned v' ∧ OwnL encV 8 w' w.heap.size 32 v' ws := by
  obtain ⟨p, cap, rfl, hc1, hc2, hp⟩ := hv
  simp only [maxLen] at hc2
  have HP := Lib.hid hp
  clear hp
  go_enter Try.func44, Try.ntmps44
  go_wp2_with (refine make_fullL tyY zero_cyc rfl rfl ws.length rfl rfl (by omega) ?_; intro w1 ho1 hb1)
  rw [← halfL_none] at ho1
  go_loopw [4] (fun i wr => ∃ k : Nat, k ≤ ws.length ∧ i = .int .i64 k ∧ wr.ownsRow w.heap.size 32 8 (.slice (some ⟨w.heap.size, 0, none⟩) ws.length ws.length) ws.length (flt encV (halfL V.zero ws k)) ∧ Below w.heap.size w wr) (fun i _ => ws.length - (intOf i).toNat)
  case atStart => exact ⟨0, Nat.zero_le _, rfl, ho1, hb1⟩
  case round =>
    clear ho1 hb1
    obtain ⟨k, hk, rfl, hO, hbel⟩ := hrel
    by_cases hlt : k < ws.length
    · have hkz : (k : Int) < (ws.length : Int) := by omega
      have hk0 : (0 : Int) ≤ (k : Int) := by omega
      obtain ⟨c, hc⟩ : ∃ c, ws[k]? = some c := ⟨_, List.getElem?_eq_getElem hlt⟩
      obtain ⟨g, o, rfl, hg, hr⟩ := HP.out (by intro e; rw [e] at hlt; simp at hlt)
      have HR : Aside (wr.rangeAt g (o + k * 8) (encV c)) := (show World.rangeAt _ _ _ _ from cells_part encV_ok (cells_below hr hg hbel) hc)
      have HC := Lib.hid hc
      have HO := Lib.hid hO
      have HL := Lib.hid hbel
      have T := fun w => toCyc_any c.up w
      clear hr hc hO hbel
      go_wp2_with (refine load_part (T := 54) (g := g) (f := c.up) rfl rfl rfl HR.out Try.underlying54 rfl info_lawCyc8 ?_)
      refine (T _).mono ?_; rintro e w2 ⟨rfl, hb2⟩
      have hzz : w.heap.size ≤ wr.heap.size := HL.out.size
      have hO2 := own_belowL HO.out hb2
      have HT : Aside (w2.there w.heap.size (k * 8) 8) := (show w2.there _ _ _ from rows_there (o := 0) hO2 hlt (by omega))
      have HO3 : Aside ((w2.setCells w.heap.size (k * 8) (lst 8 c.up)).ownsRow w.heap.size 32 8 (.slice (some ⟨w.heap.size, 0, none⟩) ws.length ws.length) ws.length (flt encV (halfL V.zero ws (k + 1)))) := (show World.ownsRow _ _ _ _ _ _ _ from by
        rw [← halfL_set HC.out]; exact ownL_set encV_ok c hO2 (halfL_at hlt))
      have HL3 : Aside (Below w.heap.size w (w2.setCells w.heap.size (k * 8) (lst 8 c.up))) := below_setCells (Nat.le_refl _) _ _ _ (below_next HL.out hb2)
      clear hO2 hb2 HO HL T HR
      go_wp2_with (first | (refine store_part (ty := 32) (g := w.heap.size) (p := k * 8) (f := c.up) rfl rfl rfl rfl HT.out info_cyc ?_; clear HT))
      go_roundw
      case rel => exact ⟨k + 1, by omega, by go_num, HO3.out, HL3.out⟩
      case measure => simp [intOf]; omega
    · obtain rfl : k = ws.length := by omega
      rw [halfL_all] at hO
      have HO := Lib.hid hO
      have HL := Lib.hid hbel
      clear hO hbel
      go_wp2
      go_ret
      exact ⟨HL.out, _, rfl, HO.out⟩

theorem grown_trans {a b c : World} {row : Option Nat} (h : a.grownBy b row) (k : b.grownBy c row) : a.grownBy c row :=
  ⟨k.os.trans h.os, k.tape.trans h.tape, k.output.trans h.output, Nat.le_trans h.size k.size, fun i hi hne => (k.block i (Nat.lt_of_lt_of_le hi h.size) hne).trans (h.block i hi hne)⟩

set_option maxHeartbeats 2000000 in
theorem eqCycs_yes (va vb : Value) (L : List V) (w : World) (ha : ReadsL encV w va L) (hb : ReadsL encV w vb L) : Calls Try.prog 45 #[va, vb] w fun e w' => e = .returned (.bool true) ∧ Below w.heap.size w w' := by
  obtain ⟨p, cap, rfl, hc1, hc2, hp0, hp⟩ := ha
  obtain ⟨q, cap2, rfl, hd1, hd2, hq0, hq⟩ := hb
  simp only [maxLen] at hc2
  have hlb : ((L.length : Int) != (L.length : Int)) = false := by simp
  have HP := Lib.hid hp
  have HQ := Lib.hid hq
  clear hp hq
  go_enter Try.func45, Try.ntmps45
  go_wp2
  go_loopw [5] (fun i wr => ∃ k : Nat, k ≤ L.length ∧ i = .int .i64 k ∧ Below w.heap.size w wr) (fun i _ => L.length - (intOf i).toNat)
  case atStart => exact ⟨0, Nat.zero_le _, rfl, Below.refl _ _⟩
  case round =>
    obtain ⟨k, hk, rfl, hbel⟩ := hrel
    have HL := Lib.hid hbel
    clear hbel
    by_cases hlt : k < L.length
    · have hkz : (k : Int) < (L.length : Int) := by omega
      have hk0 : (0 : Int) ≤ (k : Int) := by omega
      obtain ⟨c, hc⟩ : ∃ c, L[k]? = some c := ⟨_, List.getElem?_eq_getElem hlt⟩
      obtain ⟨g, o, rfl, hg, hr⟩ := HP.out (by rintro rfl; have := hp0 rfl; omega)
      obtain ⟨g2, o2, rfl, hg2, hr2⟩ := HQ.out (by rintro rfl; have := hq0 rfl; omega)
      have HE : Aside (g < w.heap.size ∧ w.rangeAt g (o + k * 8) (encV c)) := (show _ ∧ _ from ⟨hg, cells_part encV_ok hr hc⟩)
      have HE2 : Aside (g2 < w.heap.size ∧ w.rangeAt g2 (o2 + k * 8) (encV c)) := (show _ ∧ _ from ⟨hg2, cells_part encV_ok hr2 hc⟩)
      have T := fun w => eqCyc_yes c.up w
      clear hr hr2 hc hg hg2
      go_upto_region 6 with fail
      refine wp_region_held_drew (S := fun w' => Below w.heap.size w w') (by kernel_rfl) HL.out.drew (fun hHeld => ?_)
      refine wpAnyH_take (i := 0) (oi := _) (v := .slice (some ⟨g, o, none⟩) L.length cap) rfl (by kernel_rfl) (by kernel_rfl) (by kernel_rfl) (fun _ _ _ h => h) (Or.inl ⟨by rfl, fun w h => by go_simp⟩) hHeld ?_
      try simp only [Act.put, List.setIfInBounds_toArray, List.set_cons_zero, List.set_cons_succ, List.getElem_toArray, List.getElem_cons_succ, List.getElem_cons_zero]
      refine wpAnyH_take (i := 1) (oi := _) (v := .int .i64 k) rfl (by kernel_rfl) (by kernel_rfl) (by kernel_rfl) (fun _ _ _ h => h) (Or.inl ⟨by rfl, fun w h => by go_simp⟩) hHeld ?_
      try simp only [Act.put, List.setIfInBounds_toArray, List.set_cons_zero, List.set_cons_succ, List.getElem_toArray, List.getElem_cons_succ, List.getElem_cons_zero]
      refine wpAnyH_take (i := 2) (oi := _) (v := .pointer (some ⟨g, o + k * 8, none⟩)) rfl (by kernel_rfl) (by kernel_rfl) (by kernel_rfl) (fun _ _ _ h => h) (Or.inl ⟨by rfl, fun w h => by go_simp⟩) hHeld ?_
      try simp only [Act.put, List.setIfInBounds_toArray, List.set_cons_zero, List.set_cons_succ, List.getElem_toArray, List.getElem_cons_succ, List.getElem_cons_zero]
      refine wpAnyH_take (i := 3) (oi := _) (v := .agg (vec 8 c.up)) rfl (by kernel_rfl) (by kernel_rfl) (by kernel_rfl) (fun _ _ _ h => h) (yieldsIf_load_mid (by rfl) _ _ rfl _ _ rfl _ _ ((fun w h => range_kept8 HE.out.2 HE.out.1 h)) Try.underlying32 rfl (size_cycL c)) hHeld ?_
      try simp only [Act.put, List.setIfInBounds_toArray, List.set_cons_zero, List.set_cons_succ, List.getElem_toArray, List.getElem_cons_succ, List.getElem_cons_zero]
      refine wpAnyH_take (i := 4) (oi := _) (v := .slice (some ⟨g2, o2, none⟩) L.length cap2) rfl (by kernel_rfl) (by kernel_rfl) (by kernel_rfl) (fun _ _ _ h => h) (Or.inl ⟨by rfl, fun w h => by go_simp⟩) hHeld ?_
      try simp only [Act.put, List.setIfInBounds_toArray, List.set_cons_zero, List.set_cons_succ, List.getElem_toArray, List.getElem_cons_succ, List.getElem_cons_zero]
      refine wpAnyH_take (i := 5) (oi := _) (v := .int .i64 k) rfl (by kernel_rfl) (by kernel_rfl) (by kernel_rfl) (fun _ _ _ h => h) (Or.inl ⟨by rfl, fun w h => by go_simp⟩) hHeld ?_
      try simp only [Act.put, List.setIfInBounds_toArray, List.set_cons_zero, List.set_cons_succ, List.getElem_toArray, List.getElem_cons_succ, List.getElem_cons_zero]
      refine wpAnyH_take (i := 6) (oi := _) (v := .pointer (some ⟨g2, o2 + k * 8, none⟩)) rfl (by kernel_rfl) (by kernel_rfl) (by kernel_rfl) (fun _ _ _ h => h) (Or.inl ⟨by rfl, fun w h => by go_simp⟩) hHeld ?_
      try simp only [Act.put, List.setIfInBounds_toArray, List.set_cons_zero, List.set_cons_succ, List.getElem_toArray, List.getElem_cons_succ, List.getElem_cons_zero]
      refine wpAnyH_take (i := 7) (oi := _) (v := .agg (vec 8 c.up)) rfl (by kernel_rfl) (by kernel_rfl) (by kernel_rfl) (fun _ _ _ h => h) (yieldsIf_load_mid (by rfl) _ _ rfl _ _ rfl _ _ ((fun w h => range_kept8 HE2.out.2 HE2.out.1 h)) Try.underlying32 rfl (size_cycL c)) hHeld ?_
      try simp only [Act.put, List.setIfInBounds_toArray, List.set_cons_zero, List.set_cons_succ, List.getElem_toArray, List.getElem_cons_succ, List.getElem_cons_zero]
      refine wpAnyH_ready (rs := [8]) (by kernel_rfl) (by simp) ?_
      refine AllReadyH.cons (o := _) rfl (fun K hK => ?_) AllReadyH.nil
      go_simp
      refine (T _).mono ?_; rintro e w5 ⟨rfl, hb5⟩
      go_wp2_with fail
      refine hK.out _ _ (below_next hHeld hb5) (fun hHeld => ?_)
      clear hK K
      try simp only [Act.put, List.setIfInBounds_toArray, List.set_cons_zero, List.set_cons_succ, List.getElem_toArray, List.getElem_cons_succ, List.getElem_cons_zero]
      clear hb5 T
      refine wpAnyH_take (i := 9) (oi := _) (v := .bool false) rfl (by kernel_rfl) (by kernel_rfl) (by kernel_rfl) (fun _ _ _ h => h) (Or.inl ⟨by rfl, fun w h => by go_simp⟩) hHeld ?_
      try simp only [Act.put, List.setIfInBounds_toArray, List.set_cons_zero, List.set_cons_succ, List.getElem_toArray, List.getElem_cons_succ, List.getElem_cons_zero]
      refine wpAnyH_done (by kernel_rfl) ?_ _
      have HL5 := Lib.hid hHeld
      clear hHeld
      go_wp2
      go_roundw
      case rel => exact ⟨k + 1, by omega, by go_num, HL5.out⟩
      case measure => simp [intOf]; omega
    · obtain rfl : k = L.length := by omega
      go_wp2
      go_ret
      exact ⟨rfl, HL.out⟩

/-! Marked and held. -/
set_option maxHeartbeats 2000000 in
theorem markC_own (k0 B g n cap : Nat) (hk0 : k0 ≤ 100000000) (ws : List V) (w : World) (hn : ws.length = n) (ho : w.ownsRow B 32 8 (.slice (some ⟨g, 0, none⟩) n cap) n (flt encV ws)) (hm : n ≤ 1048576) :
    Calls Try.prog 49 #[.slice (some ⟨g, 0, none⟩) n cap, .int .i64 k0] w fun e w' => e = .returned (.int .i64 ((k0 + n * 8 : Nat) : Int)) ∧ w'.ownsRow B 32 8 (.slice (some ⟨g, 0, none⟩) n cap) n (mkL k0 (n * 8)) ∧ w.grownBy w' (some g) := by
  have HF : Aside ((flt encV ws).length = n * 8) := (show _ = _ from by rw [flt_length encV_ok, hn])
  clear hn
  generalize flt encV ws = cs at *
  go_enter Try.func49, Try.ntmps49
  go_wp2_with fail
  go_loopw [1, 5, 6] (fun ks i _ wr => ∃ k : Nat, k ≤ n ∧ i = .int .i64 k ∧ ks = .int .i64 ((k0 + k * 8 : Nat) : Int) ∧ wr.ownsRow B 32 8 (.slice (some ⟨g, 0, none⟩) n cap) n (mkdL k0 cs (k * 8)) ∧ w.grownBy wr (some g)) (fun _ i _ _ => n - (intOf i).toNat)
  case atStart => exact ⟨0, Nat.zero_le _, rfl, rfl, by rw [Nat.zero_mul, mkdL_none]; exact ho, World.grownBy.refl _ _⟩
  case round =>
    clear ho
    obtain ⟨k, hk, rfl, rfl, hO, hg⟩ := hrel
    by_cases hlt : k < n
    · have hkz : (k : Int) < (n : Int) := by omega
      have hk0 : (0 : Int) ≤ (k : Int) := by omega
      have H1 := Lib.hid hO
      have H2 := Lib.hid hg
      clear hO hg
      go_wp2_with fail
      go_loopw [1, 6] (fun ks j wr => ∃ m : Nat, m ≤ 8 ∧ j = .int .i64 m ∧ ks = .int .i64 ((k0 + (k * 8 + m) : Nat) : Int) ∧ wr.ownsRow B 32 8 (.slice (some ⟨g, 0, none⟩) n cap) n (mkdL k0 cs (k * 8 + m)) ∧ w.grownBy wr (some g)) (fun _ j _ => 8 - (intOf j).toNat)
      case atStart => exact ⟨0, Nat.zero_le _, rfl, by go_num, H1.out, H2.out⟩
      case round =>
        clear H1 H2
        obtain ⟨m, hm8, rfl, rfl, hO, hg⟩ := hrel
        by_cases hlt8 : m < 8
        · have hmz : (m : Int) < 8 := by omega
          have hm0 : (0 : Int) ≤ (m : Int) := by omega
          have hpl : k * 8 + m < cs.length := by rw [HF.out]; omega
          have hold := mkdL_old (k0 := k0) (cs := cs) (p := k * 8 + m) hpl
          have hcell : wr.cell? ⟨g, k * 8 + m, none⟩ = some cs[k * 8 + m] := by rw [hO.cellAt (k * 8 + m) (by omega), hold]
          generalize cs[k * 8 + m] = old at *
          clear hold
          have hfr := hO.frozenAt (k * 8 + m)
          have q1 : IntKind.i64.wrap (((k0 + (k * 8 + m) : Nat) : Int) + 1) = ((k0 + (k * 8 + (m + 1)) : Nat) : Int) := by rw [IntKind.wrap_i64]; omega
          obtain ⟨h1, h2⟩ := hO.stored (k * 8 + m) (.int .i64 ((k0 + (k * 8 + m) : Nat) : Int))
          rw [mkdL_step hpl] at h1
          have H1 := Lib.hid h1
          have H2 := Lib.hid (grown_trans hg h2)
          clear h1 h2 hO hg hpl
          go_wp2_with fail
          go_roundw
          case rel => exact ⟨m + 1, by omega, by go_num, by go_num, H1.out, H2.out⟩
          case measure => simp [intOf]; omega
        · obtain rfl : m = 8 := by omega
          have H1 := Lib.hid hO
          have H2 := Lib.hid hg
          clear hO hg
          go_wp2_with fail
          go_roundw
          case rel => exact ⟨k + 1, by omega, by go_num, by go_num, by rw [show (k + 1) * 8 = k * 8 + 8 from by omega]; exact H1.out, H2.out⟩
          case measure => simp [intOf]; omega
    · obtain rfl : k = n := by omega
      rw [mkdL_all HF.out] at hO
      have H1 := Lib.hid hO
      have H2 := Lib.hid hg
      clear hO hg
      go_wp2_with fail
      go_ret
      exact ⟨rfl, H1.out, H2.out⟩
theorem markC_nil (k0 : Nat) (w : World) : Calls Try.prog 49 #[.slice none 0 0, .int .i64 k0] w fun e w' => e = .returned (.int .i64 k0) ∧ w = w' := by
  go_enter Try.func49, Try.ntmps49
  go_wp2_with fail
  refine wp_loop_rounds 1 ?_
  rw [rounds_succ]
  go_wp2_with fail
  go_ret
  exact ⟨rfl, rfl⟩
theorem markC_any (k0 : Nat) (hk0 : k0 ≤ 100000000) (v : Value) (B : Nat) (ws : List V) (w : World) (ho : OwnL encV 8 w B 32 v ws) (hm : ws.length ≤ 1048576) :
    Calls Try.prog 49 #[v, .int .i64 k0] w fun e w' => e = .returned (.int .i64 ((k0 + ws.length * 8 : Nat) : Int)) ∧ w'.ownsRow B 32 8 v ws.length (mkL k0 (ws.length * 8)) ∧ w.grownBy w' v.ownBlock := by
  have h2 := ho.2
  rcases h2 with ⟨rfl, h0⟩ | ⟨g, cap, cur, rfl, _⟩
  · refine (markC_nil k0 w).mono ?_
    rintro e w' ⟨rfl, rfl⟩
    refine ⟨by rw [h0]; rfl, ?_, World.grownBy.refl _ _⟩
    rw [h0, Nat.zero_mul]; exact World.ownsRow_nil _ _ _ _
  · exact markC_own k0 B g ws.length cap hk0 ws w rfl ho hm

set_option maxHeartbeats 2000000 in
theorem heldC_own (k0 B g n cap : Nat) (hk0 : k0 ≤ 100000000) (w : World) (ho : w.ownsRow B 32 8 (.slice (some ⟨g, 0, none⟩) n cap) n (mkL k0 (n * 8))) (hm : n ≤ 1048576) :
    Calls Try.prog 55 #[.slice (some ⟨g, 0, none⟩) n cap, .int .i64 k0] w fun e w' => e = .returned (.int .i64 ((k0 + n * 8 : Nat) : Int)) ∧ w = w' := by
  have HO := Lib.hid ho
  clear ho
  go_enter Try.func55, Try.ntmps55
  go_wp2_with fail
  go_loop [1, 5, 6] (fun ks i _ => ∃ k : Nat, k ≤ n ∧ i = .int .i64 k ∧ ks = .int .i64 ((k0 + k * 8 : Nat) : Int)) (fun _ i _ => n - (intOf i).toNat)
  case atStart => exact ⟨0, Nat.zero_le _, rfl, rfl⟩
  case round =>
    obtain ⟨k, hk, rfl, rfl⟩ := hrel
    by_cases hlt : k < n
    · have hkz : (k : Int) < (n : Int) := by omega
      have hk0 : (0 : Int) ≤ (k : Int) := by omega
      go_wp2_with fail
      go_loop [1, 6] (fun ks j => ∃ m : Nat, m ≤ 8 ∧ j = .int .i64 m ∧ ks = .int .i64 ((k0 + (k * 8 + m) : Nat) : Int)) (fun _ j => 8 - (intOf j).toNat)
      case atStart => exact ⟨0, Nat.zero_le _, rfl, by go_num⟩
      case round =>
        obtain ⟨m, hm8, rfl, rfl⟩ := hrel
        by_cases hlt8 : m < 8
        · have hmz : (m : Int) < 8 := by omega
          have hm0 : (0 : Int) ≤ (m : Int) := by omega
          have hcell : w.cell? ⟨g, k * 8 + m, none⟩ = some (.int .i64 ((k0 + (k * 8 + m) : Nat) : Int)) := by
            rw [HO.out.cellAt (k * 8 + m) (by omega), mkL_at (by omega)]
          have q1 : IntKind.i64.wrap (((k0 + (k * 8 + m) : Nat) : Int) + 1) = ((k0 + (k * 8 + (m + 1)) : Nat) : Int) := by rw [IntKind.wrap_i64]; omega
          have hne : (((k0 + (k * 8 + m) : Nat) : Int) != ((k0 + (k * 8 + m) : Nat) : Int)) = false := by simp
          go_wp2_with fail
          go_round
          case rel => exact ⟨m + 1, by omega, by go_num, by go_num⟩
          case measure => simp [intOf]; omega
        · obtain rfl : m = 8 := by omega
          go_wp2_with fail
          go_round
          case rel => exact ⟨k + 1, by omega, by go_num, by go_num⟩
          case measure => simp [intOf]; omega
    · obtain rfl : k = n := by omega
      go_wp2_with fail
      go_ret
      exact ⟨rfl, rfl⟩
theorem heldC_nil (k0 : Nat) (w : World) : Calls Try.prog 55 #[.slice none 0 0, .int .i64 k0] w fun e w' => e = .returned (.int .i64 k0) ∧ w = w' := by
  go_enter Try.func55, Try.ntmps55
  go_wp2_with fail
  refine wp_loop_rounds 1 ?_
  rw [rounds_succ]
  go_wp2_with fail
  go_ret
  exact ⟨rfl, rfl⟩
theorem heldC_any (k0 : Nat) (hk0 : k0 ≤ 100000000) (v : Value) (B n : Nat) (w : World) (ho : w.ownsRow B 32 8 v n (mkL k0 (n * 8))) (hm : n ≤ 1048576) :
    Calls Try.prog 55 #[v, .int .i64 k0] w fun e w' => e = .returned (.int .i64 ((k0 + n * 8 : Nat) : Int)) ∧ w = w' := by
  have h2 := ho.2
  rcases h2 with ⟨rfl, rfl⟩ | ⟨g, cap, cur, rfl, _⟩
  · exact heldC_nil k0 w
  · exact heldC_own k0 B g n cap hk0 w ho hm

theorem marked_below {B C : Nat} {w0 w w' : World} {u : Value} (h : Below B w0 w) (hB : B ≤ w.heap.size) (hg : w.grownBy w' u.ownBlock) (hu : ∀ k, u.ownBlock = some k → C ≤ k) (hC : B ≤ C) : Below B w0 w' :=
  below_grown h hg hB fun k hk => Nat.le_trans hC (hu k hk)
def BitL (w : World) (o : Option (List V)) (bit : Bool) (e : Ending) (w' : World) : Prop :=
  Below w.heap.size w w' ∧ ∃ v', e = .returned (.tuple #[v', .bool bit]) ∧ OwnL encV 8 w' w.heap.size 32 v' (gotL o)
theorem toldL_bit {w w' : World} {o : Option (List V)} {bit : Bool} {e : Ending} (hb : o.isSome = bit) (h : ToldL 32 w o e w') : BitL w o bit e w' := by
  subst hb
  exact h
theorem markC_number (k n : Nat) : ∃ M : Int, Aside (((k + n * 8 : Nat) : Int) = M) ∧ ¬ M < 0 ∧ (M != M) = false := ⟨_, (show _ = _ from rfl), by omega, by simp⟩
theorem gotL_short {o : Option (List V)} (h : ∀ R, o = some R → R.length ≤ 24) : (gotL o).length ≤ 24 := by
  cases o with
  | none => simp [gotL]
  | some R => exact h R rfl
theorem eqSurdR_yes (a : Nat → Int) (w : World) : Calls Try.prog 47 #[p4 a, p4 a] w fun e w' => e = .returned (.bool true) ∧ Below w.heap.size w w' := by
  change Calls Try.prog 47 #[.agg #[.int .i64 (a 0), .int .i64 (a 1), .int .i64 (a 2), .int .i64 (a 3)], .agg #[.int .i64 (a 0), .int .i64 (a 1), .int .i64 (a 2), .int .i64 (a 3)]] w fun e w' => e = .returned (.bool true) ∧ Below w.heap.size w w'
  go_enter Try.func47, Try.ntmps47
  go_wp2
  go_ret
  exact ⟨rfl, below_two _ _ _⟩
theorem eqI_any {w : World} {B C T U : Nat} {v u : Value} {xs : List Int} (h : OwnL encI 1 w B T v xs) (h2 : OwnL encI 1 w C U u xs) (hl : xs.length ≤ 1000000) :
    Calls Try.prog 48 #[v, u] w fun e w' => e = .returned (.bool true) ∧ Below w.heap.size w w' := by
  refine (eqInts_yes v u xs w (intsAt_of_own (own_ints h)) (intsAt_of_own (own_ints h2)) hl).mono ?_
  rintro e w' ⟨rfl, m, rfl⟩
  exact ⟨rfl, below_drewN (Below.refl _ _) m⟩
theorem markI_any {w : World} {B : Nat} {v : Value} {xs : List Int} (h : OwnL encI 1 w B 3 v xs) (hl : xs.length ≤ 1000000) :
    Calls Try.prog 50 #[v, .int .i64 1] w fun e w' => e = .returned (.int .i64 (1 + (xs.length : Int))) ∧ w'.ownsRow B 3 1 v xs.length ((marks 1 xs.length).map (Value.int .i64)) ∧ w.grownBy w' v.ownBlock := by
  have h1 := own_ints h
  have h2 := h.2
  rcases h2 with ⟨rfl, h0⟩ | ⟨g, cap, cur, rfl, _⟩
  · refine (markInts_nil 1 w).mono ?_
    rintro e w' ⟨rfl, rfl⟩
    refine ⟨by rw [h0]; rfl, ?_, World.grownBy.refl _ _⟩
    rw [h0]; exact World.ownsRow_nil _ _ _ _
  · exact markInts_own B g xs.length cap xs w h1 hl 1 (by omega) (by omega)
theorem heldI_any {w : World} {B T n : Nat} {v : Value} (h : w.ownsRow B T 1 v n ((marks 1 n).map (Value.int .i64))) (hl : n ≤ 1000000) :
    Calls Try.prog 51 #[v, .int .i64 1] w fun e w' => e = .returned (.int .i64 (1 + (n : Int))) ∧ w = w' :=
  heldInts_yes v n 1 w (intsAt_of_own h) hl (by omega) (by omega)
theorem marked_number (n : Nat) : ∃ M : Int, Aside ((1 + (n : Int)) = M) ∧ ¬ M < 0 ∧ (M != M) = false := ⟨_, (show _ = _ from rfl), by omega, by simp⟩
def BitI (w : World) (o : Option (List Int)) (bit : Bool) (e : Ending) (w' : World) : Prop :=
  Below w.heap.size w w' ∧ ∃ v', e = .returned (.tuple #[v', .bool bit]) ∧ OwnL encI 1 w' w.heap.size 3 v' (o.getD [])
theorem told_bitI {w w' : World} {o : Option (List Int)} {bit : Bool} {e : Ending} (hb : o.isSome = bit) (h : ToldI w o e w') : BitI w o bit e w' := by
  subst hb
  exact h

end Go.Proofs.Ytdpakhggpgdgbaa
/- Polygons, the mathematics of other ways to count: turns as the winding of the steps, convex without a count of corners. -/
namespace Go.Proofs.Ytdpakhggpgdgbaa
set_option maxRecDepth 20000
set_option linter.unusedVariables false
set_option linter.unusedSimpArgs false

theorem sgR_mul (x y : R4) : sgR (x * y) = sgR x * sgR y := sg4_mul x.a x.b x.c x.e y.a y.b y.c y.e
/-- Along the real line to the right. -/
def rZ (p : Q2) : Int := if sgR p.y = 0 ∧ 0 < sgR p.x then 1 else 0
theorem cr_flatr {p q : Q2} (h : q.y = 0) : cr p q = -(q.x * p.y) := by
  rw [cr_swap, cr_flat h]
theorem sg_ne {x : R4} (h : x ≠ 0) : sgR x = 1 ∨ sgR x = -1 := by
  rcases sgR_three x with e | e | e
  · exact .inl e
  · exact .inr e
  · exact absurd (sgR_zero.1 e) h
/-- What a step adds to the turns is what it adds to the winding of the steps, but for the steps to the right. -/
theorem tn_wn {p q : Q2} (h : okS p q) : tn p q = wn p q + (rZ q + -rZ p) := by
  have hp := okS_left h
  have hq := okS_right h
  by_cases h0 : p.y = 0
  · have ec : cr p q = p.x * q.y := cr_flat h0
    have hpx : p.x ≠ 0 := fun e => hp (Q2.ext e h0)
    have s0 : sgR p.y = 0 := sgR_zero.2 h0
    by_cases k0 : q.y = 0
    · have hqx : q.x ≠ 0 := fun e => hq (Q2.ext e k0)
      have t0 : sgR q.y = 0 := sgR_zero.2 k0
      have hc : sgR (cr p q) = 0 := by rw [ec, sgR_mul, t0, Int.mul_zero]
      have ed : dt p q = p.x * q.x := by unfold dt; rw [h0, R4.zero_mul, R4.add_zero]
      have hd : ¬ sgR (dt p q) ≤ 0 := fun e => h ⟨hc, e⟩
      rw [ed, sgR_mul] at hd
      rcases sg_ne hpx with e1 | e1 <;> rcases sg_ne hqx with e2 | e2 <;> rw [e1, e2] at hd <;>
        first
          | exact absurd (by decide) hd
          | simp [tn, wn, rZ, hc, s0, t0, e1, e2]
    · have hc : sgR (cr p q) = sgR p.x * sgR q.y := by rw [ec, sgR_mul]
      rcases sg_ne hpx with e1 | e1 <;> rcases sg_ne k0 with e2 | e2 <;> rw [e1, e2] at hc <;>
        simp [tn, wn, rZ, hiB, upB, hc, s0, e1, e2]
  · by_cases k0 : q.y = 0
    · have hqx : q.x ≠ 0 := fun e => hq (Q2.ext e k0)
      have t0 : sgR q.y = 0 := sgR_zero.2 k0
      have hc : sgR (cr p q) = -(sgR q.x * sgR p.y) := by rw [cr_flatr k0, sgR_neg, sgR_mul]
      rcases sg_ne h0 with e1 | e1 <;> rcases sg_ne hqx with e2 | e2 <;> rw [e1, e2] at hc <;>
        simp [tn, wn, rZ, hiB, upB, hc, t0, e1, e2]
    · rcases sg_ne h0 with e1 | e1 <;> rcases sg_ne k0 with e2 | e2 <;> rcases sgR_three (cr p q) with hc | hc | hc <;>
        simp [tn, wn, rZ, hiB, upB, hc, e1, e2]
/-- The turns of a polygon are the winding of its steps. -/
theorem turn_wind {P : Nat → Q2} {n : Nat} (h : okP P n) : turnZ P n = sumI (fun i => wn (stp' P n ((i + n - 1) % n)) (stp' P n i)) n := by
  unfold turnZ
  rw [show sumI (fun i => tn (stp' P n ((i + n - 1) % n)) (stp' P n i)) n = sumI (fun i => wn (stp' P n ((i + n - 1) % n)) (stp' P n i) + ((fun j => rZ (stp' P n j)) i + -(fun j => rZ (stp' P n j)) ((i + (n - 1)) % n))) n from sm_same fun i hi => by
    rw [tn_wn (h i hi)]
    show _ = _ + (rZ _ + -rZ (stp' P n ((i + (n - 1)) % n)))
    rw [show i + (n - 1) = i + n - 1 by omega]]
  rw [sumI_add, sumI_add, sumI_neg, sumI_turn (fun j => rZ (stp' P n j)) n (n - 1)]
  omega

/-! The program's ways. -/
/-- 0 lies between two points. -/
def meetS (p q : Q2) : Bool := onS p q
/-- The winding of a polygon around 0, side by side. -/
def wind0 (Q : Nat → Q2) (n : Nat) : Int := sumI (fun k => wn (Q k) (Q ((k + 1) % n))) n
def meet0 (Q : Nat → Q2) (n : Nat) : Bool := (List.range n).any fun k => onS (Q k) (Q ((k + 1) % n))
/-- The steps to the corners. -/
def stq (P : Nat → Q2) (n : Nat) : Nat → Q2 := fun k => P k - P ((k + n - 1) % n)
theorem next_prev {n k : Nat} (h : k < n) : ((k + n - 1) % n + 1) % n = k := by
  rw [prev_of h]
  by_cases e : k = 0
  · rw [if_pos e, e, show n - 1 + 1 = n by omega, Nat.mod_self]
  · rw [if_neg e, show k - 1 + 1 = k by omega, Nat.mod_eq_of_lt h]
theorem prev_next {n k : Nat} (h : k < n) : ((k + 1) % n + n - 1) % n = k := by
  rw [next_of h]
  by_cases e : k + 1 = n
  · rw [if_pos e, show 0 + n - 1 = n - 1 by omega, Nat.mod_eq_of_lt (by omega)]; omega
  · rw [if_neg e, show k + 1 + n - 1 = k + n by omega, Nat.add_mod_right, Nat.mod_eq_of_lt h]
theorem stq_here (P : Nat → Q2) {n k : Nat} (h : k < n) : stq P n k = stp' P n ((k + n - 1) % n) := by
  unfold stq stp'
  rw [next_prev h]
theorem stq_next (P : Nat → Q2) {n k : Nat} (h : k < n) : stq P n ((k + 1) % n) = stp' P n k := by
  unfold stq stp'
  rw [prev_next h]
theorem okS_on {p q : Q2} : okS p q ↔ onS p q = false := by
  unfold okS onS
  rw [← Bool.not_eq_true, Bool.and_eq_true, decide_eq_true_iff, decide_eq_true_iff]
theorem okP_meet {P : Nat → Q2} {n : Nat} : okP P n ↔ meet0 (stq P n) n = false := by
  unfold okP meet0
  rw [List.any_eq_false]
  constructor
  · intro h k hk
    have hk := List.mem_range.1 hk
    rw [stq_here P hk, stq_next P hk, okS_on.1 (h k hk)]
    decide
  · intro h k hk
    have := h k (List.mem_range.2 hk)
    rw [stq_here P hk, stq_next P hk] at this
    exact okS_on.2 (by simpa using this)
theorem turn_wind0 {P : Nat → Q2} {n : Nat} (h : okP P n) : turnZ P n = wind0 (stq P n) n := by
  rw [turn_wind h]
  unfold wind0
  exact sm_same fun k hk => by rw [stq_here P hk, stq_next P hk]
theorem bnd_stq (P : Nat → Q2) {n k : Nat} (hk : k < n) : bnd P n k = sgR (cr (stq P n k) (stq P n ((k + 1) % n))) := by
  unfold bnd
  rw [stq_here P hk, stq_next P hk]
theorem dt_negl (p q : Q2) : dt (-p) q = -dt p q := by
  unfold dt
  simp only [Q2.negx, Q2.negy, R4.neg_mul, R4.neg_add]
/-- Fewer than three corners turn back. -/
theorem few_turn {P : Nat → Q2} {n : Nat} (h1 : 1 ≤ n) (h : okP P n) : 3 ≤ n := by
  rcases Nat.lt_or_ge n 3 with hn | hn
  · exfalso
    rcases (show n = 1 ∨ n = 2 by omega) with rfl | rfl
    · have := okS_right (h 0 (by omega))
      exact this (Q2.sub_self _)
    · have h0 := h 0 (by omega)
      have e : stp' P 2 ((0 + 2 - 1) % 2) = -stp' P 2 0 := by
        unfold stp'
        rw [Q2.neg_sub]
      rw [e] at h0
      have hne := okS_right h0
      refine h0 ⟨?_, ?_⟩
      · rw [cr_negl, cr_self, R4.neg_zero, sgR_zero.2 rfl]
      · rw [dt_negl, sgR_neg, sgR_pos.2 (dt_self hne)]; omega
  · exact hn
/-- What the program asks of a convex polygon is what is asked. -/
theorem convex_same {P : Nat → Q2} {n : Nat} (h1 : 1 ≤ n) (h : okP P n) : (∀ k, k < n → bnd P n k = turnZ P n) ↔ (3 ≤ n ∧ (∀ k, k < n → bnd P n k = bnd P n 0) ∧ bnd P n 0 = turnZ P n ∧ turnZ P n * turnZ P n = 1) := by
  constructor
  · intro hb
    have h0 := hb 0 (by omega)
    refine ⟨few_turn h1 h, fun k hk => by rw [hb k hk, h0], h0, ?_⟩
    have h3 := sgR_three (cr (stp' P n ((0 + n - 1) % n)) (stp' P n 0))
    have h3 : bnd P n 0 = 1 ∨ bnd P n 0 = -1 ∨ bnd P n 0 = 0 := h3
    rw [h0] at h3
    rcases h3 with e | e | e
    · rw [e]; rfl
    · rw [e]; rfl
    · have := left_turns h1 h fun k hk => by rw [hb k hk, e]; omega
      omega
  · rintro ⟨-, hb, h0, -⟩ k hk
    rw [hb k hk, h0]

end Go.Proofs.Ytdpakhggpgdgbaa
/- impl: crosses and dots of exact points, halves of the plane. -/
namespace Go.Proofs.Ytdpakhggpgdgbaa
set_option maxRecDepth 20000
open Go.ChangeShapes Go.WideShapes Go.ChangeAt Go.RowKit
set_option linter.unusedVariables false
set_option linter.unusedSimpArgs false

theorem turned_wide (a : Nat → Int) (t : Nat) (ht : t ≤ 23) (ha : ∀ j, j < 8 → -1000000000000 ≤ a j ∧ a j ≤ 1000000000000) (w : World) :
    Calls Try.prog 128 #[pt a, .int .i64 t] w fun e w' => e = .returned (pt (trn a t)) ∧ Below w.heap.size w w' := by
  have sa := vec_size 8 a
  have TB := trn_bound (a := a) (B := 1000000000000) (by omega) (fun j hj => ha j hj) t
  have P : ∀ w, Calls Try.prog 127 #[.agg (vec 24 (tpow a t 8))] w fun e w' => e = .returned (pt (trn a t)) ∧ Below w.heap.size w w' := fun w => point_any (tpow a t 8) (fun j hj => by have := TB j; omega) w
  clear TB
  unfold pt
  go_enter Try.func128, Try.ntmps128
  go_upto_region 1 with fail
  go_cut [2, 4, 5] (fun s2 s4 s5 wx => s2 = .pointer (some ⟨w.heap.size, 0, none⟩) ∧ s4 = .pointer (some ⟨w.heap.size + 1, 0, none⟩) ∧ s5 = .pointer (some ⟨w.heap.size + 1 + 1, 0, none⟩) ∧ RowAt wx w.heap.size 8 75 a ∧ RowAt wx (w.heap.size + 1) 8 75 nul ∧ RowAt wx (w.heap.size + 1 + 1) 24 134 nul ∧ Below w.heap.size w wx)
  case first =>
    go_wp2_with fail
    go_meet
    exact ⟨rfl, rfl, rfl, ((RowAt.newAt rfl (by simp)).alloc _).alloc _, (RowAt.newAt zero8 (by simp)).alloc _, RowAt.newAt zero24 (by simp), (((Below.refl _ _).alloc (Nat.le_refl _) _).alloc (by simp) _).alloc (by simp; omega) _⟩
  case rest =>
  obtain ⟨rfl, rfl, rfl, hA0, hO0, hP0, hbel0⟩ := hcut
  go_wp2_with (refine load_row rfl rfl rfl hA0 Try.underlying75 rfl info_exact ?_)
  go_loopw [9] (fun i wr => ∃ k : Nat, k ≤ 8 ∧ i = .int .i64 k ∧ RowAt wr (w.heap.size + 1) 8 75 nul ∧ RowAt wr (w.heap.size + 1 + 1) 24 134 (tpow a t k) ∧ Below w.heap.size w wr) (fun i _ => 8 - (intOf i).toNat)
  case atStart => exact ⟨0, Nat.zero_le _, rfl, hO0, hP0.same (fun j _ => by simp [nul, tpow]), hbel0⟩
  case round =>
    obtain ⟨k, hk, rfl, hO, hP, hbel⟩ := hrel
    by_cases hlt : k < 8
    · have ix := fun w => index_exact a hlt w
      have hlt' : (k : Int) < 8 := by omega
      have hk0 : (0 : Int) ≤ (k : Int) := by omega
      have C := fun w => turnPlus_any k t (by omega) (by omega) w
      have hr : (k + t) % 24 < 24 := by omega
      have hP3 := (hP.set hr (a k)).same (tpow_step a t k ht hlt)
      have cP := hP.cell hr
      have fP := hP.free ((k + t) % 24)
      generalize tpow a t k ((k + t) % 24) = y at cP
      generalize (k + t) % 24 = r at *
      have hr' : (r : Int) < 24 := by omega
      have hr0 : (0 : Int) ≤ (r : Int) := by omega
      have HP := Lib.hid hP3
      have HO := Lib.hid (hO.other ⟨w.heap.size + 1 + 1, r, none⟩ (.int .i64 (a k)) (by simp; try omega))
      have HL := Lib.hid (hbel.setCell (p := ⟨w.heap.size + 1 + 1, r, none⟩) (by simp; omega) (.int .i64 (a k)))
      clear hP3 hO hP hbel hA0 hO0 hP0 hbel0
      go_wp2_with fail
      refine (C _).mono ?_; rintro e w' ⟨rfl, rfl⟩
      clear C
      go_wp2_with fail
      go_roundw
      case rel => exact ⟨k + 1, by omega, by go_num, HO.out, HP.out, HL.out⟩
      case measure => simp [intOf]; omega
    · obtain rfl : k = 8 := by omega
      have HO := Lib.hid hO; have HL := Lib.hid hbel; have HP := Lib.hid hP
      clear hA0 hO0 hP0 hbel0 hO hP hbel
      go_wp2_with (refine load_row rfl rfl rfl HP.out Try.underlying134 rfl info_powers ?_)
      refine (P _).mono ?_; rintro e w2 ⟨rfl, hb2⟩
      have hO2 := (HO.out).below hb2
      have hL2 := below_next HL.out hb2
      have z2 := (HO.out).lt
      clear P
      go_wp2_with (refine store_row rfl rfl rfl rfl hO2 info_exact ?_)
      refine bodyPost_ret (results_row rfl rfl hO2.setRow Try.underlying75 rfl info_exact) rfl ?_
      exact ⟨rfl, below_setRow hL2 (by omega) _⟩

theorem imag_wide (a : Nat → Int) (ha : ∀ j, j < 8 → -100000000000 ≤ a j ∧ a j ≤ 100000000000) (w : World) : Calls Try.prog 103 #[pt a] w fun e w' => e = .returned (p4 (ima a)) ∧ Below w.heap.size w w' := by
  have T := fun w => turned_wide a 18 (by omega) (fun j hj => by have := ha j hj; omega) w
  have B := trn_bound (B := 100000000000) (by omega) ha 18
  have M := fun w => realPart_any (trn a 18) (fun j _ => by have b0 := B j; have b1 := B (j + 4); have b2 := B (j + 8); have b3 := B (j + 12); have b4 := B (j + 16); have b5 := B (j + 20); simp only [trn, red]; split <;> omega) w
  rw [← ima_rea] at M
  generalize trn a 18 = b at *
  have sa := vec_size 8 a
  generalize ima a = c at *
  clear B
  unfold pt p4 at *
  go_enter Try.func103, Try.ntmps103
  go_upto_region 1 with fail
  show Code.wp _ _ _ _ (boxP w a 75 79)
  obtain ⟨hA, hO, hL⟩ := boxP_facts w a 75 79
  generalize boxP w a 75 79 = W at *
  go_wp2_with (refine load_row rfl rfl rfl hA Try.underlying75 rfl info_exact ?_)
  refine (T _).mono ?_; rintro e w2 ⟨rfl, hb2⟩
  have hO2 := hO.below hb2
  have hL2 := below_next hL hb2
  clear hA hO hL hb2 T
  go_wp2_with fail
  refine (M _).mono ?_; rintro e w3 ⟨rfl, hb3⟩
  have hO3 := hO2.below hb3
  have hL3 := below_next hL2 hb3
  clear hO2 hL2 hb3 M
  go_wp2_with (refine store_row rfl rfl rfl rfl hO3 info_radical ?_)
  refine bodyPost_ret (results_row rfl rfl hO3.setRow Try.underlying79 rfl info_radical) rfl ?_
  exact ⟨rfl, below_setRow hL3 (by omega) _⟩

/-! Crosses and dots. -/
theorem prd_mir_small {a b : Nat → Int} {M : Nat} (hM : M ≤ 1000) (ha : ∀ j, j < 8 → -(M : Int) ≤ a j ∧ a j ≤ M) (hb : ∀ j, j < 8 → -(M : Int) ≤ b j ∧ b j ≤ M) : ∀ j, j < 8 → -((64 * (M * M) : Nat) : Int) ≤ prd (mir a) b j ∧ prd (mir a) b j ≤ ((64 * (M * M) : Nat) : Int) := fun j hj => by
  have h := prd_small (mir_small ha) hb j hj
  have e : 8 * (2 * M * (4 * M)) = 64 * (M * M) := by rw [Nat.mul_mul_mul_comm]; omega
  rw [e] at h
  exact h
theorem crs_small {a b : Nat → Int} {M : Nat} (hM : M ≤ 1000) (ha : ∀ j, j < 8 → -(M : Int) ≤ a j ∧ a j ≤ M) (hb : ∀ j, j < 8 → -(M : Int) ≤ b j ∧ b j ≤ M) : ∀ j, j < 4 → -((6 * (64 * (M * M)) : Nat) : Int) ≤ crs a b j ∧ crs a b j ≤ ((6 * (64 * (M * M)) : Nat) : Int) :=
  ima_small (prd_mir_small hM ha hb)
theorem dts_small {a b : Nat → Int} {M : Nat} (hM : M ≤ 1000) (ha : ∀ j, j < 8 → -(M : Int) ≤ a j ∧ a j ≤ M) (hb : ∀ j, j < 8 → -(M : Int) ≤ b j ∧ b j ≤ M) : ∀ j, j < 4 → -((6 * (64 * (M * M)) : Nat) : Int) ≤ dts a b j ∧ dts a b j ≤ ((6 * (64 * (M * M)) : Nat) : Int) :=
  rea_small (prd_mir_small hM ha hb)
set_option maxHeartbeats 1000000 in
theorem cross_any (a b : Nat → Int) {M : Nat} (hM : M ≤ 1000) (ha : ∀ j, j < 8 → -(M : Int) ≤ a j ∧ a j ≤ M) (hb : ∀ j, j < 8 → -(M : Int) ≤ b j ∧ b j ≤ M) (w : World) :
    Calls Try.prog 67 #[pt a, pt b] w fun e w' => e = .returned (.agg (vec 4 (crs a b))) ∧ Below w.heap.size w w' := by
  have hm := mir_small ha
  have A := fun w => mirrored_any a (small_inR ha hM) w
  have B := fun w => times_any (mir a) b (fun j hj => by have := hm j hj; omega) (small_inR hb hM) w
  have hp := prd_mir_small hM ha hb
  have hMM : M * M ≤ 1000 * 1000 := Nat.mul_le_mul hM hM
  have C := fun w => imag_wide (prd (mir a) b) (fun j hj => by have := hp j hj; omega) w
  unfold crs
  unfold pt p4 at *
  clear hm hp hMM ha hb
  generalize ima (prd (mir a) b) = r at *
  generalize prd (mir a) b = q at *
  generalize mir a = c at *
  have sa := vec_size 8 a
  have sb := vec_size 8 b
  go_enter Try.func67, Try.ntmps67
  go_upto_region 1 with fail
  show Code.wp _ _ _ _ (boxX w a b 75 79)
  obtain ⟨hA, hB, hO, hL⟩ := boxX_facts w a b 75 79
  generalize boxX w a b 75 79 = W at *
  refine wp_region_held_drew (S := fun w' => RowAt w' w.heap.size 8 75 a ∧ RowAt w' (w.heap.size + 1) 8 75 b ∧ (∃ f, RowAt w' (w.heap.size + 1 + 1) 4 79 f) ∧ Below w.heap.size w w') (by kernel_rfl) ⟨hA.drew1, hB.drew1, ⟨_, hO.drew1⟩, hL.drew⟩ (fun hHeld => ?_)
  clear hA hB hO hL
  refine wpAnyH_take (i := 0) (oi := _) (v := .agg (vec 8 a)) rfl (by kernel_rfl) (by kernel_rfl) (by kernel_rfl) (fun _ _ _ h => h) (yieldsIf_load_mid (by rfl) _ _ rfl _ _ rfl _ _ ((fun w h => h.1.range)) Try.underlying75 rfl (size_exact a)) hHeld ?_
  try simp only [Act.put, List.setIfInBounds_toArray, List.set_cons_zero, List.set_cons_succ, List.getElem_toArray, List.getElem_cons_succ, List.getElem_cons_zero]
  refine wpAnyH_take (i := 2) (oi := _) (v := .agg (vec 8 b)) rfl (by kernel_rfl) (by kernel_rfl) (by kernel_rfl) (fun _ _ _ h => h) (yieldsIf_load_mid (by rfl) _ _ rfl _ _ rfl _ _ ((fun w h => h.2.1.range)) Try.underlying75 rfl (size_exact b)) hHeld ?_
  try simp only [Act.put, List.setIfInBounds_toArray, List.set_cons_zero, List.set_cons_succ, List.getElem_toArray, List.getElem_cons_succ, List.getElem_cons_zero]
  refine wpAnyH_ready (rs := [1]) (by kernel_rfl) (by simp) ?_
  refine AllReadyH.cons (o := _) rfl (fun K hK => ?_) AllReadyH.nil
  go_simp
  refine (A _).mono ?_; rintro e w1 ⟨rfl, hb1⟩
  go_wp2_with fail
  obtain ⟨h1, h2, ⟨_, h3⟩, h4⟩ := hHeld
  refine hK.out _ _ ⟨h1.below hb1, h2.below hb1, ⟨_, h3.below hb1⟩, below_next h4 hb1⟩ (fun hHeld => ?_)
  clear hK K
  try simp only [Act.put, List.setIfInBounds_toArray, List.set_cons_zero, List.set_cons_succ, List.getElem_toArray, List.getElem_cons_succ, List.getElem_cons_zero]
  clear h1 h2 h3 h4 hb1 A
  refine wpAnyH_ready (rs := [3]) (by kernel_rfl) (by simp) ?_
  refine AllReadyH.cons (o := _) rfl (fun K hK => ?_) AllReadyH.nil
  go_simp
  refine (B _).mono ?_; rintro e w2 ⟨rfl, hb1⟩
  go_wp2_with fail
  obtain ⟨h1, h2, ⟨_, h3⟩, h4⟩ := hHeld
  refine hK.out _ _ ⟨h1.below hb1, h2.below hb1, ⟨_, h3.below hb1⟩, below_next h4 hb1⟩ (fun hHeld => ?_)
  clear hK K
  try simp only [Act.put, List.setIfInBounds_toArray, List.set_cons_zero, List.set_cons_succ, List.getElem_toArray, List.getElem_cons_succ, List.getElem_cons_zero]
  clear h1 h2 h3 h4 hb1 B
  refine wpAnyH_ready (rs := [4]) (by kernel_rfl) (by simp) ?_
  refine AllReadyH.cons (o := _) rfl (fun K hK => ?_) AllReadyH.nil
  go_simp
  refine (C _).mono ?_; rintro e w3 ⟨rfl, hb1⟩
  go_wp2_with fail
  obtain ⟨h1, h2, ⟨_, h3⟩, h4⟩ := hHeld
  refine hK.out _ _ ⟨h1.below hb1, h2.below hb1, ⟨_, h3.below hb1⟩, below_next h4 hb1⟩ (fun hHeld => ?_)
  clear hK K
  try simp only [Act.put, List.setIfInBounds_toArray, List.set_cons_zero, List.set_cons_succ, List.getElem_toArray, List.getElem_cons_succ, List.getElem_cons_zero]
  clear h1 h2 h3 h4 hb1 C
  refine wpAnyH_ready (rs := [5]) (by kernel_rfl) (by simp) ?_
  refine AllReadyH.cons (o := _) rfl (fun K hK => ?_) AllReadyH.nil
  rw [if_pos (by rfl)]
  obtain ⟨h1, h2, ⟨_, h3⟩, h4⟩ := hHeld
  refine store_step (f' := r) rfl rfl rfl h3 info_radical ?_
  have hG := h3.setRow (f' := r)
  have hF := below_setRow h4 (g := w.heap.size + 1 + 1) (by omega) (vec 4 r)
  refine hK.out _ _ ⟨h1.rowOther _ _ (by omega), h2.rowOther _ _ (by omega), ⟨_, hG⟩, hF⟩ (fun hHeld => ?_)
  clear hK K
  try simp only [Act.put, List.setIfInBounds_toArray, List.set_cons_zero, List.set_cons_succ, List.getElem_toArray, List.getElem_cons_succ, List.getElem_cons_zero]
  clear h1 h2 h3 h4 hHeld
  refine wpAnyH_done (by kernel_rfl) ?_ _
  go_wp2
  refine bodyPost_ret (results_row rfl rfl hG Try.underlying79 rfl info_radical) rfl ?_
  exact ⟨rfl, hF⟩
set_option maxHeartbeats 1000000 in
theorem dot_any (a b : Nat → Int) {M : Nat} (hM : M ≤ 1000) (ha : ∀ j, j < 8 → -(M : Int) ≤ a j ∧ a j ≤ M) (hb : ∀ j, j < 8 → -(M : Int) ≤ b j ∧ b j ≤ M) (w : World) :
    Calls Try.prog 123 #[pt a, pt b] w fun e w' => e = .returned (.agg (vec 4 (dts a b))) ∧ Below w.heap.size w w' := by
  have hm := mir_small ha
  have A := fun w => mirrored_any a (small_inR ha hM) w
  have B := fun w => times_any (mir a) b (fun j hj => by have := hm j hj; omega) (small_inR hb hM) w
  have hp := prd_mir_small hM ha hb
  have hMM : M * M ≤ 1000 * 1000 := Nat.mul_le_mul hM hM
  have C := fun w => realPart_any (prd (mir a) b) (fun j hj => by have := hp j hj; omega) w
  unfold dts
  unfold pt p4 at *
  clear hm hp hMM ha hb
  generalize rea (prd (mir a) b) = r at *
  generalize prd (mir a) b = q at *
  generalize mir a = c at *
  have sa := vec_size 8 a
  have sb := vec_size 8 b
  go_enter Try.func123, Try.ntmps123
  go_upto_region 1 with fail
  show Code.wp _ _ _ _ (boxX w a b 75 79)
  obtain ⟨hA, hB, hO, hL⟩ := boxX_facts w a b 75 79
  generalize boxX w a b 75 79 = W at *
  refine wp_region_held_drew (S := fun w' => RowAt w' w.heap.size 8 75 a ∧ RowAt w' (w.heap.size + 1) 8 75 b ∧ (∃ f, RowAt w' (w.heap.size + 1 + 1) 4 79 f) ∧ Below w.heap.size w w') (by kernel_rfl) ⟨hA.drew1, hB.drew1, ⟨_, hO.drew1⟩, hL.drew⟩ (fun hHeld => ?_)
  clear hA hB hO hL
  refine wpAnyH_take (i := 0) (oi := _) (v := .agg (vec 8 a)) rfl (by kernel_rfl) (by kernel_rfl) (by kernel_rfl) (fun _ _ _ h => h) (yieldsIf_load_mid (by rfl) _ _ rfl _ _ rfl _ _ ((fun w h => h.1.range)) Try.underlying75 rfl (size_exact a)) hHeld ?_
  try simp only [Act.put, List.setIfInBounds_toArray, List.set_cons_zero, List.set_cons_succ, List.getElem_toArray, List.getElem_cons_succ, List.getElem_cons_zero]
  refine wpAnyH_take (i := 2) (oi := _) (v := .agg (vec 8 b)) rfl (by kernel_rfl) (by kernel_rfl) (by kernel_rfl) (fun _ _ _ h => h) (yieldsIf_load_mid (by rfl) _ _ rfl _ _ rfl _ _ ((fun w h => h.2.1.range)) Try.underlying75 rfl (size_exact b)) hHeld ?_
  try simp only [Act.put, List.setIfInBounds_toArray, List.set_cons_zero, List.set_cons_succ, List.getElem_toArray, List.getElem_cons_succ, List.getElem_cons_zero]
  refine wpAnyH_ready (rs := [1]) (by kernel_rfl) (by simp) ?_
  refine AllReadyH.cons (o := _) rfl (fun K hK => ?_) AllReadyH.nil
  go_simp
  refine (A _).mono ?_; rintro e w1 ⟨rfl, hb1⟩
  go_wp2_with fail
  obtain ⟨h1, h2, ⟨_, h3⟩, h4⟩ := hHeld
  refine hK.out _ _ ⟨h1.below hb1, h2.below hb1, ⟨_, h3.below hb1⟩, below_next h4 hb1⟩ (fun hHeld => ?_)
  clear hK K
  try simp only [Act.put, List.setIfInBounds_toArray, List.set_cons_zero, List.set_cons_succ, List.getElem_toArray, List.getElem_cons_succ, List.getElem_cons_zero]
  clear h1 h2 h3 h4 hb1 A
  refine wpAnyH_ready (rs := [3]) (by kernel_rfl) (by simp) ?_
  refine AllReadyH.cons (o := _) rfl (fun K hK => ?_) AllReadyH.nil
  go_simp
  refine (B _).mono ?_; rintro e w2 ⟨rfl, hb1⟩
  go_wp2_with fail
  obtain ⟨h1, h2, ⟨_, h3⟩, h4⟩ := hHeld
  refine hK.out _ _ ⟨h1.below hb1, h2.below hb1, ⟨_, h3.below hb1⟩, below_next h4 hb1⟩ (fun hHeld => ?_)
  clear hK K
  try simp only [Act.put, List.setIfInBounds_toArray, List.set_cons_zero, List.set_cons_succ, List.getElem_toArray, List.getElem_cons_succ, List.getElem_cons_zero]
  clear h1 h2 h3 h4 hb1 B
  refine wpAnyH_ready (rs := [4]) (by kernel_rfl) (by simp) ?_
  refine AllReadyH.cons (o := _) rfl (fun K hK => ?_) AllReadyH.nil
  go_simp
  refine (C _).mono ?_; rintro e w3 ⟨rfl, hb1⟩
  go_wp2_with fail
  obtain ⟨h1, h2, ⟨_, h3⟩, h4⟩ := hHeld
  refine hK.out _ _ ⟨h1.below hb1, h2.below hb1, ⟨_, h3.below hb1⟩, below_next h4 hb1⟩ (fun hHeld => ?_)
  clear hK K
  try simp only [Act.put, List.setIfInBounds_toArray, List.set_cons_zero, List.set_cons_succ, List.getElem_toArray, List.getElem_cons_succ, List.getElem_cons_zero]
  clear h1 h2 h3 h4 hb1 C
  refine wpAnyH_ready (rs := [5]) (by kernel_rfl) (by simp) ?_
  refine AllReadyH.cons (o := _) rfl (fun K hK => ?_) AllReadyH.nil
  rw [if_pos (by rfl)]
  obtain ⟨h1, h2, ⟨_, h3⟩, h4⟩ := hHeld
  refine store_step (f' := r) rfl rfl rfl h3 info_radical ?_
  have hG := h3.setRow (f' := r)
  have hF := below_setRow h4 (g := w.heap.size + 1 + 1) (by omega) (vec 4 r)
  refine hK.out _ _ ⟨h1.rowOther _ _ (by omega), h2.rowOther _ _ (by omega), ⟨_, hG⟩, hF⟩ (fun hHeld => ?_)
  clear hK K
  try simp only [Act.put, List.setIfInBounds_toArray, List.set_cons_zero, List.set_cons_succ, List.getElem_toArray, List.getElem_cons_succ, List.getElem_cons_zero]
  clear h1 h2 h3 h4 hHeld
  refine wpAnyH_done (by kernel_rfl) ?_ _
  go_wp2
  refine bodyPost_ret (results_row rfl rfl hG Try.underlying79 rfl info_radical) rfl ?_
  exact ⟨rfl, hF⟩

/-! Signs. -/
theorem rsign_at (f : Nat → Int) (h : ∀ j, j < 4 → -100000000 ≤ f j ∧ f j ≤ 100000000) (w : World) : Calls Try.prog 124 #[.agg (vec 4 f)] w fun e w' => e = .returned (.int .i64 (sgf f)) ∧ Below w.heap.size w w' :=
  rsign_any (f 0) (f 1) (f 2) (f 3) (h 0 (by omega)) (h 1 (by omega)) (h 2 (by omega)) (h 3 (by omega)) w
theorem isAbove_any (a : Nat → Int) (ha : ∀ j, j < 8 → -((200 : Nat) : Int) ≤ a j ∧ a j ≤ (200 : Nat)) (w : World) :
    Calls Try.prog 135 #[pt a] w fun e w' => e = .returned (.bool (upB (qv a))) ∧ Below w.heap.size w w' := by
  have sa := vec_size 8 a
  have M1 := fun w => imag_wide a (fun j hj => by have := ha j hj; omega) w
  have hi := ima_small ha
  have S1 := fun w => rsign_at (ima a) (fun j hj => by have := hi j hj; omega) w
  have HE : upB (qv a) = decide (0 < sgf (ima a)) := rfl
  rw [HE]
  clear HE hi ha
  unfold pt p4 at *
  generalize sgf (ima a) = s at *
  generalize ima a = p at *
  go_enter Try.func135, Try.ntmps135
  go_upto_region 1 with fail
  show Code.wp _ _ _ _ (box0 w a 75)
  obtain ⟨hA, hL⟩ := box0_facts w a 75
  generalize box0 w a 75 = W at *
  go_wp2_with (refine load_row rfl rfl rfl hA Try.underlying75 rfl info_exact ?_)
  refine (M1 _).mono ?_; rintro e w2 ⟨rfl, hb2⟩
  have hL2 := below_next hL hb2
  clear hA hL hb2 M1
  go_wp2_with fail
  refine (S1 _).mono ?_; rintro e w3 ⟨rfl, hb3⟩
  have hL3 := below_next hL2 hb3
  clear hL2 hb3 S1
  go_wp2
  go_ret
  exact ⟨rfl, hL3⟩

end Go.Proofs.Ytdpakhggpgdgbaa
