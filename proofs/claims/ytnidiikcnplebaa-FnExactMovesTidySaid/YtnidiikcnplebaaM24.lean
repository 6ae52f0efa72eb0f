/-
  The exact laws' helpers on lists of moves: copied, counted, compared, marked, held.
  The exact laws' helpers on lists of moves, continued: compared, marked, held.
  Both sides: lengths of moves.
  Both sides: the paths of moves.
-/
import Derived.Test.YtnidiikcnplebaaM23
import Derived.Test.YtnidiikcnplebaaM11
import Derived.OrdersHeld
import Derived.Test.YtnidiikcnplebaaM21
/- The exact laws' helpers on lists of moves: copied, counted, compared, marked, held. -/
namespace Go.Proofs.Ytnidiikcnplebaa
set_option maxRecDepth 20000
open Go.ChangeShapes Go.WideShapes Go.ChangeAt Go.RowKit
set_option linter.unusedVariables false
set_option linter.unusedSimpArgs false

theorem szMoves_yes (v : Value) (ws : List Mv) (left : Int) (w : World) (hv : LiesL encM w v ws) (hl : left ≤ 1048576) (h : (ws.length : Int) ≤ left) :
    Calls Try.prog 57 #[v, .int .i64 left] w fun e w' => e = .returned (.int .i64 (left - (ws.length : Int))) ∧ w = w' := by
  obtain ⟨p, cap, rfl, hc1, hc2, -⟩ := hv
  have r1 : IntKind.i64.wrap (left - (ws.length : Int)) = left - (ws.length : Int) := by rw [IntKind.wrap_i64]; omega
  have hb : ¬ left - (ws.length : Int) < 0 := by omega
  go_enter Try.func57, Try.ntmps57
  go_wp2
  go_ret
  exact ⟨rfl, rfl⟩
theorem szMoves_no (v : Value) (ws : List Mv) (left : Int) (w : World) (hv : LiesL encM w v ws) (h0 : 0 ≤ left) (hl : left ≤ 1048576) (h : left < (ws.length : Int)) :
    Calls Try.prog 57 #[v, .int .i64 left] w fun e w' => e = .returned (.int .i64 (-1)) ∧ w = w' := by
  obtain ⟨p, cap, rfl, hc1, hc2, -⟩ := hv
  simp only [maxLen] at hc2
  have r1 : IntKind.i64.wrap (left - (ws.length : Int)) = left - (ws.length : Int) := by rw [IntKind.wrap_i64]; omega
  have hb : left - (ws.length : Int) < 0 := by omega
  go_enter Try.func57, Try.ntmps57
  go_wp2
  go_ret
  exact ⟨rfl, rfl⟩
theorem toMv_any (m : Mv) (w : World) : Calls Try.prog 98 #[mvV m] w fun e w' => e = .returned (mvV m) ∧ Below w.heap.size w w' := by
  obtain ⟨x, y⟩ := m
  unfold mvV
  go_enter Try.func98, Try.ntmps98
  go_wp2
  simp [bodyPost, results, Try.results98, go_sem]
  exact below_next (below_next (below_next (mv_lies w _) (mv_lies _ _)) (mv_lies _ _)) (Below.refl _ _)
theorem made_zerosM (n : Nat) : (madeCells (Value.agg #[.int .i64 0, .int .i64 0]).cells (n * 2)).toList = flt encM (List.replicate n ((0, 0) : Mv)) := by
  apply List.ext_getElem?
  intro i
  by_cases hi : i < n * 2
  · have h1 := flt_at encM_ok (xs := List.replicate n ((0, 0) : Mv)) (i := i / 2) (a := (0, 0)) (by rw [List.getElem?_replicate, if_pos (by omega)]) (i % 2) (by omega)
    rw [show i / 2 * 2 + i % 2 = i from by omega] at h1
    rw [h1]
    have h2 : (encM (0, 0))[i % 2]? = some (.int .i64 0) := by
      rcases (show i % 2 = 0 ∨ i % 2 = 1 by omega) with h | h <;> rw [h] <;> rfl
    rw [h2]
    rcases (show i % 2 = 0 ∨ i % 2 = 1 by omega) with h | h <;> simp [madeCells, Value.cells, hi, h]
  · rw [List.getElem?_eq_none (by simp [madeCells]; omega), List.getElem?_eq_none (by rw [flt_length encM_ok]; simp; omega)]
theorem zero_mv : (Try.prog.info? 45).map (·.zero) = some (some (.agg #[.int .i64 0, .int .i64 0])) := by kernel_rfl
section
variable {P : Program} {t e : TypeId} {ops : Array Oper} {rest : List Oper} {o : Oper} {a : Act} {Q : Exit → Act → World → Prop} {w0 w : World} {B : Nat}
/-- 'make' of a list of moves of nothing. -/
theorem make_fullM (ty : TyL P t e 2) (hz : (P.info? e).map (·.zero) = some (some (.agg #[.int .i64 0, .int .i64 0]))) (hgd : o.guard = none) {l c : Operand} (hop : o.op = .makeSlice t l c) (n : Nat) (hl : a.eval l = .int .i64 n) (hc : a.eval c = .int .i64 n) (hn : n ≤ 1000000000)
    (h : ∀ w', w'.ownsRow w.heap.size e 2 (.slice (some ⟨w.heap.size, 0, none⟩) n n) n (flt encM (List.replicate n ((0, 0) : Mv))) → Below w.heap.size w w' → wpList P ops Q rest (a.put o.dst (.slice (some ⟨w.heap.size, 0, none⟩) n n)) w') : wpList P ops Q (o :: rest) a w := by
  obtain ⟨i, z, hi, hz0, hs, hby, hzs⟩ := ty.inf
  have hzz : i.zero = some (.agg #[.int .i64 0, .int .i64 0]) := by rw [hi] at hz; simpa using hz
  refine wpList_plain hgd fun K hK' => ?_
  have h1 : i.bytes * n ≤ 281474976710656 := by have := Nat.mul_le_mul hby hn; omega
  obtain ⟨w', hrun, r1, r2⟩ := run_make_full (P := P) w w.heap.size t e i _ 2 ty.sl hi hzz hs .i64 .i64 n h1 (by simp only [maxLen]; omega) (Nat.le_refl _)
  rw [made_zerosM] at r1
  unfold Oper.wp
  simp [execOp, hop, hl, hc, hrun, Result.andThen]
  exact hK' _ _ (h w' r1 ((Below.refl _ _).grown r2 (Nat.le_refl _) fun k hk => by cases hk))
theorem store_mv {ty : TypeId} {g p : Nat} {m : Mv} (hgd : o.guard = none) {x y : Operand} (ho : o.op = .store ty x y) (hx : a.eval x = .pointer (some ⟨g, p, none⟩)) (hy : a.eval y = mvV m)
    (ht : w.there g p 2) (hi : (P.info? ty).map (·.size) = some 2) (h : wpList P ops Q rest (a.put o.dst undef) (w.setCells g p (encM m))) : wpList P ops Q (o :: rest) a w :=
  wpList_store_mid hgd ty x y ho g p #[.int .i64 m.1, .int .i64 m.2] hx hy ht hi (by simp [Value.oneCell']) h
end
theorem info_lawMv : (Try.prog.info? 126).map (·.size) = some 2 := by kernel_rfl
theorem own_below2 {w w' : World} {B T g n cap : Nat} {xs : List Value} (h : w.ownsRow B T 2 (.slice (some ⟨g, 0, none⟩) n cap) n xs) (hb : Below w.heap.size w w') : w'.ownsRow B T 2 (.slice (some ⟨g, 0, none⟩) n cap) n xs := rows_below h hb
set_option maxHeartbeats 2000000 in
theorem toMoves_any (v : Value) (ws : List Mv) (w : World) (hv : LiesL encM w v ws) (hn : ws.length ≤ 1048576) :
    Calls Try.prog 58 #[v] w fun e w' => Below w.heap.size w w' ∧ ∃ v', e = .returned v' ∧ OwnL encM 2 w' w.heap.size 45 v' ws := by
  obtain ⟨p, cap, rfl, hc1, hc2, hp⟩ := hv
  simp only [maxLen] at hc2
  have HP := Lib.hid hp
  clear hp
  go_enter Try.func58, Try.ntmps58
  go_wp2_with (refine make_fullM tyN zero_mv rfl rfl ws.length rfl rfl (by omega) ?_; intro w1 ho1 hb1)
  rw [← halfL_none] at ho1
  go_loopw [4] (fun i wr => ∃ k : Nat, k ≤ ws.length ∧ i = .int .i64 k ∧ wr.ownsRow w.heap.size 45 2 (.slice (some ⟨w.heap.size, 0, none⟩) ws.length ws.length) ws.length (flt encM (halfL (0, 0) ws k)) ∧ Below w.heap.size w wr) (fun i _ => ws.length - (intOf i).toNat)
  case atStart => exact ⟨0, Nat.zero_le _, rfl, ho1, hb1⟩
  case round =>
    clear ho1 hb1
    obtain ⟨k, hk, rfl, hO, hbel⟩ := hrel
    by_cases hlt : k < ws.length
    · have hkz : (k : Int) < (ws.length : Int) := by omega
      have hk0 : (0 : Int) ≤ (k : Int) := by omega
      obtain ⟨c, hc⟩ : ∃ c, ws[k]? = some c := ⟨_, List.getElem?_eq_getElem hlt⟩
      obtain ⟨g, o, rfl, hg, hr⟩ := HP.out (by intro e; rw [e] at hlt; simp at hlt)
      obtain ⟨c0, c1⟩ := mv_cells (cells_below hr hg hbel) hc
      have HC := Lib.hid hc
      have HO := Lib.hid hO
      have HL := Lib.hid hbel
      have T := fun w => toMv_any c w
      clear hr hc hO hbel
      unfold mvV at T
      go_wp2_with fail
      refine (T _).mono ?_; rintro e w2 ⟨rfl, hb2⟩
      have hzz : w.heap.size ≤ wr.heap.size := HL.out.size
      have hO2 := own_below2 HO.out hb2
      have HT : Aside (w2.there w.heap.size (k * 2) 2) := (show w2.there _ _ _ from rows_there (o := 0) hO2 hlt (by omega))
      have HO3 : Aside ((w2.setCells w.heap.size (k * 2) (encM c)).ownsRow w.heap.size 45 2 (.slice (some ⟨w.heap.size, 0, none⟩) ws.length ws.length) ws.length (flt encM (halfL (0, 0) ws (k + 1)))) := (show World.ownsRow _ _ _ _ _ _ _ from by
        rw [← halfL_set HC.out]; exact ownL_set encM_ok c hO2 (halfL_at hlt))
      have HL3 : Aside (Below w.heap.size w (w2.setCells w.heap.size (k * 2) (encM c))) := below_setCells (Nat.le_refl _) _ _ _ (below_next HL.out hb2)
      clear hO2 hb2 HO HL T c0 c1
      go_wp2_with (first | (refine store_mv (ty := 45) (g := w.heap.size) (p := k * 2) (m := c) rfl rfl rfl rfl HT.out info_mv ?_; clear HT))
      go_roundw
      case rel => exact ⟨k + 1, by omega, by go_num, HO3.out, HL3.out⟩
      case measure => simp [intOf]; omega
    · obtain rfl : k = ws.length := by omega
      rw [halfL_all] at hO
      have HO := Lib.hid hO
      have HL := Lib.hid hbel
      clear hO hbel
      go_wp2
      go_ret
      exact ⟨HL.out, _, rfl, HO.out⟩
theorem eqMv_yes (m : Mv) (w : World) : Calls Try.prog 99 #[mvV m, mvV m] w fun e w' => e = .returned (.bool true) ∧ Below w.heap.size w w' := by
  obtain ⟨x, y⟩ := m
  unfold mvV
  go_enter Try.func99, Try.ntmps99
  go_wp2
  go_ret
  exact ⟨rfl, below_next (mv_lies w _) (mv_lies _ _)⟩
end Go.Proofs.Ytnidiikcnplebaa
/- The exact laws' helpers on lists of moves, continued: compared, marked, held. -/
namespace Go.Proofs.Ytnidiikcnplebaa
set_option maxRecDepth 20000
open Go.ChangeShapes Go.WideShapes Go.ChangeAt Go.RowKit
set_option linter.unusedVariables false
set_option linter.unusedSimpArgs false

theorem size_mvE (m : Mv) : (Try.prog.info? 45).map (·.size) = some (encM m).length := by rw [encM_ok.len]; exact info_mv
set_option maxHeartbeats 2000000 in
theorem eqMoves_yes (va vb : Value) (L : List Mv) (w : World) (ha : ReadsL encM w va L) (hb : ReadsL encM w vb L) : Calls Try.prog 59 #[va, vb] w fun e w' => e = .returned (.bool true) ∧ Below w.heap.size w w' := by
  obtain ⟨p, cap, rfl, hc1, hc2, hp0, hp⟩ := ha
  obtain ⟨q, cap2, rfl, hd1, hd2, hq0, hq⟩ := hb
  simp only [maxLen] at hc2
  have hlb : ((L.length : Int) != (L.length : Int)) = false := by simp
  have HP := Lib.hid hp
  have HQ := Lib.hid hq
  clear hp hq
  go_enter Try.func59, Try.ntmps59
  go_wp2
  go_loopw [5] (fun i wr => ∃ k : Nat, k ≤ L.length ∧ i = .int .i64 k ∧ Below w.heap.size w wr) (fun i _ => L.length - (intOf i).toNat)
  case atStart => exact ⟨0, Nat.zero_le _, rfl, Below.refl _ _⟩
  case round =>
    obtain ⟨k, hk, rfl, hbel⟩ := hrel
    have HL := Lib.hid hbel
    clear hbel
    by_cases hlt : k < L.length
    · have hkz : (k : Int) < (L.length : Int) := by omega
      have hk0 : (0 : Int) ≤ (k : Int) := by omega
      obtain ⟨c, hc⟩ : ∃ c, L[k]? = some c := ⟨_, List.getElem?_eq_getElem hlt⟩
      obtain ⟨g, o, rfl, hg, hr⟩ := HP.out (by rintro rfl; have := hp0 rfl; omega)
      obtain ⟨g2, o2, rfl, hg2, hr2⟩ := HQ.out (by rintro rfl; have := hq0 rfl; omega)
      have HE : Aside (g < w.heap.size ∧ w.rangeAt g (o + k * 2) (encM c)) := (show _ ∧ _ from ⟨hg, cells_part encM_ok hr hc⟩)
      have HE2 : Aside (g2 < w.heap.size ∧ w.rangeAt g2 (o2 + k * 2) (encM c)) := (show _ ∧ _ from ⟨hg2, cells_part encM_ok hr2 hc⟩)
      have T : ∀ w, Calls Try.prog 99 #[.agg (encM c).toArray, .agg (encM c).toArray] w fun e w' => e = .returned (.bool true) ∧ Below w.heap.size w w' := fun w => eqMv_yes c w
      clear hr hr2 hc hg hg2
      go_upto_region 6 with fail
      refine wp_region_held_drew (S := fun w' => Below w.heap.size w w') (by kernel_rfl) HL.out.drew (fun hHeld => ?_)
      refine wpAnyH_take (i := 0) (oi := _) (v := .slice (some ⟨g, o, none⟩) L.length cap) rfl (by kernel_rfl) (by kernel_rfl) (by kernel_rfl) (fun _ _ _ h => h) (Or.inl ⟨by rfl, fun w h => by go_simp⟩) hHeld ?_
      try simp only [Act.put, List.setIfInBounds_toArray, List.set_cons_zero, List.set_cons_succ, List.getElem_toArray, List.getElem_cons_succ, List.getElem_cons_zero]
      refine wpAnyH_take (i := 1) (oi := _) (v := .int .i64 k) rfl (by kernel_rfl) (by kernel_rfl) (by kernel_rfl) (fun _ _ _ h => h) (Or.inl ⟨by rfl, fun w h => by go_simp⟩) hHeld ?_
      try simp only [Act.put, List.setIfInBounds_toArray, List.set_cons_zero, List.set_cons_succ, List.getElem_toArray, List.getElem_cons_succ, List.getElem_cons_zero]
      refine wpAnyH_take (i := 2) (oi := _) (v := .pointer (some ⟨g, o + k * 2, none⟩)) rfl (by kernel_rfl) (by kernel_rfl) (by kernel_rfl) (fun _ _ _ h => h) (Or.inl ⟨by rfl, fun w h => by go_simp⟩) hHeld ?_
      try simp only [Act.put, List.setIfInBounds_toArray, List.set_cons_zero, List.set_cons_succ, List.getElem_toArray, List.getElem_cons_succ, List.getElem_cons_zero]
      refine wpAnyH_take (i := 3) (oi := _) (v := .agg (encM c).toArray) rfl (by kernel_rfl) (by kernel_rfl) (by kernel_rfl) (fun _ _ _ h => h) (yieldsIf_load_mid (by rfl) _ _ rfl _ _ rfl _ _ ((fun w h => range_keptP HE.out.2 HE.out.1 h)) Try.underlying45 rfl (size_mvE c)) hHeld ?_
      try simp only [Act.put, List.setIfInBounds_toArray, List.set_cons_zero, List.set_cons_succ, List.getElem_toArray, List.getElem_cons_succ, List.getElem_cons_zero]
      refine wpAnyH_take (i := 4) (oi := _) (v := .slice (some ⟨g2, o2, none⟩) L.length cap2) rfl (by kernel_rfl) (by kernel_rfl) (by kernel_rfl) (fun _ _ _ h => h) (Or.inl ⟨by rfl, fun w h => by go_simp⟩) hHeld ?_
      try simp only [Act.put, List.setIfInBounds_toArray, List.set_cons_zero, List.set_cons_succ, List.getElem_toArray, List.getElem_cons_succ, List.getElem_cons_zero]
      refine wpAnyH_take (i := 5) (oi := _) (v := .int .i64 k) rfl (by kernel_rfl) (by kernel_rfl) (by kernel_rfl) (fun _ _ _ h => h) (Or.inl ⟨by rfl, fun w h => by go_simp⟩) hHeld ?_
      try simp only [Act.put, List.setIfInBounds_toArray, List.set_cons_zero, List.set_cons_succ, List.getElem_toArray, List.getElem_cons_succ, List.getElem_cons_zero]
      refine wpAnyH_take (i := 6) (oi := _) (v := .pointer (some ⟨g2, o2 + k * 2, none⟩)) rfl (by kernel_rfl) (by kernel_rfl) (by kernel_rfl) (fun _ _ _ h => h) (Or.inl ⟨by rfl, fun w h => by go_simp⟩) hHeld ?_
      try simp only [Act.put, List.setIfInBounds_toArray, List.set_cons_zero, List.set_cons_succ, List.getElem_toArray, List.getElem_cons_succ, List.getElem_cons_zero]
      refine wpAnyH_take (i := 7) (oi := _) (v := .agg (encM c).toArray) rfl (by kernel_rfl) (by kernel_rfl) (by kernel_rfl) (fun _ _ _ h => h) (yieldsIf_load_mid (by rfl) _ _ rfl _ _ rfl _ _ ((fun w h => range_keptP HE2.out.2 HE2.out.1 h)) Try.underlying45 rfl (size_mvE c)) hHeld ?_
      try simp only [Act.put, List.setIfInBounds_toArray, List.set_cons_zero, List.set_cons_succ, List.getElem_toArray, List.getElem_cons_succ, List.getElem_cons_zero]
      refine wpAnyH_ready (rs := [8]) (by kernel_rfl) (by simp) ?_
      refine AllReadyH.cons (o := _) rfl (fun K hK => ?_) AllReadyH.nil
      go_simp
      refine (T _).mono ?_; rintro e w5 ⟨rfl, hb5⟩
      go_wp2_with fail
      refine hK.out _ _ (below_next hHeld hb5) (fun hHeld => ?_)
      clear hK K
      try simp only [Act.put, List.setIfInBounds_toArray, List.set_cons_zero, List.set_cons_succ, List.getElem_toArray, List.getElem_cons_succ, List.getElem_cons_zero]
      clear hb5 T
      refine wpAnyH_take (i := 9) (oi := _) (v := .bool false) rfl (by kernel_rfl) (by kernel_rfl) (by kernel_rfl) (fun _ _ _ h => h) (Or.inl ⟨by rfl, fun w h => by go_simp⟩) hHeld ?_
      try simp only [Act.put, List.setIfInBounds_toArray, List.set_cons_zero, List.set_cons_succ, List.getElem_toArray, List.getElem_cons_succ, List.getElem_cons_zero]
      refine wpAnyH_done (by kernel_rfl) ?_ _
      have HL5 := Lib.hid hHeld
      clear hHeld
      go_wp2
      go_roundw
      case rel => exact ⟨k + 1, by omega, by go_num, HL5.out⟩
      case measure => simp [intOf]; omega
    · obtain rfl : k = L.length := by omega
      go_wp2
      go_ret
      exact ⟨rfl, HL.out⟩
/-! ### Marks -/
set_option maxHeartbeats 2000000 in
theorem markM_own (k0 B g n cap : Nat) (hk0 : k0 ≤ 100000000) (ws : List Mv) (w : World) (hlen : ws.length = n) (ho : w.ownsRow B 45 2 (.slice (some ⟨g, 0, none⟩) n cap) n (flt encM ws)) (hm : n ≤ 1048576) :
    Calls Try.prog 60 #[.slice (some ⟨g, 0, none⟩) n cap, .int .i64 k0] w fun e w' => e = .returned (.int .i64 ((k0 + n * 2 : Nat) : Int)) ∧ w'.ownsRow B 45 2 (.slice (some ⟨g, 0, none⟩) n cap) n (mkL k0 (n * 2)) ∧ w.grownBy w' (some g) := by
  obtain ⟨cs, hcs⟩ : ∃ cs, cs = flt encM ws := ⟨_, rfl⟩
  have HF : Aside (cs.length = n * 2) := (show _ = _ from by rw [hcs, flt_length encM_ok, hlen])
  rw [← hcs] at ho
  rw [← mkdL_none k0 cs] at ho
  have HO0 := Lib.hid ho
  clear hcs ho hlen
  go_enter Try.func60, Try.ntmps60
  go_wp2_with fail
  go_loopw [1, 5] (fun ks i wr => ∃ k : Nat, k ≤ n ∧ i = .int .i64 k ∧ ks = .int .i64 ((k0 + k * 2 : Nat) : Int) ∧ wr.ownsRow B 45 2 (.slice (some ⟨g, 0, none⟩) n cap) n (mkdL k0 cs (k * 2)) ∧ w.grownBy wr (some g)) (fun _ i _ => n - (intOf i).toNat)
  case atStart => exact ⟨0, Nat.zero_le _, rfl, rfl, HO0.out, World.grownBy.refl _ _⟩
  case round =>
    clear HO0
    obtain ⟨k, hk, rfl, rfl, hO, hg⟩ := hrel
    by_cases hlt : k < n
    · have hkz : (k : Int) < (n : Int) := by omega
      have hk0z : (0 : Int) ≤ (k : Int) := by omega
      have hpl : k * 2 < cs.length := by rw [HF.out]; omega
      have hpl2 : k * 2 + 1 < cs.length := by rw [HF.out]; omega
      have hcell : wr.cell? ⟨g, k * 2, none⟩ = some cs[k * 2] := by rw [hO.cellAt (k * 2) (by omega), mkdL_old (k0 := k0) (cs := cs) (p := k * 2) hpl]
      have hfr := hO.frozenAt (k * 2)
      generalize cs[k * 2] = old at *
      have q1 : IntKind.i64.wrap (((k0 + k * 2 : Nat) : Int) + 1) = ((k0 + (k * 2 + 1) : Nat) : Int) := by rw [IntKind.wrap_i64]; omega
      have q2 : IntKind.i64.wrap (((k0 + (k * 2 + 1) : Nat) : Int) + 1) = ((k0 + (k + 1) * 2 : Nat) : Int) := by rw [IntKind.wrap_i64]; omega
      obtain ⟨h1, h2⟩ := hO.stored (k * 2) (.int .i64 ((k0 + k * 2 : Nat) : Int))
      rw [mkdL_step hpl] at h1
      have hcell2 : (wr.setCell ⟨g, k * 2, none⟩ (.int .i64 ((k0 + k * 2 : Nat) : Int))).cell? ⟨g, k * 2 + 1, none⟩ = some cs[k * 2 + 1] := by rw [h1.cellAt (k * 2 + 1) (by omega), mkdL_old (k0 := k0) (cs := cs) (p := k * 2 + 1) hpl2]
      have hfr2 := h1.frozenAt (k * 2 + 1)
      generalize cs[k * 2 + 1] = old2 at *
      obtain ⟨h3, h4⟩ := h1.stored (k * 2 + 1) (.int .i64 ((k0 + (k * 2 + 1) : Nat) : Int))
      rw [mkdL_step hpl2] at h3
      have H3 := Lib.hid h3
      have H4 := Lib.hid (grown_trans (grown_trans hg h2) h4)
      clear h1 h2 h3 h4 hO hg hpl hpl2
      obtain ⟨m0, hm0⟩ : ∃ m : Int, ((k0 + k * 2 : Nat) : Int) = m := ⟨_, rfl⟩
      obtain ⟨m1, hm1⟩ : ∃ m : Int, ((k0 + (k * 2 + 1) : Nat) : Int) = m := ⟨_, rfl⟩
      obtain ⟨m2, hm2⟩ : ∃ m : Int, ((k0 + (k + 1) * 2 : Nat) : Int) = m := ⟨_, rfl⟩
      rw [hm0] at q1 hcell2 hfr2 H3 H4 ⊢
      rw [hm1] at q1 q2 H3 H4
      rw [hm2] at q2
      have HM2 := Lib.hid hm2
      clear hm0 hm1 hm2
      go_wp2_with fail
      go_roundw
      case rel => exact ⟨k + 1, by omega, by go_num, by rw [HM2.out], by rw [show (k + 1) * 2 = k * 2 + 1 + 1 from by omega]; exact H3.out, H4.out⟩
      case measure => simp [intOf]; omega
    · obtain rfl : k = n := by omega
      rw [mkdL_all HF.out] at hO
      have H1 := Lib.hid hO
      have H2 := Lib.hid hg
      clear hO hg
      go_wp2_with fail
      go_ret
      exact ⟨rfl, H1.out, H2.out⟩
theorem markM_nil (k0 : Nat) (w : World) : Calls Try.prog 60 #[.slice none 0 0, .int .i64 k0] w fun e w' => e = .returned (.int .i64 k0) ∧ w = w' := by
  go_enter Try.func60, Try.ntmps60
  go_wp2_with fail
  refine wp_loop_rounds 1 ?_
  rw [rounds_succ]
  go_wp2_with fail
  go_ret
  exact ⟨rfl, rfl⟩
theorem markM_any (k0 : Nat) (hk0 : k0 ≤ 100000000) (v : Value) (B : Nat) (ws : List Mv) (w : World) (ho : OwnL encM 2 w B 45 v ws) (hm : ws.length ≤ 1048576) :
    Calls Try.prog 60 #[v, .int .i64 k0] w fun e w' => e = .returned (.int .i64 ((k0 + ws.length * 2 : Nat) : Int)) ∧ w'.ownsRow B 45 2 v ws.length (mkL k0 (ws.length * 2)) ∧ w.grownBy w' v.ownBlock := by
  have h2 := ho.2
  rcases h2 with ⟨rfl, h0⟩ | ⟨g, cap, cur, rfl, _⟩
  · refine (markM_nil k0 w).mono ?_
    rintro e w' ⟨rfl, rfl⟩
    refine ⟨by rw [h0]; rfl, ?_, World.grownBy.refl _ _⟩
    rw [h0, Nat.zero_mul]; exact World.ownsRow_nil _ _ _ _
  · exact markM_own k0 B g ws.length cap hk0 ws w rfl ho hm
set_option maxHeartbeats 2000000 in
theorem heldM_own (k0 B g n cap : Nat) (hk0 : k0 ≤ 100000000) (w : World) (ho : w.ownsRow B 45 2 (.slice (some ⟨g, 0, none⟩) n cap) n (mkL k0 (n * 2))) (hm : n ≤ 1048576) :
    Calls Try.prog 61 #[.slice (some ⟨g, 0, none⟩) n cap, .int .i64 k0] w fun e w' => e = .returned (.int .i64 ((k0 + n * 2 : Nat) : Int)) ∧ w = w' := by
  have HO := Lib.hid ho
  clear ho
  go_enter Try.func61, Try.ntmps61
  go_wp2_with fail
  go_loop [1, 5] (fun ks i => ∃ k : Nat, k ≤ n ∧ i = .int .i64 k ∧ ks = .int .i64 ((k0 + k * 2 : Nat) : Int)) (fun _ i => n - (intOf i).toNat)
  case atStart => exact ⟨0, Nat.zero_le _, rfl, rfl⟩
  case round =>
    obtain ⟨k, hk, rfl, rfl⟩ := hrel
    by_cases hlt : k < n
    · have hkz : (k : Int) < (n : Int) := by omega
      have hk0z : (0 : Int) ≤ (k : Int) := by omega
      have c0 : w.cell? ⟨g, k * 2, none⟩ = some (.int .i64 ((k0 + k * 2 : Nat) : Int)) := by rw [HO.out.cellAt (k * 2) (by omega), mkL_at (by omega)]
      have c1 : w.cell? ⟨g, k * 2 + 1, none⟩ = some (.int .i64 ((k0 + (k * 2 + 1) : Nat) : Int)) := by rw [HO.out.cellAt (k * 2 + 1) (by omega), mkL_at (by omega)]
      have q1 : IntKind.i64.wrap (((k0 + k * 2 : Nat) : Int) + 1) = ((k0 + (k * 2 + 1) : Nat) : Int) := by rw [IntKind.wrap_i64]; omega
      have q2 : IntKind.i64.wrap (((k0 + (k * 2 + 1) : Nat) : Int) + 1) = ((k0 + (k + 1) * 2 : Nat) : Int) := by rw [IntKind.wrap_i64]; omega
      obtain ⟨m0, hm0⟩ : ∃ m : Int, ((k0 + k * 2 : Nat) : Int) = m := ⟨_, rfl⟩
      obtain ⟨m1, hm1⟩ : ∃ m : Int, ((k0 + (k * 2 + 1) : Nat) : Int) = m := ⟨_, rfl⟩
      obtain ⟨m2, hm2⟩ : ∃ m : Int, ((k0 + (k + 1) * 2 : Nat) : Int) = m := ⟨_, rfl⟩
      rw [hm0] at q1 c0 ⊢
      rw [hm1] at q1 q2 c1
      rw [hm2] at q2
      have HM2 := Lib.hid hm2
      clear hm0 hm1 hm2
      have n0 : (m0 != m0) = false := by simp
      have n1 : (m1 != m1) = false := by simp
      go_wp2_with fail
      go_round
      case rel => exact ⟨k + 1, by omega, by go_num, by rw [HM2.out]⟩
      case measure => simp [intOf]; omega
    · obtain rfl : k = n := by omega
      go_wp2_with fail
      go_ret
      exact ⟨rfl, rfl⟩
theorem heldM_nil (k0 : Nat) (w : World) : Calls Try.prog 61 #[.slice none 0 0, .int .i64 k0] w fun e w' => e = .returned (.int .i64 k0) ∧ w = w' := by
  go_enter Try.func61, Try.ntmps61
  go_wp2_with fail
  refine wp_loop_rounds 1 ?_
  rw [rounds_succ]
  go_wp2_with fail
  go_ret
  exact ⟨rfl, rfl⟩
theorem heldM_any (k0 : Nat) (hk0 : k0 ≤ 100000000) (v : Value) (B n : Nat) (w : World) (ho : w.ownsRow B 45 2 v n (mkL k0 (n * 2))) (hm : n ≤ 1048576) :
    Calls Try.prog 61 #[v, .int .i64 k0] w fun e w' => e = .returned (.int .i64 ((k0 + n * 2 : Nat) : Int)) ∧ w = w' := by
  have h2 := ho.2
  rcases h2 with ⟨rfl, rfl⟩ | ⟨g, cap, cur, rfl, _⟩
  · exact heldM_nil k0 w
  · exact heldM_own k0 B g n cap hk0 w ho hm
theorem markM_number (k n : Nat) : ∃ M : Int, Aside (((k + n * 2 : Nat) : Int) = M) ∧ ¬ M < 0 ∧ (M != M) = false := ⟨_, (show _ = _ from rfl), by omega, by simp⟩
end Go.Proofs.Ytnidiikcnplebaa
/- Both sides: lengths of moves. -/
namespace Go.Proofs.Ytnidiikcnplebaa
set_option maxRecDepth 20000
open Go.ChangeShapes Go.WideShapes Go.ChangeAt Go.RowKit
set_option linter.unusedVariables false
set_option linter.unusedSimpArgs false

theorem max_size (a : Int) : max a (-a) = ((a.natAbs : Nat) : Int) := by omega
theorem sizes_any (m : Mv) (h1 : -10000000000 ≤ m.1 ∧ m.1 ≤ 10000000000) (h2 : -10000000000 ≤ m.2 ∧ m.2 ≤ 10000000000) (w : World) :
    Calls Try.prog 91 #[mvV m] w fun e w' => e = .returned (.tuple #[.int .i64 ((m.1.natAbs : Nat) : Int), .int .i64 ((m.2.natAbs : Nat) : Int)]) ∧ Below w.heap.size w w' := by
  obtain ⟨x, y⟩ := m
  simp only at h1 h2 ⊢
  unfold mvV
  have w1 : IntKind.i64.wrap (-x) = -x := by rw [IntKind.wrap_i64]; omega
  have w2 : IntKind.i64.wrap (-y) = -y := by rw [IntKind.wrap_i64]; omega
  have m1 := max_size x
  have m2 := max_size y
  generalize ((x.natAbs : Nat) : Int) = p at *
  generalize ((y.natAbs : Nat) : Int) = q at *
  go_enter Try.func91, Try.ntmps91
  go_wp2_with fail
  go_quiet (fail)
  go_wp2
  go_ret2
  exact ⟨rfl, below_drewN (mv_lies _ _) _⟩
def lenO (xs : List Mv) : Int := if mvB xs = true then lensM xs else -1
theorem lensM_big {xs : List Mv} (h : ∀ y ∈ xs, big y ≤ 10000000) : ∀ k, k ≤ xs.length → 0 ≤ lensM (xs.take k) ∧ lensM (xs.take k) ≤ 20000000 * (k : Int)
  | 0, _ => by simp [lensM]
  | k + 1, hk => by
    obtain ⟨a, ha⟩ : ∃ a, xs[k]? = some a := ⟨_, List.getElem?_eq_getElem (by omega)⟩
    rw [lensM_next ha]
    have h1 := lensM_big h k (by omega)
    have h2 := h a (List.mem_of_getElem? ha)
    unfold big at h2
    unfold lenM
    omega
set_option maxHeartbeats 1000000 in
theorem MovesLength_any (v : Value) (xs : List Mv) (w : World) (hv : ReadsL encM w v xs) : Calls Try.prog 41 #[v] w fun e w' => e = .returned (.int .i64 (lenO xs)) ∧ Below w.heap.size w w' := by
  have C := movesValid_any v xs w hv
  obtain ⟨p, cap, rfl, hc1, hc2, hp0, hp⟩ := hv
  simp only [maxLen] at hc2
  have HP := Lib.hid hp
  clear hp
  cases hq : mvB xs with
  | false =>
    rw [hq] at C
    have hl : lenO xs = -1 := by unfold lenO; rw [if_neg (by rw [hq]; decide)]
    rw [hl]
    go_enter Try.func41, Try.ntmps41
    go_wp2_with fail
    refine C.mono ?_; rintro e w2 ⟨rfl, hb2⟩
    have HB2 := Lib.hid hb2
    clear C hb2
    go_wp2_with fail
    go_ret
    exact ⟨rfl, HB2.out⟩
  | true =>
    rw [hq] at C
    have hl : lenO xs = lensM xs := by unfold lenO; rw [if_pos hq]
    rw [hl]
    have hok := mvB_parts hq
    have HK : Aside (∀ y ∈ xs, big y ≤ 10000000) := (show ∀ y ∈ xs, big y ≤ 10000000 from fun y hy => ok_big (hok.2 y hy))
    have hlen := hok.1
    clear hl hok hq
    go_enter Try.func41, Try.ntmps41
    go_wp2_with fail
    refine C.mono ?_; rintro e w2 ⟨rfl, hb2⟩
    have HB2 := Lib.hid hb2
    clear C hb2
    go_wp2_with fail
    go_loopw [3, 6, 7, 13, 17] (fun f _ _ i _ wr => ∃ k : Nat, k ≤ xs.length ∧ i = .int .i64 k ∧ f = .int .i64 (lensM (xs.take k)) ∧ Below w.heap.size w wr) (fun _ _ _ i _ _ => xs.length - (intOf i).toNat)
    case atStart => exact ⟨0, Nat.zero_le _, rfl, rfl, HB2.out⟩
    case round =>
      obtain ⟨k, hk, rfl, rfl, hb⟩ := hrel
      by_cases hlt : k < xs.length
      · have hkz : (k : Int) < (xs.length : Int) := by omega
        have hk0 : (0 : Int) ≤ (k : Int) := by omega
        obtain ⟨a, ha⟩ : ∃ a, xs[k]? = some a := ⟨_, List.getElem?_eq_getElem hlt⟩
        obtain ⟨g, o, rfl, hg, hr⟩ := HP.out (by rintro rfl; have := hp0 rfl; omega)
        obtain ⟨c0, c1⟩ := mv_cells (cells_below hr hg hb) ha
        have hb1 := HK.out a (List.mem_of_getElem? ha)
        have hb2 := lensM_big HK.out k hk
        have HN := Lib.hid (lensM_next ha)
        unfold big at hb1
        have S := fun w => sizes_any a (by omega) (by omega) w
        have w1 : IntKind.i64.wrap (((a.1.natAbs : Nat) : Int) + ((a.2.natAbs : Nat) : Int)) = lenM a := by rw [IntKind.wrap_i64]; unfold lenM; omega
        have w2 : IntKind.i64.wrap (lensM (xs.take k) + lenM a) = lensM (xs.take k) + lenM a := by rw [IntKind.wrap_i64]; unfold lenM; omega
        have HB := Lib.hid hb
        clear hr ha hb hb1 hb2
        unfold mvV at S
        generalize lensM (xs.take k) = n at *
        generalize lenM a = l at *
        generalize ((a.1.natAbs : Nat) : Int) = s1 at *
        generalize ((a.2.natAbs : Nat) : Int) = s2 at *
        go_wp2_with fail
        refine (S _).mono ?_; rintro e w3 ⟨rfl, hb3⟩
        have HB3 := Lib.hid (below_next HB.out (below_next (mv_lies wr _) hb3))
        clear S hb3 c0 c1
        go_wp2_with fail
        go_roundw
        case rel => exact ⟨k + 1, by omega, by go_num, by rw [HN.out], HB3.out⟩
        case measure => simp [intOf]; omega
      · obtain rfl : k = xs.length := by omega
        have HB := Lib.hid hb
        clear hb
        go_wp2
        go_ret
        exact ⟨ret_int (by rw [List.take_length]), HB.out⟩
set_option maxHeartbeats 1000000 in
theorem specMovesLength_any (v : Value) (xs : List Mv) (w : World) (hv : ReadsL encM w v xs) : Calls Try.prog 43 #[v] w fun e w' => e = .returned (.int .i64 (lenO xs)) ∧ Below w.heap.size w w' := by
  have C := specMoves_any v xs w hv
  obtain ⟨p, cap, rfl, hc1, hc2, hp0, hp⟩ := hv
  simp only [maxLen] at hc2
  have HP := Lib.hid hp
  clear hp
  cases hq : mvB xs with
  | false =>
    rw [hq] at C
    have hl : lenO xs = -1 := by unfold lenO; rw [if_neg (by rw [hq]; decide)]
    rw [hl]
    go_enter Try.func43, Try.ntmps43
    go_wp2_with fail
    refine C.mono ?_; rintro e w2 ⟨rfl, rfl⟩
    clear C
    go_wp2_with fail
    go_ret
    exact ⟨rfl, Below.refl _ _⟩
  | true =>
    rw [hq] at C
    have hl : lenO xs = lensM xs := by unfold lenO; rw [if_pos hq]
    rw [hl]
    have hok := mvB_parts hq
    have HK : Aside (∀ y ∈ xs, big y ≤ 10000000) := (show ∀ y ∈ xs, big y ≤ 10000000 from fun y hy => ok_big (hok.2 y hy))
    have hlen := hok.1
    clear hl hok hq
    go_enter Try.func43, Try.ntmps43
    go_wp2_with fail
    refine C.mono ?_; rintro e w2 ⟨rfl, rfl⟩
    clear C
    go_wp2_with fail
    go_loopw [3, 4] (fun f i wr => ∃ (k m : Nat), k ≤ xs.length ∧ i = .int .i64 k ∧ f = .int .i64 (lensM (xs.take k)) ∧ wr = w.drewN m) (fun _ i _ => xs.length - (intOf i).toNat)
    case atStart => exact ⟨0, 0, Nat.zero_le _, rfl, rfl, rfl⟩
    case round =>
      obtain ⟨k, m, hk, rfl, rfl, rfl⟩ := hrel
      by_cases hlt : k < xs.length
      · have hkz : (k : Int) < (xs.length : Int) := by omega
        have hk0 : (0 : Int) ≤ (k : Int) := by omega
        obtain ⟨a, ha⟩ : ∃ a, xs[k]? = some a := ⟨_, List.getElem?_eq_getElem hlt⟩
        obtain ⟨g, o, rfl, hg, hr⟩ := HP.out (by rintro rfl; have := hp0 rfl; omega)
        obtain ⟨c0, c1⟩ := mv_cells hr ha
        have hb1 := HK.out a (List.mem_of_getElem? ha)
        have hb2 := lensM_big HK.out k hk
        have HN := Lib.hid (lensM_next ha)
        unfold big at hb1
        have v1 : IntKind.i64.wrap (0 - a.1) = -a.1 := by rw [IntKind.wrap_i64]; omega
        have v2 : IntKind.i64.wrap (0 - a.2) = -a.2 := by rw [IntKind.wrap_i64]; omega
        have v3 : IntKind.i64.wrap (-a.1) = -a.1 := by rw [IntKind.wrap_i64]; omega
        have v4 : IntKind.i64.wrap (-a.2) = -a.2 := by rw [IntKind.wrap_i64]; omega
        have m1 := max_size a.1
        have m2 := max_size a.2
        have w1 : IntKind.i64.wrap (lensM (xs.take k) + ((a.1.natAbs : Nat) : Int)) = lensM (xs.take k) + ((a.1.natAbs : Nat) : Int) := by rw [IntKind.wrap_i64]; omega
        have w2 : IntKind.i64.wrap (lensM (xs.take k) + ((a.1.natAbs : Nat) : Int) + ((a.2.natAbs : Nat) : Int)) = lensM (xs.take k) + ((a.1.natAbs : Nat) : Int) + ((a.2.natAbs : Nat) : Int) := by rw [IntKind.wrap_i64]; omega
        have HE : Aside (lensM (xs.take k) + ((a.1.natAbs : Nat) : Int) + ((a.2.natAbs : Nat) : Int) = lensM (xs.take k) + lenM a) := (show _ = _ from by unfold lenM; omega)
        clear hr ha hb1 hb2
        generalize lensM (xs.take k) = n at *
        generalize ((a.1.natAbs : Nat) : Int) = s1 at *
        generalize ((a.2.natAbs : Nat) : Int) = s2 at *
        go_wp2_with fail
        go_quiet (fail)
        clear c0 c1
        go_wp2_with fail
        go_roundw
        case rel => exact ⟨k + 1, _, by omega, by go_num, by rw [HN.out, ← HE.out], rfl⟩
        case measure => simp [intOf]; omega
      · obtain rfl : k = xs.length := by omega
        go_wp2
        go_ret
        exact ⟨ret_int (by rw [List.take_length]), below_drewN (Below.refl _ _) m⟩
end Go.Proofs.Ytnidiikcnplebaa
/- Both sides: the paths of moves. -/
namespace Go.Proofs.Ytnidiikcnplebaa
set_option maxRecDepth 20000
open Go.ChangeShapes Go.WideShapes Go.ChangeAt Go.RowKit
set_option linter.unusedVariables false
set_option linter.unusedSimpArgs false

/-- So many units, as a part of a point. -/
def quoW (n : Int) (g : Nat) : Nat := (floatBits .quo .f32 (floatOfInt .f32 n) (sclW g)).getD 0
theorem fs_int {n : Int} (h : -10000000000 ≤ n ∧ n ≤ 10000000000) : FS (floatOfInt .f32 n) (decide (n < 0)) (rndN 23 n.natAbs * 2 ^ loS) := by
  refine int_fv fmtS n (fits_small (by decide) ?_)
  have e : n.natAbs * 2 ^ loS < 2 ^ (34 + loS) := by
    rw [Nat.pow_add]; exact Nat.mul_lt_mul_of_pos_right (by omega) (Nat.two_pow_pos _)
  have := log_of_lt e (by omega)
  rw [loS_eq] at this; rw [loS_eq]; omega
theorem quo_some {n : Int} {g : Nat} (h : -10000000000 ≤ n ∧ n ≤ 10000000000) (hg : g ≤ 8) : floatBits .quo .f32 (floatOfInt .f32 n) (sclW g) = some (quoW n g) := by
  obtain ⟨m, b, r, -⟩ := fs_int h
  have hs := scl_read hg
  unfold quoW
  have : ∃ z, floatBits .quo .f32 (floatOfInt .f32 n) (sclW g) = some z := by
    show ∃ z, ((Ieee.single.read (floatOfInt .f32 n)).quotient (Ieee.single.fractionBits + 2) (Ieee.single.read (sclW g))).map Ieee.single.write = some z
    rw [r, hs]
    simp only [Ieee.Datum.quotient]
    rw [if_neg (Nat.ne_of_gt (Nat.two_pow_pos 23))]
    exact ⟨_, rfl⟩
  obtain ⟨z, hz⟩ := this
  rw [hz]; rfl
def ptW (g : Nat) (m : Mv) : Pn := (quoW m.1 g, quoW m.2 g)
/-- The points that moves lead to. -/
def pathL (g : Nat) (xs : List Mv) : List Pn := (List.range xs.length).map fun k => ptW g (sumM (xs.take (k + 1)))
theorem pathL_len (g : Nat) (xs : List Mv) : (pathL g xs).length = xs.length := by simp [pathL]
theorem pathL_at {g k : Nat} {xs : List Mv} (h : k < xs.length) : (pathL g xs)[k]? = some (ptW g (sumM (xs.take (k + 1)))) := by simp [pathL, h]
theorem pathL_next {g k : Nat} {xs : List Mv} (h : k < xs.length) : (pathL g xs).take (k + 1) = (pathL g xs).take k ++ [ptW g (sumM (xs.take (k + 1)))] := take_nextL (pathL_at h)
def mpO (xs : List Mv) (g : Int) : Option (List Pn) := if mvB xs && grB g && pvB (pathL g.toNat xs) then some (pathL g.toNat xs) else none
theorem mpO_1 {xs : List Mv} {g : Int} (h : mvB xs = false) : mpO xs g = none := by unfold mpO; rw [h]; rfl
theorem mpO_2 {xs : List Mv} {g : Int} (h : grB g = false) : mpO xs g = none := by unfold mpO; rw [h, Bool.and_false]; rfl
theorem mpO_3 {xs : List Mv} {n : Nat} (h : pvB (pathL n xs) = false) : mpO xs n = none := by
  unfold mpO
  rw [Int.toNat_natCast, h, Bool.and_false]; rfl
theorem mpO_yes {xs : List Mv} {n : Nat} (h : mvB xs = true) (h2 : grB n = true) (h3 : pvB (pathL n xs) = true) : mpO xs n = some (pathL n xs) := by
  unfold mpO
  rw [Int.toNat_natCast, h, h2, h3]; rfl
theorem gridPoint_any (g : Nat) (m : Mv) (hg : g ≤ 8) (h1 : -10000000000 ≤ m.1 ∧ m.1 ≤ 10000000000) (h2 : -10000000000 ≤ m.2 ∧ m.2 ≤ 10000000000) (w : World) :
    Calls Try.prog 118 #[.int .i64 g, mvV m] w fun e w' => e = .returned (csP (ptW g m)) ∧ Below w.heap.size w w' := by
  have S := fun w => scale_any g hg w
  have R1 : ∀ t w, (binOp .quo t (.float .f32 (floatOfInt .f32 m.1)) (.float .f32 (sclW g))).run Try.prog w = .ok (.float .f32 (quoW m.1 g)) w := fun t w => run_float_arith w .quo t .f32 _ _ _ (quo_some h1 hg)
  have R2 : ∀ t w, (binOp .quo t (.float .f32 (floatOfInt .f32 m.2)) (.float .f32 (sclW g))).run Try.prog w = .ok (.float .f32 (quoW m.2 g)) w := fun t w => run_float_arith w .quo t .f32 _ _ _ (quo_some h2 hg)
  obtain ⟨x, y⟩ := m
  unfold csP cs ptW mvV
  simp only at R1 R2 ⊢
  clear h1 h2 hg
  generalize quoW x g = p at *
  generalize quoW y g = q at *
  generalize sclW g = sc at *
  go_enter Try.func118, Try.ntmps118
  go_wp2_with fail
  go_quiet (first | rw [R1] | rw [R2] | (go_at_call 133; exact calm ⟨_, rfl⟩ (S _)) | (go_at_call 133; exact calm2 (S _)))
  go_wp2
  go_ret
  exact ⟨rfl, below_drewN (mv_lies _ _) _⟩
theorem sumM_in {xs : List Mv} (h : ∀ y ∈ xs, big y ≤ 10000000) (hl : xs.length ≤ 100) {k : Nat} (hk : k ≤ xs.length) : (-1000000000 ≤ (sumM (xs.take k)).1 ∧ (sumM (xs.take k)).1 ≤ 1000000000) ∧ (-1000000000 ≤ (sumM (xs.take k)).2 ∧ (sumM (xs.take k)).2 ≤ 1000000000) := by
  have := sumM_big h k hk
  unfold big at this
  omega
set_option maxHeartbeats 2000000 in
theorem movesPath_any (v : Value) (g : Nat) (xs : List Mv) (w : World) (hv : ReadsL encM w v xs) (hg : g ≤ 8) (hq : mvB xs = true) :
    Calls Try.prog 86 #[v, .int .i64 g] w fun e w' => ∃ v', e = .returned v' ∧ OwnL encC 1 w' w.heap.size 35 v' (pathL g xs) ∧ Below w.heap.size w w' := by
  obtain ⟨p, cap, rfl, hc1, hc2, hp0, hp⟩ := hv
  simp only [maxLen] at hc2
  have hok := mvB_parts hq
  have HK : Aside (∀ y ∈ xs, big y ≤ 10000000) := (show ∀ y ∈ xs, big y ≤ 10000000 from fun y hy => ok_big (hok.2 y hy))
  have hlen := hok.1
  have HP := Lib.hid hp
  clear hp hok hq
  go_enter Try.func86, Try.ntmps86
  go_wp2_with (refine makeL (en := encC) tyPa rfl rfl xs.length rfl rfl (by omega) (Below.refl _ w) (Nat.le_refl _) ?_; intro w2 ho1 hb1 hB1)
  have O0 : OwnL encC 1 (w2.alloc (.cells #[.int .i64 0, .int .i64 0] 45)) w.heap.size 35 (.slice (some ⟨w.heap.size, 0, none⟩) ((pathL g xs).take 0).length xs.length) ((pathL g xs).take 0) := World.ownsRow.alloc ho1 _
  have R0 : RowAt (w2.alloc (.cells #[.int .i64 0, .int .i64 0] 45)) w2.heap.size 2 45 (mfn (sumM (xs.take 0))) := RowAt.newAt rfl rfl
  have B0 : Below w.heap.size w (w2.alloc (.cells #[.int .i64 0, .int .i64 0] 45)) := below_next hb1 (mv_lies _ _)
  have Z0 : w.heap.size < w2.heap.size := (ho1.lt w.heap.size rfl).2
  have HZ := Lib.hid Z0
  clear ho1 hb1 hB1 Z0
  show Code.wp _ _ _ _ (w2.alloc (.cells #[.int .i64 0, .int .i64 0] 45))
  generalize w2.alloc (.cells #[.int .i64 0, .int .i64 0] 45) = W0 at *
  generalize w2.heap.size = g6 at *
  go_loopw [5, 14] (fun v' i wr => ∃ k : Nat, k ≤ xs.length ∧ i = .int .i64 k ∧ v' = .slice (some ⟨w.heap.size, 0, none⟩) ((pathL g xs).take k).length xs.length ∧ OwnL encC 1 wr w.heap.size 35 (.slice (some ⟨w.heap.size, 0, none⟩) ((pathL g xs).take k).length xs.length) ((pathL g xs).take k) ∧ RowAt wr g6 2 45 (mfn (sumM (xs.take k))) ∧ Below w.heap.size w wr) (fun _ i _ => xs.length - (intOf i).toNat)
  case atStart => exact ⟨0, Nat.zero_le _, rfl, rfl, O0, R0, B0⟩
  case round =>
    clear O0 R0 B0
    obtain ⟨k, hk, rfl, rfl, hO, hR, hbel⟩ := hrel
    by_cases hlt : k < xs.length
    · have hkz : (k : Int) < (xs.length : Int) := by omega
      have hk0 : (0 : Int) ≤ (k : Int) := by omega
      obtain ⟨a, ha⟩ : ∃ a, xs[k]? = some a := ⟨_, List.getElem?_eq_getElem hlt⟩
      obtain ⟨gg, o, rfl, hgg, hr⟩ := HP.out (by rintro rfl; have := hp0 rfl; omega)
      obtain ⟨c0, c1⟩ := mv_cells (cells_below hr hgg hbel) ha
      have hb1 := sumM_in HK.out hlen hk
      have hb2 := sumM_in HK.out hlen (k := k + 1) (by omega)
      have hba := HK.out a (List.mem_of_getElem? ha)
      unfold big at hba
      have P := fun w => plus_mv (sumM (xs.take k)) a (by omega) (by omega) (by omega) (by omega) w
      rw [← sumM_next ha] at P
      have Q := fun w => gridPoint_any g (sumM (xs.take (k + 1))) hg (by omega) (by omega) w
      have HN := Lib.hid (pathL_next (g := g) hlt)
      have hpl : ((pathL g xs).take k).length + 1 ≤ xs.length := by rw [List.length_take]; omega
      have HPL := Lib.hid hpl
      have HO := Lib.hid hO
      have HL := Lib.hid hbel
      have HR := Lib.hid hR
      clear hr ha hb1 hb2 hba hO hbel hpl
      obtain ⟨s1, hs1⟩ : ∃ s, sumM (xs.take (k + 1)) = s := ⟨_, rfl⟩
      have HS1 := Lib.hid hs1
      rw [hs1] at P Q HN
      clear hs1
      generalize sumM (xs.take k) = s0 at *
      obtain ⟨z, hz⟩ : ∃ z, ptW g s1 = z := ⟨_, rfl⟩
      rw [hz] at Q HN
      clear hz
      generalize (pathL g xs).take k = LL at *
      have r0 : wr.cell? ⟨g6, 0, none⟩ = some (.int .i64 s0.1) := hR.cell (k := 0) (by decide)
      have r1 : wr.cell? ⟨g6, 1, none⟩ = some (.int .i64 s0.2) := hR.cell (k := 1) (by decide)
      have rl := hR.lt
      clear hR
      unfold csP cs at Q
      have P' : ∀ w, Calls Try.prog 117 #[.agg (vec 2 (mfn s0)), .agg (vec 2 (mfn a))] w fun e w' => e = .returned (.agg (vec 2 (mfn s1))) ∧ Below w.heap.size w w' := P
      have Q' : ∀ w, Calls Try.prog 118 #[.int .i64 g, .agg (vec 2 (mfn s1))] w fun e w' => e = .returned (.complex .f32 z.1 z.2) ∧ Below w.heap.size w w' := Q
      clear P Q
      go_upto_region 6 with fail
      show Code.wp _ _ _ _ (wr.alloc (.cells #[.int .i64 a.1, .int .i64 a.2] 45))
      have HRa : Aside (RowAt (wr.alloc (.cells #[.int .i64 a.1, .int .i64 a.2] 45)) wr.heap.size 2 45 (mfn a)) := (show RowAt _ _ _ _ _ from RowAt.newAt rfl rfl)
      have HR6 := Lib.hid (HR.out.alloc (.cells #[.int .i64 a.1, .int .i64 a.2] 45))
      have HO6 := Lib.hid (World.ownsRow.alloc HO.out (.cells #[.int .i64 a.1, .int .i64 a.2] 45))
      have HL6 := Lib.hid (below_next HL.out (mv_lies wr (.cells #[.int .i64 a.1, .int .i64 a.2] 45)))
      clear HR HO HL r0 r1 rl c0 c1
      generalize wr.alloc (.cells #[.int .i64 a.1, .int .i64 a.2] 45) = w5 at *
      generalize wr.heap.size = ga at *
      go_wp2_with (first | (refine load_row (g := g6) rfl rfl rfl HR6.out Try.underlying45 rfl info_mv ?_) | (refine load_row (g := ga) rfl rfl rfl HRa.out Try.underlying45 rfl info_mv ?_))
      refine (P' _).mono ?_; rintro e w7 ⟨rfl, hb7⟩
      have HR7 := Lib.hid (HR6.out.below hb7)
      have HO7 := Lib.hid (rows_below HO6.out hb7)
      have HL7 := Lib.hid (below_next HL6.out hb7)
      clear hb7 HR6 HO6 HL6 HRa P'
      go_upto_region 7 with (first | (refine store_row (g := g6) (f' := mfn s1) rfl rfl rfl rfl HR7.out info_mv ?_))
      show Code.wp _ _ _ _ (w7.setRow g6 (vec 2 (mfn s1)))
      have HR8 := Lib.hid (HR7.out.setRow (f' := mfn s1))
      have HO8 := Lib.hid (own_setRow_ne HO7.out (gx := g6) (by simp [Value.ownBlock]; have := HZ.out; omega) (vec 2 (mfn s1)))
      have HL8 := Lib.hid (below_setRow HL7.out (Nat.le_of_lt HZ.out) (vec 2 (mfn s1)))
      clear HR7 HO7 HL7
      generalize w7.setRow g6 (vec 2 (mfn s1)) = w8 at *
      go_wp2_with (first | (refine load_row (g := g6) rfl rfl rfl HR8.out Try.underlying45 rfl info_mv ?_))
      refine (Q' _).mono ?_; rintro e w9 ⟨rfl, hb9⟩
      have HR9 := Lib.hid (HR8.out.below hb9)
      have HO9 := Lib.hid (rows_below HO8.out hb9)
      have HL9 := Lib.hid (below_next HL8.out hb9)
      clear hb9 HR8 HO8 HL8 Q'
      go_wp2_with (at_builtin; refine append_fitL tyPa encC_ok rfl rfl rfl rfl (xs := LL) (ys := [z]) (World.ownsRow.alloc HO9.out _) (litL_range (en := encC) _ z _) HPL.out ?_; intro w10 ho10 hgr10)
      have HR10 : Aside (RowAt w10 g6 2 45 (mfn s1)) := (show RowAt _ _ _ _ _ from (hgr10.block g6 (by have := HR9.out.lt; simp; omega) (fun e => by cases e; exact absurd HZ.out (Nat.lt_irrefl _))).trans (HR9.out.alloc _))
      have HL10 := Lib.hid ((below_next HL9.out (mv_lies w9 (.cells #[.complex .f32 z.1 z.2] 35))).grown hgr10 (by have := HL9.out.size; simp; omega) (fun k hk => by cases hk; exact Nat.le_refl _))
      clear hgr10 HR9 HO9 HL9
      go_roundw
      case rel => exact ⟨k + 1, by omega, by go_num, by simp [HN.out], by rw [HN.out]; exact ho10, by rw [HS1.out]; exact HR10.out, HL10.out⟩
      case measure => simp [intOf]; omega
    · obtain rfl : k = xs.length := by omega
      have HO := Lib.hid hO
      have HL := Lib.hid hbel
      clear hO hbel hR
      go_wp2
      go_ret
      have ho := HO.out
      rw [List.take_of_length_le (by rw [pathL_len]; exact Nat.le_refl _)] at ho
      exact ⟨_, by rw [List.take_of_length_le (by rw [pathL_len]; exact Nat.le_refl _)]; rfl, ho, HL.out⟩
end Go.Proofs.Ytnidiikcnplebaa
