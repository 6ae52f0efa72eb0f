/-
  The exact laws' helpers on lists of moves: copied, counted, compared, marked, held.
  The exact laws' helpers on lists of moves, continued: compared, marked, held.
-/
import Derived.Test.YtnidiikcnplebaaM26
import Derived.Test.YtnidiikcnplebaaM21
import Derived.OrdersHeld
/- The exact laws' helpers on lists of moves: copied, counted, compared, marked, held. -/
namespace Go.Proofs.Ytnidiikcnplebaa
set_option maxRecDepth 20000
open Go.ChangeShapes Go.WideShapes Go.ChangeAt Go.RowKit
set_option linter.unusedVariables false
set_option linter.unusedSimpArgs false

theorem szMoves_yes (v : Value) (ws : List Mv) (left : Int) (w : World) (hv : LiesL encM w v ws) (hl : left ≤ 1048576) (h : (ws.length : Int) ≤ left) :
    Calls Try.prog 57 #[v, .int .i64 left] w fun e w' => e = .returned (.int .i64 (left - (ws.length : Int))) ∧ w = w' := by
  obtain ⟨p, cap, rfl, hc1, hc2, -⟩ := hv
  have r1 : IntKind.i64.wrap (left - (ws.length : Int)) = left - (ws.length : Int) := by rw [IntKind.wrap_i64]; omega
  have hb : ¬ left - (ws.length : Int) < 0 := by omega
  go_enter Try.func57, Try.ntmps57
  go_wp2
  go_ret
  exact ⟨rfl, rfl⟩
theorem szMoves_no (v : Value) (ws : List Mv) (left : Int) (w : World) (hv : LiesL encM w v ws) (h0 : 0 ≤ left) (hl : left ≤ 1048576) (h : left < (ws.length : Int)) :
    Calls Try.prog 57 #[v, .int .i64 left] w fun e w' => e = .returned (.int .i64 (-1)) ∧ w = w' := by
  obtain ⟨p, cap, rfl, hc1, hc2, -⟩ := hv
  simp only [maxLen] at hc2
  have r1 : IntKind.i64.wrap (left - (ws.length : Int)) = left - (ws.length : Int) := by rw [IntKind.wrap_i64]; omega
  have hb : left - (ws.length : Int) < 0 := by omega
  go_enter Try.func57, Try.ntmps57
  go_wp2
  go_ret
  exact ⟨rfl, rfl⟩
theorem toMv_any (m : Mv) (w : World) : Calls Try.prog 98 #[mvV m] w fun e w' => e = .returned (mvV m) ∧ Below w.heap.size w w' := by
  obtain ⟨x, y⟩ := m
  unfold mvV
  go_enter Try.func98, Try.ntmps98
  go_wp2
  simp [bodyPost, results, Try.results98, go_sem]
  exact below_next (below_next (below_next (mv_lies w _) (mv_lies _ _)) (mv_lies _ _)) (Below.refl _ _)
theorem made_zerosM (n : Nat) : (madeCells (Value.agg #[.int .i64 0, .int .i64 0]).cells (n * 2)).toList = flt encM (List.replicate n ((0, 0) : Mv)) := by
  apply List.ext_getElem?
  intro i
  by_cases hi : i < n * 2
  · have h1 := flt_at encM_ok (xs := List.replicate n ((0, 0) : Mv)) (i := i / 2) (a := (0, 0)) (by rw [List.getElem?_replicate, if_pos (by omega)]) (i % 2) (by omega)
    rw [show i / 2 * 2 + i % 2 = i from by omega] at h1
    rw [h1]
    have h2 : (encM (0, 0))[i % 2]? = some (.int .i64 0) := by
      rcases (show i % 2 = 0 ∨ i % 2 = 1 by omega) with h | h <;> rw [h] <;> rfl
    rw [h2]
    rcases (show i % 2 = 0 ∨ i % 2 = 1 by omega) with h | h <;> simp [madeCells, Value.cells, hi, h]
  · rw [List.getElem?_eq_none (by simp [madeCells]; omega), List.getElem?_eq_none (by rw [flt_length encM_ok]; simp; omega)]
theorem zero_mv : (Try.prog.info? 45).map (·.zero) = some (some (.agg #[.int .i64 0, .int .i64 0])) := by kernel_rfl
section
variable {P : Program} {t e : TypeId} {ops : Array Oper} {rest : List Oper} {o : Oper} {a : Act} {Q : Exit → Act → World → Prop} {w0 w : World} {B : Nat}
/-- 'make' of a list of moves of nothing. -/
theorem make_fullM (ty : TyL P t e 2) (hz : (P.info? e).map (·.zero) = some (some (.agg #[.int .i64 0, .int .i64 0]))) (hgd : o.guard = none) {l c : Operand} (hop : o.op = .makeSlice t l c) (n : Nat) (hl : a.eval l = .int .i64 n) (hc : a.eval c = .int .i64 n) (hn : n ≤ 1000000000)
    (h : ∀ w', w'.ownsRow w.heap.size e 2 (.slice (some ⟨w.heap.size, 0, none⟩) n n) n (flt encM (List.replicate n ((0, 0) : Mv))) → Below w.heap.size w w' → wpList P ops Q rest (a.put o.dst (.slice (some ⟨w.heap.size, 0, none⟩) n n)) w') : wpList P ops Q (o :: rest) a w := by
  obtain ⟨i, z, hi, hz0, hs, hby, hzs⟩ := ty.inf
  have hzz : i.zero = some (.agg #[.int .i64 0, .int .i64 0]) := by rw [hi] at hz; simpa using hz
  refine wpList_plain hgd fun K hK' => ?_
  have h1 : i.bytes * n ≤ 281474976710656 := by have := Nat.mul_le_mul hby hn; omega
  obtain ⟨w', hrun, r1, r2⟩ := run_make_full (P := P) w w.heap.size t e i _ 2 ty.sl hi hzz hs .i64 .i64 n h1 (by simp only [maxLen]; omega) (Nat.le_refl _)
  rw [made_zerosM] at r1
  unfold Oper.wp
  simp [execOp, hop, hl, hc, hrun, Result.andThen]
  exact hK' _ _ (h w' r1 ((Below.refl _ _).grown r2 (Nat.le_refl _) fun k hk => by cases hk))
theorem store_mv {ty : TypeId} {g p : Nat} {m : Mv} (hgd : o.guard = none) {x y : Operand} (ho : o.op = .store ty x y) (hx : a.eval x = .pointer (some ⟨g, p, none⟩)) (hy : a.eval y = mvV m)
    (ht : w.there g p 2) (hi : (P.info? ty).map (·.size) = some 2) (h : wpList P ops Q rest (a.put o.dst undef) (w.setCells g p (encM m))) : wpList P ops Q (o :: rest) a w :=
  wpList_store_mid hgd ty x y ho g p #[.int .i64 m.1, .int .i64 m.2] hx hy ht hi (by simp [Value.oneCell']) h
end
theorem info_lawMv : (Try.prog.info? 126).map (·.size) = some 2 := by kernel_rfl
theorem own_below2 {w w' : World} {B T g n cap : Nat} {xs : List Value} (h : w.ownsRow B T 2 (.slice (some ⟨g, 0, none⟩) n cap) n xs) (hb : Below w.heap.size w w') : w'.ownsRow B T 2 (.slice (some ⟨g, 0, none⟩) n cap) n xs := rows_below h hb
set_option maxHeartbeats 2000000 in
theorem toMoves_any (v : Value) (ws : List Mv) (w : World) (hv : LiesL encM w v ws) (hn : ws.length ≤ 1048576) :
    Calls Try.prog 58 #[v] w fun e w' => Below w.heap.size w w' ∧ ∃ v', e = .returned v' ∧ OwnL encM 2 w' w.heap.size 45 v' ws := by
  obtain ⟨p, cap, rfl, hc1, hc2, hp⟩ := hv
  simp only [maxLen] at hc2
  have HP := Lib.hid hp
  clear hp
  go_enter Try.func58, Try.ntmps58
  go_wp2_with (refine make_fullM tyN zero_mv rfl rfl ws.length rfl rfl (by omega) ?_; intro w1 ho1 hb1)
  rw [← halfL_none] at ho1
  go_loopw [4] (fun i wr => ∃ k : Nat, k ≤ ws.length ∧ i = .int .i64 k ∧ wr.ownsRow w.heap.size 45 2 (.slice (some ⟨w.heap.size, 0, none⟩) ws.length ws.length) ws.length (flt encM (halfL (0, 0) ws k)) ∧ Below w.heap.size w wr) (fun i _ => ws.length - (intOf i).toNat)
  case atStart => exact ⟨0, Nat.zero_le _, rfl, ho1, hb1⟩
  case round =>
    clear ho1 hb1
    obtain ⟨k, hk, rfl, hO, hbel⟩ := hrel
    by_cases hlt : k < ws.length
    · have hkz : (k : Int) < (ws.length : Int) := by omega
      have hk0 : (0 : Int) ≤ (k : Int) := by omega
      obtain ⟨c, hc⟩ : ∃ c, ws[k]? = some c := ⟨_, List.getElem?_eq_getElem hlt⟩
      obtain ⟨g, o, rfl, hg, hr⟩ := HP.out (by intro e; rw [e] at hlt; simp at hlt)
      obtain ⟨c0, c1⟩ := mv_cells (cells_below hr hg hbel) hc
      have HC := Lib.hid hc
      have HO := Lib.hid hO
      have HL := Lib.hid hbel
      have T := fun w => toMv_any c w
      clear hr hc hO hbel
      unfold mvV at T
      go_wp2_with fail
      refine (T _).mono ?_; rintro e w2 ⟨rfl, hb2⟩
      have hzz : w.heap.size ≤ wr.heap.size := HL.out.size
      have hO2 := own_below2 HO.out hb2
      have HT : Aside (w2.there w.heap.size (k * 2) 2) := (show w2.there _ _ _ from rows_there (o := 0) hO2 hlt (by omega))
      have HO3 : Aside ((w2.setCells w.heap.size (k * 2) (encM c)).ownsRow w.heap.size 45 2 (.slice (some ⟨w.heap.size, 0, none⟩) ws.length ws.length) ws.length (flt encM (halfL (0, 0) ws (k + 1)))) := (show World.ownsRow _ _ _ _ _ _ _ from by
        rw [← halfL_set HC.out]; exact ownL_set encM_ok c hO2 (halfL_at hlt))
      have HL3 : Aside (Below w.heap.size w (w2.setCells w.heap.size (k * 2) (encM c))) := below_setCells (Nat.le_refl _) _ _ _ (below_next HL.out hb2)
      clear hO2 hb2 HO HL T c0 c1
      go_wp2_with (first | (refine store_mv (ty := 45) (g := w.heap.size) (p := k * 2) (m := c) rfl rfl rfl rfl HT.out info_mv ?_; clear HT))
      go_roundw
      case rel => exact ⟨k + 1, by omega, by go_num, HO3.out, HL3.out⟩
      case measure => simp [intOf]; omega
    · obtain rfl : k = ws.length := by omega
      rw [halfL_all] at hO
      have HO := Lib.hid hO
      have HL := Lib.hid hbel
      clear hO hbel
      go_wp2
      go_ret
      exact ⟨HL.out, _, rfl, HO.out⟩
theorem eqMv_yes (m : Mv) (w : World) : Calls Try.prog 99 #[mvV m, mvV m] w fun e w' => e = .returned (.bool true) ∧ Below w.heap.size w w' := by
  obtain ⟨x, y⟩ := m
  unfold mvV
  go_enter Try.func99, Try.ntmps99
  go_wp2
  go_ret
  exact ⟨rfl, below_next (mv_lies w _) (mv_lies _ _)⟩
end Go.Proofs.Ytnidiikcnplebaa
/- The exact laws' helpers on lists of moves, continued: compared, marked, held. -/
namespace Go.Proofs.Ytnidiikcnplebaa
set_option maxRecDepth 20000
open Go.ChangeShapes Go.WideShapes Go.ChangeAt Go.RowKit
set_option linter.unusedVariables false
set_option linter.unusedSimpArgs false

theorem size_mvE (m : Mv) : (Try.prog.info? 45).map (·.size) = some (encM m).length := by rw [encM_ok.len]; exact info_mv
set_option maxHeartbeats 2000000 in
theorem eqMoves_yes (va vb : Value) (L : List Mv) (w : World) (ha : ReadsL encM w va L) (hb : ReadsL encM w vb L) : Calls Try.prog 59 #[va, vb] w fun e w' => e = .returned (.bool true) ∧ Below w.heap.size w w' := by
  obtain ⟨p, cap, rfl, hc1, hc2, hp0, hp⟩ := ha
  obtain ⟨q, cap2, rfl, hd1, hd2, hq0, hq⟩ := hb
  simp only [maxLen] at hc2
  have hlb : ((L.length : Int) != (L.length : Int)) = false := by simp
  have HP := Lib.hid hp
  have HQ := Lib.hid hq
  clear hp hq
  go_enter Try.func59, Try.ntmps59
  go_wp2
  go_loopw [5] (fun i wr => ∃ k : Nat, k ≤ L.length ∧ i = .int .i64 k ∧ Below w.heap.size w wr) (fun i _ => L.length - (intOf i).toNat)
  case atStart => exact ⟨0, Nat.zero_le _, rfl, Below.refl _ _⟩
  case round =>
    obtain ⟨k, hk, rfl, hbel⟩ := hrel
    have HL := Lib.hid hbel
    clear hbel
    by_cases hlt : k < L.length
    · have hkz : (k : Int) < (L.length : Int) := by omega
      have hk0 : (0 : Int) ≤ (k : Int) := by omega
      obtain ⟨c, hc⟩ : ∃ c, L[k]? = some c := ⟨_, List.getElem?_eq_getElem hlt⟩
      obtain ⟨g, o, rfl, hg, hr⟩ := HP.out (by rintro rfl; have := hp0 rfl; omega)
      obtain ⟨g2, o2, rfl, hg2, hr2⟩ := HQ.out (by rintro rfl; have := hq0 rfl; omega)
      have HE : Aside (g < w.heap.size ∧ w.rangeAt g (o + k * 2) (encM c)) := (show _ ∧ _ from ⟨hg, cells_part encM_ok hr hc⟩)
      have HE2 : Aside (g2 < w.heap.size ∧ w.rangeAt g2 (o2 + k * 2) (encM c)) := (show _ ∧ _ from ⟨hg2, cells_part encM_ok hr2 hc⟩)
      have T : ∀ w, Calls Try.prog 99 #[.agg (encM c).toArray, .agg (encM c).toArray] w fun e w' => e = .returned (.bool true) ∧ Below w.heap.size w w' := fun w => eqMv_yes c w
      clear hr hr2 hc hg hg2
      go_upto_region 6 with fail
      refine wp_region_held_drew (S := fun w' => Below w.heap.size w w') (by kernel_rfl) HL.out.drew (fun hHeld => ?_)
      refine wpAnyH_take (i := 0) (oi := _) (v := .slice (some ⟨g, o, none⟩) L.length cap) rfl (by kernel_rfl) (by kernel_rfl) (by kernel_rfl) (fun _ _ _ h => h) (Or.inl ⟨by rfl, fun w h => by go_simp⟩) hHeld ?_
      try simp only [Act.put, List.setIfInBounds_toArray, List.set_cons_zero, List.set_cons_succ, List.getElem_toArray, List.getElem_cons_succ, List.getElem_cons_zero]
      refine wpAnyH_take (i := 1) (oi := _) (v := .int .i64 k) rfl (by kernel_rfl) (by kernel_rfl) (by kernel_rfl) (fun _ _ _ h => h) (Or.inl ⟨by rfl, fun w h => by go_simp⟩) hHeld ?_
      try simp only [Act.put, List.setIfInBounds_toArray, List.set_cons_zero, List.set_cons_succ, List.getElem_toArray, List.getElem_cons_succ, List.getElem_cons_zero]
      refine wpAnyH_take (i := 2) (oi := _) (v := .pointer (some ⟨g, o + k * 2, none⟩)) rfl (by kernel_rfl) (by kernel_rfl) (by kernel_rfl) (fun _ _ _ h => h) (Or.inl ⟨by rfl, fun w h => by go_simp⟩) hHeld ?_
      try simp only [Act.put, List.setIfInBounds_toArray, List.set_cons_zero, List.set_cons_succ, List.getElem_toArray, List.getElem_cons_succ, List.getElem_cons_zero]
      refine wpAnyH_take (i := 3) (oi := _) (v := .agg (encM c).toArray) rfl (by kernel_rfl) (by kernel_rfl) (by kernel_rfl) (fun _ _ _ h => h) (yieldsIf_load_mid (by rfl) _ _ rfl _ _ rfl _ _ ((fun w h => range_keptP HE.out.2 HE.out.1 h)) Try.underlying45 rfl (size_mvE c)) hHeld ?_
      try simp only [Act.put, List.setIfInBounds_toArray, List.set_cons_zero, List.set_cons_succ, List.getElem_toArray, List.getElem_cons_succ, List.getElem_cons_zero]
      refine wpAnyH_take (i := 4) (oi := _) (v := .slice (some ⟨g2, o2, none⟩) L.length cap2) rfl (by kernel_rfl) (by kernel_rfl) (by kernel_rfl) (fun _ _ _ h => h) (Or.inl ⟨by rfl, fun w h => by go_simp⟩) hHeld ?_
      try simp only [Act.put, List.setIfInBounds_toArray, List.set_cons_zero, List.set_cons_succ, List.getElem_toArray, List.getElem_cons_succ, List.getElem_cons_zero]
      refine wpAnyH_take (i := 5) (oi := _) (v := .int .i64 k) rfl (by kernel_rfl) (by kernel_rfl) (by kernel_rfl) (fun _ _ _ h => h) (Or.inl ⟨by rfl, fun w h => by go_simp⟩) hHeld ?_
      try simp only [Act.put, List.setIfInBounds_toArray, List.set_cons_zero, List.set_cons_succ, List.getElem_toArray, List.getElem_cons_succ, List.getElem_cons_zero]
      refine wpAnyH_take (i := 6) (oi := _) (v := .pointer (some ⟨g2, o2 + k * 2, none⟩)) rfl (by kernel_rfl) (by kernel_rfl) (by kernel_rfl) (fun _ _ _ h => h) (Or.inl ⟨by rfl, fun w h => by go_simp⟩) hHeld ?_
      try simp only [Act.put, List.setIfInBounds_toArray, List.set_cons_zero, List.set_cons_succ, List.getElem_toArray, List.getElem_cons_succ, List.getElem_cons_zero]
      refine wpAnyH_take (i := 7) (oi := _) (v := .agg (encM c).toArray) rfl (by kernel_rfl) (by kernel_rfl) (by kernel_rfl) (fun _ _ _ h => h) (yieldsIf_load_mid (by rfl) _ _ rfl _ _ rfl _ _ ((fun w h => range_keptP HE2.out.2 HE2.out.1 h)) Try.underlying45 rfl (size_mvE c)) hHeld ?_
      try simp only [Act.put, List.setIfInBounds_toArray, List.set_cons_zero, List.set_cons_succ, List.getElem_toArray, List.getElem_cons_succ, List.getElem_cons_zero]
      refine wpAnyH_ready (rs := [8]) (by kernel_rfl) (by simp) ?_
      refine AllReadyH.cons (o := _) rfl (fun K hK => ?_) AllReadyH.nil
      go_simp
      refine (T _).mono ?_; rintro e w5 ⟨rfl, hb5⟩
      go_wp2_with fail
      refine hK.out _ _ (below_next hHeld hb5) (fun hHeld => ?_)
      clear hK K
      try simp only [Act.put, List.setIfInBounds_toArray, List.set_cons_zero, List.set_cons_succ, List.getElem_toArray, List.getElem_cons_succ, List.getElem_cons_zero]
      clear hb5 T
      refine wpAnyH_take (i := 9) (oi := _) (v := .bool false) rfl (by kernel_rfl) (by kernel_rfl) (by kernel_rfl) (fun _ _ _ h => h) (Or.inl ⟨by rfl, fun w h => by go_simp⟩) hHeld ?_
      try simp only [Act.put, List.setIfInBounds_toArray, List.set_cons_zero, List.set_cons_succ, List.getElem_toArray, List.getElem_cons_succ, List.getElem_cons_zero]
      refine wpAnyH_done (by kernel_rfl) ?_ _
      have HL5 := Lib.hid hHeld
      clear hHeld
      go_wp2
      go_roundw
      case rel => exact ⟨k + 1, by omega, by go_num, HL5.out⟩
      case measure => simp [intOf]; omega
    · obtain rfl : k = L.length := by omega
      go_wp2
      go_ret
      exact ⟨rfl, HL.out⟩
/-! ### Marks -/
set_option maxHeartbeats 2000000 in
theorem markM_own (k0 B g n cap : Nat) (hk0 : k0 ≤ 100000000) (ws : List Mv) (w : World) (hlen : ws.length = n) (ho : w.ownsRow B 45 2 (.slice (some ⟨g, 0, none⟩) n cap) n (flt encM ws)) (hm : n ≤ 1048576) :
    Calls Try.prog 60 #[.slice (some ⟨g, 0, none⟩) n cap, .int .i64 k0] w fun e w' => e = .returned (.int .i64 ((k0 + n * 2 : Nat) : Int)) ∧ w'.ownsRow B 45 2 (.slice (some ⟨g, 0, none⟩) n cap) n (mkL k0 (n * 2)) ∧ w.grownBy w' (some g) := by
  obtain ⟨cs, hcs⟩ : ∃ cs, cs = flt encM ws := ⟨_, rfl⟩
  have HF : Aside (cs.length = n * 2) := (show _ = _ from by rw [hcs, flt_length encM_ok, hlen])
  rw [← hcs] at ho
  rw [← mkdL_none k0 cs] at ho
  have HO0 := Lib.hid ho
  clear hcs ho hlen
  go_enter Try.func60, Try.ntmps60
  go_wp2_with fail
  go_loopw [1, 5] (fun ks i wr => ∃ k : Nat, k ≤ n ∧ i = .int .i64 k ∧ ks = .int .i64 ((k0 + k * 2 : Nat) : Int) ∧ wr.ownsRow B 45 2 (.slice (some ⟨g, 0, none⟩) n cap) n (mkdL k0 cs (k * 2)) ∧ w.grownBy wr (some g)) (fun _ i _ => n - (intOf i).toNat)
  case atStart => exact ⟨0, Nat.zero_le _, rfl, rfl, HO0.out, World.grownBy.refl _ _⟩
  case round =>
    clear HO0
    obtain ⟨k, hk, rfl, rfl, hO, hg⟩ := hrel
    by_cases hlt : k < n
    · have hkz : (k : Int) < (n : Int) := by omega
      have hk0z : (0 : Int) ≤ (k : Int) := by omega
      have hpl : k * 2 < cs.length := by rw [HF.out]; omega
      have hpl2 : k * 2 + 1 < cs.length := by rw [HF.out]; omega
      have hcell : wr.cell? ⟨g, k * 2, none⟩ = some cs[k * 2] := by rw [hO.cellAt (k * 2) (by omega), mkdL_old (k0 := k0) (cs := cs) (p := k * 2) hpl]
      have hfr := hO.frozenAt (k * 2)
      generalize cs[k * 2] = old at *
      have q1 : IntKind.i64.wrap (((k0 + k * 2 : Nat) : Int) + 1) = ((k0 + (k * 2 + 1) : Nat) : Int) := by rw [IntKind.wrap_i64]; omega
      have q2 : IntKind.i64.wrap (((k0 + (k * 2 + 1) : Nat) : Int) + 1) = ((k0 + (k + 1) * 2 : Nat) : Int) := by rw [IntKind.wrap_i64]; omega
      obtain ⟨h1, h2⟩ := hO.stored (k * 2) (.int .i64 ((k0 + k * 2 : Nat) : Int))
      rw [mkdL_step hpl] at h1
      have hcell2 : (wr.setCell ⟨g, k * 2, none⟩ (.int .i64 ((k0 + k * 2 : Nat) : Int))).cell? ⟨g, k * 2 + 1, none⟩ = some cs[k * 2 + 1] := by rw [h1.cellAt (k * 2 + 1) (by omega), mkdL_old (k0 := k0) (cs := cs) (p := k * 2 + 1) hpl2]
      have hfr2 := h1.frozenAt (k * 2 + 1)
      generalize cs[k * 2 + 1] = old2 at *
      obtain ⟨h3, h4⟩ := h1.stored (k * 2 + 1) (.int .i64 ((k0 + (k * 2 + 1) : Nat) : Int))
      rw [mkdL_step hpl2] at h3
      have H3 := Lib.hid h3
      have H4 := Lib.hid (grown_trans (grown_trans hg h2) h4)
      clear h1 h2 h3 h4 hO hg hpl hpl2
      obtain ⟨m0, hm0⟩ : ∃ m : Int, ((k0 + k * 2 : Nat) : Int) = m := ⟨_, rfl⟩
      obtain ⟨m1, hm1⟩ : ∃ m : Int, ((k0 + (k * 2 + 1) : Nat) : Int) = m := ⟨_, rfl⟩
      obtain ⟨m2, hm2⟩ : ∃ m : Int, ((k0 + (k + 1) * 2 : Nat) : Int) = m := ⟨_, rfl⟩
      rw [hm0] at q1 hcell2 hfr2 H3 H4 ⊢
      rw [hm1] at q1 q2 H3 H4
      rw [hm2] at q2
      have HM2 := Lib.hid hm2
      clear hm0 hm1 hm2
      go_wp2_with fail
      go_roundw
      case rel => exact ⟨k + 1, by omega, by go_num, by rw [HM2.out], by rw [show (k + 1) * 2 = k * 2 + 1 + 1 from by omega]; exact H3.out, H4.out⟩
      case measure => simp [intOf]; omega
    · obtain rfl : k = n := by omega
      rw [mkdL_all HF.out] at hO
      have H1 := Lib.hid hO
      have H2 := Lib.hid hg
      clear hO hg
      go_wp2_with fail
      go_ret
      exact ⟨rfl, H1.out, H2.out⟩
theorem markM_nil (k0 : Nat) (w : World) : Calls Try.prog 60 #[.slice none 0 0, .int .i64 k0] w fun e w' => e = .returned (.int .i64 k0) ∧ w = w' := by
  go_enter Try.func60, Try.ntmps60
  go_wp2_with fail
  refine wp_loop_rounds 1 ?_
  rw [rounds_succ]
  go_wp2_with fail
  go_ret
  exact ⟨rfl, rfl⟩
theorem markM_any (k0 : Nat) (hk0 : k0 ≤ 100000000) (v : Value) (B : Nat) (ws : List Mv) (w : World) (ho : OwnL encM 2 w B 45 v ws) (hm : ws.length ≤ 1048576) :
    Calls Try.prog 60 #[v, .int .i64 k0] w fun e w' => e = .returned (.int .i64 ((k0 + ws.length * 2 : Nat) : Int)) ∧ w'.ownsRow B 45 2 v ws.length (mkL k0 (ws.length * 2)) ∧ w.grownBy w' v.ownBlock := by
  have h2 := ho.2
  rcases h2 with ⟨rfl, h0⟩ | ⟨g, cap, cur, rfl, _⟩
  · refine (markM_nil k0 w).mono ?_
    rintro e w' ⟨rfl, rfl⟩
    refine ⟨by rw [h0]; rfl, ?_, World.grownBy.refl _ _⟩
    rw [h0, Nat.zero_mul]; exact World.ownsRow_nil _ _ _ _
  · exact markM_own k0 B g ws.length cap hk0 ws w rfl ho hm
set_option maxHeartbeats 2000000 in
theorem heldM_own (k0 B g n cap : Nat) (hk0 : k0 ≤ 100000000) (w : World) (ho : w.ownsRow B 45 2 (.slice (some ⟨g, 0, none⟩) n cap) n (mkL k0 (n * 2))) (hm : n ≤ 1048576) :
    Calls Try.prog 61 #[.slice (some ⟨g, 0, none⟩) n cap, .int .i64 k0] w fun e w' => e = .returned (.int .i64 ((k0 + n * 2 : Nat) : Int)) ∧ w = w' := by
  have HO := Lib.hid ho
  clear ho
  go_enter Try.func61, Try.ntmps61
  go_wp2_with fail
  go_loop [1, 5] (fun ks i => ∃ k : Nat, k ≤ n ∧ i = .int .i64 k ∧ ks = .int .i64 ((k0 + k * 2 : Nat) : Int)) (fun _ i => n - (intOf i).toNat)
  case atStart => exact ⟨0, Nat.zero_le _, rfl, rfl⟩
  case round =>
    obtain ⟨k, hk, rfl, rfl⟩ := hrel
    by_cases hlt : k < n
    · have hkz : (k : Int) < (n : Int) := by omega
      have hk0z : (0 : Int) ≤ (k : Int) := by omega
      have c0 : w.cell? ⟨g, k * 2, none⟩ = some (.int .i64 ((k0 + k * 2 : Nat) : Int)) := by rw [HO.out.cellAt (k * 2) (by omega), mkL_at (by omega)]
      have c1 : w.cell? ⟨g, k * 2 + 1, none⟩ = some (.int .i64 ((k0 + (k * 2 + 1) : Nat) : Int)) := by rw [HO.out.cellAt (k * 2 + 1) (by omega), mkL_at (by omega)]
      have q1 : IntKind.i64.wrap (((k0 + k * 2 : Nat) : Int) + 1) = ((k0 + (k * 2 + 1) : Nat) : Int) := by rw [IntKind.wrap_i64]; omega
      have q2 : IntKind.i64.wrap (((k0 + (k * 2 + 1) : Nat) : Int) + 1) = ((k0 + (k + 1) * 2 : Nat) : Int) := by rw [IntKind.wrap_i64]; omega
      obtain ⟨m0, hm0⟩ : ∃ m : Int, ((k0 + k * 2 : Nat) : Int) = m := ⟨_, rfl⟩
      obtain ⟨m1, hm1⟩ : ∃ m : Int, ((k0 + (k * 2 + 1) : Nat) : Int) = m := ⟨_, rfl⟩
      obtain ⟨m2, hm2⟩ : ∃ m : Int, ((k0 + (k + 1) * 2 : Nat) : Int) = m := ⟨_, rfl⟩
      rw [hm0] at q1 c0 ⊢
      rw [hm1] at q1 q2 c1
      rw [hm2] at q2
      have HM2 := Lib.hid hm2
      clear hm0 hm1 hm2
      have n0 : (m0 != m0) = false := by simp
      have n1 : (m1 != m1) = false := by simp
      go_wp2_with fail
      go_round
      case rel => exact ⟨k + 1, by omega, by go_num, by rw [HM2.out]⟩
      case measure => simp [intOf]; omega
    · obtain rfl : k = n := by omega
      go_wp2_with fail
      go_ret
      exact ⟨rfl, rfl⟩
theorem heldM_nil (k0 : Nat) (w : World) : Calls Try.prog 61 #[.slice none 0 0, .int .i64 k0] w fun e w' => e = .returned (.int .i64 k0) ∧ w = w' := by
  go_enter Try.func61, Try.ntmps61
  go_wp2_with fail
  refine wp_loop_rounds 1 ?_
  rw [rounds_succ]
  go_wp2_with fail
  go_ret
  exact ⟨rfl, rfl⟩
theorem heldM_any (k0 : Nat) (hk0 : k0 ≤ 100000000) (v : Value) (B n : Nat) (w : World) (ho : w.ownsRow B 45 2 v n (mkL k0 (n * 2))) (hm : n ≤ 1048576) :
    Calls Try.prog 61 #[v, .int .i64 k0] w fun e w' => e = .returned (.int .i64 ((k0 + n * 2 : Nat) : Int)) ∧ w = w' := by
  have h2 := ho.2
  rcases h2 with ⟨rfl, rfl⟩ | ⟨g, cap, cur, rfl, _⟩
  · exact heldM_nil k0 w
  · exact heldM_own k0 B g n cap hk0 w ho hm
theorem markM_number (k n : Nat) : ∃ M : Int, Aside (((k + n * 2 : Nat) : Int) = M) ∧ ¬ M < 0 ∧ (M != M) = false := ⟨_, (show _ = _ from rfl), by omega, by simp⟩
end Go.Proofs.Ytnidiikcnplebaa
