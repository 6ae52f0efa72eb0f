/-
  The model's designs with other speeds.
  The exact laws' helpers on lists of wheels: measured, copied, compared, marked, held.
  The exact laws' copies of lists of wheels.
  The exact laws' helpers on lists of wheels: compared, marked, held.
  Both sides: two designs together, and their sum.
  Both sides: products of designs.
-/
import Derived.Test.YtdgbpdeimckbfaaM12
import Derived.Test.YtdgbpdeimckbfaaM03
import Derived.Test.YtdgbpdeimckbfaaM02
import Derived.Lib.AppendZeros
/- The model's designs with other speeds. -/
namespace Go.Proofs.Ytdgbpdeimckbfaa
set_option maxRecDepth 20000
open Go.ChangeShapes Go.WideShapes Go.ChangeAt Go.RowKit
set_option linter.unusedVariables false
set_option linter.unusedSimpArgs false

theorem mul_in2 {x y : Int} (X Y : Nat) (hx : -(X : Int) ≤ x ∧ x ≤ X) (hy : -(Y : Int) ≤ y ∧ y ≤ Y) : -((X * Y : Nat) : Int) ≤ x * y ∧ x * y ≤ ((X * Y : Nat) : Int) := by
  have h1 : x.natAbs ≤ X := by omega
  have h2 : y.natAbs ≤ Y := by omega
  have h3 : (x * y).natAbs ≤ X * Y := by rw [Int.natAbs_mul]; exact Nat.mul_le_mul h1 h2
  omega
theorem row_grown {w w' : World} {g n : Nat} {T : TypeId} {f : Nat → Int} {row : Option Nat} (h : RowAt w g n T f) (hg : w.grownBy w' row) (hne : some g ≠ row) : RowAt w' g n T f := (hg.block g h.lt hne).trans h
theorem own_not {w : World} {B T : Nat} {v : Value} {ws : List Wh} (h : Own w B T v ws) {g : Nat} (hg : w.heap.size ≤ g) : some g ≠ v.ownBlock := fun e => by
  have := (h.lt g e.symm).2
  omega
theorem map_fast_ok {n : Int} {ws : List Wh} (hv : valid ws = true) : ∀ c ∈ ws.map (fastW n), okv c.r = true := fun c hc => by
  obtain ⟨d, hd, rfl⟩ := List.mem_map.1 hc
  exact (valid_ok hv d hd).2

end Go.Proofs.Ytdgbpdeimckbfaa
/- The exact laws' helpers on lists of wheels: measured, copied, compared, marked, held. -/
namespace Go.Proofs.Ytdgbpdeimckbfaa
set_option maxRecDepth 20000
open Go.ChangeShapes Go.WideShapes Go.ChangeAt Go.RowKit
set_option linter.unusedVariables false
set_option linter.unusedSimpArgs false

theorem szWheels_yes (v : Value) (ws : List Wh) (left : Int) (w : World) (hv : Lies w v ws) (hl : left ≤ 1048576) (h : (ws.length : Int) ≤ left) :
    Calls Try.prog 59 #[v, .int .i64 left] w fun e w' => e = .returned (.int .i64 (left - (ws.length : Int))) ∧ w = w' := by
  obtain ⟨p, cap, rfl, hc1, hc2, -⟩ := hv
  have r1 : IntKind.i64.wrap (left - (ws.length : Int)) = left - (ws.length : Int) := by rw [IntKind.wrap_i64]; omega
  have hb : ¬ left - (ws.length : Int) < 0 := by omega
  go_enter Try.func59, Try.ntmps59
  go_wp2
  go_ret
  exact ⟨rfl, rfl⟩
theorem szWheels_no (v : Value) (ws : List Wh) (left : Int) (w : World) (hv : Lies w v ws) (h0 : 0 ≤ left) (hl : left ≤ 1048576) (h : left < (ws.length : Int)) :
    Calls Try.prog 59 #[v, .int .i64 left] w fun e w' => e = .returned (.int .i64 (-1)) ∧ w = w' := by
  obtain ⟨p, cap, rfl, hc1, hc2, -⟩ := hv
  simp only [maxLen] at hc2
  have r1 : IntKind.i64.wrap (left - (ws.length : Int)) = left - (ws.length : Int) := by rw [IntKind.wrap_i64]; omega
  have hb : left - (ws.length : Int) < 0 := by omega
  go_enter Try.func59, Try.ntmps59
  go_wp2
  go_ret
  exact ⟨rfl, rfl⟩

theorem info_lawWheel : (Try.prog.info? 132).map (·.size) = some 9 := by kernel_rfl
theorem size_lawWheel (c : Wh) : (Try.prog.info? 132).map (·.size) = some (enc c).length := by rw [enc_length]; exact info_lawWheel
theorem info_lawCyc : (Try.prog.info? 128).map (·.size) = some 8 := by kernel_rfl
/-- A radius put into a wheel's row. -/
theorem RowAt.radius {w : World} {g : Nat} {T : TypeId} {f : Nat → Int} (h : RowAt w g 9 T f) (r : V) : RowAt (w.setCells g 1 (lst 8 r.up)) g 9 T (wf ⟨f 0, r⟩) := by
  have e : lst 8 r.up = ((List.range 8).map r.up).map (Value.int .i64) := by simp [lst]
  rw [e]
  obtain ⟨F, hF, hb, hi⟩ := RowAt.cellsFrom ((List.range 8).map r.up) 1 w f h (by simp)
  refine hF.same fun j hj => ?_
  by_cases h0 : j = 0
  · subst h0; rw [hb 0 (by omega)]; rfl
  · have := hi (j - 1) (by simp; omega)
    rw [show 1 + (j - 1) = j from by omega] at this
    have hj8 : j - 1 < 8 := by omega
    rw [this]
    simp [wf, h0, List.getD_eq_getElem?_getD, hj8]
theorem _root_.Go.World.ownsRow.belowK {w w' : World} {B T g n cap : Nat} {xs : List Value} (h : w.ownsRow B T 9 (.slice (some ⟨g, 0, none⟩) n cap) n xs) (hb : Below w.heap.size w w') : w'.ownsRow B T 9 (.slice (some ⟨g, 0, none⟩) n cap) n xs := by
  refine ⟨h.1, ?_⟩
  rcases h.2 with h0 | ⟨g', cap', cur, e, hB, hg, rest⟩
  · exact .inl h0
  · exact .inr ⟨g', cap', cur, e, hB, (hb.block g' (Array.getElem?_eq_some_iff.1 hg).1).trans hg, rest⟩
theorem RowAt.thereAt {w : World} {g n o m : Nat} {T : TypeId} {f : Nat → Int} (h : RowAt w g n T f) (hm : o + m ≤ n) : w.there g o m := fun j hj => by
  rw [h.cell (k := o + j) (by omega), h.free]; exact ⟨rfl, rfl⟩

set_option maxHeartbeats 1000000 in
theorem toWheel_any (c : Wh) (w : World) : Calls Try.prog 115 #[wh c] w fun e w' => e = .returned (wh c) ∧ Below w.heap.size w w' := by
  have P := fun w => toCyc_any c.r.up w
  have hA : RowAt (((w.alloc (.cells (vec 9 (wf c)) 132)).alloc (.cells (vec 9 nul) 125)).alloc (.cells (vec 9 nul) 125)) w.heap.size 9 132 (wf c) := ((RowAt.newAt rfl rfl).alloc _).alloc _
  have hO : RowAt (((w.alloc (.cells (vec 9 (wf c)) 132)).alloc (.cells (vec 9 nul) 125)).alloc (.cells (vec 9 nul) 125)) (w.heap.size + 1) 9 125 nul := (RowAt.newAt rfl (by simp)).alloc _
  have hE : RowAt (((w.alloc (.cells (vec 9 (wf c)) 132)).alloc (.cells (vec 9 nul) 125)).alloc (.cells (vec 9 nul) 125)) (w.heap.size + 1 + 1) 9 125 nul := RowAt.newAt rfl (by simp)
  have hL : Below w.heap.size w (((w.alloc (.cells (vec 9 (wf c)) 132)).alloc (.cells (vec 9 nul) 125)).alloc (.cells (vec 9 nul) 125)) := (((Below.refl _ _).alloc (Nat.le_refl _) _).alloc (by simp) _).alloc (by simp; omega) _
  have HA := Lib.hid hA
  have HO := Lib.hid hO
  have HE := Lib.hid hE
  have HL := Lib.hid hL
  clear hA hO hE hL
  go_enter Try.func115, Try.ntmps115
  go_upto_region 2 with fail
  show Code.wp _ _ _ _ (((w.alloc (.cells (vec 9 (wf c)) 132)).alloc (.cells (vec 9 nul) 125)).alloc (.cells (vec 9 nul) 125))
  generalize ((w.alloc (.cells (vec 9 (wf c)) 132)).alloc (.cells (vec 9 nul) 125)).alloc (.cells (vec 9 nul) 125) = W at *
  have cA := row_speed HA.out
  have cE := HE.out.cell (k := 0) (by omega)
  have fE := HE.out.free 0
  have HA2 : Aside (RowAt (W.setCell ⟨w.heap.size + 1 + 1, 0, none⟩ (.int .i64 c.s)) w.heap.size 9 132 (wf c)) := HA.out.other _ _ (by simp; omega)
  have HO2 : Aside (RowAt (W.setCell ⟨w.heap.size + 1 + 1, 0, none⟩ (.int .i64 c.s)) (w.heap.size + 1) 9 125 nul) := HO.out.other _ _ (by simp)
  have HE2 : Aside (RowAt (W.setCell ⟨w.heap.size + 1 + 1, 0, none⟩ (.int .i64 c.s)) (w.heap.size + 1 + 1) 9 125 (upd nul 0 c.s)) := HE.out.set (k := 0) (by omega) c.s
  have HL2 : Aside (Below w.heap.size w (W.setCell ⟨w.heap.size + 1 + 1, 0, none⟩ (.int .i64 c.s))) := HL.out.setCell (p := ⟨w.heap.size + 1 + 1, 0, none⟩) (by simp; omega) _
  clear HA HO HE HL
  go_upto_region 3 with fail
  show Code.wp _ _ _ _ (W.setCell ⟨w.heap.size + 1 + 1, 0, none⟩ (.int .i64 c.s))
  clear cA cE fE
  generalize W.setCell ⟨w.heap.size + 1 + 1, 0, none⟩ (.int .i64 c.s) = W2 at *
  go_wp2_with (refine load_part (T := 128) (g := w.heap.size) rfl rfl rfl (row_radius HA2.out) Try.underlying128 rfl info_lawCyc ?_)
  refine (P _).mono ?_; rintro e W3 ⟨rfl, hb3⟩
  have HE3 : Aside (RowAt (W3.setCells (w.heap.size + 1 + 1) 1 (lst 8 c.r.up)) (w.heap.size + 1 + 1) 9 125 (wf c)) := (show RowAt _ _ _ _ _ from (HE2.out.below hb3).radius c.r)
  have HT3 : Aside (W3.there (w.heap.size + 1 + 1) 1 8) := (HE2.out.below hb3).thereAt (by omega)
  have HO3 : Aside (RowAt (W3.setCells (w.heap.size + 1 + 1) 1 (lst 8 c.r.up)) (w.heap.size + 1) 9 125 nul) := (HO2.out.below hb3).cellsOther _ _ _ (by omega)
  have HL3 : Aside (Below w.heap.size w (W3.setCells (w.heap.size + 1 + 1) 1 (lst 8 c.r.up))) := below_setCells (by omega) _ _ _ (below_next HL2.out hb3)
  clear HA2 HO2 HE2 HL2 hb3 P
  go_upto_region 4 with (refine store_part (ty := 36) (g := w.heap.size + 1 + 1) rfl rfl rfl rfl HT3.out info_cyc ?_)
  show Code.wp _ _ _ _ (W3.setCells (w.heap.size + 1 + 1) 1 (lst 8 c.r.up))
  clear HT3
  generalize W3.setCells (w.heap.size + 1 + 1) 1 (lst 8 c.r.up) = W4 at *
  go_wp2_with (first | (refine load_row (g := w.heap.size + 1 + 1) rfl rfl rfl HE3.out Try.underlying125 rfl info_wheel ?_) | (refine store_row (g := w.heap.size + 1) rfl rfl rfl rfl HO3.out info_wheel ?_))
  refine bodyPost_ret (results_row rfl rfl HO3.out.setRow Try.underlying125 rfl info_wheel) rfl ?_
  exact ⟨rfl, below_setRow HL3.out (by omega) _⟩

end Go.Proofs.Ytdgbpdeimckbfaa
/- The exact laws' copies of lists of wheels. -/
namespace Go.Proofs.Ytdgbpdeimckbfaa
set_option maxRecDepth 20000
open Go.ChangeShapes Go.WideShapes Go.ChangeAt Go.RowKit
set_option linter.unusedVariables false
set_option linter.unusedSimpArgs false

/-- The first k wheels of a list, then as many as are left of the zero wheel. -/
def half (ws : List Wh) (k : Nat) : List Wh := ws.take k ++ List.replicate (ws.length - k) noW
theorem half_len {ws : List Wh} {k : Nat} (h : k ≤ ws.length) : (half ws k).length = ws.length := by simp [half]; omega
theorem half_at {ws : List Wh} {k : Nat} (h : k < ws.length) : (half ws k)[k]? = some noW := by
  unfold half
  rw [List.getElem?_append_right (by simp; omega), List.length_take, Nat.min_eq_left (by omega), Nat.sub_self, List.getElem?_replicate, if_pos (by omega)]
theorem half_set {ws : List Wh} {k : Nat} {c : Wh} (hc : ws[k]? = some c) : (half ws k).set k c = half ws (k + 1) := by
  have h : k < ws.length := (List.getElem?_eq_some_iff.1 hc).1
  unfold half
  rw [List.set_append_right _ _ (by simp; omega), List.length_take, Nat.min_eq_left (by omega), Nat.sub_self, show ws.length - k = (ws.length - (k + 1)) + 1 from by omega, List.replicate_succ, List.set_cons_zero, take_next hc, List.append_assoc]
  rfl
theorem half_all (ws : List Wh) : half ws ws.length = ws := by simp [half]
theorem half_none (ws : List Wh) : half ws 0 = List.replicate ws.length noW := by simp [half]
theorem there_of {w : World} {B T g n cap k o m : Nat} {L : List Wh} (h : w.ownsRow B T 9 (.slice (some ⟨g, 0, none⟩) n cap) n (flat L)) (hk : k < n) (ho : o + m ≤ 9) : w.there g (k * 9 + o) m := fun j hj => by
  have h1 := h.cellAt (k * 9 + o + j) (by omega)
  refine ⟨?_, h.frozenAt _⟩
  rw [h1, List.getElem?_eq_getElem (by rw [h.1]; omega)]; rfl
theorem wf_noW_at (j : Nat) : wf noW j = 0 := by
  unfold wf noW
  simp only [zero_up]
  split <;> rfl
theorem made_flat (n : Nat) : (madeCells (Value.agg (vec 9 nul)).cells (n * 9)).toList = flat (List.replicate n noW) := by
  apply List.ext_getElem?
  intro i
  by_cases hi : i < n * 9
  · have h1 := flat_at (ws := List.replicate n noW) (i := i / 9) (c := noW) (by rw [List.getElem?_replicate, if_pos (by omega)]) (i % 9) (by omega)
    rw [show i / 9 * 9 + i % 9 = i from by omega, enc_at _ _ (by omega), wf_noW_at] at h1
    rw [h1]
    have hz : ∀ k, k < 9 → (vec 9 nul)[k]! = .int .i64 0 := fun k hk => by
      rw [getElem!_pos (vec 9 nul) k (by rw [vec_size]; exact hk)]
      have := vec_at nul hk
      rw [Array.getElem?_eq_getElem (by rw [vec_size]; exact hk)] at this
      simpa [nul] using this
    have hm : i % 9 < 9 := by omega
    simp [madeCells, Value.cells, hi, vec_size, hz _ hm]
  · rw [List.getElem?_eq_none (by simp [madeCells]; omega), List.getElem?_eq_none (by rw [flat_length]; simp; omega)]
theorem info_wheel_full : ∃ i, Try.prog.info? 125 = some i ∧ i.zero = some (.agg (vec 9 nul)) ∧ i.size = 9 ∧ i.bytes = 72 := by
  have h : (Try.prog.info? 125).map (fun i => (i.zero, i.size, i.bytes)) = some (some (.agg (vec 9 nul)), 9, 72) := by kernel_rfl
  obtain ⟨i, hi, e1, e2, e3⟩ := info_parts h
  exact ⟨i, hi, e1, e2, e3⟩
section
variable {ops : Array Oper} {rest : List Oper} {o : Oper} {a : Act} {Q : Exit → Act → World → Prop} {w : World}
/-- 'make' of a list of zero wheels. -/
theorem make_full9 (hgd : o.guard = none) {l c : Operand} (hop : o.op = .makeSlice 30 l c) (n : Nat) (hl : a.eval l = .int .i64 n) (hc : a.eval c = .int .i64 n) (hn : n ≤ 1000000000000)
    (h : ∀ w', w'.ownsRow w.heap.size 125 9 (.slice (some ⟨w.heap.size, 0, none⟩) n n) n (flat (List.replicate n noW)) → Below w.heap.size w w' → wpList Try.prog ops Q rest (a.put o.dst (.slice (some ⟨w.heap.size, 0, none⟩) n n)) w') : wpList Try.prog ops Q (o :: rest) a w := by
  obtain ⟨i, hi, hz, hs, hby⟩ := info_wheel_full
  refine wpList_plain hgd fun K hK' => ?_
  obtain ⟨w', hrun, r1, r2⟩ := run_make_full (P := Try.prog) w w.heap.size 30 125 i _ 9 Try.underlying30 hi hz hs .i64 .i64 n (by rw [hby]; omega) (by simp only [maxLen]; omega) (Nat.le_refl _)
  rw [made_flat] at r1
  unfold Oper.wp
  simp [execOp, hop, hl, hc, hrun, Result.andThen]
  exact hK' _ _ (h w' r1 (below_fresh (Below.refl _ _) (Nat.le_refl _) r2))
end

set_option maxHeartbeats 2000000 in
theorem toWheels_any (v : Value) (ws : List Wh) (w : World) (hv : Lies w v ws) (hn : ws.length ≤ 1048576) :
    Calls Try.prog 60 #[v] w fun e w' => Below w.heap.size w w' ∧ ∃ v', e = .returned v' ∧ Own w' w.heap.size 125 v' ws := by
  obtain ⟨p, cap, rfl, hc1, hc2, hp⟩ := hv
  simp only [maxLen] at hc2
  have HP := Lib.hid hp
  clear hp
  go_enter Try.func60, Try.ntmps60
  go_wp2_with (refine make_full9 rfl rfl ws.length rfl rfl (by omega) ?_; intro w1 ho1 hb1)
  rw [← half_none] at ho1
  go_loopw [4] (fun i wr => ∃ k : Nat, k ≤ ws.length ∧ i = .int .i64 k ∧ wr.ownsRow w.heap.size 125 9 (.slice (some ⟨w.heap.size, 0, none⟩) ws.length ws.length) ws.length (flat (half ws k)) ∧ Below w.heap.size w wr) (fun i _ => ws.length - (intOf i).toNat)
  case atStart => exact ⟨0, Nat.zero_le _, rfl, ho1, hb1⟩
  case round =>
    clear ho1 hb1
    obtain ⟨k, hk, rfl, hO, hbel⟩ := hrel
    by_cases hlt : k < ws.length
    · have hkz : (k : Int) < (ws.length : Int) := by omega
      have hk0 : (0 : Int) ≤ (k : Int) := by omega
      obtain ⟨c, hc⟩ : ∃ c, ws[k]? = some c := ⟨_, List.getElem?_eq_getElem hlt⟩
      obtain ⟨g, o, rfl, hg, hr⟩ := HP.out (by intro e; rw [e] at hlt; simp at hlt)
      have HR : Aside (wr.rangeAt g (o + k * 9) (enc c)) := range_part (range_below hr hg hbel) hc
      have HC := Lib.hid hc
      have HO := Lib.hid hO
      have HL := Lib.hid hbel
      have T := fun w => toWheel_any c w
      clear hr hc hO hbel
      go_wp2_with (refine load_wheel (T := 132) (g := g) rfl rfl rfl HR.out Try.underlying132 rfl info_lawWheel ?_)
      refine (T _).mono ?_; rintro e w2 ⟨rfl, hb2⟩
      have hzz : w.heap.size ≤ wr.heap.size := HL.out.size
      have hO2 := HO.out.belowK hb2
      have HT : Aside (w2.there w.heap.size (k * 9) 9) := (show w2.there _ _ _ from there_of (o := 0) hO2 hlt (by omega))
      have HO3 : Aside ((w2.setCells w.heap.size (k * 9) (enc c)).ownsRow w.heap.size 125 9 (.slice (some ⟨w.heap.size, 0, none⟩) ws.length ws.length) ws.length (flat (half ws (k + 1)))) := (show World.ownsRow _ _ _ _ _ _ _ from by
        rw [← half_set HC.out, ← flat_set (half_at hlt)]; exact own_cells _ _ _ _ hO2)
      have HL3 : Aside (Below w.heap.size w (w2.setCells w.heap.size (k * 9) (enc c))) := below_setCells (Nat.le_refl _) _ _ _ (below_next HL.out hb2)
      clear hO2 hb2 HO HL T HR
      go_wp2_with (first | (refine store_wheel (ty := 125) (g := w.heap.size) (p := k * 9) (c := c) rfl rfl rfl rfl HT.out info_wheel ?_; clear HT))
      go_roundw
      case rel => exact ⟨k + 1, by omega, by go_num, HO3.out, HL3.out⟩
      case measure => simp [intOf]; omega
    · obtain rfl : k = ws.length := by omega
      rw [half_all] at hO
      have HO := Lib.hid hO
      have HL := Lib.hid hbel
      clear hO hbel
      go_wp2
      go_ret
      exact ⟨HL.out, _, rfl, HO.out⟩

end Go.Proofs.Ytdgbpdeimckbfaa
/- The exact laws' helpers on lists of wheels: compared, marked, held. -/
namespace Go.Proofs.Ytdgbpdeimckbfaa
set_option maxRecDepth 20000
open Go.ChangeShapes Go.WideShapes Go.ChangeAt Go.RowKit
set_option linter.unusedVariables false
set_option linter.unusedSimpArgs false

/-! Compared. -/
set_option maxHeartbeats 1000000 in
theorem eqWheel_yes (c : Wh) (w : World) : Calls Try.prog 116 #[wh c, wh c] w fun e w' => e = .returned (.bool true) ∧ Below w.heap.size w w' := by
  have P := fun w => eqCyc_yes c.r.up w
  have HA := Lib.hid (show RowAt ((w.alloc (.cells (vec 9 (wf c)) 125)).alloc (.cells (vec 9 (wf c)) 125)) w.heap.size 9 125 (wf c) from (RowAt.newAt rfl rfl).alloc _)
  have HB := Lib.hid (show RowAt ((w.alloc (.cells (vec 9 (wf c)) 125)).alloc (.cells (vec 9 (wf c)) 125)) (w.heap.size + 1) 9 125 (wf c) from RowAt.newAt rfl (by simp))
  have HL := Lib.hid (show Below w.heap.size w ((w.alloc (.cells (vec 9 (wf c)) 125)).alloc (.cells (vec 9 (wf c)) 125)) from ((Below.refl _ _).alloc (Nat.le_refl _) _).alloc (by simp) _)
  go_enter Try.func116, Try.ntmps116
  go_upto_region 1 with fail
  show Code.wp _ _ _ _ ((w.alloc (.cells (vec 9 (wf c)) 125)).alloc (.cells (vec 9 (wf c)) 125))
  generalize (w.alloc (.cells (vec 9 (wf c)) 125)).alloc (.cells (vec 9 (wf c)) 125) = W at *
  have cA := row_speed HA.out
  have cB := row_speed HB.out
  have hne : (c.s != c.s) = false := by simp
  go_wp2_with (first | (refine load_part (T := 36) (g := w.heap.size) rfl rfl rfl (row_radius HA.out) Try.underlying36 rfl info_cyc ?_) | (refine load_part (T := 36) (g := w.heap.size + 1) rfl rfl rfl (row_radius HB.out) Try.underlying36 rfl info_cyc ?_))
  refine (P _).mono ?_; rintro e w2 ⟨rfl, hb2⟩
  have hL2 := Lib.hid (below_next HL.out hb2)
  clear HA HB HL hb2 P cA cB hne
  go_wp2
  go_ret
  exact ⟨rfl, hL2.out⟩

set_option maxHeartbeats 2000000 in
theorem eqWheels_yes (va vb : Value) (L : List Wh) (w : World) (ha : Reads w va L) (hb : Reads w vb L) : Calls Try.prog 61 #[va, vb] w fun e w' => e = .returned (.bool true) ∧ Below w.heap.size w w' := by
  obtain ⟨p, cap, rfl, hc1, hc2, hp0, hp⟩ := ha
  obtain ⟨q, cap2, rfl, hd1, hd2, hq0, hq⟩ := hb
  simp only [maxLen] at hc2
  have hlb : ((L.length : Int) != (L.length : Int)) = false := by simp
  have HP := Lib.hid hp
  have HQ := Lib.hid hq
  clear hp hq
  go_enter Try.func61, Try.ntmps61
  go_wp2
  go_loopw [5] (fun i wr => ∃ k : Nat, k ≤ L.length ∧ i = .int .i64 k ∧ Below w.heap.size w wr) (fun i _ => L.length - (intOf i).toNat)
  case atStart => exact ⟨0, Nat.zero_le _, rfl, Below.refl _ _⟩
  case round =>
    obtain ⟨k, hk, rfl, hbel⟩ := hrel
    have HL := Lib.hid hbel
    clear hbel
    by_cases hlt : k < L.length
    · have hkz : (k : Int) < (L.length : Int) := by omega
      have hk0 : (0 : Int) ≤ (k : Int) := by omega
      obtain ⟨c, hc⟩ : ∃ c, L[k]? = some c := ⟨_, List.getElem?_eq_getElem hlt⟩
      obtain ⟨g, o, rfl, hg, hr⟩ := HP.out (by rintro rfl; have := hp0 rfl; omega)
      obtain ⟨g2, o2, rfl, hg2, hr2⟩ := HQ.out (by rintro rfl; have := hq0 rfl; omega)
      have HE : Aside (g < w.heap.size ∧ w.rangeAt g (o + k * 9) (enc c)) := (show _ ∧ _ from ⟨hg, range_part hr hc⟩)
      have HE2 : Aside (g2 < w.heap.size ∧ w.rangeAt g2 (o2 + k * 9) (enc c)) := (show _ ∧ _ from ⟨hg2, range_part hr2 hc⟩)
      have T := fun w => eqWheel_yes c w
      clear hr hr2 hc hg hg2
      go_upto_region 6 with fail
      refine wp_region_held_drew (S := fun w' => Below w.heap.size w w') (by kernel_rfl) HL.out.drew (fun hHeld => ?_)
      refine wpAnyH_take (i := 0) (oi := _) (v := .slice (some ⟨g, o, none⟩) L.length cap) rfl (by kernel_rfl) (by kernel_rfl) (by kernel_rfl) (fun _ _ _ h => h) (Or.inl ⟨by rfl, fun w h => by go_simp⟩) hHeld ?_
      try simp only [Act.put, List.setIfInBounds_toArray, List.set_cons_zero, List.set_cons_succ, List.getElem_toArray, List.getElem_cons_succ, List.getElem_cons_zero]
      refine wpAnyH_take (i := 1) (oi := _) (v := .int .i64 k) rfl (by kernel_rfl) (by kernel_rfl) (by kernel_rfl) (fun _ _ _ h => h) (Or.inl ⟨by rfl, fun w h => by go_simp⟩) hHeld ?_
      try simp only [Act.put, List.setIfInBounds_toArray, List.set_cons_zero, List.set_cons_succ, List.getElem_toArray, List.getElem_cons_succ, List.getElem_cons_zero]
      refine wpAnyH_take (i := 2) (oi := _) (v := .pointer (some ⟨g, o + k * 9, none⟩)) rfl (by kernel_rfl) (by kernel_rfl) (by kernel_rfl) (fun _ _ _ h => h) (Or.inl ⟨by rfl, fun w h => by go_simp⟩) hHeld ?_
      try simp only [Act.put, List.setIfInBounds_toArray, List.set_cons_zero, List.set_cons_succ, List.getElem_toArray, List.getElem_cons_succ, List.getElem_cons_zero]
      refine wpAnyH_take (i := 3) (oi := _) (v := .agg (vec 9 (wf c))) rfl (by kernel_rfl) (by kernel_rfl) (by kernel_rfl) (fun _ _ _ h => h) (yieldsIf_load_mid (by rfl) _ _ rfl _ _ rfl _ _ ((fun w h => range_kept HE.out.2 HE.out.1 h)) Try.underlying125 rfl (size_wheel c)) hHeld ?_
      try simp only [Act.put, List.setIfInBounds_toArray, List.set_cons_zero, List.set_cons_succ, List.getElem_toArray, List.getElem_cons_succ, List.getElem_cons_zero]
      refine wpAnyH_take (i := 4) (oi := _) (v := .slice (some ⟨g2, o2, none⟩) L.length cap2) rfl (by kernel_rfl) (by kernel_rfl) (by kernel_rfl) (fun _ _ _ h => h) (Or.inl ⟨by rfl, fun w h => by go_simp⟩) hHeld ?_
      try simp only [Act.put, List.setIfInBounds_toArray, List.set_cons_zero, List.set_cons_succ, List.getElem_toArray, List.getElem_cons_succ, List.getElem_cons_zero]
      refine wpAnyH_take (i := 5) (oi := _) (v := .int .i64 k) rfl (by kernel_rfl) (by kernel_rfl) (by kernel_rfl) (fun _ _ _ h => h) (Or.inl ⟨by rfl, fun w h => by go_simp⟩) hHeld ?_
      try simp only [Act.put, List.setIfInBounds_toArray, List.set_cons_zero, List.set_cons_succ, List.getElem_toArray, List.getElem_cons_succ, List.getElem_cons_zero]
      refine wpAnyH_take (i := 6) (oi := _) (v := .pointer (some ⟨g2, o2 + k * 9, none⟩)) rfl (by kernel_rfl) (by kernel_rfl) (by kernel_rfl) (fun _ _ _ h => h) (Or.inl ⟨by rfl, fun w h => by go_simp⟩) hHeld ?_
      try simp only [Act.put, List.setIfInBounds_toArray, List.set_cons_zero, List.set_cons_succ, List.getElem_toArray, List.getElem_cons_succ, List.getElem_cons_zero]
      refine wpAnyH_take (i := 7) (oi := _) (v := .agg (vec 9 (wf c))) rfl (by kernel_rfl) (by kernel_rfl) (by kernel_rfl) (fun _ _ _ h => h) (yieldsIf_load_mid (by rfl) _ _ rfl _ _ rfl _ _ ((fun w h => range_kept HE2.out.2 HE2.out.1 h)) Try.underlying125 rfl (size_wheel c)) hHeld ?_
      try simp only [Act.put, List.setIfInBounds_toArray, List.set_cons_zero, List.set_cons_succ, List.getElem_toArray, List.getElem_cons_succ, List.getElem_cons_zero]
      refine wpAnyH_ready (rs := [8]) (by kernel_rfl) (by simp) ?_
      refine AllReadyH.cons (o := _) rfl (fun K hK => ?_) AllReadyH.nil
      go_simp
      refine (T _).mono ?_; rintro e w5 ⟨rfl, hb5⟩
      go_wp2_with fail
      refine hK.out _ _ (below_next hHeld hb5) (fun hHeld => ?_)
      clear hK K
      try simp only [Act.put, List.setIfInBounds_toArray, List.set_cons_zero, List.set_cons_succ, List.getElem_toArray, List.getElem_cons_succ, List.getElem_cons_zero]
      clear hb5 T
      refine wpAnyH_take (i := 9) (oi := _) (v := .bool false) rfl (by kernel_rfl) (by kernel_rfl) (by kernel_rfl) (fun _ _ _ h => h) (Or.inl ⟨by rfl, fun w h => by go_simp⟩) hHeld ?_
      try simp only [Act.put, List.setIfInBounds_toArray, List.set_cons_zero, List.set_cons_succ, List.getElem_toArray, List.getElem_cons_succ, List.getElem_cons_zero]
      refine wpAnyH_done (by kernel_rfl) ?_ _
      have HL5 := Lib.hid hHeld
      clear hHeld
      go_wp2
      go_roundw
      case rel => exact ⟨k + 1, by omega, by go_num, HL5.out⟩
      case measure => simp [intOf]; omega
    · obtain rfl : k = L.length := by omega
      go_wp2
      go_ret
      exact ⟨rfl, HL.out⟩

/-! Marked and held. -/
/-- The marks k0, k0 + 1, .. -/
def mk9 (k0 m : Nat) : List Value := (List.range m).map fun (p : Nat) => Value.int .i64 ((k0 + p : Nat) : Int)
theorem mk9_len (k0 m : Nat) : (mk9 k0 m).length = m := by simp [mk9]
theorem mk9_at {k0 m p : Nat} (h : p < m) : (mk9 k0 m)[p]? = some (.int .i64 ((k0 + p : Nat) : Int)) := by simp [mk9, h]
theorem mk9_next (k0 m : Nat) : mk9 k0 (m + 1) = mk9 k0 m ++ [.int .i64 ((k0 + m : Nat) : Int)] := by simp [mk9, List.range_succ]
/-- The first p cells are marks. -/
def mkd (k0 : Nat) (ws : List Wh) (p : Nat) : List Value := mk9 k0 p ++ (flat ws).drop p
theorem mkd_none (k0 : Nat) (ws : List Wh) : mkd k0 ws 0 = flat ws := rfl
theorem mkd_all (k0 : Nat) (ws : List Wh) : mkd k0 ws (ws.length * 9) = mk9 k0 (ws.length * 9) := by
  unfold mkd
  rw [List.drop_of_length_le (by rw [flat_length]; omega), List.append_nil]
theorem mkd_old {k0 : Nat} {ws : List Wh} {p : Nat} (h : p < ws.length * 9) : ∃ z, (mkd k0 ws p)[p]? = some (.int .i64 z) := by
  obtain ⟨c, hc⟩ : ∃ c, ws[p / 9]? = some c := ⟨_, List.getElem?_eq_getElem (by omega)⟩
  have h1 := flat_at hc (p % 9) (by omega)
  rw [show p / 9 * 9 + p % 9 = p from by omega, enc_at _ _ (by omega)] at h1
  refine ⟨wf c (p % 9), ?_⟩
  unfold mkd
  rw [List.getElem?_append_right (by rw [mk9_len]; omega), mk9_len, Nat.sub_self, List.getElem?_drop, Nat.add_zero, h1]
theorem mkd_step {k0 : Nat} {ws : List Wh} {p : Nat} (h : p < ws.length * 9) : (mkd k0 ws p).set p (.int .i64 ((k0 + p : Nat) : Int)) = mkd k0 ws (p + 1) := by
  have e : (flat ws).drop p = (flat ws)[p]'(by rw [flat_length]; exact h) :: (flat ws).drop (p + 1) := List.drop_eq_getElem_cons _
  unfold mkd
  rw [e, mk9_next, List.set_append_right _ _ (by rw [mk9_len]; omega), mk9_len, Nat.sub_self, List.set_cons_zero, List.append_assoc]
  rfl
theorem grown_trans {a b c : World} {row : Option Nat} (h : a.grownBy b row) (k : b.grownBy c row) : a.grownBy c row :=
  ⟨k.os.trans h.os, k.tape.trans h.tape, k.output.trans h.output, Nat.le_trans h.size k.size, fun i hi hne => (k.block i (Nat.lt_of_lt_of_le hi h.size) hne).trans (h.block i hi hne)⟩

set_option maxHeartbeats 2000000 in
theorem mark_own (k0 B g n cap : Nat) (hk0 : k0 ≤ 100000000) (ws : List Wh) (w : World) (hn : ws.length = n) (ho : w.ownsRow B 125 9 (.slice (some ⟨g, 0, none⟩) n cap) n (flat ws)) (hm : n ≤ 1048576) :
    Calls Try.prog 62 #[.slice (some ⟨g, 0, none⟩) n cap, .int .i64 k0] w fun e w' => e = .returned (.int .i64 ((k0 + n * 9 : Nat) : Int)) ∧ w'.ownsRow B 125 9 (.slice (some ⟨g, 0, none⟩) n cap) n (mk9 k0 (n * 9)) ∧ w.grownBy w' (some g) := by
  go_enter Try.func62, Try.ntmps62
  go_wp2_with fail
  go_loopw [1, 5, 6] (fun ks i _ wr => ∃ k : Nat, k ≤ n ∧ i = .int .i64 k ∧ ks = .int .i64 ((k0 + k * 9 : Nat) : Int) ∧ wr.ownsRow B 125 9 (.slice (some ⟨g, 0, none⟩) n cap) n (mkd k0 ws (k * 9)) ∧ w.grownBy wr (some g)) (fun _ i _ _ => n - (intOf i).toNat)
  case atStart => exact ⟨0, Nat.zero_le _, rfl, rfl, by rw [Nat.zero_mul, mkd_none]; exact ho, World.grownBy.refl _ _⟩
  case round =>
    clear ho
    obtain ⟨k, hk, rfl, rfl, hO, hg⟩ := hrel
    by_cases hlt : k < n
    · have hkz : (k : Int) < (n : Int) := by omega
      have hk0 : (0 : Int) ≤ (k : Int) := by omega
      obtain ⟨z, hz⟩ := mkd_old (k0 := k0) (ws := ws) (p := k * 9) (by omega)
      have hcell : wr.cell? ⟨g, k * 9, none⟩ = some (.int .i64 z) := by rw [hO.cellAt (k * 9) (by omega), hz]
      have hfr := hO.frozenAt (k * 9)
      have q1 : IntKind.i64.wrap (((k0 + k * 9 : Nat) : Int) + 1) = ((k0 + (k * 9 + 1) : Nat) : Int) := by rw [IntKind.wrap_i64]; omega
      obtain ⟨h1, h2⟩ := hO.stored (k * 9) (.int .i64 ((k0 + k * 9 : Nat) : Int))
      rw [mkd_step (by omega)] at h1
      have H1 := Lib.hid h1
      have H2 := Lib.hid (grown_trans hg h2)
      clear h1 h2 hO hg hz
      go_wp2_with fail
      go_loopw [1, 6] (fun ks j wr => ∃ m : Nat, m ≤ 8 ∧ j = .int .i64 m ∧ ks = .int .i64 ((k0 + (k * 9 + 1 + m) : Nat) : Int) ∧ wr.ownsRow B 125 9 (.slice (some ⟨g, 0, none⟩) n cap) n (mkd k0 ws (k * 9 + 1 + m)) ∧ w.grownBy wr (some g)) (fun _ j _ => 8 - (intOf j).toNat)
      case atStart => exact ⟨0, Nat.zero_le _, rfl, by go_num, H1.out, H2.out⟩
      case round =>
        clear H1 H2 hcell hfr q1
        obtain ⟨m, hm8, rfl, rfl, hO, hg⟩ := hrel
        by_cases hlt8 : m < 8
        · have hmz : (m : Int) < 8 := by omega
          have hm0 : (0 : Int) ≤ (m : Int) := by omega
          obtain ⟨z, hz⟩ := mkd_old (k0 := k0) (ws := ws) (p := k * 9 + 1 + m) (by omega)
          have hcell : wr.cell? ⟨g, k * 9 + 1 + m, none⟩ = some (.int .i64 z) := by rw [hO.cellAt (k * 9 + 1 + m) (by omega), hz]
          have hfr := hO.frozenAt (k * 9 + 1 + m)
          have q1 : IntKind.i64.wrap (((k0 + (k * 9 + 1 + m) : Nat) : Int) + 1) = ((k0 + (k * 9 + 1 + (m + 1)) : Nat) : Int) := by rw [IntKind.wrap_i64]; omega
          obtain ⟨h1, h2⟩ := hO.stored (k * 9 + 1 + m) (.int .i64 ((k0 + (k * 9 + 1 + m) : Nat) : Int))
          rw [mkd_step (by omega)] at h1
          have H1 := Lib.hid h1
          have H2 := Lib.hid (grown_trans hg h2)
          clear h1 h2 hO hg hz
          go_wp2_with fail
          go_roundw
          case rel => exact ⟨m + 1, by omega, by go_num, by go_num, H1.out, H2.out⟩
          case measure => simp [intOf]; omega
        · obtain rfl : m = 8 := by omega
          have H1 := Lib.hid hO
          have H2 := Lib.hid hg
          clear hO hg
          go_wp2_with fail
          go_roundw
          case rel => exact ⟨k + 1, by omega, by go_num, by go_num, by rw [show (k + 1) * 9 = k * 9 + 1 + 8 from by omega]; exact H1.out, H2.out⟩
          case measure => simp [intOf]; omega
    · obtain rfl : k = n := by omega
      rw [← hn, mkd_all, hn] at hO
      have H1 := Lib.hid hO
      have H2 := Lib.hid hg
      clear hO hg
      go_wp2_with fail
      go_ret
      exact ⟨rfl, H1.out, H2.out⟩
theorem mark_nil (k0 : Nat) (w : World) : Calls Try.prog 62 #[.slice none 0 0, .int .i64 k0] w fun e w' => e = .returned (.int .i64 k0) ∧ w = w' := by
  go_enter Try.func62, Try.ntmps62
  go_wp2_with fail
  refine wp_loop_rounds 1 ?_
  rw [rounds_succ]
  go_wp2_with fail
  go_ret
  exact ⟨rfl, rfl⟩
theorem mark_any (k0 : Nat) (hk0 : k0 ≤ 100000000) (v : Value) (B : Nat) (ws : List Wh) (w : World) (ho : Own w B 125 v ws) (hm : ws.length ≤ 1048576) :
    Calls Try.prog 62 #[v, .int .i64 k0] w fun e w' => e = .returned (.int .i64 ((k0 + ws.length * 9 : Nat) : Int)) ∧ w'.ownsRow B 125 9 v ws.length (mk9 k0 (ws.length * 9)) ∧ w.grownBy w' v.ownBlock := by
  have h2 := ho.2
  rcases h2 with ⟨rfl, h0⟩ | ⟨g, cap, cur, rfl, _⟩
  · refine (mark_nil k0 w).mono ?_
    rintro e w' ⟨rfl, rfl⟩
    refine ⟨by rw [h0]; rfl, ?_, World.grownBy.refl _ _⟩
    rw [h0, Nat.zero_mul]; exact World.ownsRow_nil _ _ _ _
  · exact mark_own k0 B g ws.length cap hk0 ws w rfl ho hm

set_option maxHeartbeats 2000000 in
theorem held_own (k0 B g n cap : Nat) (hk0 : k0 ≤ 100000000) (w : World) (ho : w.ownsRow B 125 9 (.slice (some ⟨g, 0, none⟩) n cap) n (mk9 k0 (n * 9))) (hm : n ≤ 1048576) :
    Calls Try.prog 66 #[.slice (some ⟨g, 0, none⟩) n cap, .int .i64 k0] w fun e w' => e = .returned (.int .i64 ((k0 + n * 9 : Nat) : Int)) ∧ w = w' := by
  have HO := Lib.hid ho
  clear ho
  go_enter Try.func66, Try.ntmps66
  go_wp2_with fail
  go_loop [1, 5, 6] (fun ks i _ => ∃ k : Nat, k ≤ n ∧ i = .int .i64 k ∧ ks = .int .i64 ((k0 + k * 9 : Nat) : Int)) (fun _ i _ => n - (intOf i).toNat)
  case atStart => exact ⟨0, Nat.zero_le _, rfl, rfl⟩
  case round =>
    obtain ⟨k, hk, rfl, rfl⟩ := hrel
    by_cases hlt : k < n
    · have hkz : (k : Int) < (n : Int) := by omega
      have hk0 : (0 : Int) ≤ (k : Int) := by omega
      have hcell : w.cell? ⟨g, k * 9, none⟩ = some (.int .i64 ((k0 + k * 9 : Nat) : Int)) := by
        rw [HO.out.cellAt (k * 9) (by omega), mk9_at (by omega)]
      have q1 : IntKind.i64.wrap (((k0 + k * 9 : Nat) : Int) + 1) = ((k0 + (k * 9 + 1) : Nat) : Int) := by rw [IntKind.wrap_i64]; omega
      have hne : (((k0 + k * 9 : Nat) : Int) != ((k0 + k * 9 : Nat) : Int)) = false := by simp
      go_wp2_with fail
      go_loop [1, 6] (fun ks j => ∃ m : Nat, m ≤ 8 ∧ j = .int .i64 m ∧ ks = .int .i64 ((k0 + (k * 9 + 1 + m) : Nat) : Int)) (fun _ j => 8 - (intOf j).toNat)
      case atStart => exact ⟨0, Nat.zero_le _, rfl, by go_num⟩
      case round =>
        clear hcell q1 hne
        obtain ⟨m, hm8, rfl, rfl⟩ := hrel
        by_cases hlt8 : m < 8
        · have hmz : (m : Int) < 8 := by omega
          have hm0 : (0 : Int) ≤ (m : Int) := by omega
          have hcell : w.cell? ⟨g, k * 9 + 1 + m, none⟩ = some (.int .i64 ((k0 + (k * 9 + 1 + m) : Nat) : Int)) := by
            rw [HO.out.cellAt (k * 9 + 1 + m) (by omega), mk9_at (by omega)]
          have q1 : IntKind.i64.wrap (((k0 + (k * 9 + 1 + m) : Nat) : Int) + 1) = ((k0 + (k * 9 + 1 + (m + 1)) : Nat) : Int) := by rw [IntKind.wrap_i64]; omega
          have hne : (((k0 + (k * 9 + 1 + m) : Nat) : Int) != ((k0 + (k * 9 + 1 + m) : Nat) : Int)) = false := by simp
          go_wp2_with fail
          go_round
          case rel => exact ⟨m + 1, by omega, by go_num, by go_num⟩
          case measure => simp [intOf]; omega
        · obtain rfl : m = 8 := by omega
          go_wp2_with fail
          go_round
          case rel => exact ⟨k + 1, by omega, by go_num, by go_num⟩
          case measure => simp [intOf]; omega
    · obtain rfl : k = n := by omega
      go_wp2_with fail
      go_ret
      exact ⟨rfl, rfl⟩
theorem held_nil (k0 : Nat) (w : World) : Calls Try.prog 66 #[.slice none 0 0, .int .i64 k0] w fun e w' => e = .returned (.int .i64 k0) ∧ w = w' := by
  go_enter Try.func66, Try.ntmps66
  go_wp2_with fail
  refine wp_loop_rounds 1 ?_
  rw [rounds_succ]
  go_wp2_with fail
  go_ret
  exact ⟨rfl, rfl⟩
theorem held_any (k0 : Nat) (hk0 : k0 ≤ 100000000) (v : Value) (B n : Nat) (w : World) (ho : w.ownsRow B 125 9 v n (mk9 k0 (n * 9))) (hm : n ≤ 1048576) :
    Calls Try.prog 66 #[v, .int .i64 k0] w fun e w' => e = .returned (.int .i64 ((k0 + n * 9 : Nat) : Int)) ∧ w = w' := by
  have h2 := ho.2
  rcases h2 with ⟨rfl, rfl⟩ | ⟨g, cap, cur, rfl, _⟩
  · exact held_nil k0 w
  · exact held_own k0 B g n cap hk0 w ho hm

end Go.Proofs.Ytdgbpdeimckbfaa
/- Both sides: two designs together, and their sum. -/
namespace Go.Proofs.Ytdgbpdeimckbfaa
set_option maxRecDepth 20000
open Go.ChangeShapes Go.WideShapes Go.ChangeAt Go.RowKit
set_option linter.unusedVariables false
set_option linter.unusedSimpArgs false

theorem only_and_no {b c : Bool} {A : List Wh} (h : (b && c) = false) : only (b && c) A = [] := by rw [h]; rfl
/-- Zero wheels, and no more. -/
theorem zeros_size (n m : Nat) : (Builtin.zeroCells (vec 9 nul) n ++ Builtin.zeroCells (vec 9 nul) m).size = (n + m) * 9 := by
  rw [Array.size_append, size_zeroCells, size_zeroCells, vec_size, ← Nat.add_mul]
theorem run_grow_zeros (n : Nat) (h0 : 0 < n) (hn : n ≤ 1000000) (w : World) : ∃ cap cur, n ≤ cap ∧ cap ≤ maxLen ∧ cur.size = cap * 9 ∧ ∀ ty, (Builtin.append_ #[86, 3] ty #[.slice none 0 0, .int .i64 n]).run Try.prog w =
      .ok (.slice (some ⟨w.heap.size, 0, none⟩) n cap) (w.drew.alloc (.cells cur 94)) := by
  have h : (Try.prog.info? 94).map (fun i => (i.zero, i.size, i.bytes)) = some (some (.agg (vec 9 nul)), 9, 72) := by kernel_rfl
  obtain ⟨i, hi, e1, e2, e3⟩ := info_parts h
  have hge := grownCap_ge w n 0 94
  have hle := grownCap_le_maxLen w n 0 94 (by simp only [maxLen]; omega)
  refine ⟨grownCap w n 0 94, _, hge, hle, ?_, fun ty => Lib.run_append_nil_zeros (P := Try.prog) w 86 3 ty 94 i _ .i64 .i64 Try.underlying86 Try.underlying3 hi e1 n h0 (by omega) (by omega) (by rw [e3]; omega)⟩
  show (Builtin.zeroCells (vec 9 nul) n ++ Builtin.zeroCells (vec 9 nul) _).size = _
  rw [zeros_size]; congr 1; omega
theorem cell_kept {w w' : World} {B G k : Nat} {v : Value} (h : w.cell? ⟨G, k, none⟩ = some v) (hG : G < B) (hb : Below B w w') : w'.cell? ⟨G, k, none⟩ = some v := (World.cell?_of_block (hb.block G hG)).trans h
/-- The sum of two designs. -/
def dSum (A B : List Wh) : Option (List Wh) := if valid A && valid B then tidy false (A ++ B) else none
theorem dSum_yes {A B : List Wh} (h : (valid A && valid B) = true) : dSum A B = tidy false (A ++ B) := by unfold dSum; rw [if_pos h]
theorem dSum_no {A B : List Wh} (h : (valid A && valid B) = false) : dSum A B = none := by unfold dSum; rw [h]; rfl
theorem dSum_short (A B : List Wh) : (got (dSum A B)).length ≤ 12 := by
  cases h : valid A && valid B
  · rw [dSum_no h]; simp [got]
  · rw [dSum_yes h]
    cases ht : tidy false (A ++ B) with
    | none => simp [got]
    | some R => exact valid_len (tidy_some ht).1.ok
theorem pair_big {A B : List Wh} (h : (valid A && valid B) = true) : ∀ c ∈ A ++ B, okv c.r = true := fun c hc => by
  rw [Bool.and_eq_true] at h
  rcases List.mem_append.1 hc with hc | hc
  · exact (valid_ok h.1 c hc).2
  · exact (valid_ok h.2 c hc).2
theorem pair_len {A B : List Wh} (h : (valid A && valid B) = true) : A.length ≤ 12 ∧ B.length ≤ 12 := by
  rw [Bool.and_eq_true] at h
  exact ⟨valid_len h.1, valid_len h.2⟩

end Go.Proofs.Ytdgbpdeimckbfaa
/- Both sides: products of designs. -/
namespace Go.Proofs.Ytdgbpdeimckbfaa
set_option maxRecDepth 20000
open Go.ChangeShapes Go.WideShapes Go.ChangeAt Go.RowKit
set_option linter.unusedVariables false
set_option linter.unusedSimpArgs false

/-- The product of two designs. -/
def okAll (l : List Wh) : Bool := l.all fun c => okv c.r
def dTimes (A B : List Wh) : Option (List Wh) := if valid A && valid B && okAll (pairs A B) then tidy false (pairs A B) else none
theorem dTimes_yes {A B : List Wh} (h : (valid A && valid B) = true) (k : okAll (pairs A B) = true) : dTimes A B = tidy false (pairs A B) := by unfold dTimes; rw [h, k]; rfl
theorem dTimes_no {A B : List Wh} (h : (valid A && valid B) = false) : dTimes A B = none := by unfold dTimes; rw [h]; rfl
theorem pairs_mem {A B : List Wh} {i j : Nat} {c d : Wh} (hc : A[i]? = some c) (hd : B[j]? = some d) : pairW c d ∈ pairs A B :=
  List.mem_flatMap.2 ⟨c, List.mem_of_getElem? hc, List.mem_map.2 ⟨d, List.mem_of_getElem? hd, rfl⟩⟩
theorem dTimes_bad {A B : List Wh} {i j : Nat} {c d : Wh} (hc : A[i]? = some c) (hd : B[j]? = some d) (h : okv (pairW c d).r = false) : dTimes A B = none := by
  have : okAll (pairs A B) = false := by
    cases hx : okAll (pairs A B)
    · rfl
    · unfold okAll at hx
      rw [List.all_eq_true] at hx
      rw [hx _ (pairs_mem hc hd)] at h; cases h
  unfold dTimes; rw [this, Bool.and_false]; rfl
theorem got_within {o : Option (List Wh)} (h : ∀ R, o = some R → valid R = true) : (got o).length ≤ 12 := by
  cases o with
  | none => simp [got]
  | some R => exact valid_len (h R rfl)
theorem dTimes_short (A B : List Wh) : (got (dTimes A B)).length ≤ 12 := got_within fun R h => by
  unfold dTimes at h
  split at h
  · exact (tidy_some h).1.ok
  · cases h
/-- The products of the first k wheels with all, then those of one more with the first j. -/
def upto (A B : List Wh) (k : Nat) : List Wh := pairs (A.take k) B
def upto2 (A B : List Wh) (k : Nat) (c : Wh) (j : Nat) : List Wh := upto A B k ++ (B.take j).map (pairW c)
theorem upto_none (A B : List Wh) : upto A B 0 = [] := rfl
theorem upto_all (A B : List Wh) : upto A B A.length = pairs A B := by unfold upto; rw [List.take_length]
theorem upto2_none (A B : List Wh) (k : Nat) (c : Wh) : upto2 A B k c 0 = upto A B k := by simp [upto2]
theorem upto2_all {A B : List Wh} {k : Nat} {c : Wh} (hc : A[k]? = some c) : upto2 A B k c B.length = upto A B (k + 1) := by
  unfold upto2 upto pairs
  rw [List.take_length, take_next hc, List.flatMap_append]
  simp
theorem upto2_next {A B : List Wh} {k j : Nat} {c d : Wh} (hd : B[j]? = some d) : upto2 A B k c j ++ [pairW c d] = upto2 A B k c (j + 1) := by
  unfold upto2
  rw [take_next hd, List.map_append, List.append_assoc]; rfl
theorem pairs_length (A B : List Wh) : (pairs A B).length = A.length * B.length := by
  induction A with
  | nil => simp [pairs]
  | cons c A ih =>
    have : pairs (c :: A) B = B.map (pairW c) ++ pairs A B := rfl
    rw [this, List.length_append, List.length_map, ih, List.length_cons, Nat.add_mul, Nat.one_mul, Nat.add_comm]
theorem upto2_len {A B : List Wh} (hA : A.length ≤ 12) (hB : B.length ≤ 12) (k j : Nat) (c : Wh) : (upto2 A B k c j).length ≤ 200 := by
  unfold upto2 upto
  rw [List.length_append, pairs_length, List.length_map, List.length_take, List.length_take]
  have h1 : min k A.length * B.length ≤ 12 * 12 := Nat.mul_le_mul (by omega) hB
  omega
theorem upto_len {A B : List Wh} (hA : A.length ≤ 12) (hB : B.length ≤ 12) (k : Nat) : (upto A B k).length ≤ 200 := by
  have := upto2_len hA hB k 0 ⟨0, V.zero⟩
  rwa [upto2_none] at this
theorem upto2_room {A B : List Wh} {k j : Nat} (c : Wh) (hk : k < A.length) (hj : j < B.length) : (upto2 A B k c j).length + 1 ≤ A.length * B.length := by
  have e : (upto2 A B k c j).length = k * B.length + j := by
    unfold upto2 upto
    rw [List.length_append, pairs_length, List.length_map, List.length_take, List.length_take, Nat.min_eq_left (by omega), Nat.min_eq_left (by omega)]
  have h : (k + 1) * B.length ≤ A.length * B.length := Nat.mul_le_mul_right _ hk
  rw [Nat.add_mul, Nat.one_mul] at h
  omega
theorem own_size {w : World} {B T g n cap : Nat} {ws : List Wh} (h : Own w B T (.slice (some ⟨g, 0, none⟩) n cap) ws) : g < w.heap.size := (own_parts h).1
section
variable {P : Program} {t e : TypeId} {ops : Array Oper} {rest : List Oper} {o : Oper} {a : Act} {Q : Exit → Act → World → Prop} {w : World} {B : Nat}
/-- Appending where there is room: the list stays where it is. -/
theorem append_fit9 (ty : Ty9 P t e) (hgd : o.guard = none) {s x : Operand} (hop : o.op = .call { callee := .builtin .append, args := #[s, x], argTypes := #[t, t] })
    {g cap g2 o2 c : Nat} {xs ys : List Wh} (hs : a.eval s = .slice (some ⟨g, 0, none⟩) xs.length cap) (hx : a.eval x = .slice (some ⟨g2, o2, none⟩) ys.length c) (hown : Own w B e (.slice (some ⟨g, 0, none⟩) xs.length cap) xs)
    (hr : w.rangeAt g2 o2 (flat ys)) (hroom : xs.length + ys.length ≤ cap)
    (h : ∀ w', Own w' B e (.slice (some ⟨g, 0, none⟩) (xs ++ ys).length cap) (xs ++ ys) → w.grownBy w' (some g) → wpList P ops Q rest (a.put o.dst (.slice (some ⟨g, 0, none⟩) (xs ++ ys).length cap)) w') : wpList P ops Q (o :: rest) a w := by
  refine wpList_plain hgd fun K hK => ?_
  obtain ⟨i, z, hi, hz, hsz, hby, hzs⟩ := ty.inf
  obtain ⟨w', hr1, ho, hg⟩ := run_append_fits (P := P) w B t o.type e i 9 ty.sl hi hsz g xs.length cap (flat xs) hown ⟨g2, o2, none⟩ ys.length c (flat ys) (flat_length ys) (fun j u hu => by rw [Addr.add_mid]; exact hr j u hu) (flat_oneCell ys) hroom
  unfold Oper.wp execOp
  simp only [hop, resolve, invoke, builtin, Sem.run_bind, Sem.run_pure, Result.andThen_ok, List.map_toArray, List.map_cons, List.map_nil, hs, hx, hr1]
  rw [← flat_append] at ho
  rw [← List.length_append] at ho ⊢
  exact hK _ _ (h w' ho hg)
end
theorem lit_range (w : World) (c : Wh) (T : Nat) : (w.alloc (.cells (vec 9 (wf c)) T)).rangeAt w.heap.size 0 (flat [c]) := fun j v hv => by
  rw [Nat.zero_add, cell_of_row _ _ _ _ _ _ (heap_alloc_new w _)]
  rw [flat_one] at hv
  simpa [vec, enc] using hv
theorem okAll_none : okAll [] = true := rfl
theorem okAll_next {l : List Wh} {c : Wh} (h : okAll l = true) (k : okv c.r = true) : okAll (l ++ [c]) = true := by
  unfold okAll at *
  rw [List.all_append, h]; simp [k]
theorem okAll_mem {l : List Wh} (h : okAll l = true) : ∀ c ∈ l, okv c.r = true := List.all_eq_true.1 h

set_option maxHeartbeats 1000000 in
theorem ctimes_any (c d : Wh) (hc : inS c.s = true) (hd : inS d.s = true) (hr : okv c.r = true) (hq : okv d.r = true) (w : World) :
    Calls Try.prog 205 #[wh c, wh d] w fun e w' => e = .returned (wh (pairW c d)) ∧ Below w.heap.size w w' := by
  have C := fun w => timesV c.r d.r hr hq w
  have e1 : wh (pairW c d) = wh ⟨c.s + d.s, dn (prV c.r d.r).up⟩ := by rw [dn_up]; rfl
  rw [e1]
  generalize prV c.r d.r = r at *
  have b1 := inS_bound hc
  have b2 := inS_bound hd
  have e2 : IntKind.i64.wrap (c.s + d.s) = c.s + d.s := by rw [IntKind.wrap_i64]; omega
  have hA : RowAt (((w.alloc (.cells (vec 9 (wf c)) 94)).alloc (.cells (vec 9 (wf d)) 94)).alloc (.cells (vec 9 nul) 94)) w.heap.size 9 94 (wf c) := ((RowAt.newAt rfl rfl).alloc _).alloc _
  have hB : RowAt (((w.alloc (.cells (vec 9 (wf c)) 94)).alloc (.cells (vec 9 (wf d)) 94)).alloc (.cells (vec 9 nul) 94)) (w.heap.size + 1) 9 94 (wf d) := (RowAt.newAt rfl (by simp)).alloc _
  have hO : RowAt (((w.alloc (.cells (vec 9 (wf c)) 94)).alloc (.cells (vec 9 (wf d)) 94)).alloc (.cells (vec 9 nul) 94)) (w.heap.size + 1 + 1) 9 94 nul := RowAt.newAt rfl (by simp)
  have hL : Below w.heap.size w (((w.alloc (.cells (vec 9 (wf c)) 94)).alloc (.cells (vec 9 (wf d)) 94)).alloc (.cells (vec 9 nul) 94)) := (((Below.refl _ _).alloc (Nat.le_refl _) _).alloc (by simp) _).alloc (by simp; omega) _
  clear b1 b2 hc hd
  go_enter Try.func205, Try.ntmps205
  go_upto_region 1 with fail
  show Code.wp _ _ _ _ (((w.alloc (.cells (vec 9 (wf c)) 94)).alloc (.cells (vec 9 (wf d)) 94)).alloc (.cells (vec 9 nul) 94))
  generalize ((w.alloc (.cells (vec 9 (wf c)) 94)).alloc (.cells (vec 9 (wf d)) 94)).alloc (.cells (vec 9 nul) 94) = W at *
  refine wp_region_held_drew (S := fun w' => RowAt w' w.heap.size 9 94 (wf c) ∧ RowAt w' (w.heap.size + 1) 9 94 (wf d) ∧ (∃ f, RowAt w' (w.heap.size + 1 + 1) 9 94 f) ∧ Below w.heap.size w w') (by kernel_rfl) ⟨hA.drew1, hB.drew1, ⟨_, hO.drew1⟩, hL.drew⟩ (fun hHeld => ?_)
  clear hA hB hO hL
  refine wpAnyH_take (i := 0) (oi := _) (v := .pointer (some ⟨w.heap.size, 0, none⟩)) rfl (by kernel_rfl) (by kernel_rfl) (by kernel_rfl) (fun _ _ _ h => h) (Or.inl ⟨by rfl, fun w h => by go_simp⟩) hHeld ?_
  try simp only [Act.put, List.setIfInBounds_toArray, List.set_cons_zero, List.set_cons_succ, List.getElem_toArray, List.getElem_cons_succ, List.getElem_cons_zero]
  refine wpAnyH_take (i := 1) (oi := _) (v := .int .i64 c.s) rfl (by kernel_rfl) (by kernel_rfl) (by kernel_rfl) (fun _ _ _ h => h) (Or.inl ⟨by rfl, fun w h => by have hcell := row_speed h.1; go_simp⟩) hHeld ?_
  try simp only [Act.put, List.setIfInBounds_toArray, List.set_cons_zero, List.set_cons_succ, List.getElem_toArray, List.getElem_cons_succ, List.getElem_cons_zero]
  refine wpAnyH_take (i := 2) (oi := _) (v := .pointer (some ⟨w.heap.size + 1, 0, none⟩)) rfl (by kernel_rfl) (by kernel_rfl) (by kernel_rfl) (fun _ _ _ h => h) (Or.inl ⟨by rfl, fun w h => by go_simp⟩) hHeld ?_
  try simp only [Act.put, List.setIfInBounds_toArray, List.set_cons_zero, List.set_cons_succ, List.getElem_toArray, List.getElem_cons_succ, List.getElem_cons_zero]
  refine wpAnyH_take (i := 3) (oi := _) (v := .int .i64 d.s) rfl (by kernel_rfl) (by kernel_rfl) (by kernel_rfl) (fun _ _ _ h => h) (Or.inl ⟨by rfl, fun w h => by have hcell := row_speed h.2.1; go_simp⟩) hHeld ?_
  try simp only [Act.put, List.setIfInBounds_toArray, List.set_cons_zero, List.set_cons_succ, List.getElem_toArray, List.getElem_cons_succ, List.getElem_cons_zero]
  refine wpAnyH_take (i := 4) (oi := _) (v := .int .i64 (c.s + d.s)) rfl (by kernel_rfl) (by kernel_rfl) (by kernel_rfl) (fun _ _ _ h => h) (Or.inl ⟨by rfl, fun w h => by go_simp⟩) hHeld ?_
  try simp only [Act.put, List.setIfInBounds_toArray, List.set_cons_zero, List.set_cons_succ, List.getElem_toArray, List.getElem_cons_succ, List.getElem_cons_zero]
  refine wpAnyH_take (i := 5) (oi := _) (v := .pointer (some ⟨w.heap.size, 1, none⟩)) rfl (by kernel_rfl) (by kernel_rfl) (by kernel_rfl) (fun _ _ _ h => h) (Or.inl ⟨by rfl, fun w h => by go_simp⟩) hHeld ?_
  try simp only [Act.put, List.setIfInBounds_toArray, List.set_cons_zero, List.set_cons_succ, List.getElem_toArray, List.getElem_cons_succ, List.getElem_cons_zero]
  refine wpAnyH_take (i := 6) (oi := _) (v := .agg (vec 8 c.r.up)) rfl (by kernel_rfl) (by kernel_rfl) (by kernel_rfl) (fun _ _ _ h => h) (yieldsIf_load_mid (by rfl) _ _ rfl _ _ rfl _ _ ((fun w h => row_radius h.1)) Try.underlying92 rfl (size_exact8 _)) hHeld ?_
  try simp only [Act.put, List.setIfInBounds_toArray, List.set_cons_zero, List.set_cons_succ, List.getElem_toArray, List.getElem_cons_succ, List.getElem_cons_zero]
  refine wpAnyH_take (i := 7) (oi := _) (v := .pointer (some ⟨w.heap.size + 1, 1, none⟩)) rfl (by kernel_rfl) (by kernel_rfl) (by kernel_rfl) (fun _ _ _ h => h) (Or.inl ⟨by rfl, fun w h => by go_simp⟩) hHeld ?_
  try simp only [Act.put, List.setIfInBounds_toArray, List.set_cons_zero, List.set_cons_succ, List.getElem_toArray, List.getElem_cons_succ, List.getElem_cons_zero]
  refine wpAnyH_take (i := 8) (oi := _) (v := .agg (vec 8 d.r.up)) rfl (by kernel_rfl) (by kernel_rfl) (by kernel_rfl) (fun _ _ _ h => h) (yieldsIf_load_mid (by rfl) _ _ rfl _ _ rfl _ _ ((fun w h => row_radius h.2.1)) Try.underlying92 rfl (size_exact8 _)) hHeld ?_
  try simp only [Act.put, List.setIfInBounds_toArray, List.set_cons_zero, List.set_cons_succ, List.getElem_toArray, List.getElem_cons_succ, List.getElem_cons_zero]
  refine wpAnyH_ready (rs := [9]) (by kernel_rfl) (by simp) ?_
  refine AllReadyH.cons (o := _) rfl (fun K hK => ?_) AllReadyH.nil
  go_simp
  refine (C _).mono ?_; rintro e w1 ⟨rfl, hb1⟩
  go_wp2_with fail
  obtain ⟨h1, h1b, ⟨_, h2⟩, h3⟩ := hHeld
  refine hK.out _ _ ⟨h1.below hb1, h1b.below hb1, ⟨_, h2.below hb1⟩, below_next h3 hb1⟩ (fun hHeld => ?_)
  clear hK K
  try simp only [Act.put, List.setIfInBounds_toArray, List.set_cons_zero, List.set_cons_succ, List.getElem_toArray, List.getElem_cons_succ, List.getElem_cons_zero]
  clear h1 h1b h2 h3 hb1
  refine wpAnyH_take (i := 10) (oi := _) (v := wh ⟨c.s + d.s, dn r.up⟩) rfl (by kernel_rfl) (by kernel_rfl) (by kernel_rfl) (fun _ _ _ h => h) (Or.inl ⟨by rfl, fun w h => yields_build built_circle rfl rfl rfl⟩) hHeld ?_
  try simp only [Act.put, List.setIfInBounds_toArray, List.set_cons_zero, List.set_cons_succ, List.getElem_toArray, List.getElem_cons_succ, List.getElem_cons_zero]
  refine wpAnyH_ready (rs := [11]) (by kernel_rfl) (by simp) ?_
  refine AllReadyH.cons (o := _) rfl (fun K hK => ?_) AllReadyH.nil
  rw [if_pos (by rfl)]
  obtain ⟨h1, h1b, ⟨_, h2⟩, h3⟩ := hHeld
  refine store_step (f' := wf ⟨c.s + d.s, dn r.up⟩) rfl rfl rfl h2 info_circle ?_
  have hG := h2.setRow (f' := wf ⟨c.s + d.s, dn r.up⟩)
  have hF := below_setRow h3 (g := w.heap.size + 1 + 1) (by omega) (vec 9 (wf ⟨c.s + d.s, dn r.up⟩))
  refine hK.out _ _ ⟨h1.rowOther _ _ (by omega), h1b.rowOther _ _ (by omega), ⟨_, hG⟩, hF⟩ (fun hHeld => ?_)
  clear hK K
  try simp only [Act.put, List.setIfInBounds_toArray, List.set_cons_zero, List.set_cons_succ, List.getElem_toArray, List.getElem_cons_succ, List.getElem_cons_zero]
  clear h1 h1b h2 h3 hHeld
  refine wpAnyH_done (by kernel_rfl) ?_ _
  go_wp2_with fail
  refine bodyPost_ret (results_row rfl rfl hG Try.underlying94 rfl info_circle) rfl ?_
  exact ⟨rfl, hF⟩


theorem own_set {w : World} {B T g : Nat} {v : Value} {ws : List Wh} (h : Own w B T v ws) (hg : some g ≠ v.ownBlock) (cs : Array Value) : Own (w.setRow g cs) B T v ws :=
  World.ownsRow.kept h (row := some g) ⟨rfl, rfl, rfl, by simp, fun k _ hk => setRow_other w g k _ (fun e => hk (by simp [e]))⟩ (.inr fun e => hg e.symm)
/-- What the model's product of two valid points answers. -/
theorem specProdV (a b : V) (ha : okv a = true) (hb : okv b = true) (w : World) :
    Calls Try.prog 103 #[pt a.up, pt b.up] w fun e w' => e = .returned (.tuple #[pt (if okv (prV a b) then prV a b else V.zero).up, .bool (okv (prV a b))]) ∧ Below w.heap.size w w' := by
  have h := specProd_any a.up b.up w
  have e : okv (prV a b) = okc (prd a.up b.up) := okv_dn _
  rw [show okc a.up = true from ha, show okc b.up = true from hb] at h
  rw [e]
  cases hk : okc (prd a.up b.up)
  · rw [show (true && true) = true from rfl, ans_bad hk] at h
    rw [if_neg (by decide), zero_up]
    exact h
  · rw [show (true && true) = true from rfl, ans_yes hk, pt_same fun j hj => (up_dn (prd a.up b.up) j hj).symm] at h
    rw [if_pos rfl]
    exact h

end Go.Proofs.Ytdgbpdeimckbfaa
