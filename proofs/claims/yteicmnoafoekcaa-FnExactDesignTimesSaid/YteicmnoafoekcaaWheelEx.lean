/-
  The exact laws' helpers on lists of wheels: measured, copied, compared, marked, held.
-/
import Derived.Test.YteicmnoafoekcaaWheelOpen
import Derived.Test.YteicmnoafoekcaaWheelX
import Derived.Test.YteicmnoafoekcaaCycZ
namespace Go.Proofs.Yteicmnoafoekcaa
set_option maxRecDepth 20000
open Go.ChangeShapes Go.WideShapes Go.ChangeAt Go.RowKit
set_option linter.unusedVariables false
set_option linter.unusedSimpArgs false

theorem szWheels_yes (v : Value) (ws : List Wh) (left : Int) (w : World) (hv : Lies w v ws) (hl : left ≤ 1048576) (h : (ws.length : Int) ≤ left) :
    Calls Try.prog 48 #[v, .int .i64 left] w fun e w' => e = .returned (.int .i64 (left - (ws.length : Int))) ∧ w = w' := by
  obtain ⟨p, cap, rfl, hc1, hc2, -⟩ := hv
  have r1 : IntKind.i64.wrap (left - (ws.length : Int)) = left - (ws.length : Int) := by rw [IntKind.wrap_i64]; omega
  have hb : ¬ left - (ws.length : Int) < 0 := by omega
  go_enter Try.func48, Try.ntmps48
  go_wp2
  go_ret
  exact ⟨rfl, rfl⟩
theorem szWheels_no (v : Value) (ws : List Wh) (left : Int) (w : World) (hv : Lies w v ws) (h0 : 0 ≤ left) (hl : left ≤ 1048576) (h : left < (ws.length : Int)) :
    Calls Try.prog 48 #[v, .int .i64 left] w fun e w' => e = .returned (.int .i64 (-1)) ∧ w = w' := by
  obtain ⟨p, cap, rfl, hc1, hc2, -⟩ := hv
  simp only [maxLen] at hc2
  have r1 : IntKind.i64.wrap (left - (ws.length : Int)) = left - (ws.length : Int) := by rw [IntKind.wrap_i64]; omega
  have hb : left - (ws.length : Int) < 0 := by omega
  go_enter Try.func48, Try.ntmps48
  go_wp2
  go_ret
  exact ⟨rfl, rfl⟩

theorem info_lawWheel : (Try.prog.info? 92).map (·.size) = some 9 := by kernel_rfl
theorem size_lawWheel (c : Wh) : (Try.prog.info? 92).map (·.size) = some (enc c).length := by rw [enc_length]; exact info_lawWheel
theorem info_lawCyc : (Try.prog.info? 90).map (·.size) = some 8 := by kernel_rfl
/-- A radius put into a wheel's row. -/
theorem RowAt.radius {w : World} {g : Nat} {T : TypeId} {f : Nat → Int} (h : RowAt w g 9 T f) (r : V) : RowAt (w.setCells g 1 (lst 8 r.up)) g 9 T (wf ⟨f 0, r⟩) := by
  have e : lst 8 r.up = ((List.range 8).map r.up).map (Value.int .i64) := by simp [lst]
  rw [e]
  obtain ⟨F, hF, hb, hi⟩ := RowAt.cellsFrom ((List.range 8).map r.up) 1 w f h (by simp)
  refine hF.same fun j hj => ?_
  by_cases h0 : j = 0
  · subst h0; rw [hb 0 (by omega)]; rfl
  · have := hi (j - 1) (by simp; omega)
    rw [show 1 + (j - 1) = j from by omega] at this
    have hj8 : j - 1 < 8 := by omega
    rw [this]
    simp [wf, h0, List.getD_eq_getElem?_getD, hj8]
theorem _root_.Go.World.ownsRow.belowK {w w' : World} {B T g n cap : Nat} {xs : List Value} (h : w.ownsRow B T 9 (.slice (some ⟨g, 0, none⟩) n cap) n xs) (hb : Below w.heap.size w w') : w'.ownsRow B T 9 (.slice (some ⟨g, 0, none⟩) n cap) n xs := by
  refine ⟨h.1, ?_⟩
  rcases h.2 with h0 | ⟨g', cap', cur, e, hB, hg, rest⟩
  · exact .inl h0
  · exact .inr ⟨g', cap', cur, e, hB, (hb.block g' (Array.getElem?_eq_some_iff.1 hg).1).trans hg, rest⟩
theorem RowAt.thereAt {w : World} {g n o m : Nat} {T : TypeId} {f : Nat → Int} (h : RowAt w g n T f) (hm : o + m ≤ n) : w.there g o m := fun j hj => by
  rw [h.cell (k := o + j) (by omega), h.free]; exact ⟨rfl, rfl⟩

set_option maxHeartbeats 1000000 in
theorem toWheel_any (c : Wh) (w : World) : Calls Try.prog 88 #[wh c] w fun e w' => e = .returned (wh c) ∧ Below w.heap.size w w' := by
  have P := fun w => toCyc_any c.r.up w
  have hA : RowAt (((w.alloc (.cells (vec 9 (wf c)) 92)).alloc (.cells (vec 9 nul) 34)).alloc (.cells (vec 9 nul) 34)) w.heap.size 9 92 (wf c) := ((RowAt.newAt rfl rfl).alloc _).alloc _
  have hO : RowAt (((w.alloc (.cells (vec 9 (wf c)) 92)).alloc (.cells (vec 9 nul) 34)).alloc (.cells (vec 9 nul) 34)) (w.heap.size + 1) 9 34 nul := (RowAt.newAt rfl (by simp)).alloc _
  have hE : RowAt (((w.alloc (.cells (vec 9 (wf c)) 92)).alloc (.cells (vec 9 nul) 34)).alloc (.cells (vec 9 nul) 34)) (w.heap.size + 1 + 1) 9 34 nul := RowAt.newAt rfl (by simp)
  have hL : Below w.heap.size w (((w.alloc (.cells (vec 9 (wf c)) 92)).alloc (.cells (vec 9 nul) 34)).alloc (.cells (vec 9 nul) 34)) := (((Below.refl _ _).alloc (Nat.le_refl _) _).alloc (by simp) _).alloc (by simp; omega) _
  have HA := Lib.hid hA
  have HO := Lib.hid hO
  have HE := Lib.hid hE
  have HL := Lib.hid hL
  clear hA hO hE hL
  go_enter Try.func88, Try.ntmps88
  go_upto_region 2 with fail
  show Code.wp _ _ _ _ (((w.alloc (.cells (vec 9 (wf c)) 92)).alloc (.cells (vec 9 nul) 34)).alloc (.cells (vec 9 nul) 34))
  generalize ((w.alloc (.cells (vec 9 (wf c)) 92)).alloc (.cells (vec 9 nul) 34)).alloc (.cells (vec 9 nul) 34) = W at *
  have cA := row_speed HA.out
  have cE := HE.out.cell (k := 0) (by omega)
  have fE := HE.out.free 0
  have HA2 : Aside (RowAt (W.setCell ⟨w.heap.size + 1 + 1, 0, none⟩ (.int .i64 c.s)) w.heap.size 9 92 (wf c)) := HA.out.other _ _ (by simp; omega)
  have HO2 : Aside (RowAt (W.setCell ⟨w.heap.size + 1 + 1, 0, none⟩ (.int .i64 c.s)) (w.heap.size + 1) 9 34 nul) := HO.out.other _ _ (by simp)
  have HE2 : Aside (RowAt (W.setCell ⟨w.heap.size + 1 + 1, 0, none⟩ (.int .i64 c.s)) (w.heap.size + 1 + 1) 9 34 (upd nul 0 c.s)) := HE.out.set (k := 0) (by omega) c.s
  have HL2 : Aside (Below w.heap.size w (W.setCell ⟨w.heap.size + 1 + 1, 0, none⟩ (.int .i64 c.s))) := HL.out.setCell (p := ⟨w.heap.size + 1 + 1, 0, none⟩) (by simp; omega) _
  clear HA HO HE HL
  go_upto_region 3 with fail
  show Code.wp _ _ _ _ (W.setCell ⟨w.heap.size + 1 + 1, 0, none⟩ (.int .i64 c.s))
  clear cA cE fE
  generalize W.setCell ⟨w.heap.size + 1 + 1, 0, none⟩ (.int .i64 c.s) = W2 at *
  go_wp2_with (refine load_part (T := 90) (g := w.heap.size) rfl rfl rfl (row_radius HA2.out) Try.underlying90 rfl info_lawCyc ?_)
  refine (P _).mono ?_; rintro e W3 ⟨rfl, hb3⟩
  have HE3 : Aside (RowAt (W3.setCells (w.heap.size + 1 + 1) 1 (lst 8 c.r.up)) (w.heap.size + 1 + 1) 9 34 (wf c)) := (show RowAt _ _ _ _ _ from (HE2.out.below hb3).radius c.r)
  have HT3 : Aside (W3.there (w.heap.size + 1 + 1) 1 8) := (HE2.out.below hb3).thereAt (by omega)
  have HO3 : Aside (RowAt (W3.setCells (w.heap.size + 1 + 1) 1 (lst 8 c.r.up)) (w.heap.size + 1) 9 34 nul) := (HO2.out.below hb3).cellsOther _ _ _ (by omega)
  have HL3 : Aside (Below w.heap.size w (W3.setCells (w.heap.size + 1 + 1) 1 (lst 8 c.r.up))) := below_setCells (by omega) _ _ _ (below_next HL2.out hb3)
  clear HA2 HO2 HE2 HL2 hb3 P
  go_upto_region 4 with (refine store_part (ty := 32) (g := w.heap.size + 1 + 1) rfl rfl rfl rfl HT3.out info_cyc ?_)
  show Code.wp _ _ _ _ (W3.setCells (w.heap.size + 1 + 1) 1 (lst 8 c.r.up))
  clear HT3
  generalize W3.setCells (w.heap.size + 1 + 1) 1 (lst 8 c.r.up) = W4 at *
  go_wp2_with (first | (refine load_row (g := w.heap.size + 1 + 1) rfl rfl rfl HE3.out Try.underlying34 rfl info_wheel ?_) | (refine store_row (g := w.heap.size + 1) rfl rfl rfl rfl HO3.out info_wheel ?_))
  refine bodyPost_ret (results_row rfl rfl HO3.out.setRow Try.underlying34 rfl info_wheel) rfl ?_
  exact ⟨rfl, below_setRow HL3.out (by omega) _⟩

end Go.Proofs.Yteicmnoafoekcaa
