/-
  The exact laws' copies of lists of wheels.
-/
import Derived.Test.YteicmnoafoekcaaWheelEx
namespace Go.Proofs.Yteicmnoafoekcaa
set_option maxRecDepth 20000
open Go.ChangeShapes Go.WideShapes Go.ChangeAt Go.RowKit
set_option linter.unusedVariables false
set_option linter.unusedSimpArgs false

/-- The first k wheels of a list, then as many as are left of the zero wheel. -/
def half (ws : List Wh) (k : Nat) : List Wh := ws.take k ++ List.replicate (ws.length - k) noW
theorem half_len {ws : List Wh} {k : Nat} (h : k ≤ ws.length) : (half ws k).length = ws.length := by simp [half]; omega
theorem half_at {ws : List Wh} {k : Nat} (h : k < ws.length) : (half ws k)[k]? = some noW := by
  unfold half
  rw [List.getElem?_append_right (by simp; omega), List.length_take, Nat.min_eq_left (by omega), Nat.sub_self, List.getElem?_replicate, if_pos (by omega)]
theorem half_set {ws : List Wh} {k : Nat} {c : Wh} (hc : ws[k]? = some c) : (half ws k).set k c = half ws (k + 1) := by
  have h : k < ws.length := (List.getElem?_eq_some_iff.1 hc).1
  unfold half
  rw [List.set_append_right _ _ (by simp; omega), List.length_take, Nat.min_eq_left (by omega), Nat.sub_self, show ws.length - k = (ws.length - (k + 1)) + 1 from by omega, List.replicate_succ, List.set_cons_zero, take_next hc, List.append_assoc]
  rfl
theorem half_all (ws : List Wh) : half ws ws.length = ws := by simp [half]
theorem half_none (ws : List Wh) : half ws 0 = List.replicate ws.length noW := by simp [half]
theorem there_of {w : World} {B T g n cap k o m : Nat} {L : List Wh} (h : w.ownsRow B T 9 (.slice (some ⟨g, 0, none⟩) n cap) n (flat L)) (hk : k < n) (ho : o + m ≤ 9) : w.there g (k * 9 + o) m := fun j hj => by
  have h1 := h.cellAt (k * 9 + o + j) (by omega)
  refine ⟨?_, h.frozenAt _⟩
  rw [h1, List.getElem?_eq_getElem (by rw [h.1]; omega)]; rfl
theorem wf_noW_at (j : Nat) : wf noW j = 0 := by
  unfold wf noW
  simp only [zero_up]
  split <;> rfl
theorem made_flat (n : Nat) : (madeCells (Value.agg (vec 9 nul)).cells (n * 9)).toList = flat (List.replicate n noW) := by
  apply List.ext_getElem?
  intro i
  by_cases hi : i < n * 9
  · have h1 := flat_at (ws := List.replicate n noW) (i := i / 9) (c := noW) (by rw [List.getElem?_replicate, if_pos (by omega)]) (i % 9) (by omega)
    rw [show i / 9 * 9 + i % 9 = i from by omega, enc_at _ _ (by omega), wf_noW_at] at h1
    rw [h1]
    have hz : ∀ k, k < 9 → (vec 9 nul)[k]! = .int .i64 0 := fun k hk => by
      rw [getElem!_pos (vec 9 nul) k (by rw [vec_size]; exact hk)]
      have := vec_at nul hk
      rw [Array.getElem?_eq_getElem (by rw [vec_size]; exact hk)] at this
      simpa [nul] using this
    have hm : i % 9 < 9 := by omega
    simp [madeCells, Value.cells, hi, vec_size, hz _ hm]
  · rw [List.getElem?_eq_none (by simp [madeCells]; omega), List.getElem?_eq_none (by rw [flat_length]; simp; omega)]
theorem info_wheel_full : ∃ i, Try.prog.info? 34 = some i ∧ i.zero = some (.agg (vec 9 nul)) ∧ i.size = 9 ∧ i.bytes = 72 := by
  have h : (Try.prog.info? 34).map (fun i => (i.zero, i.size, i.bytes)) = some (some (.agg (vec 9 nul)), 9, 72) := by kernel_rfl
  obtain ⟨i, hi, e1, e2, e3⟩ := info_parts h
  exact ⟨i, hi, e1, e2, e3⟩
section
variable {ops : Array Oper} {rest : List Oper} {o : Oper} {a : Act} {Q : Exit → Act → World → Prop} {w : World}
/-- 'make' of a list of zero wheels. -/
theorem make_full9 (hgd : o.guard = none) {l c : Operand} (hop : o.op = .makeSlice 23 l c) (n : Nat) (hl : a.eval l = .int .i64 n) (hc : a.eval c = .int .i64 n) (hn : n ≤ 1000000000000)
    (h : ∀ w', w'.ownsRow w.heap.size 34 9 (.slice (some ⟨w.heap.size, 0, none⟩) n n) n (flat (List.replicate n noW)) → Below w.heap.size w w' → wpList Try.prog ops Q rest (a.put o.dst (.slice (some ⟨w.heap.size, 0, none⟩) n n)) w') : wpList Try.prog ops Q (o :: rest) a w := by
  obtain ⟨i, hi, hz, hs, hby⟩ := info_wheel_full
  refine wpList_plain hgd fun K hK' => ?_
  obtain ⟨w', hrun, r1, r2⟩ := run_make_full (P := Try.prog) w w.heap.size 23 34 i _ 9 Try.underlying23 hi hz hs .i64 .i64 n (by rw [hby]; omega) (by simp only [maxLen]; omega) (Nat.le_refl _)
  rw [made_flat] at r1
  unfold Oper.wp
  simp [execOp, hop, hl, hc, hrun, Result.andThen]
  exact hK' _ _ (h w' r1 (below_fresh (Below.refl _ _) (Nat.le_refl _) r2))
end

set_option maxHeartbeats 2000000 in
theorem toWheels_any (v : Value) (ws : List Wh) (w : World) (hv : Lies w v ws) (hn : ws.length ≤ 1048576) :
    Calls Try.prog 49 #[v] w fun e w' => Below w.heap.size w w' ∧ ∃ v', e = .returned v' ∧ Own w' w.heap.size 34 v' ws := by
  obtain ⟨p, cap, rfl, hc1, hc2, hp⟩ := hv
  simp only [maxLen] at hc2
  have HP := Lib.hid hp
  clear hp
  go_enter Try.func49, Try.ntmps49
  go_wp2_with (refine make_full9 rfl rfl ws.length rfl rfl (by omega) ?_; intro w1 ho1 hb1)
  rw [← half_none] at ho1
  go_loopw [4] (fun i wr => ∃ k : Nat, k ≤ ws.length ∧ i = .int .i64 k ∧ wr.ownsRow w.heap.size 34 9 (.slice (some ⟨w.heap.size, 0, none⟩) ws.length ws.length) ws.length (flat (half ws k)) ∧ Below w.heap.size w wr) (fun i _ => ws.length - (intOf i).toNat)
  case atStart => exact ⟨0, Nat.zero_le _, rfl, ho1, hb1⟩
  case round =>
    clear ho1 hb1
    obtain ⟨k, hk, rfl, hO, hbel⟩ := hrel
    by_cases hlt : k < ws.length
    · have hkz : (k : Int) < (ws.length : Int) := by omega
      have hk0 : (0 : Int) ≤ (k : Int) := by omega
      obtain ⟨c, hc⟩ : ∃ c, ws[k]? = some c := ⟨_, List.getElem?_eq_getElem hlt⟩
      obtain ⟨g, o, rfl, hg, hr⟩ := HP.out (by intro e; rw [e] at hlt; simp at hlt)
      have HR : Aside (wr.rangeAt g (o + k * 9) (enc c)) := range_part (range_below hr hg hbel) hc
      have HC := Lib.hid hc
      have HO := Lib.hid hO
      have HL := Lib.hid hbel
      have T := fun w => toWheel_any c w
      clear hr hc hO hbel
      go_wp2_with (refine load_wheel (T := 92) (g := g) rfl rfl rfl HR.out Try.underlying92 rfl info_lawWheel ?_)
      refine (T _).mono ?_; rintro e w2 ⟨rfl, hb2⟩
      have hzz : w.heap.size ≤ wr.heap.size := HL.out.size
      have hO2 := HO.out.belowK hb2
      have HT : Aside (w2.there w.heap.size (k * 9) 9) := (show w2.there _ _ _ from there_of (o := 0) hO2 hlt (by omega))
      have HO3 : Aside ((w2.setCells w.heap.size (k * 9) (enc c)).ownsRow w.heap.size 34 9 (.slice (some ⟨w.heap.size, 0, none⟩) ws.length ws.length) ws.length (flat (half ws (k + 1)))) := (show World.ownsRow _ _ _ _ _ _ _ from by
        rw [← half_set HC.out, ← flat_set (half_at hlt)]; exact own_cells _ _ _ _ hO2)
      have HL3 : Aside (Below w.heap.size w (w2.setCells w.heap.size (k * 9) (enc c))) := below_setCells (Nat.le_refl _) _ _ _ (below_next HL.out hb2)
      clear hO2 hb2 HO HL T HR
      go_wp2_with (first | (refine store_wheel (ty := 34) (g := w.heap.size) (p := k * 9) (c := c) rfl rfl rfl rfl HT.out info_wheel ?_; clear HT))
      go_roundw
      case rel => exact ⟨k + 1, by omega, by go_num, HO3.out, HL3.out⟩
      case measure => simp [intOf]; omega
    · obtain rfl : k = ws.length := by omega
      rw [half_all] at hO
      have HO := Lib.hid hO
      have HL := Lib.hid hbel
      clear hO hbel
      go_wp2
      go_ret
      exact ⟨HL.out, _, rfl, HO.out⟩

end Go.Proofs.Yteicmnoafoekcaa
