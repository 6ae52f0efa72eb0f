/-
  impl: lists of circles told and changed.
-/
import Derived.Test.YteicmnoafoekcaaWheelG
namespace Go.Proofs.Yteicmnoafoekcaa
set_option maxRecDepth 20000
open Go.ChangeShapes Go.WideShapes Go.ChangeAt Go.RowKit
set_option linter.unusedVariables false
set_option linter.unusedSimpArgs false

set_option maxHeartbeats 2000000 in
theorem toldAll_any (v : Value) (ws : List Wh) (w : World) (hv : Reads w v ws) :
    Calls Try.prog 98 #[v] w fun e w' => Below w.heap.size w w' ∧ ∃ v', e = .returned (.tuple #[v', .bool (valid ws)]) ∧ Own w' w.heap.size 34 v' (only (valid ws) ws) := by
  obtain ⟨p, cap, rfl, hc1, hc2, hp0, hp⟩ := hv
  have hm : ws.length ≤ maxLen := by omega
  simp only [maxLen] at hm hc2
  by_cases hl : 12 < ws.length
  · rw [valid_long hl]
    rw [only_no]
    have hlz : (12 : Int) < (ws.length : Int) := by omega
    have HP := Lib.hid hp
    clear hp
    go_enter Try.func98, Try.ntmps98
    go_wp2
    go_ret2
    exact ⟨Below.refl _ _, _, rfl, own_nil _ _ _⟩
  · have hlz : ¬ (12 : Int) < (ws.length : Int) := by omega
    have HP := Lib.hid hp
    clear hp
    go_enter Try.func98, Try.ntmps98
    go_wp2_with (refine make9 tyW rfl rfl ws.length rfl rfl (by omega) (Below.refl _ w) (Nat.le_refl _) ?_; intro w1 ho1 hb1 hB1)
    go_loopw [4, 6, 7, 8, 17] (fun v' _ _ _ i wr => ∃ k : Nat, k ≤ ws.length ∧ i = .int .i64 k ∧ Own wr w.heap.size 34 v' (ws.take k) ∧ (ws.take k).all wOk = true ∧ Below w.heap.size w wr ∧ w.heap.size ≤ wr.heap.size) (fun _ _ _ _ i _ => ws.length - (intOf i).toNat)
    case atStart => exact ⟨0, Nat.zero_le _, rfl, ho1, rfl, hb1, hB1⟩
    case round =>
      obtain ⟨k, hk, rfl, hO, hall, hbel, hB⟩ := hrel
      by_cases hlt : k < ws.length
      · have hkz : (k : Int) < (ws.length : Int) := by omega
        have hk0 : (0 : Int) ≤ (k : Int) := by omega
        obtain ⟨c, hc⟩ : ∃ c, ws[k]? = some c := ⟨_, List.getElem?_eq_getElem hlt⟩
        obtain ⟨g, o, rfl, hg, hr⟩ := HP.out (by rintro rfl; have := hp0 rfl; omega)
        have HE := Lib.hid (range_part (range_below hr hg hbel) hc)
        have HO := Lib.hid hO
        have HL := Lib.hid hbel
        have HA := Lib.hid hall
        have HB := Lib.hid hB
        have HC := Lib.hid hc
        clear hr hO hbel hall hB hc
        have HW := Lib.hid (RowAt.new wr 9 68 (wf c))
        by_cases h1 : wOk c = true
        · have C := fun w => ctold_yes c h1 w
          go_wp2_with (first | (refine load_wheel (T := 68) rfl rfl rfl HE.out Try.underlying68 rfl info_circle ?_) | (refine store_new (ty := 68) rfl rfl rfl rfl zero9 info_circle ?_) | (refine load_row (ty := 68) (g := wr.heap.size) rfl rfl rfl HW.out Try.underlying68 rfl info_circle ?_))
          refine (C _).mono ?_; rintro e w2 ⟨rfl, hb2⟩
          have HB2 := Lib.hid hb2
          clear hb2 C
          go_upto_region 8 with (first | (refine store_new (ty := 34) rfl rfl rfl rfl zero9 info_wheel ?_))
          show Code.wp _ _ _ _ (w2.alloc (.cells (vec 9 (wf c)) 34))
          have HR3 := Lib.hid (RowAt.new w2 9 34 (wf c))
          have hb3 : Below wr.heap.size wr (w2.alloc (.cells (vec 9 (wf c)) 34)) := below_next ((Below.refl _ _).alloc (Nat.le_refl _) _) (HB2.out.alloc HB2.out.size _)
          have HO3 := Lib.hid (own_below HO.out hb3)
          have HBW := Lib.hid (below_next HL.out hb3)
          have HBS := Lib.hid (Nat.le_trans HB.out hb3.size)
          clear hb3 HB2
          generalize w2.alloc (.cells (vec 9 (wf c)) 34) = w3 at *
          go_wp2_with (first | (refine load_row (ty := 34) (g := w2.heap.size) rfl rfl rfl HR3.out Try.underlying34 rfl info_wheel ?_; clear HR3) | (refine one9 tyW rfl rfl rfl ?_) |
            (refine append9 tyW rfl rfl rfl rfl (HO3.out.alloc _) (reads_lit _ _ _) (by simp; omega) (HBW.out.alloc HBS.out _) (by simp; have := HBS.out; omega) ?_; intro v2 w4 ho4 hb4 hB4))
          go_roundw
          case rel =>
            refine ⟨k + 1, by omega, by go_num, ?_, all_take HA.out HC.out h1, hb4, hB4⟩
            rw [take_next HC.out]; exact ho4
          case measure => simp [intOf]; omega
        · have h1 : wOk c = false := by simpa using h1
          have C := fun w => ctold_no c h1 w
          go_wp2_with (first | (refine load_wheel (T := 68) rfl rfl rfl HE.out Try.underlying68 rfl info_circle ?_) | (refine store_new (ty := 68) rfl rfl rfl rfl zero9 info_circle ?_) | (refine load_row (ty := 68) (g := wr.heap.size) rfl rfl rfl HW.out Try.underlying68 rfl info_circle ?_))
          refine (C _).mono ?_; rintro e w2 ⟨rfl, hb2⟩
          have HBW := Lib.hid (below_next HL.out (below_next ((Below.refl wr.heap.size wr).alloc (Nat.le_refl _) _) (hb2.alloc hb2.size (.cells (vec 9 (wf noW)) 34))))
          clear hb2 C
          go_wp2_with (first | (refine store_new (ty := 34) rfl rfl rfl rfl zero9 info_wheel ?_))
          go_ret2
          rw [valid_bad HC.out h1]
          exact ⟨HBW.out, _, rfl, own_nil _ _ _⟩
      · obtain rfl : k = ws.length := by omega
        have HO := Lib.hid hO
        have HL := Lib.hid hbel
        have HA := Lib.hid hall
        clear hO hbel hall hB
        go_wp2
        go_ret2
        have hv : valid ws = true := by
          unfold valid
          have := HA.out
          rw [List.take_length] at this
          rw [this, decide_eq_true (by omega)]; rfl
        have ho := HO.out
        rw [List.take_length] at ho
        rw [hv]
        exact ⟨HL.out, _, rfl, ho⟩

set_option maxHeartbeats 2000000 in
theorem changed_any (F : Nat) (cb : Array Value) (f : Wh → Wh) (v : Value) (ws : List Wh) (w : World) (hv : Reads w v ws) (hn : ws.length ≤ 1000000) (eg : ∀ args w, (callFunc F args).run Try.prog w = .ok (.enter F args) w)
    (hf : ∀ c ∈ ws, ∀ w', Below w.heap.size w w' → Calls Try.prog F (#[wh c] ++ cb) w' fun e w'' => e = .returned (wh (f c)) ∧ Below w'.heap.size w' w'') :
    Calls Try.prog 107 #[v, .func (.func F) #[] cb] w fun e w' => Below w.heap.size w w' ∧ ∃ v', e = .returned v' ∧ Own w' w.heap.size 68 v' (ws.map f) := by
  obtain ⟨p, cap, rfl, hc1, hc2, hp0, hp⟩ := hv
  simp only [maxLen] at hc2
  have HP := Lib.hid hp
  have HF := Lib.hid hf
  clear hp hf
  go_enter Try.func107, Try.ntmps107
  go_wp2_with (refine make9 tyC rfl rfl ws.length rfl rfl (by omega) (Below.refl _ w) (Nat.le_refl _) ?_; intro w1 ho1 hb1 hB1)
  go_loopw [5, 7, 13] (fun v' _ i wr => ∃ k : Nat, k ≤ ws.length ∧ i = .int .i64 k ∧ Own wr w.heap.size 68 v' ((ws.take k).map f) ∧ Below w.heap.size w wr ∧ w.heap.size ≤ wr.heap.size) (fun _ _ i _ => ws.length - (intOf i).toNat)
  case atStart => exact ⟨0, Nat.zero_le _, rfl, ho1, hb1, hB1⟩
  case round =>
    obtain ⟨k, hk, rfl, hO, hbel, hB⟩ := hrel
    by_cases hlt : k < ws.length
    · have hkz : (k : Int) < (ws.length : Int) := by omega
      have hk0 : (0 : Int) ≤ (k : Int) := by omega
      obtain ⟨c, hc⟩ : ∃ c, ws[k]? = some c := ⟨_, List.getElem?_eq_getElem hlt⟩
      obtain ⟨g, o, rfl, hg, hr⟩ := HP.out (by rintro rfl; have := hp0 rfl; omega)
      have HE := Lib.hid (range_part (range_below hr hg hbel) hc)
      have HO := Lib.hid hO
      have HL := Lib.hid hbel
      have HB := Lib.hid hB
      have HC := Lib.hid hc
      clear hr hO hbel hB hc
      have HW := Lib.hid (RowAt.new wr 9 68 (wf c))
      go_wp2_with (first | (refine load_wheel (T := 68) rfl rfl rfl HE.out Try.underlying68 rfl info_circle ?_) | (refine store_new (ty := 68) rfl rfl rfl rfl zero9 info_circle ?_) | (refine load_row (ty := 68) (g := wr.heap.size) rfl rfl rfl HW.out Try.underlying68 rfl info_circle ?_))
      have hb1 : Below w.heap.size w (wr.alloc (.cells (vec 9 (wf c)) 68)) := below_next HL.out ((Below.refl _ _).alloc (Nat.le_refl _) _)
      refine (HF.out c (List.mem_of_getElem? HC.out) _ hb1).mono ?_; rintro e w3 ⟨rfl, hb3⟩
      have hb4 : Below wr.heap.size wr w3 := below_next ((Below.refl _ _).alloc (Nat.le_refl _) _) hb3
      have HO3 := Lib.hid (own_below HO.out hb4)
      have HBW := Lib.hid (below_next hb1 hb3)
      have HBS := Lib.hid (Nat.le_trans HB.out hb4.size)
      clear hb1 hb3 hb4 HW HF
      go_wp2_with (first | (refine one9 tyC rfl rfl rfl ?_) |
        (refine append9 tyC rfl rfl rfl rfl (HO3.out.alloc _) (reads_lit _ _ _) (by simp; omega) (HBW.out.alloc HBS.out _) (by simp; have := HBS.out; omega) ?_; intro v2 w4 ho4 hb4 hB4))
      go_roundw
      case rel =>
        refine ⟨k + 1, by omega, by go_num, ?_, hb4, hB4⟩
        rw [take_next HC.out, List.map_append]; exact ho4
      case measure => simp [intOf]; omega
    · obtain rfl : k = ws.length := by omega
      have HO := Lib.hid hO
      have HL := Lib.hid hbel
      clear hO hbel hB HF
      go_wp2
      go_ret
      have ho := HO.out
      rw [List.take_length] at ho
      exact ⟨HL.out, _, rfl, ho⟩

/-! What is 0 is left out. -/
theorem isNothing_below (c : Wh) (w : World) : Calls Try.prog 97 #[wh c] w fun e w' => e = .returned (.bool (!nz c)) ∧ Below w.heap.size w w' := by
  refine (isNothing_any c w).mono ?_
  rintro e w' ⟨rfl, o, rfl⟩
  exact ⟨rfl, (Below.refl _ _).alloc (Nat.le_refl _) _⟩
abbrev noV : Value := .func (.func 97) #[] #[]
theorem enters_isNothing : ∀ args w, (callFunc 97 args).run Try.prog w = .ok (.enter 97 args) w := enters_of Try.func97 (by kernel_rfl) rfl
/-- The first circle that is 0. -/
def firstZ : List Wh → Nat
  | [] => 0
  | c :: cs => if nz c then firstZ cs + 1 else 0
theorem firstZ_le : ∀ ws, firstZ ws ≤ ws.length
  | [] => Nat.le_refl _
  | c :: cs => by
    unfold firstZ
    have := firstZ_le cs
    split <;> simp <;> omega
theorem firstZ_before : ∀ (ws : List Wh) (k : Nat), (∀ i c, i < k → ws[i]? = some c → nz c = true) → k ≤ ws.length → k ≤ firstZ ws
  | [], k, _, h => by simp only [List.length_nil] at h; omega
  | c :: cs, 0, _, _ => Nat.zero_le _
  | c :: cs, k + 1, h, hk => by
    have h0 := h 0 c (by omega) (by simp)
    unfold firstZ
    rw [if_pos h0]
    have := firstZ_before cs k (fun i d hi hd => h (i + 1) d (by omega) (by simpa using hd)) (by simpa using hk)
    omega
theorem firstZ_at : ∀ (ws : List Wh) (k : Nat) (c : Wh), ws[k]? = some c → nz c = false → firstZ ws ≤ k
  | [], k, c, h, _ => by simp at h
  | d :: cs, 0, c, h, hn => by
    simp only [List.getElem?_cons_zero, Option.some.injEq] at h
    subst h
    unfold firstZ
    rw [if_neg (by rw [hn]; decide)]; exact Nat.le_refl _
  | d :: cs, k + 1, c, h, hn => by
    have := firstZ_at cs k c (by simpa using h) hn
    unfold firstZ
    split <;> omega
/-- Where IndexFunc points. -/
def idxZ (ws : List Wh) : Int := if firstZ ws = ws.length then -1 else firstZ ws

set_option maxHeartbeats 2000000 in
theorem indexZ_any (v : Value) (ws : List Wh) (w : World) (hv : Reads w v ws) :
    Calls Try.prog 119 #[v, noV] w fun e w' => e = .returned (.int .i64 (idxZ ws)) ∧ Below w.heap.size w w' := by
  obtain ⟨p, cap, rfl, hc1, hc2, hp0, hp⟩ := hv
  simp only [maxLen] at hc2
  have HP := Lib.hid hp
  have eg := enters_isNothing
  clear hp
  go_enter Try.func119, Try.ntmps119
  go_wp2
  go_loopw [5, 8] (fun _ i wr => ∃ k : Nat, k ≤ ws.length ∧ i = .int .i64 k ∧ (∀ i c, i < k → ws[i]? = some c → nz c = true) ∧ Below w.heap.size w wr) (fun _ i _ => ws.length - (intOf i).toNat)
  case atStart => exact ⟨0, Nat.zero_le _, rfl, fun i c h _ => by omega, Below.refl _ _⟩
  case round =>
    obtain ⟨k, hk, rfl, hfz, hbel⟩ := hrel
    by_cases hlt : k < ws.length
    · have hkz : (k : Int) < (ws.length : Int) := by omega
      have hk0 : (0 : Int) ≤ (k : Int) := by omega
      obtain ⟨c, hc⟩ : ∃ c, ws[k]? = some c := ⟨_, List.getElem?_eq_getElem hlt⟩
      obtain ⟨g, o, rfl, hg, hr⟩ := HP.out (by rintro rfl; have := hp0 rfl; omega)
      have HE := Lib.hid (range_part (range_below hr hg hbel) hc)
      have HL := Lib.hid hbel
      have HC := Lib.hid hc
      have HZ := Lib.hid hfz
      clear hr hbel hc hfz
      have C := fun w => isNothing_below c w
      go_wp2_with (first | (refine load_wheel (T := 68) rfl rfl rfl HE.out Try.underlying68 rfl info_circle ?_))
      refine (C _).mono ?_; rintro e w2 ⟨rfl, hb2⟩
      have HL2 := Lib.hid (below_next HL.out hb2)
      clear C hb2
      cases hz : nz c
      · go_wp2
        go_ret
        have e : firstZ ws = k := Nat.le_antisymm (firstZ_at ws k c HC.out hz) (firstZ_before ws k HZ.out hk)
        exact ⟨by unfold idxZ; rw [e, if_neg (by omega)]; rfl, HL2.out⟩
      · go_wp2
        go_roundw
        case rel =>
          refine ⟨k + 1, by omega, by go_num, fun i d hi hd => ?_, HL2.out⟩
          by_cases e : i = k
          · subst e
            have := HC.out
            rw [hd] at this
            simp only [Option.some.injEq] at this
            rw [this]; exact hz
          · exact HZ.out i d (by omega) hd
        case measure => simp [intOf]; omega
    · obtain rfl : k = ws.length := by omega
      have HL := Lib.hid hbel
      have HZ := Lib.hid hfz
      clear hbel hfz
      go_wp2
      go_ret
      have e : firstZ ws = ws.length := Nat.le_antisymm (firstZ_le ws) (firstZ_before ws _ HZ.out (Nat.le_refl _))
      exact ⟨by unfold idxZ; rw [e, if_pos rfl]; rfl, HL.out⟩

/-- 'clear' behind what stays of a list that the call owns. -/
theorem run_clear_own {P : Program} {t e : TypeId} {i : TypeInfo} {w : World} {B g cap m : Nat} {ws : List Wh} (ht : P.underlying t = some (.slice e)) (hi : P.info? e = some i) (hz : i.zero = some (.agg (vec 9 nul)))
    (ho : Own w B e (.slice (some ⟨g, 0, none⟩) ws.length cap) ws) (hm : m ≤ ws.length) :
    ∃ w', (∀ ty, (Builtin.clear_ #[t] ty #[.slice (some ⟨g, m * 9, none⟩) (ws.length - m) (cap - m)]).run P w = .ok (.tuple #[]) w') ∧ w.grownBy w' (some g) ∧ Own w' B e (.slice (some ⟨g, 0, none⟩) (ws.take m).length cap) (ws.take m) := by
  rcases ho.2 with ⟨h0, _⟩ | ⟨g', cap', cur, e', hg0, hg, h1, h2, h3, h4⟩
  · cases h0
  · simp only [Value.slice.injEq, Option.some.injEq, Addr.mk.injEq, and_true, true_and] at e'
    obtain ⟨rfl, rfl⟩ := e'
    have hl : (ws.take m).length = m := by rw [List.length_take]; omega
    have htk : ∀ cur' : Array Value, cur'.toList.take (m * 9) = cur.toList.take (m * 9) → cur'.toList.take ((ws.take m).length * 9) = flat (ws.take m) := fun cur' h => by
      rw [hl, h, flat_take, ← h4, List.take_take, Nat.min_eq_left (by omega)]
    rcases Nat.eq_or_lt_of_le hm with hm' | hm'
    · subst hm'
      refine ⟨w, fun ty => by simp [Builtin.clear_, run_underlying ht], World.grownBy.refl w _, ⟨by rw [flat_length], .inr ⟨g, cap, cur, rfl, hg0, hg, by omega, h2, h3, htk cur rfl⟩⟩⟩
    · obtain ⟨q, hq⟩ : ∃ q, ws.length - m = q + 1 := ⟨ws.length - m - 1, by omega⟩
      have hzc : (Builtin.zeroCells (vec 9 nul) (q + 1)).toList.length = (q + 1) * 9 := by simp [Builtin.zeroCells, vec_size]
      have hone : ∀ v ∈ (Builtin.zeroCells (vec 9 nul) (q + 1)).toList, v.oneCell' = true := fun v hv => by
        simp only [Builtin.zeroCells, Array.toList_map, List.mem_map] at hv
        obtain ⟨j, _, rfl⟩ := hv
        have hj : j % (vec 9 nul).size < (vec 9 nul).size := Nat.mod_lt _ (by rw [vec_size]; omega)
        rw [getElem!_pos (vec 9 nul) _ hj]
        exact (Array.all_eq_true.1 (vec_one 9 nul)) _ hj
      have hst := run_storeCells_at P g (m * 9) e (Builtin.zeroCells (vec 9 nul) (q + 1)).toList 0 cur w hg (by rw [hzc, h3, Nat.add_zero, ← Nat.add_mul]; exact Nat.mul_le_mul_right _ (by omega)) hone
      refine ⟨w.setRow g (List.take (m * 9 + 0) cur.toList ++ (Builtin.zeroCells (vec 9 nul) (q + 1)).toList ++ List.drop (m * 9 + 0 + (Builtin.zeroCells (vec 9 nul) (q + 1)).toList.length) cur.toList).toArray, fun ty => ?_, ⟨rfl, rfl, rfl, by simp, fun k _ hk => setRow_other w g k _ (fun e => hk (by simp [e]))⟩, ⟨by rw [flat_length], .inr ⟨g, cap, _, rfl, hg0, setRow_heap w g cur _ e _ hg, by omega, h2, ?_, htk _ ?_⟩⟩⟩
      · rw [hq]
        have hu : ∀ w, (underlying t).run P w = .ok (.slice e) w := run_underlying ht
        have hzv : (zeroValue e).run P w = .ok (.agg (vec 9 nul)) w := by simp [zeroValue, typeInfo, hi, hz]
        unfold Builtin.clear_
        show Sem.run P (underlying t >>= fun d => _) w = _
        rw [Sem.run_bind, hu, Result.andThen_ok]
        show Sem.run P (zeroValue e >>= fun z => storeCells ⟨g, m * 9, none⟩ (Builtin.zeroCells z.cells (q + 1)).toList >>= fun _ => pure (Value.tuple #[])) w = _
        rw [Sem.run_bind, hzv, Result.andThen_ok]
        show Sem.run P (storeCells ⟨g, m * 9, none⟩ (Builtin.zeroCells (vec 9 nul) (q + 1)).toList >>= fun _ => pure (Value.tuple #[])) w = _
        rw [Sem.run_bind, hst, Result.andThen_ok]
        rfl
      · rw [List.size_toArray, List.length_append, List.length_append, List.length_take, List.length_drop, hzc, Array.length_toList, h3]
        have : m * 9 + (q + 1) * 9 ≤ cap * 9 := by rw [← Nat.add_mul]; exact Nat.mul_le_mul_right _ (by omega)
        omega
      · have : m * 9 ≤ cap * 9 := Nat.mul_le_mul_right _ (by omega)
        rw [List.append_assoc, List.take_append_of_le_length (by rw [List.length_take, Array.length_toList, h3]; omega), Nat.add_zero, List.take_take, Nat.min_self]

end Go.Proofs.Yteicmnoafoekcaa
