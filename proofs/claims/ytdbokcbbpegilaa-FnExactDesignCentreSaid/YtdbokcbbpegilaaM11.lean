/-
  impl: lists of circles told and changed.
  impl: what is 0 left out of a list; equal speeds joined.
  impl: circles of equal speeds joined.
-/
import Derived.Test.YtdbokcbbpegilaaM10
/- impl: lists of circles told and changed. -/
namespace Go.Proofs.Ytdbokcbbpegilaa
set_option maxRecDepth 20000
open Go.ChangeShapes Go.WideShapes Go.ChangeAt Go.RowKit
set_option linter.unusedVariables false
set_option linter.unusedSimpArgs false

set_option maxHeartbeats 2000000 in
theorem toldAll_any (v : Value) (ws : List Wh) (w : World) (hv : Reads w v ws) :
    Calls Try.prog 112 #[v] w fun e w' => Below w.heap.size w w' ∧ ∃ v', e = .returned (.tuple #[v', .bool (valid ws)]) ∧ Own w' w.heap.size 43 v' (only (valid ws) ws) := by
  obtain ⟨p, cap, rfl, hc1, hc2, hp0, hp⟩ := hv
  have hm : ws.length ≤ maxLen := by omega
  simp only [maxLen] at hm hc2
  by_cases hl : 12 < ws.length
  · rw [valid_long hl]
    rw [only_no]
    have hlz : (12 : Int) < (ws.length : Int) := by omega
    have HP := Lib.hid hp
    clear hp
    go_enter Try.func112, Try.ntmps112
    go_wp2
    go_ret2
    exact ⟨Below.refl _ _, _, rfl, own_nil _ _ _⟩
  · have hlz : ¬ (12 : Int) < (ws.length : Int) := by omega
    have HP := Lib.hid hp
    clear hp
    go_enter Try.func112, Try.ntmps112
    go_wp2_with (refine make9 tyW rfl rfl ws.length rfl rfl (by omega) (Below.refl _ w) (Nat.le_refl _) ?_; intro w1 ho1 hb1 hB1)
    go_loopw [4, 6, 7, 8, 17] (fun v' _ _ _ i wr => ∃ k : Nat, k ≤ ws.length ∧ i = .int .i64 k ∧ Own wr w.heap.size 43 v' (ws.take k) ∧ (ws.take k).all wOk = true ∧ Below w.heap.size w wr ∧ w.heap.size ≤ wr.heap.size) (fun _ _ _ _ i _ => ws.length - (intOf i).toNat)
    case atStart => exact ⟨0, Nat.zero_le _, rfl, ho1, rfl, hb1, hB1⟩
    case round =>
      obtain ⟨k, hk, rfl, hO, hall, hbel, hB⟩ := hrel
      by_cases hlt : k < ws.length
      · have hkz : (k : Int) < (ws.length : Int) := by omega
        have hk0 : (0 : Int) ≤ (k : Int) := by omega
        obtain ⟨c, hc⟩ : ∃ c, ws[k]? = some c := ⟨_, List.getElem?_eq_getElem hlt⟩
        obtain ⟨g, o, rfl, hg, hr⟩ := HP.out (by rintro rfl; have := hp0 rfl; omega)
        have HE := Lib.hid (range_part (range_below hr hg hbel) hc)
        have HO := Lib.hid hO
        have HL := Lib.hid hbel
        have HA := Lib.hid hall
        have HB := Lib.hid hB
        have HC := Lib.hid hc
        clear hr hO hbel hall hB hc
        have HW := Lib.hid (RowAt.new wr 9 72 (wf c))
        by_cases h1 : wOk c = true
        · have C := fun w => ctold_yes c h1 w
          go_wp2_with (first | (refine load_wheel (T := 72) rfl rfl rfl HE.out Try.underlying72 rfl info_circle ?_) | (refine store_new (ty := 72) rfl rfl rfl rfl zero9 info_circle ?_) | (refine load_row (ty := 72) (g := wr.heap.size) rfl rfl rfl HW.out Try.underlying72 rfl info_circle ?_))
          refine (C _).mono ?_; rintro e w2 ⟨rfl, hb2⟩
          have HB2 := Lib.hid hb2
          clear hb2 C
          go_upto_region 8 with (first | (refine store_new (ty := 43) rfl rfl rfl rfl zero9 info_wheel ?_))
          show Code.wp _ _ _ _ (w2.alloc (.cells (vec 9 (wf c)) 43))
          have HR3 := Lib.hid (RowAt.new w2 9 43 (wf c))
          have hb3 : Below wr.heap.size wr (w2.alloc (.cells (vec 9 (wf c)) 43)) := below_next ((Below.refl _ _).alloc (Nat.le_refl _) _) (HB2.out.alloc HB2.out.size _)
          have HO3 := Lib.hid (own_below HO.out hb3)
          have HBW := Lib.hid (below_next HL.out hb3)
          have HBS := Lib.hid (Nat.le_trans HB.out hb3.size)
          clear hb3 HB2
          generalize w2.alloc (.cells (vec 9 (wf c)) 43) = w3 at *
          go_wp2_with (first | (refine load_row (ty := 43) (g := w2.heap.size) rfl rfl rfl HR3.out Try.underlying43 rfl info_wheel ?_; clear HR3) | (refine one9 tyW rfl rfl rfl ?_) |
            (refine append9 tyW rfl rfl rfl rfl (HO3.out.alloc _) (reads_lit _ _ _) (by simp; omega) (HBW.out.alloc HBS.out _) (by simp; have := HBS.out; omega) ?_; intro v2 w4 ho4 hb4 hB4))
          go_roundw
          case rel =>
            refine ⟨k + 1, by omega, by go_num, ?_, all_take HA.out HC.out h1, hb4, hB4⟩
            rw [take_next HC.out]; exact ho4
          case measure => simp [intOf]; omega
        · have h1 : wOk c = false := by simpa using h1
          have C := fun w => ctold_no c h1 w
          go_wp2_with (first | (refine load_wheel (T := 72) rfl rfl rfl HE.out Try.underlying72 rfl info_circle ?_) | (refine store_new (ty := 72) rfl rfl rfl rfl zero9 info_circle ?_) | (refine load_row (ty := 72) (g := wr.heap.size) rfl rfl rfl HW.out Try.underlying72 rfl info_circle ?_))
          refine (C _).mono ?_; rintro e w2 ⟨rfl, hb2⟩
          have HBW := Lib.hid (below_next HL.out (below_next ((Below.refl wr.heap.size wr).alloc (Nat.le_refl _) _) (hb2.alloc hb2.size (.cells (vec 9 (wf noW)) 43))))
          clear hb2 C
          go_wp2_with (first | (refine store_new (ty := 43) rfl rfl rfl rfl zero9 info_wheel ?_))
          go_ret2
          rw [valid_bad HC.out h1]
          exact ⟨HBW.out, _, rfl, own_nil _ _ _⟩
      · obtain rfl : k = ws.length := by omega
        have HO := Lib.hid hO
        have HL := Lib.hid hbel
        have HA := Lib.hid hall
        clear hO hbel hall hB
        go_wp2
        go_ret2
        have hv : valid ws = true := by
          unfold valid
          have := HA.out
          rw [List.take_length] at this
          rw [this, decide_eq_true (by omega)]; rfl
        have ho := HO.out
        rw [List.take_length] at ho
        rw [hv]
        exact ⟨HL.out, _, rfl, ho⟩

set_option maxHeartbeats 2000000 in
theorem changed_any (F : Nat) (cb : Array Value) (f : Wh → Wh) (v : Value) (ws : List Wh) (w : World) (hv : Reads w v ws) (hn : ws.length ≤ 1000000) (eg : ∀ args w, (callFunc F args).run Try.prog w = .ok (.enter F args) w)
    (hf : ∀ c ∈ ws, ∀ w', Below w.heap.size w w' → Calls Try.prog F (#[wh c] ++ cb) w' fun e w'' => e = .returned (wh (f c)) ∧ Below w'.heap.size w' w'') :
    Calls Try.prog 104 #[v, .func (.func F) #[] cb] w fun e w' => Below w.heap.size w w' ∧ ∃ v', e = .returned v' ∧ Own w' w.heap.size 72 v' (ws.map f) := by
  obtain ⟨p, cap, rfl, hc1, hc2, hp0, hp⟩ := hv
  simp only [maxLen] at hc2
  have HP := Lib.hid hp
  have HF := Lib.hid hf
  clear hp hf
  go_enter Try.func104, Try.ntmps104
  go_wp2_with (refine make9 tyC rfl rfl ws.length rfl rfl (by omega) (Below.refl _ w) (Nat.le_refl _) ?_; intro w1 ho1 hb1 hB1)
  go_loopw [5, 7, 13] (fun v' _ i wr => ∃ k : Nat, k ≤ ws.length ∧ i = .int .i64 k ∧ Own wr w.heap.size 72 v' ((ws.take k).map f) ∧ Below w.heap.size w wr ∧ w.heap.size ≤ wr.heap.size) (fun _ _ i _ => ws.length - (intOf i).toNat)
  case atStart => exact ⟨0, Nat.zero_le _, rfl, ho1, hb1, hB1⟩
  case round =>
    obtain ⟨k, hk, rfl, hO, hbel, hB⟩ := hrel
    by_cases hlt : k < ws.length
    · have hkz : (k : Int) < (ws.length : Int) := by omega
      have hk0 : (0 : Int) ≤ (k : Int) := by omega
      obtain ⟨c, hc⟩ : ∃ c, ws[k]? = some c := ⟨_, List.getElem?_eq_getElem hlt⟩
      obtain ⟨g, o, rfl, hg, hr⟩ := HP.out (by rintro rfl; have := hp0 rfl; omega)
      have HE := Lib.hid (range_part (range_below hr hg hbel) hc)
      have HO := Lib.hid hO
      have HL := Lib.hid hbel
      have HB := Lib.hid hB
      have HC := Lib.hid hc
      clear hr hO hbel hB hc
      have HW := Lib.hid (RowAt.new wr 9 72 (wf c))
      go_wp2_with (first | (refine load_wheel (T := 72) rfl rfl rfl HE.out Try.underlying72 rfl info_circle ?_) | (refine store_new (ty := 72) rfl rfl rfl rfl zero9 info_circle ?_) | (refine load_row (ty := 72) (g := wr.heap.size) rfl rfl rfl HW.out Try.underlying72 rfl info_circle ?_))
      have hb1 : Below w.heap.size w (wr.alloc (.cells (vec 9 (wf c)) 72)) := below_next HL.out ((Below.refl _ _).alloc (Nat.le_refl _) _)
      refine (HF.out c (List.mem_of_getElem? HC.out) _ hb1).mono ?_; rintro e w3 ⟨rfl, hb3⟩
      have hb4 : Below wr.heap.size wr w3 := below_next ((Below.refl _ _).alloc (Nat.le_refl _) _) hb3
      have HO3 := Lib.hid (own_below HO.out hb4)
      have HBW := Lib.hid (below_next hb1 hb3)
      have HBS := Lib.hid (Nat.le_trans HB.out hb4.size)
      clear hb1 hb3 hb4 HW HF
      go_wp2_with (first | (refine one9 tyC rfl rfl rfl ?_) |
        (refine append9 tyC rfl rfl rfl rfl (HO3.out.alloc _) (reads_lit _ _ _) (by simp; omega) (HBW.out.alloc HBS.out _) (by simp; have := HBS.out; omega) ?_; intro v2 w4 ho4 hb4 hB4))
      go_roundw
      case rel =>
        refine ⟨k + 1, by omega, by go_num, ?_, hb4, hB4⟩
        rw [take_next HC.out, List.map_append]; exact ho4
      case measure => simp [intOf]; omega
    · obtain rfl : k = ws.length := by omega
      have HO := Lib.hid hO
      have HL := Lib.hid hbel
      clear hO hbel hB HF
      go_wp2
      go_ret
      have ho := HO.out
      rw [List.take_length] at ho
      exact ⟨HL.out, _, rfl, ho⟩

/-! What is 0 is left out. -/
theorem isNothing_below (c : Wh) (w : World) : Calls Try.prog 111 #[wh c] w fun e w' => e = .returned (.bool (!nz c)) ∧ Below w.heap.size w w' := by
  refine (isNothing_any c w).mono ?_
  rintro e w' ⟨rfl, o, rfl⟩
  exact ⟨rfl, (Below.refl _ _).alloc (Nat.le_refl _) _⟩
abbrev noV : Value := .func (.func 111) #[] #[]
theorem enters_isNothing : ∀ args w, (callFunc 111 args).run Try.prog w = .ok (.enter 111 args) w := enters_of Try.func111 (by kernel_rfl) rfl
/-- The first circle that is 0. -/
def firstZ : List Wh → Nat
  | [] => 0
  | c :: cs => if nz c then firstZ cs + 1 else 0
theorem firstZ_le : ∀ ws, firstZ ws ≤ ws.length
  | [] => Nat.le_refl _
  | c :: cs => by
    unfold firstZ
    have := firstZ_le cs
    split <;> simp <;> omega
theorem firstZ_before : ∀ (ws : List Wh) (k : Nat), (∀ i c, i < k → ws[i]? = some c → nz c = true) → k ≤ ws.length → k ≤ firstZ ws
  | [], k, _, h => by simp only [List.length_nil] at h; omega
  | c :: cs, 0, _, _ => Nat.zero_le _
  | c :: cs, k + 1, h, hk => by
    have h0 := h 0 c (by omega) (by simp)
    unfold firstZ
    rw [if_pos h0]
    have := firstZ_before cs k (fun i d hi hd => h (i + 1) d (by omega) (by simpa using hd)) (by simpa using hk)
    omega
theorem firstZ_at : ∀ (ws : List Wh) (k : Nat) (c : Wh), ws[k]? = some c → nz c = false → firstZ ws ≤ k
  | [], k, c, h, _ => by simp at h
  | d :: cs, 0, c, h, hn => by
    simp only [List.getElem?_cons_zero, Option.some.injEq] at h
    subst h
    unfold firstZ
    rw [if_neg (by rw [hn]; decide)]; exact Nat.le_refl _
  | d :: cs, k + 1, c, h, hn => by
    have := firstZ_at cs k c (by simpa using h) hn
    unfold firstZ
    split <;> omega
/-- Where IndexFunc points. -/
def idxZ (ws : List Wh) : Int := if firstZ ws = ws.length then -1 else firstZ ws

set_option maxHeartbeats 2000000 in
theorem indexZ_any (v : Value) (ws : List Wh) (w : World) (hv : Reads w v ws) :
    Calls Try.prog 135 #[v, noV] w fun e w' => e = .returned (.int .i64 (idxZ ws)) ∧ Below w.heap.size w w' := by
  obtain ⟨p, cap, rfl, hc1, hc2, hp0, hp⟩ := hv
  simp only [maxLen] at hc2
  have HP := Lib.hid hp
  have eg := enters_isNothing
  clear hp
  go_enter Try.func135, Try.ntmps135
  go_wp2
  go_loopw [5, 8] (fun _ i wr => ∃ k : Nat, k ≤ ws.length ∧ i = .int .i64 k ∧ (∀ i c, i < k → ws[i]? = some c → nz c = true) ∧ Below w.heap.size w wr) (fun _ i _ => ws.length - (intOf i).toNat)
  case atStart => exact ⟨0, Nat.zero_le _, rfl, fun i c h _ => by omega, Below.refl _ _⟩
  case round =>
    obtain ⟨k, hk, rfl, hfz, hbel⟩ := hrel
    by_cases hlt : k < ws.length
    · have hkz : (k : Int) < (ws.length : Int) := by omega
      have hk0 : (0 : Int) ≤ (k : Int) := by omega
      obtain ⟨c, hc⟩ : ∃ c, ws[k]? = some c := ⟨_, List.getElem?_eq_getElem hlt⟩
      obtain ⟨g, o, rfl, hg, hr⟩ := HP.out (by rintro rfl; have := hp0 rfl; omega)
      have HE := Lib.hid (range_part (range_below hr hg hbel) hc)
      have HL := Lib.hid hbel
      have HC := Lib.hid hc
      have HZ := Lib.hid hfz
      clear hr hbel hc hfz
      have C := fun w => isNothing_below c w
      go_wp2_with (first | (refine load_wheel (T := 72) rfl rfl rfl HE.out Try.underlying72 rfl info_circle ?_))
      refine (C _).mono ?_; rintro e w2 ⟨rfl, hb2⟩
      have HL2 := Lib.hid (below_next HL.out hb2)
      clear C hb2
      cases hz : nz c
      · go_wp2
        go_ret
        have e : firstZ ws = k := Nat.le_antisymm (firstZ_at ws k c HC.out hz) (firstZ_before ws k HZ.out hk)
        exact ⟨by unfold idxZ; rw [e, if_neg (by omega)]; rfl, HL2.out⟩
      · go_wp2
        go_roundw
        case rel =>
          refine ⟨k + 1, by omega, by go_num, fun i d hi hd => ?_, HL2.out⟩
          by_cases e : i = k
          · subst e
            have := HC.out
            rw [hd] at this
            simp only [Option.some.injEq] at this
            rw [this]; exact hz
          · exact HZ.out i d (by omega) hd
        case measure => simp [intOf]; omega
    · obtain rfl : k = ws.length := by omega
      have HL := Lib.hid hbel
      have HZ := Lib.hid hfz
      clear hbel hfz
      go_wp2
      go_ret
      have e : firstZ ws = ws.length := Nat.le_antisymm (firstZ_le ws) (firstZ_before ws _ HZ.out (Nat.le_refl _))
      exact ⟨by unfold idxZ; rw [e, if_pos rfl]; rfl, HL.out⟩

/-- 'clear' behind what stays of a list that the call owns. -/
theorem run_clear_own {P : Program} {t e : TypeId} {i : TypeInfo} {w : World} {B g cap m : Nat} {ws : List Wh} (ht : P.underlying t = some (.slice e)) (hi : P.info? e = some i) (hz : i.zero = some (.agg (vec 9 nul)))
    (ho : Own w B e (.slice (some ⟨g, 0, none⟩) ws.length cap) ws) (hm : m ≤ ws.length) :
    ∃ w', (∀ ty, (Builtin.clear_ #[t] ty #[.slice (some ⟨g, m * 9, none⟩) (ws.length - m) (cap - m)]).run P w = .ok (.tuple #[]) w') ∧ w.grownBy w' (some g) ∧ Own w' B e (.slice (some ⟨g, 0, none⟩) (ws.take m).length cap) (ws.take m) := by
  rcases ho.2 with ⟨h0, _⟩ | ⟨g', cap', cur, e', hg0, hg, h1, h2, h3, h4⟩
  · cases h0
  · simp only [Value.slice.injEq, Option.some.injEq, Addr.mk.injEq, and_true, true_and] at e'
    obtain ⟨rfl, rfl⟩ := e'
    have hl : (ws.take m).length = m := by rw [List.length_take]; omega
    have htk : ∀ cur' : Array Value, cur'.toList.take (m * 9) = cur.toList.take (m * 9) → cur'.toList.take ((ws.take m).length * 9) = flat (ws.take m) := fun cur' h => by
      rw [hl, h, flat_take, ← h4, List.take_take, Nat.min_eq_left (by omega)]
    rcases Nat.eq_or_lt_of_le hm with hm' | hm'
    · subst hm'
      refine ⟨w, fun ty => by simp [Builtin.clear_, run_underlying ht], World.grownBy.refl w _, ⟨by rw [flat_length], .inr ⟨g, cap, cur, rfl, hg0, hg, by omega, h2, h3, htk cur rfl⟩⟩⟩
    · obtain ⟨q, hq⟩ : ∃ q, ws.length - m = q + 1 := ⟨ws.length - m - 1, by omega⟩
      have hzc : (Builtin.zeroCells (vec 9 nul) (q + 1)).toList.length = (q + 1) * 9 := by simp [Builtin.zeroCells, vec_size]
      have hone : ∀ v ∈ (Builtin.zeroCells (vec 9 nul) (q + 1)).toList, v.oneCell' = true := fun v hv => by
        simp only [Builtin.zeroCells, Array.toList_map, List.mem_map] at hv
        obtain ⟨j, _, rfl⟩ := hv
        have hj : j % (vec 9 nul).size < (vec 9 nul).size := Nat.mod_lt _ (by rw [vec_size]; omega)
        rw [getElem!_pos (vec 9 nul) _ hj]
        exact (Array.all_eq_true.1 (vec_one 9 nul)) _ hj
      have hst := run_storeCells_at P g (m * 9) e (Builtin.zeroCells (vec 9 nul) (q + 1)).toList 0 cur w hg (by rw [hzc, h3, Nat.add_zero, ← Nat.add_mul]; exact Nat.mul_le_mul_right _ (by omega)) hone
      refine ⟨w.setRow g (List.take (m * 9 + 0) cur.toList ++ (Builtin.zeroCells (vec 9 nul) (q + 1)).toList ++ List.drop (m * 9 + 0 + (Builtin.zeroCells (vec 9 nul) (q + 1)).toList.length) cur.toList).toArray, fun ty => ?_, ⟨rfl, rfl, rfl, by simp, fun k _ hk => setRow_other w g k _ (fun e => hk (by simp [e]))⟩, ⟨by rw [flat_length], .inr ⟨g, cap, _, rfl, hg0, setRow_heap w g cur _ e _ hg, by omega, h2, ?_, htk _ ?_⟩⟩⟩
      · rw [hq]
        have hu : ∀ w, (underlying t).run P w = .ok (.slice e) w := run_underlying ht
        have hzv : (zeroValue e).run P w = .ok (.agg (vec 9 nul)) w := by simp [zeroValue, typeInfo, hi, hz]
        unfold Builtin.clear_
        show Sem.run P (underlying t >>= fun d => _) w = _
        rw [Sem.run_bind, hu, Result.andThen_ok]
        show Sem.run P (zeroValue e >>= fun z => storeCells ⟨g, m * 9, none⟩ (Builtin.zeroCells z.cells (q + 1)).toList >>= fun _ => pure (Value.tuple #[])) w = _
        rw [Sem.run_bind, hzv, Result.andThen_ok]
        show Sem.run P (storeCells ⟨g, m * 9, none⟩ (Builtin.zeroCells (vec 9 nul) (q + 1)).toList >>= fun _ => pure (Value.tuple #[])) w = _
        rw [Sem.run_bind, hst, Result.andThen_ok]
        rfl
      · rw [List.size_toArray, List.length_append, List.length_append, List.length_take, List.length_drop, hzc, Array.length_toList, h3]
        have : m * 9 + (q + 1) * 9 ≤ cap * 9 := by rw [← Nat.add_mul]; exact Nat.mul_le_mul_right _ (by omega)
        omega
      · have : m * 9 ≤ cap * 9 := Nat.mul_le_mul_right _ (by omega)
        rw [List.append_assoc, List.take_append_of_le_length (by rw [List.length_take, Array.length_toList, h3]; omega), Nat.add_zero, List.take_take, Nat.min_self]

end Go.Proofs.Ytdbokcbbpegilaa
/- impl: what is 0 left out of a list; equal speeds joined. -/
namespace Go.Proofs.Ytdbokcbbpegilaa
set_option maxRecDepth 20000
open Go.ChangeShapes Go.WideShapes Go.ChangeAt Go.RowKit
set_option linter.unusedVariables false
set_option linter.unusedSimpArgs false

theorem firstZ_facts (ws : List Wh) : (∀ i c, i < firstZ ws → ws[i]? = some c → nz c = true) ∧ (firstZ ws < ws.length → ∃ c, ws[firstZ ws]? = some c ∧ nz c = false) := by
  induction ws with
  | nil => exact ⟨fun i c h => by simp [firstZ] at h, fun h => by simp [firstZ] at h⟩
  | cons c cs ih =>
    unfold firstZ
    by_cases h : nz c = true
    · rw [if_pos h]
      refine ⟨fun i d hi hd => ?_, fun hl => ?_⟩
      · cases i with
        | zero => simp only [List.getElem?_cons_zero, Option.some.injEq] at hd; rw [← hd]; exact h
        | succ i => exact ih.1 i d (by omega) (by simpa using hd)
      · obtain ⟨d, h1, h2⟩ := ih.2 (by simpa using hl)
        exact ⟨d, by simpa using h1, h2⟩
    · rw [if_neg h]
      exact ⟨fun i d hi => by omega, fun _ => ⟨c, by simp, by simpa using h⟩⟩
theorem filter_take_all {ws : List Wh} {k : Nat} (h : ∀ i c, i < k → ws[i]? = some c → nz c = true) : (ws.take k).filter nz = ws.take k := filter_all fun c hc => by
  obtain ⟨i, hi, e⟩ := List.mem_iff_getElem.1 hc
  simp only [List.length_take] at hi
  exact h i c (by omega) (by rw [← e, List.getElem_take]; exact List.getElem?_eq_getElem (by omega))
theorem range_own {w : World} {B T g cap : Nat} {ws : List Wh} {k : Nat} {c : Wh} (h : Own w B T (.slice (some ⟨g, 0, none⟩) ws.length cap) ws) (hc : ws[k]? = some c) : w.rangeAt g (k * 9) (enc c) := by
  obtain ⟨p, cap', e, _, _, _, h5⟩ := own_reads h
  simp only [Value.slice.injEq, true_and] at e
  obtain ⟨rfl, _⟩ := e
  obtain ⟨g', o, e, _, hr⟩ := h5 (by simp)
  simp only [Option.some.injEq, Addr.mk.injEq, and_true] at e
  obtain ⟨rfl, rfl⟩ := e
  have := range_part hr hc
  rwa [Nat.zero_add] at this

section
variable {P : Program} {ops : Array Oper} {rest : List Oper} {o : Oper} {a : Act} {Q : Exit → Act → World → Prop} {w : World}
theorem store_wheel {ty : TypeId} {g p : Nat} {c : Wh} (hgd : o.guard = none) {x y : Operand} (ho : o.op = .store ty x y) (hx : a.eval x = .pointer (some ⟨g, p, none⟩)) (hy : a.eval y = wh c)
    (ht : w.there g p 9) (hi : (P.info? ty).map (·.size) = some 9) (h : wpList P ops Q rest (a.put o.dst undef) (w.setCells g p (enc c))) : wpList P ops Q (o :: rest) a w :=
  wpList_store_mid hgd ty x y ho g p (vec 9 (wf c)) hx hy (by rw [vec_size]; exact ht) (by rw [vec_size]; exact hi) (vec_one 9 _) (show wpList P ops Q rest (a.put o.dst undef) (w.setCells g p (vec 9 (wf c)).toList) from h)
theorem store_part {ty : TypeId} {g p : Nat} {f : Nat → Int} (hgd : o.guard = none) {x y : Operand} (ho : o.op = .store ty x y) (hx : a.eval x = .pointer (some ⟨g, p, none⟩)) (hy : a.eval y = pt f)
    (ht : w.there g p 8) (hi : (P.info? ty).map (·.size) = some 8) (h : wpList P ops Q rest (a.put o.dst undef) (w.setCells g p (lst 8 f))) : wpList P ops Q (o :: rest) a w :=
  wpList_store_mid hgd ty x y ho g p (vec 8 f) hx hy (by rw [vec_size]; exact ht) (by rw [vec_size]; exact hi) (vec_one 8 _) (show wpList P ops Q rest (a.put o.dst undef) (w.setCells g p (vec 8 f).toList) from h)
end
theorem info_circle_full : ∃ i, Try.prog.info? 72 = some i ∧ i.zero = some (.agg (vec 9 nul)) := by
  have h : (Try.prog.info? 72).map (fun i => (i.zero, i.size, i.bytes)) = some (some (.agg (vec 9 nul)), 9, 72) := by kernel_rfl
  obtain ⟨i, hi, e1, _, _⟩ := info_parts h
  exact ⟨i, hi, e1⟩

set_option maxHeartbeats 1000000 in
theorem deleteZ_any (v : Value) (B : Nat) (ws : List Wh) (w : World) (ho : Own w B 72 v ws) (hn : ws.length ≤ 1000000) (hB : B ≤ w.heap.size) :
    Calls Try.prog 110 #[v, noV] w fun e w' => Below B w w' ∧ ∃ v', e = .returned v' ∧ Own w' B 72 v' (ws.filter nz) := by
  have I := Lib.hid (indexZ_any v ws w (own_reads ho))
  obtain ⟨fz, hfz⟩ : ∃ n, n = firstZ ws := ⟨_, rfl⟩
  have hfl : fz ≤ ws.length := by rw [hfz]; exact firstZ_le ws
  by_cases hall : firstZ ws = ws.length
  · have hz : idxZ ws = -1 := by unfold idxZ; rw [if_pos hall]
    rw [hz] at I
    have hfil : ws.filter nz = ws := by
      have := filter_take_all (firstZ_facts ws).1
      rwa [hall, List.take_length] at this
    rw [hfil]
    have HO := Lib.hid ho
    clear ho hz hall hfil hfz
    go_enter Try.func110, Try.ntmps110
    go_wp2_with fail
    refine I.out.mono ?_; rintro e w1 ⟨rfl, hb1⟩
    have HB := Lib.hid hb1
    clear I hb1
    go_wp2
    go_ret
    exact ⟨HB.out.mono hB, _, rfl, own_below HO.out HB.out⟩
  · have hflt : fz < ws.length := by omega
    have hz : idxZ ws = (fz : Int) := by unfold idxZ; rw [if_neg hall, hfz]
    rw [hz] at I
    rcases ho.2 with ⟨_, h0⟩ | ⟨g, cap, cur, rfl, hgB, hgg, hcap1, hcap2, _, _⟩
    · omega
    have hcz : (ws.length : Int) ≤ (cap : Int) := by omega
    simp only [maxLen] at hcap2
    have HF : Aside (fz = firstZ ws) := hfz
    have HO := Lib.hid ho
    have hgl := (Array.getElem?_eq_some_iff.1 hgg).1
    clear ho hz hall hgg hfz
    have eg := enters_isNothing
    go_enter Try.func110, Try.ntmps110
    go_wp2_with fail
    refine I.out.mono ?_; rintro e w1 ⟨rfl, hb1⟩
    have HO1 := Lib.hid (own_below HO.out hb1)
    have HB1 := Lib.hid (hb1.mono hB)
    have hs1 := Nat.le_trans hB hb1.size
    clear I HO hb1
    have n1 : ¬ ((fz : Nat) : Int) = -1 := by omega
    have n1b : (((fz : Nat) : Int) == -1) = false := by simp
    go_wp2_with fail
    go_loopw [5, 6, 7] (fun s5 s6 _ wr => ∃ (m k : Nat) (cs : List Wh), s5 = .int .i64 m ∧ s6 = .int .i64 k ∧ m < k ∧ k ≤ ws.length ∧ cs.length = ws.length ∧ Own wr B 72 (.slice (some ⟨g, 0, none⟩) cs.length cap) cs ∧
      cs.take m = (ws.take k).filter nz ∧ cs.drop k = ws.drop k ∧ Below B w wr ∧ B ≤ wr.heap.size) (fun _ s6 _ _ => ws.length - (intOf s6).toNat)
    case atStart =>
      refine ⟨fz, fz + 1, ws, rfl, by go_num, by omega, by omega, rfl, HO1.out, ?_, rfl, HB1.out, hs1⟩
      have h1 := firstZ_facts ws
      rw [← HF.out] at h1
      obtain ⟨c, hc, hcn⟩ := h1.2 hflt
      rw [take_next hc, List.filter_append, filter_take_all h1.1]
      simp [hcn]
    case round =>
      clear HO1 HB1 n1 n1b hs1
      obtain ⟨m, k, cs, rfl, rfl, hmk, hk, hcl, hO, htk, hdr, hbel, hB2⟩ := hrel
      by_cases hlt : k < ws.length
      · have hkz : (k : Int) < (ws.length : Int) := by omega
        have hk0 : (0 : Int) ≤ (k : Int) := by omega
        have hm0 : (0 : Int) ≤ (m : Int) := by omega
        have hmz : (m : Int) < (ws.length : Int) := by omega
        obtain ⟨c, hc⟩ : ∃ c, ws[k]? = some c := ⟨_, List.getElem?_eq_getElem hlt⟩
        have hcs : cs[k]? = some c := by
          have h1 : (cs.drop k)[0]? = (ws.drop k)[0]? := by rw [hdr]
          simpa [hc] using h1
        have HE := Lib.hid (range_own hO hcs)
        have HO := Lib.hid hO
        have HL := Lib.hid hbel
        have HT := Lib.hid htk
        have HD := Lib.hid hdr
        have HC := Lib.hid hc
        have hz2 := hB2
        clear hO hbel htk hdr hc hB2
        have HW := Lib.hid (RowAt.new wr 9 72 (wf c))
        have C := fun w => isNothing_below c w
        go_wp2_with (first | (refine load_wheel (T := 72) (g := g) rfl rfl rfl HE.out Try.underlying72 rfl info_circle ?_) | (refine store_new (ty := 72) rfl rfl rfl rfl zero9 info_circle ?_) | (refine load_row (ty := 72) (g := wr.heap.size) rfl rfl rfl HW.out Try.underlying72 rfl info_circle ?_))
        refine (C _).mono ?_; rintro e w3 ⟨rfl, hb3⟩
        have hb4 : Below wr.heap.size wr w3 := below_next ((Below.refl _ _).alloc (Nat.le_refl _) _) hb3
        have HO3 := Lib.hid (own_below HO.out hb4)
        have HBW := Lib.hid (HL.out.trans (hb4.mono hz2))
        have hz3 := Nat.le_trans hz2 hb4.size
        have HR3 := Lib.hid (HW.out.below hb3)
        clear C hb3 hb4 HE
        cases hz : nz c
        · go_wp2
          go_roundw
          case rel =>
            refine ⟨m, k + 1, cs, rfl, by go_num, by omega, by omega, hcl, HO3.out, ?_, ?_, HBW.out, hz3⟩
            · rw [take_next HC.out, List.filter_append, HT.out]; simp [hz]
            · have h1 : (cs.drop k).drop 1 = (ws.drop k).drop 1 := by rw [HD.out]
              simpa [List.drop_drop] using h1
          case measure => simp [intOf]; omega
        · obtain ⟨cm, hcm⟩ : ∃ d, cs[m]? = some d := ⟨_, List.getElem?_eq_getElem (by omega)⟩
          have HT3 := Lib.hid (own_there (k := m) (o := 0) (n := 9) HO3.out (by omega) (by omega))
          have HN := Lib.hid (own_wheel c HO3.out hcm)
          have HBN := Lib.hid (below_setCells (G := g) hgB (enc c) (m * 9) w3 HBW.out)
          have HSZ : Aside (B ≤ (w3.setCells g (m * 9) (enc c)).heap.size) := (show B ≤ (w3.setCells g (m * 9) (enc c)).heap.size from Nat.le_trans hB HBN.out.size)
          go_wp2_with (first | (refine load_row (ty := 72) (g := wr.heap.size) rfl rfl rfl HR3.out Try.underlying72 rfl info_circle ?_; clear HR3) | (refine store_wheel (ty := 72) (g := g) (c := c) rfl rfl rfl rfl HT3.out info_circle ?_; clear HT3))
          go_roundw
          case rel =>
            refine ⟨m + 1, k + 1, cs.set m c, by go_num, by go_num, by omega, by omega, by simpa using hcl, ?_, ?_, ?_, HBN.out, HSZ.out⟩
            · show (w3.setCells g (m * 9) (enc c)).ownsRow B 72 9 (.slice (some ⟨g, 0, none⟩) (cs.set m c).length cap) (cs.set m c).length (flat (cs.set m c))
              rw [List.length_set]; exact HN.out
            · rw [take_next HC.out, List.filter_append, ← HT.out]
              have h2 : (cs.set m c)[m]? = some c := List.getElem?_set_self (by omega)
              rw [take_next h2, List.take_set_of_le (Nat.le_refl _)]
              simp [hz]
            · rw [List.drop_set_of_lt (by omega)]
              have h1 : (cs.drop k).drop 1 = (ws.drop k).drop 1 := by rw [HD.out]
              simpa [List.drop_drop] using h1
          case measure => simp [intOf]; omega
      · obtain rfl : k = ws.length := by omega
        obtain ⟨i, hi, hiz⟩ := info_circle_full
        obtain ⟨w2, hrun, hgr, hown⟩ := run_clear_own (P := Try.prog) (m := m) Try.underlying76 hi hiz hO (by omega)
        rw [hcl] at hrun
        have hm0 : (0 : Int) ≤ (m : Int) := by omega
        have hmz : (m : Int) ≤ (ws.length : Int) := by omega
        have hmc : (m : Int) ≤ (cap : Int) := by omega
        have HN := Lib.hid hown
        have HB3 := Lib.hid (below_grown hbel hgr hB2 fun k hk => by simp only [Option.some.injEq] at hk; omega)
        have HT := Lib.hid htk
        clear hO hbel hgr hown htk hdr
        go_wp2
        go_ret
        have hl : (cs.take m).length = m := by rw [List.length_take]; omega
        have ht := HT.out
        rw [List.take_length] at ht
        have ho := HN.out
        rw [ht] at ho hl
        refine ⟨HB3.out, _, rfl, ?_⟩
        rw [← hl]
        exact ho

end Go.Proofs.Ytdbokcbbpegilaa
/- impl: circles of equal speeds joined. -/
namespace Go.Proofs.Ytdbokcbbpegilaa
set_option maxRecDepth 20000
open Go.ChangeShapes Go.WideShapes Go.ChangeAt Go.RowKit
set_option linter.unusedVariables false
set_option linter.unusedSimpArgs false

theorem ins_end (c : Wh) : ∀ R : List Wh, (∀ d ∈ R, d.s < c.s) → ins R c = R ++ [c] ∧ insOk false R c = true
  | [], _ => ⟨rfl, rfl⟩
  | d :: R, h => by
    obtain ⟨h1, h2⟩ := ins_end c R fun e he => h e (by simp [he])
    unfold ins insOk
    rw [if_pos (h d (by simp)), if_pos (h d (by simp)), h1, h2]
    exact ⟨rfl, rfl⟩
theorem ins_eq (c l : Wh) (hl : l.s = c.s) : ∀ R : List Wh, (∀ d ∈ R, d.s < c.s) → ins (R ++ [l]) c = R ++ [⟨l.s, V.add l.r c.r⟩] ∧ insOk false (R ++ [l]) c = okv (V.add l.r c.r)
  | [], _ => by
    simp only [List.nil_append, ins, insOk]
    rw [if_neg (by omega), if_pos hl, if_neg (by omega), if_pos hl]
    exact ⟨rfl, rfl⟩
  | d :: R, h => by
    obtain ⟨h1, h2⟩ := ins_eq c l hl R fun e he => h e (by simp [he])
    rw [List.cons_append]
    unfold ins insOk
    rw [if_pos (h d (by simp)), if_pos (h d (by simp)), h1, h2]
    exact ⟨rfl, rfl⟩
def got (o : Option (List Wh)) : List Wh := o.getD []
theorem own_form {w : World} {B T : Nat} {v : Value} {ws : List Wh} (h : Own w B T v ws) : ∃ p cap, v = .slice p ws.length cap ∧ cap ≤ 9223372036854775807 ∧ ws.length ≤ cap ∧ (ws ≠ [] → ∃ g, p = some ⟨g, 0, none⟩ ∧ B ≤ g) := by
  rcases h.2 with ⟨rfl, h0⟩ | ⟨g, cap, cur, rfl, hg0, hg, h1, h2, h3, h4⟩
  · exact ⟨none, 0, by rw [h0], by omega, by omega, fun hn => absurd (List.length_eq_zero_iff.1 h0) hn⟩
  · exact ⟨_, cap, rfl, by simpa [maxLen] using h2, h1, fun _ => ⟨g, rfl, hg0⟩⟩

theorem validV (r : V) (w : World) : Calls Try.prog 121 #[pt r.up] w fun e w' => e = .returned (.bool (okv r)) ∧ Below w.heap.size w w' := valid_any r.up w
set_option maxHeartbeats 2000000 in
theorem joined_any (v : Value) (ws : List Wh) (w : World) (hv : Reads w v ws) (hn : ws.length ≤ 1000) (hs : ws.Pairwise fun a b => a.s ≤ b.s) (hbig : ∀ c ∈ ws, Big c.r 4000000) :
    Calls Try.prog 109 #[v] w fun e w' => Below w.heap.size w w' ∧ ∃ v', e = .returned (.tuple #[v', .bool (run false [] ws).isSome]) ∧ Own w' w.heap.size 72 v' (got (run false [] ws)) := by
  obtain ⟨p, cap, rfl, hc1, hc2, hp0, hp⟩ := hv
  simp only [maxLen] at hc2
  have HP := Lib.hid hp
  have HS := Lib.hid hs
  have HBG := Lib.hid hbig
  clear hp hs hbig
  generalize hrun : run false [] ws = res
  have HRES := Lib.hid hrun
  clear hrun
  go_enter Try.func109, Try.ntmps109
  go_wp2
  go_loopw [4, 6, 7, 8, 11] (fun s4 _ _ _ i wr => ∃ (k : Nat) (R : List Wh), k ≤ ws.length ∧ i = .int .i64 k ∧ R.length ≤ k ∧ Own wr w.heap.size 72 s4 R ∧
    (Asc R ∧ (∀ d ∈ R, ∀ c ∈ ws.drop k, d.s ≤ c.s) ∧ (∀ d ∈ R, Big d.r 4000000) ∧ run false R (ws.drop k) = res) ∧ Below w.heap.size w wr ∧ w.heap.size ≤ wr.heap.size) (fun _ _ _ _ i _ => ws.length - (intOf i).toNat)
  case atStart => exact ⟨0, [], Nat.zero_le _, rfl, Nat.zero_le _, own_nil _ _ _, ⟨List.Pairwise.nil, by simp, by simp, HRES.out⟩, Below.refl _ _, Nat.le_refl _⟩
  case round =>
    obtain ⟨k, R, hk, rfl, hRk, hO, hfacts, hbel, hB⟩ := hrel
    by_cases hlt : k < ws.length
    · have hkz : (k : Int) < (ws.length : Int) := by omega
      have hk0 : (0 : Int) ≤ (k : Int) := by omega
      obtain ⟨c, hc⟩ : ∃ c, ws[k]? = some c := ⟨_, List.getElem?_eq_getElem hlt⟩
      obtain ⟨g0, o0, rfl, hg0, hr0⟩ := HP.out (by rintro rfl; have := hp0 rfl; omega)
      have HE := Lib.hid (range_part (range_below hr0 hg0 hbel) hc)
      have hdrop : ws.drop k = c :: ws.drop (k + 1) := by
        rw [List.drop_eq_getElem_cons hlt]
        have := List.getElem?_eq_getElem hlt
        rw [hc] at this
        simp only [Option.some.injEq] at this
        rw [this]
      have HC := Lib.hid hc
      have HD := Lib.hid hdrop
      have HFA := Lib.hid hfacts
      have HCB : Aside (Big c.r 4000000) := HBG.out c (List.mem_of_getElem? hc)
      have HW : Aside (RowAt (wr.alloc (.cells (vec 9 (wf c)) 72)) wr.heap.size 9 72 (wf c)) := RowAt.new wr 9 _ _
      have HO : Aside (Own (wr.alloc (.cells (vec 9 (wf c)) 72)) w.heap.size 72 u4 R) := (show World.ownsRow _ _ _ _ _ _ _ from World.ownsRow.alloc hO _)
      have HL : Aside (Below w.heap.size w (wr.alloc (.cells (vec 9 (wf c)) 72))) := hbel.alloc hB _
      have HZ : Aside (w.heap.size ≤ (wr.alloc (.cells (vec 9 (wf c)) 72)).heap.size) := (show _ ≤ _ by simp; omega)
      have HZ2 : Aside (wr.heap.size < (wr.alloc (.cells (vec 9 (wf c)) 72)).heap.size) := (show _ < _ by simp)
      obtain ⟨pr, capr, rfl, hcapr, hcapr2, hne⟩ := own_form hO
      have HNE := Lib.hid hne
      clear hr0 hO hbel hc hdrop hfacts hne hB
      by_cases hR0 : R = []
      · subst hR0
        have q1 : IntKind.i64.wrap (-1) = -1 := by decide
        have HLT : Aside (∀ d ∈ ([] : List Wh), d.s < c.s) := (show ∀ d ∈ ([] : List Wh), d.s < c.s from by simp)
        generalize hRR : ([] : List Wh) = R at *
        have hR0 : R.length = 0 := by rw [← hRR]; rfl
        clear hRR
        go_upto_region 6 with (first | (refine load_wheel (T := 72) (g := g0) rfl rfl rfl HE.out Try.underlying72 rfl info_circle ?_; clear HE) | (refine store_new (ty := 72) rfl rfl rfl rfl zero9 info_circle ?_))
        show Code.wp _ _ _ _ (wr.alloc (.cells (vec 9 (wf c)) 72))
        generalize wr.alloc (.cells (vec 9 (wf c)) 72) = W at *
        generalize wr.heap.size = b at *
        refine wp_region_held_drew (S := fun w' => w' = W.drew) (by kernel_rfl) rfl (fun hHeld => ?_)
        refine wpAnyH_take (i := 0) (oi := _) (v := .int .i64 (-1)) rfl (by kernel_rfl) (by kernel_rfl) (by kernel_rfl) (fun _ _ _ h => h) (Or.inl ⟨by rfl, fun w h => by go_simp⟩) hHeld ?_
        try simp only [Act.put, List.setIfInBounds_toArray, List.set_cons_zero, List.set_cons_succ, List.getElem_toArray, List.getElem_cons_succ, List.getElem_cons_zero]
        refine wpAnyH_take (i := 1) (oi := _) (v := .bool true) rfl (by kernel_rfl) (by kernel_rfl) (by kernel_rfl) (fun _ _ _ h => h) (Or.inl ⟨by rfl, fun w h => by go_simp⟩) hHeld ?_
        try simp only [Act.put, List.setIfInBounds_toArray, List.set_cons_zero, List.set_cons_succ, List.getElem_toArray, List.getElem_cons_succ, List.getElem_cons_zero]
        refine wpAnyH_take (i := 2) (oi := _) (v := .bool true) rfl (by kernel_rfl) (by kernel_rfl) (by kernel_rfl) (fun _ _ _ h => h) (Or.inl ⟨by rfl, fun w h => by go_simp⟩) hHeld ?_
        try simp only [Act.put, List.setIfInBounds_toArray, List.set_cons_zero, List.set_cons_succ, List.getElem_toArray, List.getElem_cons_succ, List.getElem_cons_zero]
        refine wpAnyH_take (i := 3) (oi := _) (v := undef) rfl (by kernel_rfl) (by kernel_rfl) (by kernel_rfl) (fun _ _ _ h => h) (Or.inr ⟨by rfl, rfl⟩) hHeld ?_
        try simp only [Act.put, List.setIfInBounds_toArray, List.set_cons_zero, List.set_cons_succ, List.getElem_toArray, List.getElem_cons_succ, List.getElem_cons_zero]
        refine wpAnyH_take (i := 4) (oi := _) (v := undef) rfl (by kernel_rfl) (by kernel_rfl) (by kernel_rfl) (fun _ _ _ h => h) (Or.inr ⟨by rfl, rfl⟩) hHeld ?_
        try simp only [Act.put, List.setIfInBounds_toArray, List.set_cons_zero, List.set_cons_succ, List.getElem_toArray, List.getElem_cons_succ, List.getElem_cons_zero]
        refine wpAnyH_take (i := 5) (oi := _) (v := undef) rfl (by kernel_rfl) (by kernel_rfl) (by kernel_rfl) (fun _ _ _ h => h) (Or.inr ⟨by rfl, rfl⟩) hHeld ?_
        try simp only [Act.put, List.setIfInBounds_toArray, List.set_cons_zero, List.set_cons_succ, List.getElem_toArray, List.getElem_cons_succ, List.getElem_cons_zero]
        refine wpAnyH_take (i := 6) (oi := _) (v := undef) rfl (by kernel_rfl) (by kernel_rfl) (by kernel_rfl) (fun _ _ _ h => h) (Or.inr ⟨by rfl, rfl⟩) hHeld ?_
        try simp only [Act.put, List.setIfInBounds_toArray, List.set_cons_zero, List.set_cons_succ, List.getElem_toArray, List.getElem_cons_succ, List.getElem_cons_zero]
        refine wpAnyH_take (i := 7) (oi := _) (v := undef) rfl (by kernel_rfl) (by kernel_rfl) (by kernel_rfl) (fun _ _ _ h => h) (Or.inr ⟨by rfl, rfl⟩) hHeld ?_
        try simp only [Act.put, List.setIfInBounds_toArray, List.set_cons_zero, List.set_cons_succ, List.getElem_toArray, List.getElem_cons_succ, List.getElem_cons_zero]
        refine wpAnyH_take (i := 8) (oi := _) (v := undef) rfl (by kernel_rfl) (by kernel_rfl) (by kernel_rfl) (fun _ _ _ h => h) (Or.inr ⟨by rfl, rfl⟩) hHeld ?_
        try simp only [Act.put, List.setIfInBounds_toArray, List.set_cons_zero, List.set_cons_succ, List.getElem_toArray, List.getElem_cons_succ, List.getElem_cons_zero]
        refine wpAnyH_take (i := 9) (oi := _) (v := undef) rfl (by kernel_rfl) (by kernel_rfl) (by kernel_rfl) (fun _ _ _ h => h) (Or.inr ⟨by rfl, rfl⟩) hHeld ?_
        try simp only [Act.put, List.setIfInBounds_toArray, List.set_cons_zero, List.set_cons_succ, List.getElem_toArray, List.getElem_cons_succ, List.getElem_cons_zero]
        refine wpAnyH_take (i := 10) (oi := _) (v := undef) rfl (by kernel_rfl) (by kernel_rfl) (by kernel_rfl) (fun _ _ _ h => h) (Or.inr ⟨by rfl, rfl⟩) hHeld ?_
        try simp only [Act.put, List.setIfInBounds_toArray, List.set_cons_zero, List.set_cons_succ, List.getElem_toArray, List.getElem_cons_succ, List.getElem_cons_zero]
        refine wpAnyH_take (i := 11) (oi := _) (v := .bool true) rfl (by kernel_rfl) (by kernel_rfl) (by kernel_rfl) (fun _ _ _ h => h) (Or.inl ⟨by rfl, fun w h => by go_simp⟩) hHeld ?_
        try simp only [Act.put, List.setIfInBounds_toArray, List.set_cons_zero, List.set_cons_succ, List.getElem_toArray, List.getElem_cons_succ, List.getElem_cons_zero]
        clear hHeld
        refine wpAnyH_done (by kernel_rfl) ?_ _
        have HO3 : Aside (Own W.drew w.heap.size 72 (.slice pr 0 capr) R) := (show Own W _ _ _ _ from by
          have e : Value.slice pr R.length capr = Value.slice pr 0 capr := by rw [hR0]
          rw [← e]; exact HO.out)
        have HW3 : Aside (RowAt W.drew b 9 72 (wf c)) := HW.out.drew1
        have HL3 : Aside (Below w.heap.size w W.drew) := HL.out.drew
        have HZ3 : Aside (w.heap.size ≤ W.drew.heap.size) := HZ.out
        clear HW HL HZ HO
        generalize W.drew = W3 at *
        go_wp2_with (first | (refine load_row (ty := 72) (g := b) rfl rfl rfl HW3.out Try.underlying72 rfl info_circle ?_; clear HW3) | (refine one9 tyC rfl rfl rfl ?_) |
          (refine append9 tyC rfl rfl (v := .slice pr 0 capr) (xs := R) rfl rfl (HO3.out.alloc _) (reads_lit _ _ _) (by simp; omega) (HL3.out.alloc HZ3.out _) (by simp; have := HZ3.out; omega) ?_; intro v2 w4 ho4 hb4 hB4))
        go_roundw
        case rel =>
          refine ⟨k + 1, R ++ [c], by omega, by go_num, by simp; omega, ho4, ⟨?_, ?_, ?_, ?_⟩, hb4, hB4⟩
          · have ha := HFA.out.1
            refine List.pairwise_append.2 ⟨ha, by simp, fun a h1 b h2 => ?_⟩
            rw [List.mem_singleton.1 h2]; exact HLT.out a h1
          · have hpw := HS.out
            intro d hd e he
            rcases List.mem_append.1 hd with h | h
            · exact HFA.out.2.1 d h e (by rw [HD.out]; exact List.mem_cons_of_mem _ he)
            · rw [List.mem_singleton.1 h]
              have := hpw.drop (i := k)
              rw [HD.out] at this
              exact (List.pairwise_cons.1 this).1 e he
          · intro d hd
            rcases List.mem_append.1 hd with h | h
            · exact HFA.out.2.2.1 d h
            · rw [List.mem_singleton.1 h]; exact HCB.out
          · have h1 := HFA.out.2.2.2
            rw [HD.out] at h1
            unfold run at h1
            obtain ⟨e1, e2⟩ := ins_end c R HLT.out
            rw [e2, if_pos rfl, e1] at h1
            exact h1
        case measure => simp [intOf]; omega
      · obtain ⟨m, hm⟩ : ∃ m, R.length = m + 1 := ⟨R.length - 1, by have := List.length_pos_iff.2 hR0; omega⟩
        obtain ⟨l, hl⟩ : ∃ l, R[m]? = some l := ⟨_, List.getElem?_eq_getElem (by omega)⟩
        obtain ⟨g, rfl, hgB⟩ := HNE.out hR0
        have q1 : IntKind.i64.wrap ((m : Int) + 1 - 1) = (m : Int) := by rw [IntKind.wrap_i64]; omega
        have q2 : ¬ (m : Int) < 0 := by omega
        have q3 : (0 : Int) ≤ (m : Int) := by omega
        have q4 : (m : Int) < (m : Int) + 1 := by omega
        have HG : Aside ((wr.alloc (.cells (vec 9 (wf c)) 72)).rangeAt g (m * 9) (enc l)) := range_own HO.out hl
        have hgz : (m : Int) + 1 ≤ (capr : Int) := by omega
        have hRsplit : R = R.take m ++ [l] := by
          conv => lhs; rw [← List.take_length (l := R), hm, take_next hl]
        have hlc : l.s ≤ c.s := HFA.out.2.1 l (List.mem_of_getElem? hl) c (by rw [HD.out]; simp)
        have hbef : ∀ d ∈ R.take m, d.s < l.s := fun d hd => by
          have ha := HFA.out.1
          rw [hRsplit] at ha
          exact (List.pairwise_append.1 ha).2.2 d hd l (by simp)
        have HSP : Aside (R = R.take m ++ [l] ∧ R[m]? = some l ∧ ∀ d ∈ R.take m, d.s < l.s) := ⟨hRsplit, hl, hbef⟩
        clear hl HNE hR0 hRsplit hbef
        by_cases hls : l.s = c.s
        · have hls2 : (l.s == c.s) = true := by simpa using hls
          go_upto_region 6 with (first | (refine load_wheel (T := 72) (g := g0) rfl rfl rfl HE.out Try.underlying72 rfl info_circle ?_; clear HE) | (refine store_new (ty := 72) rfl rfl rfl rfl zero9 info_circle ?_))
          show Code.wp _ _ _ _ (wr.alloc (.cells (vec 9 (wf c)) 72))
          generalize wr.alloc (.cells (vec 9 (wf c)) 72) = W at *
          generalize wr.heap.size = b at *
          refine wp_region_held_drew (S := fun w' => w' = W.drew) (by kernel_rfl) rfl (fun hHeld => ?_)
          refine wpAnyH_take (i := 0) (oi := _) (v := .int .i64 m) rfl (by kernel_rfl) (by kernel_rfl) (by kernel_rfl) (fun _ _ _ h => h) (Or.inl ⟨by rfl, fun w h => by go_simp⟩) hHeld ?_
          try simp only [Act.put, List.setIfInBounds_toArray, List.set_cons_zero, List.set_cons_succ, List.getElem_toArray, List.getElem_cons_succ, List.getElem_cons_zero]
          refine wpAnyH_take (i := 1) (oi := _) (v := .bool false) rfl (by kernel_rfl) (by kernel_rfl) (by kernel_rfl) (fun _ _ _ h => h) (Or.inl ⟨by rfl, fun w h => by go_simp⟩) hHeld ?_
          try simp only [Act.put, List.setIfInBounds_toArray, List.set_cons_zero, List.set_cons_succ, List.getElem_toArray, List.getElem_cons_succ, List.getElem_cons_zero]
          refine wpAnyH_take (i := 2) (oi := _) (v := .bool false) rfl (by kernel_rfl) (by kernel_rfl) (by kernel_rfl) (fun _ _ _ h => h) (Or.inl ⟨by rfl, fun w h => by go_simp⟩) hHeld ?_
          try simp only [Act.put, List.setIfInBounds_toArray, List.set_cons_zero, List.set_cons_succ, List.getElem_toArray, List.getElem_cons_succ, List.getElem_cons_zero]
          refine wpAnyH_take (i := 3) (oi := _) (v := .slice (some ⟨g, 0, none⟩) (m + 1) capr) rfl (by kernel_rfl) (by kernel_rfl) (by kernel_rfl) (fun _ _ _ h => h) (Or.inl ⟨by rfl, fun w h => by go_simp⟩) hHeld ?_
          try simp only [Act.put, List.setIfInBounds_toArray, List.set_cons_zero, List.set_cons_succ, List.getElem_toArray, List.getElem_cons_succ, List.getElem_cons_zero]
          refine wpAnyH_take (i := 4) (oi := _) (v := .int .i64 m) rfl (by kernel_rfl) (by kernel_rfl) (by kernel_rfl) (fun _ _ _ h => h) (Or.inl ⟨by rfl, fun w h => by go_simp⟩) hHeld ?_
          try simp only [Act.put, List.setIfInBounds_toArray, List.set_cons_zero, List.set_cons_succ, List.getElem_toArray, List.getElem_cons_succ, List.getElem_cons_zero]
          refine wpAnyH_take (i := 5) (oi := _) (v := .pointer (some ⟨g, m * 9, none⟩)) rfl (by kernel_rfl) (by kernel_rfl) (by kernel_rfl) (fun _ _ _ h => h) (Or.inl ⟨by rfl, fun w h => by go_simp⟩) hHeld ?_
          try simp only [Act.put, List.setIfInBounds_toArray, List.set_cons_zero, List.set_cons_succ, List.getElem_toArray, List.getElem_cons_succ, List.getElem_cons_zero]
          refine wpAnyH_take (i := 6) (oi := _) (v := .pointer (some ⟨g, m * 9, none⟩)) rfl (by kernel_rfl) (by kernel_rfl) (by kernel_rfl) (fun _ _ _ h => h) (Or.inl ⟨by rfl, fun w h => by go_simp⟩) hHeld ?_
          try simp only [Act.put, List.setIfInBounds_toArray, List.set_cons_zero, List.set_cons_succ, List.getElem_toArray, List.getElem_cons_succ, List.getElem_cons_zero]
          refine wpAnyH_take (i := 7) (oi := _) (v := .int .i64 l.s) rfl (by kernel_rfl) (by kernel_rfl) (by kernel_rfl) (fun _ _ _ h => h) (Or.inl ⟨by rfl, fun w h => by have hcell := (show W.drew.cell? ⟨g, m * 9, none⟩ = some (.int .i64 l.s) from range_speed HG.out); go_simp⟩) hHeld ?_
          try simp only [Act.put, List.setIfInBounds_toArray, List.set_cons_zero, List.set_cons_succ, List.getElem_toArray, List.getElem_cons_succ, List.getElem_cons_zero]
          refine wpAnyH_take (i := 8) (oi := _) (v := .pointer (some ⟨b, 0, none⟩)) rfl (by kernel_rfl) (by kernel_rfl) (by kernel_rfl) (fun _ _ _ h => h) (Or.inl ⟨by rfl, fun w h => by go_simp⟩) hHeld ?_
          try simp only [Act.put, List.setIfInBounds_toArray, List.set_cons_zero, List.set_cons_succ, List.getElem_toArray, List.getElem_cons_succ, List.getElem_cons_zero]
          refine wpAnyH_take (i := 9) (oi := _) (v := .int .i64 c.s) rfl (by kernel_rfl) (by kernel_rfl) (by kernel_rfl) (fun _ _ _ h => h) (Or.inl ⟨by rfl, fun w h => by have hcell := (show W.drew.cell? ⟨b, 0, none⟩ = some (.int .i64 c.s) from row_speed HW.out); go_simp⟩) hHeld ?_
          try simp only [Act.put, List.setIfInBounds_toArray, List.set_cons_zero, List.set_cons_succ, List.getElem_toArray, List.getElem_cons_succ, List.getElem_cons_zero]
          refine wpAnyH_take (i := 10) (oi := _) (v := .bool false) rfl (by kernel_rfl) (by kernel_rfl) (by kernel_rfl) (fun _ _ _ h => h) (Or.inl ⟨by rfl, fun w h => by go_simp⟩) hHeld ?_
          try simp only [Act.put, List.setIfInBounds_toArray, List.set_cons_zero, List.set_cons_succ, List.getElem_toArray, List.getElem_cons_succ, List.getElem_cons_zero]
          refine wpAnyH_take (i := 11) (oi := _) (v := .bool false) rfl (by kernel_rfl) (by kernel_rfl) (by kernel_rfl) (fun _ _ _ h => h) (Or.inl ⟨by rfl, fun w h => by go_simp⟩) hHeld ?_
          try simp only [Act.put, List.setIfInBounds_toArray, List.set_cons_zero, List.set_cons_succ, List.getElem_toArray, List.getElem_cons_succ, List.getElem_cons_zero]
          clear hHeld
          refine wpAnyH_done (by kernel_rfl) ?_ _
          have HO3 : Aside (Own W.drew w.heap.size 72 (.slice (some ⟨g, 0, none⟩) (m + 1) capr) R) := (show Own W _ _ _ _ from by
            have e : Value.slice (some ⟨g, 0, none⟩) R.length capr = Value.slice (some ⟨g, 0, none⟩) (m + 1) capr := by rw [hm]
            rw [← e]; exact HO.out)
          have HW3 : Aside (RowAt W.drew b 9 72 (wf c)) := HW.out.drew1
          have HL3 : Aside (Below w.heap.size w W.drew) := HL.out.drew
          have HG3 : Aside (W.drew.rangeAt g (m * 9) (enc l)) := HG.out
          have HZ4 : Aside (g < W.drew.heap.size ∧ b < W.drew.heap.size) := ⟨by have := (own_block HO3.out g rfl); exact (HO3.out.lt g rfl).2, HZ2.out⟩
          clear HW HL HZ HO HG HZ2
          generalize W.drew = W3 at *
          have PL := fun w => plusV l.r c.r ((HFA.out.2.2.1 l (List.mem_of_getElem? HSP.out.2.1)).mono (by omega)) (HCB.out.mono (by omega)) w
          have TD := fun w => validV (V.add l.r c.r) w
          go_upto_region 8 with fail
          refine wp_region_held_drew (S := fun w' => Below W3.heap.size W3 w') (by kernel_rfl) (Below.refl _ _).drew (fun hHeld => ?_)
          refine wpAnyH_take (i := 0) (oi := _) (v := .slice (some ⟨g, 0, none⟩) (m + 1) capr) rfl (by kernel_rfl) (by kernel_rfl) (by kernel_rfl) (fun _ _ _ h => h) (Or.inl ⟨by rfl, fun w h => by go_simp⟩) hHeld ?_
          try simp only [Act.put, List.setIfInBounds_toArray, List.set_cons_zero, List.set_cons_succ, List.getElem_toArray, List.getElem_cons_succ, List.getElem_cons_zero]
          refine wpAnyH_take (i := 1) (oi := _) (v := .int .i64 m) rfl (by kernel_rfl) (by kernel_rfl) (by kernel_rfl) (fun _ _ _ h => h) (Or.inl ⟨by rfl, fun w h => by go_simp⟩) hHeld ?_
          try simp only [Act.put, List.setIfInBounds_toArray, List.set_cons_zero, List.set_cons_succ, List.getElem_toArray, List.getElem_cons_succ, List.getElem_cons_zero]
          refine wpAnyH_take (i := 2) (oi := _) (v := .pointer (some ⟨g, m * 9, none⟩)) rfl (by kernel_rfl) (by kernel_rfl) (by kernel_rfl) (fun _ _ _ h => h) (Or.inl ⟨by rfl, fun w h => by go_simp⟩) hHeld ?_
          try simp only [Act.put, List.setIfInBounds_toArray, List.set_cons_zero, List.set_cons_succ, List.getElem_toArray, List.getElem_cons_succ, List.getElem_cons_zero]
          refine wpAnyH_take (i := 3) (oi := _) (v := .pointer (some ⟨g, m * 9 + 1, none⟩)) rfl (by kernel_rfl) (by kernel_rfl) (by kernel_rfl) (fun _ _ _ h => h) (Or.inl ⟨by rfl, fun w h => by go_simp⟩) hHeld ?_
          try simp only [Act.put, List.setIfInBounds_toArray, List.set_cons_zero, List.set_cons_succ, List.getElem_toArray, List.getElem_cons_succ, List.getElem_cons_zero]
          refine wpAnyH_take (i := 4) (oi := _) (v := .agg (vec 8 l.r.up)) rfl (by kernel_rfl) (by kernel_rfl) (by kernel_rfl) (fun _ _ _ h => h) (yieldsIf_load_mid (by rfl) _ _ rfl _ _ rfl _ _ ((fun w h => range_below (range_radius HG3.out) HZ4.out.1 h)) Try.underlying70 rfl (size_exact8 _)) hHeld ?_
          try simp only [Act.put, List.setIfInBounds_toArray, List.set_cons_zero, List.set_cons_succ, List.getElem_toArray, List.getElem_cons_succ, List.getElem_cons_zero]
          refine wpAnyH_take (i := 5) (oi := _) (v := .pointer (some ⟨b, 1, none⟩)) rfl (by kernel_rfl) (by kernel_rfl) (by kernel_rfl) (fun _ _ _ h => h) (Or.inl ⟨by rfl, fun w h => by go_simp⟩) hHeld ?_
          try simp only [Act.put, List.setIfInBounds_toArray, List.set_cons_zero, List.set_cons_succ, List.getElem_toArray, List.getElem_cons_succ, List.getElem_cons_zero]
          refine wpAnyH_take (i := 6) (oi := _) (v := .agg (vec 8 c.r.up)) rfl (by kernel_rfl) (by kernel_rfl) (by kernel_rfl) (fun _ _ _ h => h) (yieldsIf_load_mid (by rfl) _ _ rfl _ _ rfl _ _ ((fun w h => range_below (row_radius HW3.out) HZ4.out.2 h)) Try.underlying70 rfl (size_exact8 _)) hHeld ?_
          try simp only [Act.put, List.setIfInBounds_toArray, List.set_cons_zero, List.set_cons_succ, List.getElem_toArray, List.getElem_cons_succ, List.getElem_cons_zero]
          refine wpAnyH_ready (rs := [7, 8]) (by kernel_rfl) (by simp) ?_
          refine AllReadyH.cons (o := _) rfl (fun K hK => ?_) (AllReadyH.cons (o := _) rfl (fun K hK => ?_) AllReadyH.nil)
          · go_simp
            refine (PL _).mono ?_; rintro e w5 ⟨rfl, hb5⟩
            go_wp2_with fail
            refine hK.out _ _ (below_next hHeld hb5) (fun hHeld => ?_)
            clear hK K
            try simp only [Act.put, List.setIfInBounds_toArray, List.set_cons_zero, List.set_cons_succ, List.getElem_toArray, List.getElem_cons_succ, List.getElem_cons_zero]
            clear hb5 PL
            refine wpAnyH_ready (rs := [8]) (by kernel_rfl) (by simp) ?_
            refine AllReadyH.cons (o := _) rfl (fun K hK => ?_) AllReadyH.nil
            rw [if_pos (by rfl)]
            go_simp
            have hG : RowAt (w5.alloc (.cells #[.int .i64 0, .int .i64 0, .int .i64 0, .int .i64 0, .int .i64 0, .int .i64 0, .int .i64 0, .int .i64 0] 70)) w5.heap.size 8 70 nul := RowAt.newAt zero8 rfl
            have hgz : W3.heap.size ≤ w5.heap.size := hHeld.size
            refine hK.out _ _ (hHeld.alloc hgz _) (fun hHeld => ?_)
            clear hK K
            try simp only [Act.put, List.setIfInBounds_toArray, List.set_cons_zero, List.set_cons_succ, List.getElem_toArray, List.getElem_cons_succ, List.getElem_cons_zero]
            refine wpAnyH_ready (rs := [9]) (by kernel_rfl) (by simp) ?_
            refine AllReadyH.cons (o := _) rfl (fun K hK => ?_) AllReadyH.nil
            rw [if_pos (by rfl)]
            refine store_step (f' := (V.add l.r c.r).up) rfl rfl rfl hG info_exact ?_
            have hG2 := hG.setRow (f' := (V.add l.r c.r).up)
            refine hK.out _ _ (below_setRow hHeld hgz _) (fun hHeld => ?_)
            clear hK K
            try simp only [Act.put, List.setIfInBounds_toArray, List.set_cons_zero, List.set_cons_succ, List.getElem_toArray, List.getElem_cons_succ, List.getElem_cons_zero]
            clear hG
            refine wpAnyH_done (by kernel_rfl) ?_ _
            have HG5 := Lib.hid hG2
            have HS5 := Lib.hid hHeld
            clear hG2 hHeld
            generalize (w5.alloc (.cells #[.int .i64 0, .int .i64 0, .int .i64 0, .int .i64 0, .int .i64 0, .int .i64 0, .int .i64 0, .int .i64 0] 70)).setRow w5.heap.size (vec 8 (V.add l.r c.r).up) = W6 at *
            cases hok : okv (V.add l.r c.r)
            · rw [hok] at TD
              go_wp2_with (first | (refine load_row (ty := 70) (g := w5.heap.size) rfl rfl rfl HG5.out Try.underlying70 rfl info_exact ?_; clear HG5))
              refine (TD _).mono ?_; rintro e w7 ⟨rfl, hb7⟩
              have HB7 := Lib.hid (below_next HL3.out (below_next HS5.out hb7))
              clear hb7 TD
              go_wp2
              go_ret2
              have h1 := HFA.out.2.2.2
              rw [HD.out] at h1
              unfold run at h1
              obtain ⟨e1, e2⟩ := ins_eq c l hls (R.take m) (fun d hd => by have := HSP.out.2.2 d hd; omega)
              rw [← HSP.out.1] at e1 e2
              rw [e2, hok] at h1
              simp only [Bool.false_eq_true, if_false] at h1
              rw [← h1]
              exact ⟨HB7.out, _, rfl, own_nil _ _ _⟩
            · rw [hok] at TD
              go_wp2_with (first | (refine load_row (ty := 70) (g := w5.heap.size) rfl rfl rfl HG5.out Try.underlying70 rfl info_exact ?_))
              refine (TD _).mono ?_; rintro e w7 ⟨rfl, hb7⟩
              have hb8 : Below W6.heap.size W6 w7 := hb7
              have HG8 : Aside (RowAt w7 (w5.heap.size) 8 70 (V.add l.r c.r).up) := HG5.out.below hb8
              have hb9 := below_next HS5.out hb8
              have hb10 := below_next HL3.out hb9
              have ho := own_below HO3.out hb9
              have ht := own_there (k := m) (o := 1) (n := 8) (ws := R) (cap := capr) (g := g) (by rw [hm]; exact ho) (by omega) (by omega)
              have HT8 := Lib.hid ht
              have hn := own_radius (V.add l.r c.r) (k := m) (c := l) (ws := R) (cap := capr) (g := g) (by rw [hm]; exact ho) HSP.out.2.1
              rw [hm] at hn
              have HN : Aside (Own (World.setCells _ g (m * 9 + 1) (lst 8 (V.add l.r c.r).up)) w.heap.size 72 (.slice (some ⟨g, 0, none⟩) (m + 1) capr) (R.set m ⟨l.s, V.add l.r c.r⟩)) := (show World.ownsRow _ _ _ _ _ (R.set m ⟨l.s, V.add l.r c.r⟩).length _ from by
                rw [show (R.set m ⟨l.s, V.add l.r c.r⟩).length = m + 1 from by rw [List.length_set, hm]]; exact hn)
              have HBN := Lib.hid (below_setCells (G := g) hgB (lst 8 (V.add l.r c.r).up) (m * 9 + 1) _ hb10)
              clear hb7 hb8 hb9 hb10 ho ht hn TD HG5
              go_wp2_with (first | (refine load_row (ty := 70) (g := w5.heap.size) rfl rfl rfl HG8.out Try.underlying70 rfl info_exact ?_; clear HG8) | (refine store_part (ty := 70) (g := g) (p := m * 9 + 1) (f := (V.add l.r c.r).up) rfl rfl rfl rfl HT8.out info_exact ?_; clear HT8))
              go_roundw
              case rel =>
                have hset : R.set m ⟨l.s, V.add l.r c.r⟩ = R.take m ++ [⟨l.s, V.add l.r c.r⟩] := by
                  conv => lhs; rw [HSP.out.1]
                  rw [List.set_append_right _ _ (by rw [List.length_take]; omega), List.length_take, Nat.min_eq_left (by omega), Nat.sub_self]
                  rfl
                have hRR := HSP.out.1
                refine ⟨k + 1, R.set m ⟨l.s, V.add l.r c.r⟩, by omega, by go_num, by rw [List.length_set]; omega, HN.out, ⟨?_, ?_, ?_, ?_⟩, HBN.out, Nat.le_trans (Nat.le_refl _) HBN.out.size⟩
                · rw [hset]
                  refine List.pairwise_append.2 ⟨?_, by simp, fun a h1 b h2 => ?_⟩
                  · have ha := HFA.out.1
                    rw [hRR] at ha
                    exact (List.pairwise_append.1 ha).1
                  · rw [List.mem_singleton.1 h2]; exact HSP.out.2.2 a h1
                · rw [hset]
                  intro d hd e he
                  rcases List.mem_append.1 hd with h | h
                  · exact HFA.out.2.1 d (by rw [hRR]; exact List.mem_append_left _ h) e (by rw [HD.out]; exact List.mem_cons_of_mem _ he)
                  · rw [List.mem_singleton.1 h]
                    exact HFA.out.2.1 l (by rw [hRR]; simp) e (by rw [HD.out]; exact List.mem_cons_of_mem _ he)
                · rw [hset]
                  intro d hd
                  rcases List.mem_append.1 hd with h | h
                  · exact HFA.out.2.2.1 d (by rw [hRR]; exact List.mem_append_left _ h)
                  · rw [List.mem_singleton.1 h]; exact (big_ok hok).mono (by omega)
                · have h1 := HFA.out.2.2.2
                  rw [HD.out] at h1
                  unfold run at h1
                  obtain ⟨e1, e2⟩ := ins_eq c l hls (R.take m) (fun d hd => by have := HSP.out.2.2 d hd; omega)
                  rw [← hRR] at e1 e2
                  rw [e2, hok, if_pos rfl, e1] at h1
                  rw [hset]; exact h1
              case measure => simp [intOf]; omega
          · rw [if_pos (by rfl)]
            go_simp
            have hgz : W3.heap.size ≤ W3.heap.size := Nat.le_refl _
            have hG : RowAt (W3.drew.alloc (.cells #[.int .i64 0, .int .i64 0, .int .i64 0, .int .i64 0, .int .i64 0, .int .i64 0, .int .i64 0, .int .i64 0] 70)) W3.heap.size 8 70 nul := RowAt.newAt zero8 rfl
            refine hK.out _ _ (hHeld.alloc hgz _) (fun hHeld => ?_)
            clear hK K
            try simp only [Act.put, List.setIfInBounds_toArray, List.set_cons_zero, List.set_cons_succ, List.getElem_toArray, List.getElem_cons_succ, List.getElem_cons_zero]
            refine wpAnyH_ready (rs := [7]) (by kernel_rfl) (by simp) ?_
            refine AllReadyH.cons (o := _) rfl (fun K hK => ?_) AllReadyH.nil
            go_simp
            refine (PL _).mono ?_; rintro e w5 ⟨rfl, hb5⟩
            go_wp2_with fail
            replace hG := hG.below hb5
            refine hK.out _ _ (below_next hHeld hb5) (fun hHeld => ?_)
            clear hK K
            try simp only [Act.put, List.setIfInBounds_toArray, List.set_cons_zero, List.set_cons_succ, List.getElem_toArray, List.getElem_cons_succ, List.getElem_cons_zero]
            clear hb5 PL
            refine wpAnyH_ready (rs := [9]) (by kernel_rfl) (by simp) ?_
            refine AllReadyH.cons (o := _) rfl (fun K hK => ?_) AllReadyH.nil
            rw [if_pos (by rfl)]
            refine store_step (f' := (V.add l.r c.r).up) rfl rfl rfl hG info_exact ?_
            have hG2 := hG.setRow (f' := (V.add l.r c.r).up)
            refine hK.out _ _ (below_setRow hHeld hgz _) (fun hHeld => ?_)
            clear hK K
            try simp only [Act.put, List.setIfInBounds_toArray, List.set_cons_zero, List.set_cons_succ, List.getElem_toArray, List.getElem_cons_succ, List.getElem_cons_zero]
            clear hG
            refine wpAnyH_done (by kernel_rfl) ?_ _
            have HG5 := Lib.hid hG2
            have HS5 := Lib.hid hHeld
            clear hG2 hHeld
            generalize w5.setRow W3.heap.size (vec 8 (V.add l.r c.r).up) = W6 at *
            cases hok : okv (V.add l.r c.r)
            · rw [hok] at TD
              go_wp2_with (first | (refine load_row (ty := 70) (g := W3.heap.size) rfl rfl rfl HG5.out Try.underlying70 rfl info_exact ?_; clear HG5))
              refine (TD _).mono ?_; rintro e w7 ⟨rfl, hb7⟩
              have HB7 := Lib.hid (below_next HL3.out (below_next HS5.out hb7))
              clear hb7 TD
              go_wp2
              go_ret2
              have h1 := HFA.out.2.2.2
              rw [HD.out] at h1
              unfold run at h1
              obtain ⟨e1, e2⟩ := ins_eq c l hls (R.take m) (fun d hd => by have := HSP.out.2.2 d hd; omega)
              rw [← HSP.out.1] at e1 e2
              rw [e2, hok] at h1
              simp only [Bool.false_eq_true, if_false] at h1
              rw [← h1]
              exact ⟨HB7.out, _, rfl, own_nil _ _ _⟩
            · rw [hok] at TD
              go_wp2_with (first | (refine load_row (ty := 70) (g := W3.heap.size) rfl rfl rfl HG5.out Try.underlying70 rfl info_exact ?_))
              refine (TD _).mono ?_; rintro e w7 ⟨rfl, hb7⟩
              have hb8 : Below W6.heap.size W6 w7 := hb7
              have HG8 : Aside (RowAt w7 (W3.heap.size) 8 70 (V.add l.r c.r).up) := HG5.out.below hb8
              have hb9 := below_next HS5.out hb8
              have hb10 := below_next HL3.out hb9
              have ho := own_below HO3.out hb9
              have ht := own_there (k := m) (o := 1) (n := 8) (ws := R) (cap := capr) (g := g) (by rw [hm]; exact ho) (by omega) (by omega)
              have HT8 := Lib.hid ht
              have hn := own_radius (V.add l.r c.r) (k := m) (c := l) (ws := R) (cap := capr) (g := g) (by rw [hm]; exact ho) HSP.out.2.1
              rw [hm] at hn
              have HN : Aside (Own (World.setCells _ g (m * 9 + 1) (lst 8 (V.add l.r c.r).up)) w.heap.size 72 (.slice (some ⟨g, 0, none⟩) (m + 1) capr) (R.set m ⟨l.s, V.add l.r c.r⟩)) := (show World.ownsRow _ _ _ _ _ (R.set m ⟨l.s, V.add l.r c.r⟩).length _ from by
                rw [show (R.set m ⟨l.s, V.add l.r c.r⟩).length = m + 1 from by rw [List.length_set, hm]]; exact hn)
              have HBN := Lib.hid (below_setCells (G := g) hgB (lst 8 (V.add l.r c.r).up) (m * 9 + 1) _ hb10)
              clear hb7 hb8 hb9 hb10 ho ht hn TD HG5
              go_wp2_with (first | (refine load_row (ty := 70) (g := W3.heap.size) rfl rfl rfl HG8.out Try.underlying70 rfl info_exact ?_; clear HG8) | (refine store_part (ty := 70) (g := g) (p := m * 9 + 1) (f := (V.add l.r c.r).up) rfl rfl rfl rfl HT8.out info_exact ?_; clear HT8))
              go_roundw
              case rel =>
                have hset : R.set m ⟨l.s, V.add l.r c.r⟩ = R.take m ++ [⟨l.s, V.add l.r c.r⟩] := by
                  conv => lhs; rw [HSP.out.1]
                  rw [List.set_append_right _ _ (by rw [List.length_take]; omega), List.length_take, Nat.min_eq_left (by omega), Nat.sub_self]
                  rfl
                have hRR := HSP.out.1
                refine ⟨k + 1, R.set m ⟨l.s, V.add l.r c.r⟩, by omega, by go_num, by rw [List.length_set]; omega, HN.out, ⟨?_, ?_, ?_, ?_⟩, HBN.out, Nat.le_trans (Nat.le_refl _) HBN.out.size⟩
                · rw [hset]
                  refine List.pairwise_append.2 ⟨?_, by simp, fun a h1 b h2 => ?_⟩
                  · have ha := HFA.out.1
                    rw [hRR] at ha
                    exact (List.pairwise_append.1 ha).1
                  · rw [List.mem_singleton.1 h2]; exact HSP.out.2.2 a h1
                · rw [hset]
                  intro d hd e he
                  rcases List.mem_append.1 hd with h | h
                  · exact HFA.out.2.1 d (by rw [hRR]; exact List.mem_append_left _ h) e (by rw [HD.out]; exact List.mem_cons_of_mem _ he)
                  · rw [List.mem_singleton.1 h]
                    exact HFA.out.2.1 l (by rw [hRR]; simp) e (by rw [HD.out]; exact List.mem_cons_of_mem _ he)
                · rw [hset]
                  intro d hd
                  rcases List.mem_append.1 hd with h | h
                  · exact HFA.out.2.2.1 d (by rw [hRR]; exact List.mem_append_left _ h)
                  · rw [List.mem_singleton.1 h]; exact (big_ok hok).mono (by omega)
                · have h1 := HFA.out.2.2.2
                  rw [HD.out] at h1
                  unfold run at h1
                  obtain ⟨e1, e2⟩ := ins_eq c l hls (R.take m) (fun d hd => by have := HSP.out.2.2 d hd; omega)
                  rw [← hRR] at e1 e2
                  rw [e2, hok, if_pos rfl, e1] at h1
                  rw [hset]; exact h1
              case measure => simp [intOf]; omega
        · have hls2 : (l.s == c.s) = false := by simpa using hls
          have HLT : Aside (∀ d ∈ R, d.s < c.s) := (show ∀ d ∈ R, d.s < c.s from fun d hd => by
            rw [HSP.out.1] at hd
            rcases List.mem_append.1 hd with h | h
            · have := HSP.out.2.2 d h; omega
            · rw [List.mem_singleton.1 h]; omega)
          go_upto_region 6 with (first | (refine load_wheel (T := 72) (g := g0) rfl rfl rfl HE.out Try.underlying72 rfl info_circle ?_; clear HE) | (refine store_new (ty := 72) rfl rfl rfl rfl zero9 info_circle ?_))
          show Code.wp _ _ _ _ (wr.alloc (.cells (vec 9 (wf c)) 72))
          generalize wr.alloc (.cells (vec 9 (wf c)) 72) = W at *
          generalize wr.heap.size = b at *
          refine wp_region_held_drew (S := fun w' => w' = W.drew) (by kernel_rfl) rfl (fun hHeld => ?_)
          refine wpAnyH_take (i := 0) (oi := _) (v := .int .i64 m) rfl (by kernel_rfl) (by kernel_rfl) (by kernel_rfl) (fun _ _ _ h => h) (Or.inl ⟨by rfl, fun w h => by go_simp⟩) hHeld ?_
          try simp only [Act.put, List.setIfInBounds_toArray, List.set_cons_zero, List.set_cons_succ, List.getElem_toArray, List.getElem_cons_succ, List.getElem_cons_zero]
          refine wpAnyH_take (i := 1) (oi := _) (v := .bool false) rfl (by kernel_rfl) (by kernel_rfl) (by kernel_rfl) (fun _ _ _ h => h) (Or.inl ⟨by rfl, fun w h => by go_simp⟩) hHeld ?_
          try simp only [Act.put, List.setIfInBounds_toArray, List.set_cons_zero, List.set_cons_succ, List.getElem_toArray, List.getElem_cons_succ, List.getElem_cons_zero]
          refine wpAnyH_take (i := 2) (oi := _) (v := .bool false) rfl (by kernel_rfl) (by kernel_rfl) (by kernel_rfl) (fun _ _ _ h => h) (Or.inl ⟨by rfl, fun w h => by go_simp⟩) hHeld ?_
          try simp only [Act.put, List.setIfInBounds_toArray, List.set_cons_zero, List.set_cons_succ, List.getElem_toArray, List.getElem_cons_succ, List.getElem_cons_zero]
          refine wpAnyH_take (i := 3) (oi := _) (v := .slice (some ⟨g, 0, none⟩) (m + 1) capr) rfl (by kernel_rfl) (by kernel_rfl) (by kernel_rfl) (fun _ _ _ h => h) (Or.inl ⟨by rfl, fun w h => by go_simp⟩) hHeld ?_
          try simp only [Act.put, List.setIfInBounds_toArray, List.set_cons_zero, List.set_cons_succ, List.getElem_toArray, List.getElem_cons_succ, List.getElem_cons_zero]
          refine wpAnyH_take (i := 4) (oi := _) (v := .int .i64 m) rfl (by kernel_rfl) (by kernel_rfl) (by kernel_rfl) (fun _ _ _ h => h) (Or.inl ⟨by rfl, fun w h => by go_simp⟩) hHeld ?_
          try simp only [Act.put, List.setIfInBounds_toArray, List.set_cons_zero, List.set_cons_succ, List.getElem_toArray, List.getElem_cons_succ, List.getElem_cons_zero]
          refine wpAnyH_take (i := 5) (oi := _) (v := .pointer (some ⟨g, m * 9, none⟩)) rfl (by kernel_rfl) (by kernel_rfl) (by kernel_rfl) (fun _ _ _ h => h) (Or.inl ⟨by rfl, fun w h => by go_simp⟩) hHeld ?_
          try simp only [Act.put, List.setIfInBounds_toArray, List.set_cons_zero, List.set_cons_succ, List.getElem_toArray, List.getElem_cons_succ, List.getElem_cons_zero]
          refine wpAnyH_take (i := 6) (oi := _) (v := .pointer (some ⟨g, m * 9, none⟩)) rfl (by kernel_rfl) (by kernel_rfl) (by kernel_rfl) (fun _ _ _ h => h) (Or.inl ⟨by rfl, fun w h => by go_simp⟩) hHeld ?_
          try simp only [Act.put, List.setIfInBounds_toArray, List.set_cons_zero, List.set_cons_succ, List.getElem_toArray, List.getElem_cons_succ, List.getElem_cons_zero]
          refine wpAnyH_take (i := 7) (oi := _) (v := .int .i64 l.s) rfl (by kernel_rfl) (by kernel_rfl) (by kernel_rfl) (fun _ _ _ h => h) (Or.inl ⟨by rfl, fun w h => by have hcell := (show W.drew.cell? ⟨g, m * 9, none⟩ = some (.int .i64 l.s) from range_speed HG.out); go_simp⟩) hHeld ?_
          try simp only [Act.put, List.setIfInBounds_toArray, List.set_cons_zero, List.set_cons_succ, List.getElem_toArray, List.getElem_cons_succ, List.getElem_cons_zero]
          refine wpAnyH_take (i := 8) (oi := _) (v := .pointer (some ⟨b, 0, none⟩)) rfl (by kernel_rfl) (by kernel_rfl) (by kernel_rfl) (fun _ _ _ h => h) (Or.inl ⟨by rfl, fun w h => by go_simp⟩) hHeld ?_
          try simp only [Act.put, List.setIfInBounds_toArray, List.set_cons_zero, List.set_cons_succ, List.getElem_toArray, List.getElem_cons_succ, List.getElem_cons_zero]
          refine wpAnyH_take (i := 9) (oi := _) (v := .int .i64 c.s) rfl (by kernel_rfl) (by kernel_rfl) (by kernel_rfl) (fun _ _ _ h => h) (Or.inl ⟨by rfl, fun w h => by have hcell := (show W.drew.cell? ⟨b, 0, none⟩ = some (.int .i64 c.s) from row_speed HW.out); go_simp⟩) hHeld ?_
          try simp only [Act.put, List.setIfInBounds_toArray, List.set_cons_zero, List.set_cons_succ, List.getElem_toArray, List.getElem_cons_succ, List.getElem_cons_zero]
          refine wpAnyH_take (i := 10) (oi := _) (v := .bool true) rfl (by kernel_rfl) (by kernel_rfl) (by kernel_rfl) (fun _ _ _ h => h) (Or.inl ⟨by rfl, fun w h => by go_simp⟩) hHeld ?_
          try simp only [Act.put, List.setIfInBounds_toArray, List.set_cons_zero, List.set_cons_succ, List.getElem_toArray, List.getElem_cons_succ, List.getElem_cons_zero]
          refine wpAnyH_take (i := 11) (oi := _) (v := .bool true) rfl (by kernel_rfl) (by kernel_rfl) (by kernel_rfl) (fun _ _ _ h => h) (Or.inl ⟨by rfl, fun w h => by go_simp⟩) hHeld ?_
          try simp only [Act.put, List.setIfInBounds_toArray, List.set_cons_zero, List.set_cons_succ, List.getElem_toArray, List.getElem_cons_succ, List.getElem_cons_zero]
          clear hHeld
          refine wpAnyH_done (by kernel_rfl) ?_ _
          have HO3 : Aside (Own W.drew w.heap.size 72 (.slice (some ⟨g, 0, none⟩) (m + 1) capr) R) := (show Own W _ _ _ _ from by
            have e : Value.slice (some ⟨g, 0, none⟩) R.length capr = Value.slice (some ⟨g, 0, none⟩) (m + 1) capr := by rw [hm]
            rw [← e]; exact HO.out)
          have HW3 : Aside (RowAt W.drew b 9 72 (wf c)) := HW.out.drew1
          have HL3 : Aside (Below w.heap.size w W.drew) := HL.out.drew
          have HZ3 : Aside (w.heap.size ≤ W.drew.heap.size) := HZ.out
          clear HW HL HZ HO
          generalize W.drew = W3 at *
          go_wp2_with (first | (refine load_row (ty := 72) (g := b) rfl rfl rfl HW3.out Try.underlying72 rfl info_circle ?_; clear HW3) | (refine one9 tyC rfl rfl rfl ?_) |
            (refine append9 tyC rfl rfl (v := .slice (some ⟨g, 0, none⟩) (m + 1) capr) (xs := R) rfl rfl (HO3.out.alloc _) (reads_lit _ _ _) (by simp; omega) (HL3.out.alloc HZ3.out _) (by simp; have := HZ3.out; omega) ?_; intro v2 w4 ho4 hb4 hB4))
          go_roundw
          case rel =>
            refine ⟨k + 1, R ++ [c], by omega, by go_num, by simp; omega, ho4, ⟨?_, ?_, ?_, ?_⟩, hb4, hB4⟩
            · have ha := HFA.out.1
              refine List.pairwise_append.2 ⟨ha, by simp, fun a h1 b h2 => ?_⟩
              rw [List.mem_singleton.1 h2]; exact HLT.out a h1
            · have hpw := HS.out
              intro d hd e he
              rcases List.mem_append.1 hd with h | h
              · exact HFA.out.2.1 d h e (by rw [HD.out]; exact List.mem_cons_of_mem _ he)
              · rw [List.mem_singleton.1 h]
                have := hpw.drop (i := k)
                rw [HD.out] at this
                exact (List.pairwise_cons.1 this).1 e he
            · intro d hd
              rcases List.mem_append.1 hd with h | h
              · exact HFA.out.2.2.1 d h
              · rw [List.mem_singleton.1 h]; exact HCB.out
            · have h1 := HFA.out.2.2.2
              rw [HD.out] at h1
              unfold run at h1
              obtain ⟨e1, e2⟩ := ins_end c R HLT.out
              rw [e2, if_pos rfl, e1] at h1
              exact h1
          case measure => simp [intOf]; omega
    · obtain rfl : k = ws.length := by omega
      have HO := Lib.hid hO
      have HL := Lib.hid hbel
      have HF := Lib.hid hfacts
      clear hO hbel hfacts hB
      go_wp2
      go_ret2
      have h1 := HF.out.2.2.2
      rw [List.drop_length] at h1
      simp only [run] at h1
      rw [← h1]
      exact ⟨HL.out, _, rfl, HO.out⟩

end Go.Proofs.Ytdbokcbbpegilaa
