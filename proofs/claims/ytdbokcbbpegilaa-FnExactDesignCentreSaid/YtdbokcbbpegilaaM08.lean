/-
  Lists of wheels as a law's arguments: what their cells are.
  Contracts of impl's reckoning with circles.
  Contracts of impl's single circles.
-/
import Derived.Test.YtdbokcbbpegilaaM01
import Derived.Test.YtdbokcbbpegilaaM07
import Derived.Deep.Slices
import Derived.Test.YtdbokcbbpegilaaM05
import Derived.Test.YtdbokcbbpegilaaM04
import Derived.Deep.RegionHeld
import Derived.Deep.RegionWith
/- Lists of wheels as a law's arguments: what their cells are. -/
namespace Go.Proofs.Ytdbokcbbpegilaa
open Go.Joins Go.ChangeShapes Go.WideShapes Go.RowKit Go.Deep
set_option maxRecDepth 20000
set_option linter.unusedVariables false
set_option linter.unusedSimpArgs false

/-- A law's list of wheels: where it has one, its cells lie. -/
def Lies (w : World) (v : Value) (ws : List Wh) : Prop :=
  ∃ (p : Option Addr) (cap : Nat), v = .slice p ws.length cap ∧ ws.length ≤ cap ∧ cap ≤ maxLen ∧ (ws ≠ [] → ∃ g o, p = some ⟨g, o, none⟩ ∧ g < w.heap.size ∧ w.rangeAt g o (flat ws))
theorem Lies.below {w w' : World} {v : Value} {ws : List Wh} (h : Lies w v ws) (hb : Below w.heap.size w w') : Lies w' v ws := by
  obtain ⟨p, cap, h1, h2, h3, h4⟩ := h
  refine ⟨p, cap, h1, h2, h3, fun hn => ?_⟩
  obtain ⟨g, o, e, hg, hr⟩ := h4 hn
  exact ⟨g, o, e, Nat.lt_of_lt_of_le hg hb.size, range_below hr hg hb⟩
theorem Lies.kept {w0 w' : World} {v : Value} {ws : List Wh} (h : Lies w0 v ws) (hb : Below w0.heap.size w0 w') : Lies w' v ws := h.below hb

section
variable {H : Type} {en : TypeId × Value → H} {P : Program} {w : World} {base : Nat} {spare : Nat → Bool} {held : Bool}
theorem cells_wheel {t tc ti ta : TypeId} {f0 f1 g0 : Field} {fuel : Nat} {cs : List Value} {x : DataW H × List MemPlace} (hs : P.underlying t = some (.struct #[f0, f1])) (h0 : f0.type = ti) (o0 : f0.offset = 0) (h1 : f1.type = tc) (o1 : f1.offset = 1)
    (hi : P.underlying ti = some (.int .i64)) (hci : P.cellsOf ti = 1) (hc : P.underlying tc = some (.struct #[g0])) (hg0 : g0.type = ta) (ho0 : g0.offset = 0) (ha : P.underlying ta = some (.array 8 ti)) (hca : P.cellsOf ta = 8) (hcc : P.cellsOf tc = 8) (hct : P.cellsOf t = 9)
    (h : DataW.trod en P w base spare held fuel t cs = some x) : ∃ c : Wh, cs = enc c := by
  obtain ⟨xs, m, _, hx, hl, hlen, hg⟩ := DataW.trod_struct hs h
  rw [hct] at hl
  have a0 := hg 0 f0 rfl
  have a1 := hg 1 f1 rfl
  rw [h0, o0, hci] at a0
  rw [h1, o1, hcc] at a1
  obtain ⟨y0, e0⟩ : ∃ y, xs[0]? = some y := ⟨_, List.getElem?_eq_getElem (by rw [hlen]; simp)⟩
  obtain ⟨y1, e1⟩ : ∃ y, xs[1]? = some y := ⟨_, List.getElem?_eq_getElem (by rw [hlen]; simp)⟩
  rw [e0] at a0
  rw [e1] at a1
  obtain ⟨s, hs0, _, _⟩ := DataW.trod_int hi a0
  obtain ⟨xs', m', _, _, hl', hlen', hg'⟩ := DataW.trod_struct hc a1
  have b0 := hg' 0 g0 rfl
  rw [hg0, ho0, hca] at b0
  obtain ⟨y2, e2⟩ : ∃ y, xs'[0]? = some y := ⟨_, List.getElem?_eq_getElem (by rw [hlen']; simp)⟩
  rw [e2] at b0
  have e3 : (((cs.drop 1).take 8).drop 0).take 8 = cs.drop 1 := by
    rw [List.drop_zero, List.take_of_length_le (by simp [hl]), List.take_of_length_le (by simp [hl])]
  rw [e3] at b0
  obtain ⟨f, hf⟩ := cells_of_array ha hi hci hca b0 (by simp [hl])
  have hz : cs[0]? = some (.int .i64 s) := by
    have := congrArg (·[0]?) hs0
    simpa [List.getElem?_take] using this
  refine ⟨⟨s, dn f⟩, List.ext_getElem? fun i => ?_⟩
  by_cases hi9 : i < 9
  · rw [enc_at _ i hi9]
    by_cases h00 : i = 0
    · rw [h00, hz]; rfl
    · have := congrArg (·[i - 1]?) hf
      simp only [List.getElem?_drop] at this
      rw [show 1 + (i - 1) = i from by omega] at this
      rw [this]
      have hj : i - 1 < 8 := by omega
      simp only [lst, wf, h00, if_false]
      rw [up_dn f (i - 1) hj]
      simp [hj]
  · rw [List.getElem?_eq_none (by omega), List.getElem?_eq_none (by rw [enc_length]; omega)]
theorem range_of_cells {g o : Nat} {ws : List Wh} (h : ∀ i c, ws[i]? = some c → ∀ j, j < 9 → w.cell? ⟨g, o + (i * 9 + j), none⟩ = (enc c)[j]?) : w.rangeAt g o (flat ws) := fun j v hv => by
  have hj : j < ws.length * 9 := by
    rw [← flat_length]
    exact (List.getElem?_eq_some_iff.1 hv).1
  have hd : j / 9 < ws.length := by omega
  obtain ⟨c, hc⟩ : ∃ c, ws[j / 9]? = some c := ⟨_, List.getElem?_eq_getElem hd⟩
  have hm : j % 9 < 9 := by omega
  have e : j / 9 * 9 + j % 9 = j := by omega
  have h1 := h (j / 9) c hc (j % 9) hm
  have h2 := flat_at hc (j % 9) hm
  rw [e] at h1 h2
  rw [h1, ← h2, hv]
theorem open_wheels {t e : TypeId} {fuel : Nat} {v : Value} {x : DataW H × List MemPlace} (ht : P.underlying t = some (.slice e)) (hce : P.cellsOf e = 9)
    (hel : ∀ (n : Nat) (cs : List Value) (y : DataW H × List MemPlace), DataW.trod en P w 0 (fun _ => true) held n e cs = some y → ∃ c : Wh, cs = enc c) (hv : ∃ a len cap, v = .slice a len cap)
    (h : DataW.trod en P w 0 (fun _ => true) held fuel t v.cells.toList = some x) (hlt : ∀ y ∈ x.2, y.block < w.heap.size) : ∃ ws, Lies w v ws := by
  obtain ⟨a0, len0, cap0, rfl⟩ := hv
  rcases open_slice ht h with ⟨hcs, hx⟩ | ⟨a, len, cap, m, n, D, Pl, hcs, _, hl, hm, hmm, hx, hi⟩
  · simp [Value.cells] at hcs
    obtain ⟨rfl, rfl, rfl⟩ := hcs
    exact ⟨[], none, 0, rfl, Nat.le_refl _, by simp [maxLen], fun hn => absurd rfl hn⟩
  · simp [Value.cells] at hcs
    obtain ⟨rfl, rfl, rfl⟩ := hcs
    simp only [if_true] at hmm
    subst hmm
    obtain ⟨C, hC⟩ := choose_lt (α := Wh) (n := m) (p := fun i c => ∀ j, j < 9 → w.cell? ((a.add (i * 9)).add j) = (enc c)[j]?) (fun i him => by
      obtain ⟨cs', h1, h2⟩ := hi i him
      obtain ⟨c, rfl⟩ := hel _ _ _ h2
      rw [hce] at h1
      obtain ⟨_, _, h3⟩ := World.cells?_some h1
      exact ⟨c, h3⟩)
    have hlen : ((List.range len0).map C).length = len0 := by simp
    refine ⟨(List.range len0).map C, some a, m, by rw [hlen], by rw [hlen]; exact hl, hm, fun hn => ?_⟩
    have h0 : 0 < len0 := by
      rcases Nat.eq_zero_or_pos len0 with h | h
      · subst h; exact absurd rfl hn
      · exact h
    obtain ⟨b, off, spot⟩ := a
    have hspot : spot = none := by
      have h1 := hC 0 (by omega) 0 (by omega)
      rw [Go.Deep.add_add] at h1
      rw [enc_at _ 0 (by omega)] at h1
      simpa [Addr.add] using World.cell?_spot h1
    subst hspot
    refine ⟨b, off, rfl, ?_, range_of_cells fun i c hc j hj => ?_⟩
    · have hx2 : x.2 = MemPlace.row ⟨b, off, none⟩ (m * P.cellsOf e) ++ (List.range m).flatMap Pl := by rw [hx]
      refine hlt (.cell b off) ?_
      rw [hx2, hce]
      exact List.mem_append_left _ (MemPlace.mem_row.2 ⟨0, by omega, by simp⟩)
    · have hil : i < len0 := by
        rw [← hlen]; exact (List.getElem?_eq_some_iff.1 hc).1
      have hci : c = C i := by
        rw [List.getElem?_map, List.getElem?_range hil] at hc
        simpa using hc.symm
      have h1 := hC i (by omega) j hj
      rw [Go.Deep.add_add, add_plain] at h1
      rw [hci]; exact h1
end
theorem cells_lawWheel : Try.prog.cellsOf 104 = 9 := by kernel_rfl
section
variable {H : Type} {en : TypeId × Value → H} {fn : Func}
theorem law_wheels {w : World} {b0 : Nat} {r : Reach} {v : Value} {d : DataW H} {p : List MemPlace} (hv : Value.okWide Try.prog w r b0 53 v) (h : DataW.Trod en Try.prog w 0 (fun _ => true) true 53 v d p)
    (hlt : ∀ y ∈ p, y.block < w.heap.size) : ∃ ws, Lies w v ws := by
  obtain ⟨fuel, hf⟩ := h
  obtain ⟨a, l, c, e⟩ := okWide_slice Try.underlying53 hv
  exact open_wheels Try.underlying53 cells_lawWheel (fun n cs y hy => cells_wheel Try.underlying104 rfl rfl rfl rfl Try.underlying3 cells_int' Try.underlying102 rfl rfl Try.underlying39 cells_arr8' cells_law cells_lawWheel hy) ⟨a, l, c, e⟩ hf hlt
/-- What the one list of a law is. -/
theorem wheels_open {W : World} {args : Array Value} {ds gs : List (DataW H)} {before : List MemPlace} {base : Nat} {vars : List String} (hpar : fn.params = #[53])
    (hval : ∀ (j : Nat) t v, fn.params[j]? = some t → args[j]? = some v → Value.okWide Try.prog W .any base t v)
    (hW : DataW.Whole en Try.prog fn.params.toList vars false W args.toList ds gs before) : ∃ v ws d, args = #[v] ∧ ds = [d] ∧ Lies W v ws := by
  obtain ⟨p, q, hA, hV, rfl, hfz, hnd⟩ := hW
  rw [hpar] at hA hval
  have hlt := hA.lt
  obtain ⟨v0, d0, rfl, rfl, h0⟩ := trodAll_one hA
  obtain ⟨ws, hL⟩ := law_wheels (hval 0 53 v0 rfl rfl) h0 hlt
  exact ⟨v0, ws, _, rfl, rfl, hL⟩
/-- What the two lists of a law are. -/
theorem wheels2_open {W : World} {args : Array Value} {ds gs : List (DataW H)} {before : List MemPlace} {base : Nat} {vars : List String} (hpar : fn.params = #[53, 53])
    (hval : ∀ (j : Nat) t v, fn.params[j]? = some t → args[j]? = some v → Value.okWide Try.prog W .any base t v)
    (hW : DataW.Whole en Try.prog fn.params.toList vars false W args.toList ds gs before) : ∃ v v' ws ws' d d', args = #[v, v'] ∧ ds = [d, d'] ∧ Lies W v ws ∧ Lies W v' ws' := by
  obtain ⟨p, q, hA, hV, rfl, hfz, hnd⟩ := hW
  rw [hpar] at hA hval
  have hlt := hA.lt
  obtain ⟨v0, v1, d0, d1, p0, p1, rfl, rfl, rfl, h0, h1⟩ := trodAll_two hA
  obtain ⟨ws, hL⟩ := law_wheels (hval 0 53 v0 rfl rfl) h0 (fun y hy => hlt y (List.mem_append_left _ hy))
  obtain ⟨ws', hL'⟩ := law_wheels (hval 1 53 v1 rfl rfl) h1 (fun y hy => hlt y (List.mem_append_right _ hy))
  exact ⟨v0, v1, ws, ws', _, _, rfl, rfl, hL, hL'⟩
/-- What the list and the number of a law are. -/
theorem wheelsint_open {W : World} {args : Array Value} {ds gs : List (DataW H)} {before : List MemPlace} {base : Nat} {vars : List String} (hpar : fn.params = #[53, 3])
    (hval : ∀ (j : Nat) t v, fn.params[j]? = some t → args[j]? = some v → Value.okWide Try.prog W .any base t v)
    (hW : DataW.Whole en Try.prog fn.params.toList vars false W args.toList ds gs before) : ∃ v n ws d d', args = #[v, .int .i64 n] ∧ ds = [d, d'] ∧ Lies W v ws ∧ -9223372036854775808 ≤ n ∧ n ≤ 9223372036854775807 := by
  obtain ⟨p, q, hA, hV, rfl, hfz, hnd⟩ := hW
  rw [hpar] at hA hval
  have hlt := hA.lt
  obtain ⟨v0, v1, d0, d1, p0, p1, rfl, rfl, rfl, h0, h1⟩ := trodAll_two hA
  obtain ⟨ws, hL⟩ := law_wheels (hval 0 53 v0 rfl rfl) h0 (fun y hy => hlt y (List.mem_append_left _ hy))
  obtain ⟨a1, rfl, rfl, rfl, w1⟩ := open_int Try.underlying3 (hval 1 3 v1 rfl rfl) h1
  exact ⟨v0, a1, ws, _, _, rfl, rfl, hL, (int_bound w1).1, (int_bound w1).2⟩
end
end Go.Proofs.Ytdbokcbbpegilaa
/- Contracts of impl's reckoning with circles. -/
namespace Go.Proofs.Ytdbokcbbpegilaa
set_option maxRecDepth 20000
open Go.ChangeShapes Go.WideShapes Go.ChangeAt Go.RowKit
set_option linter.unusedVariables false
set_option linter.unusedSimpArgs false

theorem info_wheel : (Try.prog.info? 43).map (·.size) = some 9 := by kernel_rfl
theorem info_circle : (Try.prog.info? 72).map (·.size) = some 9 := by kernel_rfl
theorem tyC : Ty9 Try.prog 76 72 := ty9_of (z := .agg (vec 9 nul)) (b := 72) Try.underlying76 (by kernel_rfl) (by omega) rfl
theorem tyW : Ty9 Try.prog 23 43 := ty9_of (z := .agg (vec 9 nul)) (b := 72) Try.underlying23 (by kernel_rfl) (by omega) rfl
theorem built_circle (s : Int) (f : Nat → Int) : Try.prog.built 72 [(0, .int .i64 s), (1, .agg (vec 8 f))] = some (vec 9 (fun j => if j = 0 then s else f (j - 1))) := by kernel_rfl
theorem built_wheel (s : Int) (f : Nat → Int) : Try.prog.built 43 [(0, .int .i64 s), (1, .agg (vec 8 f))] = some (vec 9 (fun j => if j = 0 then s else f (j - 1))) := by kernel_rfl
theorem inRange_any (s : Int) (w : World) :
    Calls Try.prog 106 #[.int .i64 s] w fun e w' => e = .returned (.bool (inS s)) ∧ w = w' := by
  unfold inS
  by_cases h0 : -1000 ≤ s
  · by_cases h1 : s ≤ 1000
    · go_enter Try.func106, Try.ntmps106
      go_wp2
      go_ret
      exact ⟨by first | rfl | exact ret_bool (by simp [h0, h1]), rfl⟩
    · go_enter Try.func106, Try.ntmps106
      go_wp2
      go_ret
      exact ⟨by first | rfl | exact ret_bool (by simp [h0, h1]), rfl⟩
  · go_enter Try.func106, Try.ntmps106
    go_wp2
    go_ret
    exact ⟨by first | rfl | exact ret_bool (by simp; omega), rfl⟩

theorem valid_long {ws : List Wh} (h : 12 < ws.length) : valid ws = false := by unfold valid; rw [decide_eq_false (by omega)]; rfl
theorem all_take {ws : List Wh} {k : Nat} {c : Wh} (h : (ws.take k).all wOk = true) (hc : ws[k]? = some c) (hk : wOk c = true) : (ws.take (k + 1)).all wOk = true := by
  rw [List.take_add_one, hc, List.all_append, h]; simp [hk]
theorem take_next {ws : List Wh} {k : Nat} {c : Wh} (hc : ws[k]? = some c) : ws.take (k + 1) = ws.take k ++ [c] := by rw [List.take_add_one, hc]; rfl
theorem valid_bad {ws : List Wh} {k : Nat} {c : Wh} (hc : ws[k]? = some c) (hk : wOk c = false) : valid ws = false := by
  unfold valid
  rw [List.all_eq_false.2 ⟨c, List.mem_of_getElem? hc, by rw [hk]; decide⟩, Bool.and_false]

set_option maxHeartbeats 500000 in
theorem circlesOf_any (v : Value) (ws : List Wh) (w : World) (hv : Reads w v ws) :
    Calls Try.prog 66 #[v] w fun e w' => Below w.heap.size w w' ∧ ∃ v', e = .returned (.tuple #[v', .bool (valid ws)]) ∧ Own w' w.heap.size 72 v' (only (valid ws) ws) := by
  obtain ⟨p, cap, rfl, hc1, hc2, hp0, hp⟩ := hv
  have hm : ws.length ≤ maxLen := by omega
  simp only [maxLen] at hm hc2
  by_cases hl : 12 < ws.length
  · rw [valid_long hl]
    rw [only_no]
    have hlz : (12 : Int) < (ws.length : Int) := by omega
    have HP := Lib.hid hp
    clear hp
    go_enter Try.func66, Try.ntmps66
    go_wp2
    go_ret2
    exact ⟨Below.refl _ _, _, rfl, own_nil _ _ _⟩
  · have hlz : ¬ (12 : Int) < (ws.length : Int) := by omega
    have HP := Lib.hid hp
    clear hp
    go_enter Try.func66, Try.ntmps66
    go_wp2_with (refine make9 tyC rfl rfl ws.length rfl rfl (by omega) (Below.refl _ w) (Nat.le_refl _) ?_; intro w1 ho1 hb1 hB1)
    go_loopw [4, 6, 7, 8, 17] (fun v' _ _ _ i wr => ∃ k : Nat, k ≤ ws.length ∧ i = .int .i64 k ∧ Own wr w.heap.size 72 v' (ws.take k) ∧ (ws.take k).all wOk = true ∧ Below w.heap.size w wr ∧ w.heap.size ≤ wr.heap.size) (fun _ _ _ _ i _ => ws.length - (intOf i).toNat)
    case atStart => exact ⟨0, Nat.zero_le _, rfl, ho1, rfl, hb1, hB1⟩
    case round =>
      obtain ⟨k, hk, rfl, hO, hall, hbel, hB⟩ := hrel
      by_cases hlt : k < ws.length
      · have hkz : (k : Int) < (ws.length : Int) := by omega
        have hk0 : (0 : Int) ≤ (k : Int) := by omega
        obtain ⟨c, hc⟩ : ∃ c, ws[k]? = some c := ⟨_, List.getElem?_eq_getElem hlt⟩
        obtain ⟨g, o, rfl, hg, hr⟩ := HP.out (by rintro rfl; have := hp0 rfl; omega)
        have hre := range_part (range_below hr hg hbel) hc
        have HE := Lib.hid hre
        have HO := Lib.hid hO
        have HL := Lib.hid hbel
        have HA := Lib.hid hall
        have HB := Lib.hid hB
        have HC := Lib.hid hc
        clear hr hre hO hbel hall hB hc
        have HW := Lib.hid (RowAt.new wr 9 43 (wf c))
        have hok : okc c.r.up = okv c.r := rfl
        by_cases h1 : okv c.r = true
        · by_cases h2 : inS c.s = true
          · go_wp2_with (first | (refine load_wheel (T := 43) rfl rfl rfl HE.out Try.underlying43 rfl info_wheel ?_) | (refine store_new (ty := 43) rfl rfl rfl rfl zero9 info_wheel ?_) | (refine load_part (T := 41) rfl rfl rfl (row_radius HW.out) Try.underlying41 rfl info_cyc ?_))
            refine (exactOf_yes _ (hok.trans h1) _).mono ?_; rintro e w2 ⟨rfl, hb2⟩
            have c0 := row_speed ((HW.out.below hb2).alloc (.cells (vec 8 c.r.up) 70))
            have HB2 := Lib.hid hb2
            clear hb2
            go_wp2_with (first | (refine store_new (ty := 70) rfl rfl rfl rfl zero8 info_exact ?_))
            refine (inRange_any _ _).mono ?_; rintro e w3 ⟨rfl, hw3⟩
            rw [h2]
            have HR3 : RowAt w3 w2.heap.size 8 70 c.r.up := by rw [← hw3]; exact RowAt.new _ _ _ _
            have HB3 : Below wr.heap.size wr w3 := by rw [← hw3]; exact below_next ((Below.refl _ _).alloc (Nat.le_refl _) _) ((HB2.out).alloc HB2.out.size _)
            have HO3 := Lib.hid (own_below HO.out HB3)
            rw [hw3] at c0
            have hbw := below_next HL.out HB3
            have HBW := Lib.hid hbw
            have HBS := Lib.hid (Nat.le_trans HB.out HB3.size)
            have HR := Lib.hid HR3
            clear HR3 HB3 hw3 hbw
            go_wp2_with (first | (refine load_row (ty := 70) rfl rfl rfl HR.out Try.underlying70 rfl info_exact ?_; clear HR) | (refine build_wheel (T := 72) rfl rfl rfl rfl built_circle ?_; rw [dn_up]) | (refine one9 tyC rfl rfl rfl ?_) |
              (refine append9 tyC rfl rfl rfl rfl (HO3.out.alloc _) (reads_lit _ _ _) (by simp; omega) (HBW.out.alloc HBS.out _) (by simp; have := HBS.out; omega) ?_; intro v2 w4 ho4 hb4 hB4))
            go_roundw
            case rel =>
              refine ⟨k + 1, by omega, by go_num, ?_, all_take HA.out HC.out (by unfold wOk; rw [h1, h2]; rfl), hb4, hB4⟩
              rw [take_next HC.out]; exact ho4
            case measure => simp [intOf]; omega
          · have h2 : inS c.s = false := by simpa using h2
            go_wp2_with (first | (refine load_wheel (T := 43) rfl rfl rfl HE.out Try.underlying43 rfl info_wheel ?_) | (refine store_new (ty := 43) rfl rfl rfl rfl zero9 info_wheel ?_) | (refine load_part (T := 41) rfl rfl rfl (row_radius HW.out) Try.underlying41 rfl info_cyc ?_))
            refine (exactOf_yes _ (hok.trans h1) _).mono ?_; rintro e w2 ⟨rfl, hb2⟩
            have c0 := row_speed ((HW.out.below hb2).alloc (.cells (vec 8 c.r.up) 70))
            have HB2 := Lib.hid hb2
            clear hb2
            go_wp2_with (first | (refine store_new (ty := 70) rfl rfl rfl rfl zero8 info_exact ?_))
            refine (inRange_any _ _).mono ?_; rintro e w3 ⟨rfl, hw3⟩
            rw [h2]
            have HB3 : Below wr.heap.size wr w3 := by rw [← hw3]; exact below_next ((Below.refl _ _).alloc (Nat.le_refl _) _) ((HB2.out).alloc HB2.out.size _)
            have HBW := Lib.hid (below_next HL.out HB3)
            clear HB3 hw3 c0
            go_wp2
            go_ret2
            rw [valid_bad HC.out (by unfold wOk; rw [h2]; rfl)]
            exact ⟨HBW.out, _, rfl, own_nil _ _ _⟩
        · have h1 : okv c.r = false := by simpa using h1
          go_wp2_with (first | (refine load_wheel (T := 43) rfl rfl rfl HE.out Try.underlying43 rfl info_wheel ?_) | (refine store_new (ty := 43) rfl rfl rfl rfl zero9 info_wheel ?_) | (refine load_part (T := 41) rfl rfl rfl (row_radius HW.out) Try.underlying41 rfl info_cyc ?_))
          refine (exactOf_no _ (hok.trans h1) _).mono ?_; rintro e w2 ⟨rfl, hb2⟩
          have HBW := Lib.hid (below_next HL.out (below_next ((Below.refl wr.heap.size wr).alloc (Nat.le_refl _) _) (hb2.alloc hb2.size (.cells (vec 8 nul) 70))))
          clear hb2
          go_wp2_with (first | (refine store_new (ty := 70) rfl rfl rfl rfl zero8 info_exact ?_))
          go_ret2
          rw [valid_bad HC.out (by unfold wOk; rw [h1, Bool.and_false])]
          exact ⟨HBW.out, _, rfl, own_nil _ _ _⟩
      · obtain rfl : k = ws.length := by omega
        have HO := Lib.hid hO
        have HL := Lib.hid hbel
        have HA := Lib.hid hall
        clear hO hbel hall hB
        go_wp2
        go_ret2
        have hv : valid ws = true := by
          unfold valid
          have := HA.out
          rw [List.take_length] at this
          rw [this, decide_eq_true (by omega)]; rfl
        have ho := HO.out
        rw [List.take_length] at ho
        rw [hv]
        exact ⟨HL.out, _, rfl, ho⟩

end Go.Proofs.Ytdbokcbbpegilaa
/- Contracts of impl's single circles. -/
namespace Go.Proofs.Ytdbokcbbpegilaa
set_option maxRecDepth 20000
open Go.ChangeShapes Go.WideShapes Go.ChangeAt Go.RowKit
set_option linter.unusedVariables false
set_option linter.unusedSimpArgs false

theorem size_wheel (c : Wh) : (Try.prog.info? 43).map (·.size) = some (enc c).length := by rw [enc_length]; exact info_wheel
theorem size_circle (c : Wh) : (Try.prog.info? 72).map (·.size) = some (enc c).length := by rw [enc_length]; exact info_circle
theorem size_exact8 (f : Nat → Int) : (Try.prog.info? 70).map (·.size) = some (lst 8 f).length := by rw [lst_length]; exact info_exact
theorem size_cyc8 (f : Nat → Int) : (Try.prog.info? 41).map (·.size) = some (lst 8 f).length := by rw [lst_length]; exact info_cyc
/-- One circle in a box, and a row of zeros. -/
def boxC (w : World) (c : Wh) (n : Nat) (O : TypeId) : World := (w.alloc (.cells (vec 9 (wf c)) 72)).alloc (.cells (vec n nul) O)
theorem boxC_facts (w : World) (c : Wh) (n : Nat) (O : TypeId) : RowAt (boxC w c n O) w.heap.size 9 72 (wf c) ∧ RowAt (boxC w c n O) (w.heap.size + 1) n O nul ∧ Below w.heap.size w (boxC w c n O) :=
  ⟨(RowAt.newAt rfl rfl).alloc _, RowAt.newAt rfl (by simp), ((Below.refl _ _).alloc (Nat.le_refl _) _).alloc (by simp) _⟩

/-! The calculations, in radii. -/
theorem pt_tV (a : V) {t : Nat} (ht : t ≤ 23) : pt (trn a.up t) = pt (tV t a).up := pt_same fun j hj => by rw [← tV_trn a ht, up_dn _ j hj]
theorem inR_bound {a : V} (h : okv a = true) : InR a.up := okc_inR h
theorem turnedV (a : V) (t : Nat) (ht : t ≤ 23) (ha : okv a = true) (w : World) :
    Calls Try.prog 105 #[pt a.up, .int .i64 t] w fun e w' => e = .returned (pt (tV t a).up) ∧ Below w.heap.size w w' := by
  rw [← pt_tV a ht]; exact turned_any a.up t ht (inR_bound ha) w
def Big (a : V) (B : Int) : Prop := ∀ j, j < 8 → -B ≤ a.up j ∧ a.up j ≤ B
theorem big_ok {a : V} (h : okv a = true) : Big a 1000000 := fun j hj => inR_bound h j hj
theorem Big.mono {a : V} {B C : Int} (h : Big a B) (hBC : B ≤ C) : Big a C := fun j hj => by have := h j hj; omega
theorem Big.add {a b : V} {B C : Int} (h : Big a B) (k : Big b C) : Big (V.add a b) (B + C) := fun j hj => by
  have h1 := h j hj
  have h2 := k j hj
  rw [add_up]
  show -(B + C) ≤ a.up j + b.up j ∧ a.up j + b.up j ≤ B + C
  omega
theorem big_zero : Big V.zero 0 := fun j hj => by rw [zero_up]; exact ⟨Int.le_refl _, Int.le_refl _⟩
theorem trn_big {a : Nat → Int} (h : InR a) (t : Nat) (j : Nat) (hj : j < 8) : -4000000 ≤ trn a t j ∧ trn a t j ≤ 4000000 := by
  have hp : ∀ k, -1000000 ≤ tpow a t 8 k ∧ tpow a t 8 k ≤ 1000000 := fun k => by
    unfold tpow
    split
    · rename_i hk; exact h _ hk
    · omega
  unfold trn red
  have h1 := hp j; have h2 := hp (j + 4); have h3 := hp (j + 8); have h4 := hp (j + 12); have h5 := hp (j + 16); have h6 := hp (j + 20)
  split <;> omega
theorem big_tV {a : V} (h : okv a = true) {t : Nat} (ht : t ≤ 23) : Big (tV t a) 4000000 := fun j hj => by
  rw [← tV_trn a ht, up_dn _ j hj]; exact trn_big (inR_bound h) t j hj

theorem plus_big (a b : Nat → Int) (ha : ∀ j, j < 8 → -1000000000000 ≤ a j ∧ a j ≤ 1000000000000) (hb : ∀ j, j < 8 → -1000000000000 ≤ b j ∧ b j ≤ 1000000000000) (w : World) :
    Calls Try.prog 89 #[pt a, pt b] w fun e w' => e = .returned (pt (add a b)) ∧ Below w.heap.size w w' := by
  unfold pt
  have sa := vec_size 8 a
  have sb := vec_size 8 b
  go_enter Try.func89, Try.ntmps89
  go_wp2_with fail
  go_loopw [5, 6] (fun _ i wr => ∃ k : Nat, k ≤ 8 ∧ i = .int .i64 k ∧ RowAt wr w.heap.size 8 70 (mix k (add a b) a) ∧ RowAt wr (w.heap.size + 1) 8 70 b ∧ RowAt wr (w.heap.size + 1 + 1) 8 70 (fun _ => 0) ∧ Below w.heap.size w wr) (fun _ i _ => 8 - (intOf i).toNat)
  case atStart => exact ⟨0, Nat.zero_le _, rfl, by rw [mix_zero]; exact ((RowAt.newAt rfl rfl).alloc _).alloc _, (RowAt.newAt rfl (by simp)).alloc _, RowAt.newAt zero8 (by simp), (((Below.refl _ _).alloc (Nat.le_refl _) _).alloc (by simp) _).alloc (by simp; omega) _⟩
  case round =>
    obtain ⟨k, hk, rfl, hA, hB, hO, hbel⟩ := hrel
    by_cases hlt : k < 8
    · have cA := hA.cell hlt
      have fA := hA.free k
      have cB := hB.cell hlt
      rw [mix_at] at cA
      have hlt' : (k : Int) < 8 := by omega
      have hk0 : (0 : Int) ≤ (k : Int) := by omega
      have b1 := ha k hlt
      have b2 := hb k hlt
      have hA2 := hA.set hlt (add a b k)
      rw [mix_step] at hA2
      have HA := Lib.hid hA2
      have HB := Lib.hid (hB.other ⟨w.heap.size, k, none⟩ (.int .i64 (a k + b k)) (by simp))
      have HO := Lib.hid (hO.other ⟨w.heap.size, k, none⟩ (.int .i64 (a k + b k)) (by simp; try omega))
      have HL := Lib.hid ((hbel.setCell (p := ⟨w.heap.size, k, none⟩) (Nat.le_refl _) (.int .i64 (a k + b k))))
      clear hA hA2 hB hO hbel
      go_wp2_with fail
      go_still_tail 8, (by kernel_rfl)
      go_wp2_with fail
      go_roundw
      case rel => exact ⟨k + 1, by omega, by go_num, HA.out, HB.out, HO.out, HL.out.drew⟩
      case measure => simp [intOf]; omega
    · obtain rfl : k = 8 := by omega
      have HA := Lib.hid hA; have HO := Lib.hid hO; have HL := Lib.hid hbel
      clear hA hB hO hbel
      go_wp2_with (first | (refine load_row rfl rfl rfl HA.out Try.underlying70 rfl info_exact ?_) | (refine store_row rfl rfl rfl rfl HO.out info_exact ?_))
      refine bodyPost_ret (results_row rfl rfl HO.out.setRow Try.underlying70 rfl info_exact) rfl ?_
      exact ⟨by rw [vec_mix], below_setRow HL.out (by omega) _⟩
theorem plusV (a b : V) (ha : Big a 1000000000000) (hb : Big b 1000000000000) (w : World) :
    Calls Try.prog 89 #[pt a.up, pt b.up] w fun e w' => e = .returned (pt (V.add a b).up) ∧ Below w.heap.size w w' := by
  rw [add_up]; exact plus_big a.up b.up ha hb w
theorem toldV (a : V) (w : World) :
    Calls Try.prog 91 #[pt a.up] w fun e w' => e = .returned (.tuple #[pt (if okv a then a else V.zero).up, .bool (okv a)]) ∧ Below w.heap.size w w' := by
  refine (told_two a.up w).mono ?_
  rintro e w' ⟨rfl, h⟩
  refine ⟨?_, h⟩
  have : okc a.up = okv a := rfl
  rw [this]
  by_cases h : okv a = true
  · rw [h]; rfl
  · have h : okv a = false := by simpa using h
    rw [h]; simp only [Bool.false_eq_true, if_false, zero_up]

/-! A turn, so many times. -/
theorem turnTimes_any (t : Nat) (n : Int) (ht : t ≤ 23) (hn : -1000000 ≤ n ∧ n ≤ 1000000) (w : World) :
    Calls Try.prog 81 #[.int .i64 t, .int .i64 n] w fun e w' => e = .returned (.int .i64 (tm t n)) ∧ w = w' := by
  have hb : -1000000000 ≤ (t : Int) * n ∧ (t : Int) * n ≤ 1000000000 := by
    have h1 : (t : Int) ≤ 23 := by omega
    have h0 : (0 : Int) ≤ (t : Int) := by omega
    constructor
    · have := Int.mul_le_mul_of_nonneg_left hn.1 h0
      omega
    · have := Int.mul_le_mul_of_nonneg_left hn.2 h0
      omega
  have C := fun w => within_any ((t : Int) * n) (by omega) (by omega) w
  have e : ((t : Int) * n) % 24 = ((tm t n : Nat) : Int) := by unfold tm; omega
  rw [e] at C
  clear e
  have e2 : IntKind.i64.wrap ((t : Int) * n) = (t : Int) * n := by rw [IntKind.wrap_i64]; omega
  generalize tm t n = q at *
  clear hb ht hn
  go_enter Try.func81, Try.ntmps81
  go_wp2_with fail
  refine (C _).mono ?_; rintro e w' ⟨rfl, rfl⟩
  go_wp2_with fail
  go_ret
  exact ⟨rfl, rfl⟩

/-- A speed of a design. -/
theorem inS_bound {s : Int} (h : inS s = true) : -1000 ≤ s ∧ s ≤ 1000 := by
  unfold inS at h
  simpa using h

set_option maxHeartbeats 1000000 in
theorem at_any (c : Wh) (t : Nat) (ht : t ≤ 23) (hs : inS c.s = true) (hr : okv c.r = true) (w : World) :
    Calls Try.prog 90 #[wh c, .int .i64 t] w fun e w' => e = .returned (pt (tV (tm t c.s) c.r).up) ∧ Below w.heap.size w w' := by
  have sb := inS_bound hs
  have T := fun w => turnTimes_any t c.s ht (by omega) w
  have hq := tm_lt t c.s
  have C := fun w => turnedV c.r (tm t c.s) hq hr w
  generalize tm t c.s = q at *
  generalize tV q c.r = r at *
  clear sb hs hr
  go_enter Try.func90, Try.ntmps90
  go_upto_region 1 with fail
  show Code.wp _ _ _ _ (boxC w c 8 70)
  obtain ⟨hA, hO, hL⟩ := boxC_facts w c 8 70
  generalize boxC w c 8 70 = W at *
  refine wp_region_held_drew (S := fun w' => RowAt w' w.heap.size 9 72 (wf c) ∧ (∃ f, RowAt w' (w.heap.size + 1) 8 70 f) ∧ Below w.heap.size w w') (by kernel_rfl) ⟨hA.drew1, ⟨_, hO.drew1⟩, hL.drew⟩ (fun hHeld => ?_)
  clear hA hO hL
  refine wpAnyH_take (i := 0) (oi := _) (v := .pointer (some ⟨w.heap.size, 1, none⟩)) rfl (by kernel_rfl) (by kernel_rfl) (by kernel_rfl) (fun _ _ _ h => h) (Or.inl ⟨by rfl, fun w h => by go_simp⟩) hHeld ?_
  try simp only [Act.put, List.setIfInBounds_toArray, List.set_cons_zero, List.set_cons_succ, List.getElem_toArray, List.getElem_cons_succ, List.getElem_cons_zero]
  refine wpAnyH_take (i := 1) (oi := _) (v := .agg (vec 8 c.r.up)) rfl (by kernel_rfl) (by kernel_rfl) (by kernel_rfl) (fun _ _ _ h => h) (yieldsIf_load_mid (by rfl) _ _ rfl _ _ rfl _ _ ((fun w h => row_radius h.1)) Try.underlying70 rfl (size_exact8 _)) hHeld ?_
  try simp only [Act.put, List.setIfInBounds_toArray, List.set_cons_zero, List.set_cons_succ, List.getElem_toArray, List.getElem_cons_succ, List.getElem_cons_zero]
  refine wpAnyH_take (i := 2) (oi := _) (v := .int .i64 t) rfl (by kernel_rfl) (by kernel_rfl) (by kernel_rfl) (fun _ _ _ h => h) (Or.inl ⟨by rfl, fun w h => by go_simp⟩) hHeld ?_
  try simp only [Act.put, List.setIfInBounds_toArray, List.set_cons_zero, List.set_cons_succ, List.getElem_toArray, List.getElem_cons_succ, List.getElem_cons_zero]
  refine wpAnyH_take (i := 3) (oi := _) (v := .pointer (some ⟨w.heap.size, 0, none⟩)) rfl (by kernel_rfl) (by kernel_rfl) (by kernel_rfl) (fun _ _ _ h => h) (Or.inl ⟨by rfl, fun w h => by go_simp⟩) hHeld ?_
  try simp only [Act.put, List.setIfInBounds_toArray, List.set_cons_zero, List.set_cons_succ, List.getElem_toArray, List.getElem_cons_succ, List.getElem_cons_zero]
  refine wpAnyH_take (i := 4) (oi := _) (v := .int .i64 c.s) rfl (by kernel_rfl) (by kernel_rfl) (by kernel_rfl) (fun _ _ _ h => h) (Or.inl ⟨by rfl, fun w h => by have hcell := row_speed h.1; go_simp⟩) hHeld ?_
  try simp only [Act.put, List.setIfInBounds_toArray, List.set_cons_zero, List.set_cons_succ, List.getElem_toArray, List.getElem_cons_succ, List.getElem_cons_zero]
  refine wpAnyH_ready (rs := [5]) (by kernel_rfl) (by simp) ?_
  refine AllReadyH.cons (o := _) rfl (fun K hK => ?_) AllReadyH.nil
  go_simp
  refine (T _).mono ?_; rintro e w1 ⟨rfl, rfl⟩
  go_wp2_with fail
  refine hK.out _ _ hHeld (fun hHeld => ?_)
  clear hK K
  try simp only [Act.put, List.setIfInBounds_toArray, List.set_cons_zero, List.set_cons_succ, List.getElem_toArray, List.getElem_cons_succ, List.getElem_cons_zero]
  refine wpAnyH_ready (rs := [6]) (by kernel_rfl) (by simp) ?_
  refine AllReadyH.cons (o := _) rfl (fun K hK => ?_) AllReadyH.nil
  go_simp
  refine (C _).mono ?_; rintro e w1 ⟨rfl, hb1⟩
  go_wp2_with fail
  obtain ⟨h1, ⟨_, h2⟩, h3⟩ := hHeld
  refine hK.out _ _ ⟨h1.below hb1, ⟨_, h2.below hb1⟩, below_next h3 hb1⟩ (fun hHeld => ?_)
  clear hK K
  try simp only [Act.put, List.setIfInBounds_toArray, List.set_cons_zero, List.set_cons_succ, List.getElem_toArray, List.getElem_cons_succ, List.getElem_cons_zero]
  clear h1 h2 h3 hb1
  refine wpAnyH_ready (rs := [7]) (by kernel_rfl) (by simp) ?_
  refine AllReadyH.cons (o := _) rfl (fun K hK => ?_) AllReadyH.nil
  rw [if_pos (by rfl)]
  obtain ⟨h1, ⟨_, h2⟩, h3⟩ := hHeld
  refine store_step (f' := r.up) rfl rfl rfl h2 info_exact ?_
  have hG := h2.setRow (f' := r.up)
  have hF := below_setRow h3 (g := w.heap.size + 1) (by omega) (vec 8 r.up)
  refine hK.out _ _ ⟨h1.rowOther _ _ (by omega), ⟨_, hG⟩, hF⟩ (fun hHeld => ?_)
  clear hK K
  try simp only [Act.put, List.setIfInBounds_toArray, List.set_cons_zero, List.set_cons_succ, List.getElem_toArray, List.getElem_cons_succ, List.getElem_cons_zero]
  clear h1 h2 h3 hHeld
  refine wpAnyH_done (by kernel_rfl) ?_ _
  go_wp2_with fail
  refine bodyPost_ret (results_row rfl rfl hG Try.underlying70 rfl info_exact) rfl ?_
  exact ⟨rfl, hF⟩

set_option maxHeartbeats 1000000 in
theorem cturned_any (c : Wh) (t : Nat) (ht : t ≤ 23) (hr : okv c.r = true) (w : World) :
    Calls Try.prog 65 #[wh c, .int .i64 t] w fun e w' => e = .returned (wh (turnW t c)) ∧ Below w.heap.size w w' := by
  have C := fun w => turnedV c.r t ht hr w
  have e1 : wh (turnW t c) = wh ⟨c.s, dn (tV t c.r).up⟩ := by rw [dn_up]; rfl
  rw [e1]
  generalize tV t c.r = r at *
  go_enter Try.func65, Try.ntmps65
  go_upto_region 1 with fail
  show Code.wp _ _ _ _ (boxC w c 9 72)
  obtain ⟨hA, hO, hL⟩ := boxC_facts w c 9 72
  generalize boxC w c 9 72 = W at *
  refine wp_region_held_drew (S := fun w' => RowAt w' w.heap.size 9 72 (wf c) ∧ (∃ f, RowAt w' (w.heap.size + 1) 9 72 f) ∧ Below w.heap.size w w') (by kernel_rfl) ⟨hA.drew1, ⟨_, hO.drew1⟩, hL.drew⟩ (fun hHeld => ?_)
  clear hA hO hL
  refine wpAnyH_take (i := 0) (oi := _) (v := .pointer (some ⟨w.heap.size, 0, none⟩)) rfl (by kernel_rfl) (by kernel_rfl) (by kernel_rfl) (fun _ _ _ h => h) (Or.inl ⟨by rfl, fun w h => by go_simp⟩) hHeld ?_
  try simp only [Act.put, List.setIfInBounds_toArray, List.set_cons_zero, List.set_cons_succ, List.getElem_toArray, List.getElem_cons_succ, List.getElem_cons_zero]
  refine wpAnyH_take (i := 1) (oi := _) (v := .int .i64 c.s) rfl (by kernel_rfl) (by kernel_rfl) (by kernel_rfl) (fun _ _ _ h => h) (Or.inl ⟨by rfl, fun w h => by have hcell := row_speed h.1; go_simp⟩) hHeld ?_
  try simp only [Act.put, List.setIfInBounds_toArray, List.set_cons_zero, List.set_cons_succ, List.getElem_toArray, List.getElem_cons_succ, List.getElem_cons_zero]
  refine wpAnyH_take (i := 2) (oi := _) (v := .pointer (some ⟨w.heap.size, 1, none⟩)) rfl (by kernel_rfl) (by kernel_rfl) (by kernel_rfl) (fun _ _ _ h => h) (Or.inl ⟨by rfl, fun w h => by go_simp⟩) hHeld ?_
  try simp only [Act.put, List.setIfInBounds_toArray, List.set_cons_zero, List.set_cons_succ, List.getElem_toArray, List.getElem_cons_succ, List.getElem_cons_zero]
  refine wpAnyH_take (i := 3) (oi := _) (v := .agg (vec 8 c.r.up)) rfl (by kernel_rfl) (by kernel_rfl) (by kernel_rfl) (fun _ _ _ h => h) (yieldsIf_load_mid (by rfl) _ _ rfl _ _ rfl _ _ ((fun w h => row_radius h.1)) Try.underlying70 rfl (size_exact8 _)) hHeld ?_
  try simp only [Act.put, List.setIfInBounds_toArray, List.set_cons_zero, List.set_cons_succ, List.getElem_toArray, List.getElem_cons_succ, List.getElem_cons_zero]
  refine wpAnyH_take (i := 4) (oi := _) (v := .int .i64 t) rfl (by kernel_rfl) (by kernel_rfl) (by kernel_rfl) (fun _ _ _ h => h) (Or.inl ⟨by rfl, fun w h => by go_simp⟩) hHeld ?_
  try simp only [Act.put, List.setIfInBounds_toArray, List.set_cons_zero, List.set_cons_succ, List.getElem_toArray, List.getElem_cons_succ, List.getElem_cons_zero]
  refine wpAnyH_ready (rs := [5]) (by kernel_rfl) (by simp) ?_
  refine AllReadyH.cons (o := _) rfl (fun K hK => ?_) AllReadyH.nil
  go_simp
  refine (C _).mono ?_; rintro e w1 ⟨rfl, hb1⟩
  go_wp2_with fail
  obtain ⟨h1, ⟨_, h2⟩, h3⟩ := hHeld
  refine hK.out _ _ ⟨h1.below hb1, ⟨_, h2.below hb1⟩, below_next h3 hb1⟩ (fun hHeld => ?_)
  clear hK K
  try simp only [Act.put, List.setIfInBounds_toArray, List.set_cons_zero, List.set_cons_succ, List.getElem_toArray, List.getElem_cons_succ, List.getElem_cons_zero]
  clear h1 h2 h3 hb1
  refine wpAnyH_take (i := 6) (oi := _) (v := wh ⟨c.s, dn r.up⟩) rfl (by kernel_rfl) (by kernel_rfl) (by kernel_rfl) (fun _ _ _ h => h) (Or.inl ⟨by rfl, fun w h => yields_build built_circle rfl rfl rfl⟩) hHeld ?_
  try simp only [Act.put, List.setIfInBounds_toArray, List.set_cons_zero, List.set_cons_succ, List.getElem_toArray, List.getElem_cons_succ, List.getElem_cons_zero]
  refine wpAnyH_ready (rs := [7]) (by kernel_rfl) (by simp) ?_
  refine AllReadyH.cons (o := _) rfl (fun K hK => ?_) AllReadyH.nil
  rw [if_pos (by rfl)]
  obtain ⟨h1, ⟨_, h2⟩, h3⟩ := hHeld
  refine store_step (f' := wf ⟨c.s, dn r.up⟩) rfl rfl rfl h2 info_circle ?_
  have hG := h2.setRow (f' := wf ⟨c.s, dn r.up⟩)
  have hF := below_setRow h3 (g := w.heap.size + 1) (by omega) (vec 9 (wf ⟨c.s, dn r.up⟩))
  refine hK.out _ _ ⟨h1.rowOther _ _ (by omega), ⟨_, hG⟩, hF⟩ (fun hHeld => ?_)
  clear hK K
  try simp only [Act.put, List.setIfInBounds_toArray, List.set_cons_zero, List.set_cons_succ, List.getElem_toArray, List.getElem_cons_succ, List.getElem_cons_zero]
  clear h1 h2 h3 hHeld
  refine wpAnyH_done (by kernel_rfl) ?_ _
  go_wp2_with fail
  refine bodyPost_ret (results_row rfl rfl hG Try.underlying72 rfl info_circle) rfl ?_
  exact ⟨rfl, hF⟩

set_option maxHeartbeats 1000000 in
theorem faster_any (c : Wh) (n : Int) (hn : -1000000 ≤ n ∧ n ≤ 1000000) (hs : inS c.s = true) (w : World) :
    Calls Try.prog 69 #[wh c, .int .i64 n] w fun e w' => e = .returned (wh (fastW n c)) ∧ Below w.heap.size w w' := by
  have e1 : wh (fastW n c) = wh ⟨c.s * n, dn c.r.up⟩ := by rw [dn_up]; rfl
  rw [e1]
  have sb := inS_bound hs
  have hb : -1000000000 ≤ c.s * n ∧ c.s * n ≤ 1000000000 := by
    have h1 : c.s * n = n * c.s := Int.mul_comm _ _
    have key : ∀ x y : Int, -1000 ≤ x → x ≤ 1000 → -1000000 ≤ y → y ≤ 1000000 → x * y ≤ 1000000000 := fun x y h1 h2 h3 h4 => by
      rcases Int.le_total 0 x with hx | hx
      · have := Int.mul_le_mul_of_nonneg_left h4 hx; omega
      · have h := Int.mul_le_mul_of_nonneg_left h3 (show 0 ≤ -x by omega)
        have e : -x * y = -(x * y) := Int.neg_mul _ _
        omega
    have k1 := key c.s n sb.1 sb.2 hn.1 hn.2
    have k2 := key (-c.s) n (by omega) (by omega) hn.1 hn.2
    have e : -c.s * n = -(c.s * n) := Int.neg_mul _ _
    omega
  have e2 : IntKind.i64.wrap (c.s * n) = c.s * n := by rw [IntKind.wrap_i64]; omega
  have hA : RowAt (boxC w c 9 72) w.heap.size 9 72 (wf c) := (boxC_facts w c 9 _).1
  have hO : RowAt (boxC w c 9 72) (w.heap.size + 1) 9 72 nul := (boxC_facts w c 9 _).2.1
  have hL := (boxC_facts w c 9 72).2.2
  clear hb sb hn
  go_enter Try.func69, Try.ntmps69
  go_upto_region 1 with fail
  show Code.wp _ _ _ _ (boxC w c 9 72)
  generalize boxC w c 9 72 = W at *
  have hc := row_speed hA
  have HA := Lib.hid hA
  have HO := Lib.hid hO
  have HL := Lib.hid hL
  clear hA hO hL
  go_wp2_with (first | (refine load_part (T := 70) rfl rfl rfl (row_radius HA.out) Try.underlying70 rfl info_exact ?_) | (refine build_wheel (T := 72) rfl rfl rfl rfl built_circle ?_) | (refine store_row (ty := 72) rfl rfl rfl rfl HO.out info_circle ?_))
  refine bodyPost_ret (results_row rfl rfl HO.out.setRow Try.underlying72 rfl info_circle) rfl ?_
  exact ⟨rfl, below_setRow HL.out (by omega) _⟩

theorem isNothing_any (c : Wh) (w : World) :
    Calls Try.prog 111 #[wh c] w fun e w' => e = .returned (.bool (!nz c)) ∧ ∃ o, w' = w.alloc o := by
  have HA := Lib.hid (RowAt.new w 9 72 (wf c))
  have E : ∀ w, (Op.equalIn 10000 70 (.agg (vec 8 c.r.up)) (.agg #[.int .i64 0, .int .i64 0, .int .i64 0, .int .i64 0, .int .i64 0, .int .i64 0, .int .i64 0, .int .i64 0])).run Try.prog w = .ok (eqv 8 c.r.up nul) w := fun w => by
    rw [zero8]; exact equal_exact c.r.up nul w
  have hz : (eqv 8 c.r.up nul) = !nz c := by unfold nz; rw [Bool.not_not]
  rw [hz] at E
  generalize nz c = z at *
  clear hz
  go_enter Try.func111, Try.ntmps111
  go_wp2_with (first | (refine load_part (T := 70) rfl rfl rfl (row_radius HA.out) Try.underlying70 rfl info_exact ?_))
  go_ret
  exact ⟨rfl, _, rfl⟩

theorem nan_of (a : Int) (w : World) : Calls Try.prog 142 #[.int .i64 a] w fun e w' => e = .returned (.bool false) ∧ w = w' := by
  go_enter Try.func142, Try.ntmps142
  go_wp2
  go_ret
  exact ⟨by simp, rfl⟩
/-- How two speeds compare. -/
def cfS (a b : Int) : Int := if a < b then -1 else if b < a then 1 else 0
theorem cmp_of (a b : Int) (w : World) : Calls Try.prog 134 #[.int .i64 a, .int .i64 b] w fun e w' => e = .returned (.int .i64 (cfS a b)) ∧ w = w' := by
  have N1 := fun w => nan_of a w
  have N2 := fun w => nan_of b w
  by_cases h1 : a < b
  · go_enter Try.func134, Try.ntmps134
    go_wp2_with (first | (refine (N1 _).mono ?_; rintro e w' ⟨rfl, rfl⟩) | (refine (N2 _).mono ?_; rintro e w' ⟨rfl, rfl⟩))
    go_ret
    exact ⟨ret_int (by unfold cfS; rw [if_pos (by omega)]), rfl⟩
  · by_cases h2 : b < a
    · go_enter Try.func134, Try.ntmps134
      go_wp2_with (first | (refine (N1 _).mono ?_; rintro e w' ⟨rfl, rfl⟩) | (refine (N2 _).mono ?_; rintro e w' ⟨rfl, rfl⟩))
      go_ret
      exact ⟨ret_int (by unfold cfS; rw [if_neg (by omega), if_pos (by omega)]), rfl⟩
    · obtain rfl : a = b := by omega
      clear h1 h2
      go_enter Try.func134, Try.ntmps134
      go_wp2_with (first | (refine (N1 _).mono ?_; rintro e w' ⟨rfl, rfl⟩))
      go_ret
      exact ⟨ret_int (by unfold cfS; rw [if_neg (by omega), if_neg (by omega)]), rfl⟩
theorem bySpeed_any (c d : Wh) (w : World) :
    Calls Try.prog 108 #[wh c, wh d] w fun e w' => e = .returned (.int .i64 (cfS c.s d.s)) ∧ w' = (w.alloc (.cells (vec 9 (wf c)) 72)).alloc (.cells (vec 9 (wf d)) 72) := by
  have c1 := row_speed ((RowAt.new w 9 72 (wf c)).alloc (.cells (vec 9 (wf d)) 72))
  have c2 : (vec 9 (wf d))[0]? = some (.int .i64 d.s) := vec_at (wf d) (by omega)
  have C := fun w => cmp_of c.s d.s w
  generalize cfS c.s d.s = q at *
  go_enter Try.func108, Try.ntmps108
  go_wp2_with (first | (refine (C _).mono ?_; rintro e w1 ⟨rfl, rfl⟩))
  go_ret
  exact ⟨rfl, rfl⟩

end Go.Proofs.Ytdbokcbbpegilaa
