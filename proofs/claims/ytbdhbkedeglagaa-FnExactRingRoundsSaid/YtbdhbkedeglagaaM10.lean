/-
  The model's tidy designs.
  Equality of wheels and of designs.
  Designs compared.
  Where the wheels of a design point together.
-/
import Derived.Test.YtbdhbkedeglagaaM09
/- The model's tidy designs. -/
namespace Go.Proofs.Ytbdhbkedeglagaa
set_option maxRecDepth 20000
open Go.ChangeShapes Go.WideShapes Go.ChangeAt Go.RowKit
set_option linter.unusedVariables false
set_option linter.unusedSimpArgs false

theorem equal_nz (c : Wh) (w : World) : (Op.equalIn 10000 36 (.agg (vec 8 c.r.up)) (.agg #[.int .i64 0, .int .i64 0, .int .i64 0, .int .i64 0, .int .i64 0, .int .i64 0, .int .i64 0, .int .i64 0])).run Try.prog w = .ok (!nz c) w := by
  have hz : (eqv 8 c.r.up nul) = !nz c := by unfold nz; rw [Bool.not_not]
  rw [← hz, zero8]
  exact equal_cyc c.r.up nul w
theorem done_eq (R : List Wh) : done R = if valid (R.filter nz) then some (R.filter nz) else none := rfl

set_option maxHeartbeats 2000000 in
theorem l5Done_any (v : Value) (R : List Wh) (w : World) (hv : Reads w v R) (hn : R.length ≤ 1000) : Calls Try.prog 66 #[v, .bool true] w (Told w (done R)) := by
  obtain ⟨p, cap, rfl, hc1, hc2, hp0, hp⟩ := hv
  simp only [maxLen] at hc2
  have HP := Lib.hid hp
  clear hp
  generalize hD : done R = res
  have HRES := Lib.hid hD
  clear hD
  go_enter Try.func66, Try.ntmps66
  go_wp2
  go_loopw [6, 7] (fun s6 i wr => ∃ k : Nat, k ≤ R.length ∧ i = .int .i64 k ∧ Own wr w.heap.size 67 s6 ((R.take k).filter nz) ∧ Below w.heap.size w wr ∧ w.heap.size ≤ wr.heap.size) (fun _ i _ => R.length - (intOf i).toNat)
  case atStart => exact ⟨0, Nat.zero_le _, rfl, own_lit w w.heap.size 67 (Nat.le_refl _), (Below.refl _ _).alloc (Nat.le_refl _) _, by simp⟩
  case round =>
    obtain ⟨k, hk, rfl, hO, hbel, hB⟩ := hrel
    by_cases hlt : k < R.length
    · have hkz : (k : Int) < (R.length : Int) := by omega
      have hk0 : (0 : Int) ≤ (k : Int) := by omega
      obtain ⟨c, hc⟩ : ∃ c, R[k]? = some c := ⟨_, List.getElem?_eq_getElem hlt⟩
      obtain ⟨g, o, rfl, hg, hr⟩ := HP.out (by rintro rfl; have := hp0 rfl; omega)
      have HE := Lib.hid (range_part (range_below hr hg hbel) hc)
      have HO := Lib.hid hO
      have HL := Lib.hid hbel
      have HB := Lib.hid hB
      have HC := Lib.hid hc
      have E := equal_nz c
      have hln : ((R.take k).filter nz).length ≤ 1000 := Nat.le_trans (List.length_filter_le _ _) (by rw [List.length_take]; omega)
      clear hr hO hbel hB hc
      cases hz : nz c
      · rw [hz] at E
        go_wp2_with (first | (refine load_part (T := 36) rfl rfl rfl (range_radius HE.out) Try.underlying36 rfl info_cyc ?_))
        go_roundw
        case rel =>
          refine ⟨k + 1, by omega, by go_num, ?_, HL.out, HB.out⟩
          have e : (R.take (k + 1)).filter nz = (R.take k).filter nz := by
            rw [take_next HC.out, List.filter_append]
            simp [hz]
          rw [e]; exact HO.out
        case measure => simp [intOf]; omega
      · rw [hz] at E
        go_wp2_with (first | (refine load_part (T := 36) rfl rfl rfl (range_radius HE.out) Try.underlying36 rfl info_cyc ?_) | (refine load_wheel (T := 67) rfl rfl rfl HE.out Try.underlying67 rfl info_wheel ?_) | (refine one9 tyW rfl rfl rfl ?_) |
          (refine append9 tyW rfl rfl rfl rfl (HO.out.alloc _) (reads_lit _ _ _) (by simp; omega) (HL.out.alloc HB.out _) (by simp; have := HB.out; omega) ?_; intro v2 w4 ho4 hb4 hB4))
        go_roundw
        case rel =>
          refine ⟨k + 1, by omega, by go_num, ?_, hb4, hB4⟩
          have e : (R.take (k + 1)).filter nz = (R.take k).filter nz ++ [c] := by
            rw [take_next HC.out, List.filter_append]
            simp [hz]
          rw [e]; exact ho4
        case measure => simp [intOf]; omega
    · obtain rfl : k = R.length := by omega
      rw [List.take_length] at hO
      have D := specDesignValid_any u6 (R.filter nz) wr (own_reads hO)
      have HR2 := HRES.out
      rw [done_eq] at HR2
      have HR2 := Lib.hid HR2
      have HO := Lib.hid hO
      have HL := Lib.hid hbel
      have HB := Lib.hid hB
      clear hO hbel hB HRES
      cases hvd : valid (R.filter nz)
      · rw [hvd] at D
        have HR3 : Aside (none = res) := (show none = res from by have := HR2.out; rw [hvd] at this; exact this)
        clear HR2
        go_wp2_with fail
        refine (D).mono ?_; rintro e w2 ⟨rfl, hb2⟩
        have HQ : Aside (Told w res (.returned (.tuple #[.slice (some ⟨w2.heap.size, 0, none⟩) 0 0, .bool false])) (w2.alloc (.cells #[] 67))) := (show Told _ _ _ _ from by
          rw [← HR3.out]
          have hz := Nat.le_trans HB.out hb2.size
          exact ⟨below_next HL.out (hb2.alloc hb2.size _), _, rfl, own_lit w2 w.heap.size 67 hz⟩)
        clear D hb2
        go_wp2
        go_ret2
        exact HQ.out
      · rw [hvd] at D
        have HR3 : Aside (some (R.filter nz) = res) := (show some (R.filter nz) = res from by have := HR2.out; rw [hvd] at this; exact this)
        clear HR2
        go_wp2_with fail
        refine (D).mono ?_; rintro e w2 ⟨rfl, hb2⟩
        have HQ : Aside (Told w res (.returned (.tuple #[u6, .bool true])) w2) := (show Told _ _ _ _ from by
          rw [← HR3.out]
          exact ⟨below_next HL.out hb2, _, rfl, own_below HO.out hb2⟩)
        clear D hb2
        go_wp2
        go_ret2
        exact HQ.out

theorem ins_ne (R : List Wh) (c : Wh) : ins R c ≠ [] := by
  cases R with
  | nil => simp [ins]
  | cons d R =>
    unfold ins
    split
    · simp
    · split <;> simp
theorem ins_big (c : Wh) (M : Int) (hM : 1000000 ≤ M) : ∀ R : List Wh, insOk true R c = true → (∀ d ∈ R, Big d.r M) → ∀ d ∈ ins R c, Big d.r M
  | [], h, _, d, hd => by
    simp only [insOk, Bool.not_true, Bool.false_or] at h
    simp only [ins, List.mem_singleton] at hd
    rw [hd]; exact (big_ok h).mono hM
  | e :: R, h, hR, d, hd => by
    unfold insOk at h
    unfold ins at hd
    by_cases h1 : e.s < c.s
    · rw [if_pos h1] at h hd
      rcases List.mem_cons.1 hd with rfl | hd
      · exact hR _ (by simp)
      · exact ins_big c M hM R h (fun d hd => hR d (by simp [hd])) d hd
    · rw [if_neg h1] at h hd
      by_cases h2 : e.s = c.s
      · rw [if_pos h2] at h hd
        rcases List.mem_cons.1 hd with rfl | hd
        · exact (big_ok h).mono hM
        · exact hR d (by simp [hd])
      · rw [if_neg h2] at h hd
        simp only [Bool.not_true, Bool.false_or] at h
        rcases List.mem_cons.1 hd with rfl | hd
        · exact (big_ok h).mono hM
        · exact hR d hd
theorem own_parts {w : World} {B T g n cap : Nat} {ws : List Wh} (h : Own w B T (.slice (some ⟨g, 0, none⟩) n cap) ws) : g < w.heap.size ∧ w.rangeAt g 0 (flat ws) ∧ ws.length ≤ cap ∧ cap ≤ maxLen := by
  obtain ⟨p, cap', e, h2, h3, _, h5⟩ := own_reads h
  simp only [Value.slice.injEq] at e
  obtain ⟨rfl, _, rfl⟩ := e
  obtain ⟨g', o, e, hg, hr⟩ := h5 (by simp)
  simp only [Option.some.injEq, Addr.mk.injEq, and_true] at e
  obtain ⟨rfl, rfl⟩ := e
  exact ⟨hg, hr, h2, h3⟩

set_option maxHeartbeats 2000000 in
theorem l5Tidy_any (v : Value) (ws : List Wh) (w : World) (hv : Reads w v ws) (hn : ws.length ≤ 1000) (hbig : ∀ c ∈ ws, Big c.r 4000000) : Calls Try.prog 42 #[v] w (Told w (tidy true ws)) := by
  obtain ⟨p, cap, rfl, hc1, hc2, hp0, hp⟩ := hv
  simp only [maxLen] at hc2
  have HP := Lib.hid hp
  have HBG := Lib.hid hbig
  clear hp hbig
  generalize hD : tidy true ws = res
  unfold tidy at hD
  generalize hrun : run true [] ws = run0 at hD
  have HRUN := Lib.hid hrun
  have HRES := Lib.hid hD
  clear hD hrun
  go_enter Try.func42, Try.ntmps42
  go_wp2
  go_loopw [4, 5] (fun s4 i wr => ∃ (k : Nat) (R : List Wh) (g capr : Nat), k ≤ ws.length ∧ i = .int .i64 k ∧ R.length ≤ k ∧ s4 = .slice (some ⟨g, 0, none⟩) R.length capr ∧ Own wr w.heap.size 67 (.slice (some ⟨g, 0, none⟩) R.length capr) R ∧
    ((∀ d ∈ R, Big d.r 4000000) ∧ run true R (ws.drop k) = run0) ∧ Below w.heap.size w wr ∧ w.heap.size ≤ wr.heap.size) (fun _ i _ => ws.length - (intOf i).toNat)
  case atStart => exact ⟨0, [], w.heap.size, 0, Nat.zero_le _, rfl, Nat.zero_le _, rfl, own_lit w w.heap.size 67 (Nat.le_refl _), ⟨by simp, HRUN.out⟩, (Below.refl _ _).alloc (Nat.le_refl _) _, by simp⟩
  case round =>
    obtain ⟨k, R, g1, capr, hk, rfl, hRk, rfl, hO, hfacts, hbel, hB⟩ := hrel
    by_cases hlt : k < ws.length
    · have hkz : (k : Int) < (ws.length : Int) := by omega
      have hk0 : (0 : Int) ≤ (k : Int) := by omega
      obtain ⟨c, hc⟩ : ∃ c, ws[k]? = some c := ⟨_, List.getElem?_eq_getElem hlt⟩
      obtain ⟨g, o, rfl, hg, hr⟩ := HP.out (by rintro rfl; have := hp0 rfl; omega)
      have HE := Lib.hid (range_part (range_below hr hg hbel) hc)
      obtain ⟨o1, o2, o3, o4⟩ := own_parts hO
      have C := l5Add_any g1 0 capr R c wr o1 o2 o3 o4 (by omega) hfacts.1 (HBG.out c (List.mem_of_getElem? hc))
      have hdrop : ws.drop k = c :: ws.drop (k + 1) := by
        rw [List.drop_eq_getElem_cons hlt]
        have := List.getElem?_eq_getElem hlt
        rw [hc] at this
        rw [← Option.some.inj this]
      have hrn := hfacts.2
      rw [hdrop] at hrn
      unfold run at hrn
      have HRN := Lib.hid hrn
      have HFA := Lib.hid hfacts.1
      have HL := Lib.hid hbel
      have HB := Lib.hid hB
      clear hr hO hbel hB hc hfacts o1 o2 o3 o4 hdrop hrn
      cases hq : insOk true R c
      · have HN : Aside (none = run0) := (show none = run0 from by have := HRN.out; rw [hq] at this; exact this)
        go_wp2_with (first | (refine load_wheel (T := 67) rfl rfl rfl HE.out Try.underlying67 rfl info_wheel ?_))
        refine C.mono ?_; rintro e w2 ⟨hb2, v2, rfl, ho2⟩
        rw [hq]
        have HQ : Aside (Told w res (.returned (.tuple #[.slice (some ⟨w2.heap.size, 0, none⟩) 0 0, .bool false])) (w2.alloc (.cells #[] 67))) := (show Told _ _ _ _ from by
          have hr0 := HRES.out
          rw [← HN.out] at hr0
          have hr1 : none = res := hr0
          rw [← hr1]
          have hz := Nat.le_trans HB.out hb2.size
          exact ⟨below_next HL.out (hb2.alloc hb2.size _), _, rfl, own_lit w2 w.heap.size 67 hz⟩)
        clear C hb2 ho2 HE HRN
        go_wp2
        go_ret2
        exact HQ.out
      · have HN : Aside (run true (ins R c) (ws.drop (k + 1)) = run0) := (show _ from by have := HRN.out; rw [hq, if_pos rfl] at this; exact this)
        go_wp2_with (first | (refine load_wheel (T := 67) rfl rfl rfl HE.out Try.underlying67 rfl info_wheel ?_))
        refine C.mono ?_; rintro e w2 ⟨hb2, v2, rfl, ho2⟩
        rw [hq]
        obtain ⟨p2, cap2, rfl, hq1, hq2, hne⟩ := own_form ho2
        obtain ⟨g2, rfl, hg2⟩ := hne (ins_ne R c)
        have HO2 := Lib.hid (own_mono ho2 HB.out)
        have HL2 := Lib.hid (below_next HL.out hb2)
        have HB2 := Lib.hid (Nat.le_trans HB.out hb2.size)
        have HG2 := Lib.hid (ins_big c 4000000 (by omega) R hq HFA.out)
        have hln := ins_len c R
        clear C hb2 ho2 HE HRN hne
        go_wp2
        go_roundw
        case rel => exact ⟨k + 1, ins R c, g2, cap2, by omega, by go_num, by omega, rfl, HO2.out, ⟨HG2.out, HN.out⟩, HL2.out, HB2.out⟩
        case measure => simp [intOf]; omega
    · obtain rfl : k = ws.length := by omega
      have D := l5Done_any _ R wr (own_reads hO) (by omega)
      have hrn := hfacts.2
      rw [List.drop_length] at hrn
      unfold run at hrn
      have hr0 := HRES.out
      rw [← hrn] at hr0
      have hr1 : done R = res := hr0
      rw [hr1] at D
      have HL := Lib.hid hbel
      have HB := Lib.hid hB
      clear hO hbel hB hrn hr0 hr1 HRES HRUN hfacts
      go_wp2_with fail
      refine D.mono ?_; rintro e w2 ⟨hb2, v2, rfl, ho2⟩
      have HQ : Aside (Told w res (.returned (.tuple #[v2, .bool res.isSome])) w2) := ⟨below_next HL.out hb2, _, rfl, own_mono ho2 HB.out⟩
      clear D hb2 ho2
      go_wp2
      go_ret2
      exact HQ.out

end Go.Proofs.Ytbdhbkedeglagaa
/- Equality of wheels and of designs. -/
namespace Go.Proofs.Ytbdhbkedeglagaa
set_option maxRecDepth 20000
open Go.ChangeShapes Go.WideShapes Go.ChangeAt Go.RowKit
set_option linter.unusedVariables false
set_option linter.unusedSimpArgs false

theorem equal_cyc9 (a b : Nat → Int) (w : World) : (Op.equalIn 9999 36 (.agg (vec 8 a)) (.agg (vec 8 b))).run Try.prog w = .ok (eqv 8 a b) w := by
  obtain ⟨i, hi⟩ := Option.isSome_iff_exists.1 some_int
  obtain ⟨j, hj⟩ := Option.isSome_iff_exists.1 some_arr8
  exact equal_one (d := 9996) Try.underlying36 (by kernel_rfl) (fun d xs ys => by unfold Op.eqFields; exact if_pos (by decide)) rfl rfl Try.underlying34 hj cells_arr8 hi cells_int Try.underlying3 key_int w
theorem vec_tail (f : Nat → Int) : (vec 9 f).extract 1 (1 + 8) = vec 8 (fun j => f (j + 1)) := by
  refine Array.ext (by simp [vec_size]) fun i h1 h2 => ?_
  rw [vec_size] at h2
  have e1 := vec_at f (k := 1 + i) (n := 9) (by omega)
  have e2 := vec_at (fun j => f (j + 1)) (k := i) (n := 8) h2
  rw [Array.getElem_extract]
  have := (Array.getElem?_eq_some_iff.1 e1).2
  have h3 := (Array.getElem?_eq_some_iff.1 e2).2
  rw [this, h3, Nat.add_comm]
theorem agg_cyc (w : World) : (isAgg 36).run Try.prog w = .ok true w := by rfl
theorem sizeof_cyc (w : World) : (Go.sizeOf 36).run Try.prog w = .ok 8 w := by rfl
theorem part_cyc (f : Nat → Int) (w : World) : (part 36 (vec 9 f) 1).run Try.prog w = .ok (.agg (vec 8 (fun j => f (j + 1)))) w := by
  simp [part, Sem.run_bind, agg_cyc, sizeof_cyc, vec_tail]
theorem eqv_nine (f g : Nat → Int) : eqv 9 f g = (f 0 == g 0 && eqv 8 (fun j => f (j + 1)) (fun j => g (j + 1))) := by
  have e : List.range 9 = 0 :: (List.range 8).map (· + 1) := by decide
  unfold eqv
  rw [e, List.all_cons, List.all_map]
  rfl
theorem equal_wheel (f g : Nat → Int) (w : World) : (Op.equalIn 10000 67 (.agg (vec 9 f)) (.agg (vec 9 g))).run Try.prog w = .ok (eqv 9 f g) w := by
  have hF := Try.underlying67
  have hf : Try.prog.underlying 67 = some (.struct (Try.prog.fieldsOf 67)) := by simp [Program.fieldsOf, hF]
  rw [run_equalIn_struct w 9999 67 _ _ hf (by kernel_rfl)]
  simp only [Program.fieldsOf, hF]
  simp only [Op.eqFields]
  rw [if_pos (by decide), if_pos (by decide)]
  simp only [Sem.run_bind, run_part_plain (w := w) key_int (vec_at f (k := 0) (n := 9) (by omega)), run_part_plain (w := w) key_int (vec_at g (k := 0) (n := 9) (by omega)), Result.andThen_ok, run_equalIn_int w 9998 3 .i64 .i64 (f 0) (g 0) Try.underlying3]
  rw [eqv_nine]
  cases h : (f 0 == g 0)
  · simp
  · simp [part_cyc, equal_cyc9]
    cases eqv 8 (fun j => f (j + 1)) (fun j => g (j + 1)) <;> simp
/-- Whether two wheels are the same. -/
def eqW (a b : Wh) : Bool := eqv 9 (wf a) (wf b)
theorem eqW_true {a b : Wh} : eqW a b = true ↔ a = b := by
  constructor
  · intro h
    have h' := eqv_same h
    refine Wh.same (h' 0 (by omega)) (V.ext fun j hj => ?_)
    have := h' (j + 1) (by omega)
    simpa [wf] using this
  · rintro rfl
    exact eqv_true fun _ _ => rfl
theorem equal_wh (a b : Wh) (w : World) : (Op.equalIn 10000 67 (wh a) (wh b)).run Try.prog w = .ok (eqW a b) w := equal_wheel _ _ w
/-- Whether two lists are the same. -/
def eqL : List Wh → List Wh → Bool
  | [], [] => true
  | a :: l, b :: m => eqW a b && eqL l m
  | _, _ => false
theorem eqL_true : ∀ {a b : List Wh}, eqL a b = true ↔ a = b
  | [], [] => by simp [eqL]
  | [], b :: m => by simp [eqL]
  | a :: l, [] => by simp [eqL]
  | a :: l, b :: m => by
    unfold eqL
    rw [Bool.and_eq_true, eqW_true, eqL_true (a := l) (b := m)]
    simp
theorem eqL_same {a b : List Wh} (h : a = b) : eqL a b = true := eqL_true.2 h
theorem eqL_not {a b : List Wh} (h : ¬ a = b) : eqL a b = false := by
  cases e : eqL a b
  · rfl
  · exact absurd (eqL_true.1 e) h

end Go.Proofs.Ytbdhbkedeglagaa
/- Designs compared. -/
namespace Go.Proofs.Ytbdhbkedeglagaa
set_option maxRecDepth 20000
open Go.ChangeShapes Go.WideShapes Go.ChangeAt Go.RowKit
set_option linter.unusedVariables false
set_option linter.unusedSimpArgs false

theorem equal_nine (a b : Wh) (w : World) : (Op.equalIn 10000 67 (.agg (vec 9 (wf a))) (.agg (vec 9 (wf b)))).run Try.prog w = .ok (eqW a b) w := equal_wheel _ _ w
theorem take_same {a b : List Wh} {k : Nat} {c d : Wh} (h : a.take k = b.take k) (hc : a[k]? = some c) (hd : b[k]? = some d) (e : eqW c d = true) : a.take (k + 1) = b.take (k + 1) := by
  rw [take_next hc, take_next hd, h, eqW_true.1 e]
theorem not_same {a b : List Wh} {k : Nat} {c d : Wh} (hc : a[k]? = some c) (hd : b[k]? = some d) (e : eqW c d = false) : eqL a b = false := eqL_not (by
  rintro rfl
  rw [hc] at hd
  obtain rfl := Option.some.inj hd
  rw [eqW_true.2 rfl] at e
  cases e)
theorem len_same {a b : List Wh} (h : ¬ a.length = b.length) : eqL a b = false := eqL_not (by rintro rfl; exact h rfl)
/-- The tidy form of a design. -/
def tid (ws : List Wh) : Option (List Wh) := if valid ws then tidy false ws else none
/-- Whether two designs are the same when tidy. -/
def sameD (a b : List Wh) : Bool := (tid a).isSome && (tid b).isSome && eqL (got (tid a)) (got (tid b))

set_option maxHeartbeats 2000000 in
theorem l5Equal_any (va vb : Value) (a b : List Wh) (w : World) (ha : Reads w va a) (hb : Reads w vb b) : Calls Try.prog 54 #[va, vb] w fun e w' => e = .returned (.bool (eqL a b)) ∧ Below w.heap.size w w' := by
  obtain ⟨p, cap, rfl, hc1, hc2, hp0, hp⟩ := ha
  obtain ⟨q, cap2, rfl, hd1, hd2, hq0, hq⟩ := hb
  simp only [maxLen] at hc2 hd2
  by_cases hl : a.length = b.length
  · have hlz : (a.length : Int) = (b.length : Int) := by omega
    have hlb : ((a.length : Int) == (b.length : Int)) = true := by simpa using hlz
    have HP := Lib.hid hp
    have HQ := Lib.hid hq
    generalize hres : eqL a b = res
    have HRES := Lib.hid hres
    clear hp hq hres hlz
    have HLL := Lib.hid hl
    clear hl
    go_enter Try.func54, Try.ntmps54
    go_wp2
    go_loopw [5] (fun i wr => ∃ k : Nat, k ≤ a.length ∧ i = .int .i64 k ∧ a.take k = b.take k ∧ Below w.heap.size w wr) (fun i _ => a.length - (intOf i).toNat)
    case atStart => exact ⟨0, Nat.zero_le _, rfl, rfl, Below.refl _ _⟩
    case round =>
      obtain ⟨k, hk, rfl, hall, hbel⟩ := hrel
      have HA := Lib.hid hall
      have HL := Lib.hid hbel
      clear hall hbel
      by_cases hlt : k < a.length
      · have hkz : (k : Int) < (a.length : Int) := by omega
        have hkb : (k : Int) < (b.length : Int) := by have := HLL.out; omega
        have hk0 : (0 : Int) ≤ (k : Int) := by omega
        have hlt2 : k < b.length := by have := HLL.out; omega
        obtain ⟨c, hc⟩ : ∃ c, a[k]? = some c := ⟨_, List.getElem?_eq_getElem hlt⟩
        obtain ⟨d, hd⟩ : ∃ d, b[k]? = some d := ⟨_, List.getElem?_eq_getElem hlt2⟩
        obtain ⟨g, o, rfl, hg, hr⟩ := HP.out (by rintro rfl; have := hp0 rfl; omega)
        obtain ⟨g2, o2, rfl, hg2, hr2⟩ := HQ.out (by rintro rfl; have := hq0 rfl; omega)
        have HE := Lib.hid (range_part (range_below hr hg HL.out) hc)
        have HE2 := Lib.hid (range_part (range_below hr2 hg2 HL.out) hd)
        have HC := Lib.hid hc
        have HD := Lib.hid hd
        have E := equal_nine c d
        clear hr hr2 hc hd hlt2
        generalize hcd : eqW c d = bit at *
        have HCD := Lib.hid hcd
        clear hcd
        go_upto_region 6 with fail
        refine wp_region_held_drew (S := fun w' => w' = wr.drew) (by kernel_rfl) rfl (fun hHeld => ?_)
        refine wpAnyH_take (i := 0) (oi := _) (v := .slice (some ⟨g, o, none⟩) a.length cap) rfl (by kernel_rfl) (by kernel_rfl) (by kernel_rfl) (fun _ _ _ h => h) (Or.inl ⟨by rfl, fun w h => by go_simp⟩) hHeld ?_
        try simp only [Act.put, List.setIfInBounds_toArray, List.set_cons_zero, List.set_cons_succ, List.getElem_toArray, List.getElem_cons_succ, List.getElem_cons_zero]
        refine wpAnyH_take (i := 1) (oi := _) (v := .int .i64 k) rfl (by kernel_rfl) (by kernel_rfl) (by kernel_rfl) (fun _ _ _ h => h) (Or.inl ⟨by rfl, fun w h => by go_simp⟩) hHeld ?_
        try simp only [Act.put, List.setIfInBounds_toArray, List.set_cons_zero, List.set_cons_succ, List.getElem_toArray, List.getElem_cons_succ, List.getElem_cons_zero]
        refine wpAnyH_take (i := 2) (oi := _) (v := .pointer (some ⟨g, o + k * 9, none⟩)) rfl (by kernel_rfl) (by kernel_rfl) (by kernel_rfl) (fun _ _ _ h => h) (Or.inl ⟨by rfl, fun w h => by go_simp⟩) hHeld ?_
        try simp only [Act.put, List.setIfInBounds_toArray, List.set_cons_zero, List.set_cons_succ, List.getElem_toArray, List.getElem_cons_succ, List.getElem_cons_zero]
        refine wpAnyH_take (i := 3) (oi := _) (v := .agg (vec 9 (wf c))) rfl (by kernel_rfl) (by kernel_rfl) (by kernel_rfl) (fun _ _ _ h => h) (yieldsIf_load_mid (by rfl) _ _ rfl _ _ rfl _ _ ((fun w h => by rw [h]; exact HE.out)) Try.underlying67 rfl (size_wheel c)) hHeld ?_
        try simp only [Act.put, List.setIfInBounds_toArray, List.set_cons_zero, List.set_cons_succ, List.getElem_toArray, List.getElem_cons_succ, List.getElem_cons_zero]
        refine wpAnyH_take (i := 4) (oi := _) (v := .slice (some ⟨g2, o2, none⟩) b.length cap2) rfl (by kernel_rfl) (by kernel_rfl) (by kernel_rfl) (fun _ _ _ h => h) (Or.inl ⟨by rfl, fun w h => by go_simp⟩) hHeld ?_
        try simp only [Act.put, List.setIfInBounds_toArray, List.set_cons_zero, List.set_cons_succ, List.getElem_toArray, List.getElem_cons_succ, List.getElem_cons_zero]
        refine wpAnyH_take (i := 5) (oi := _) (v := .int .i64 k) rfl (by kernel_rfl) (by kernel_rfl) (by kernel_rfl) (fun _ _ _ h => h) (Or.inl ⟨by rfl, fun w h => by go_simp⟩) hHeld ?_
        try simp only [Act.put, List.setIfInBounds_toArray, List.set_cons_zero, List.set_cons_succ, List.getElem_toArray, List.getElem_cons_succ, List.getElem_cons_zero]
        refine wpAnyH_take (i := 6) (oi := _) (v := .pointer (some ⟨g2, o2 + k * 9, none⟩)) rfl (by kernel_rfl) (by kernel_rfl) (by kernel_rfl) (fun _ _ _ h => h) (Or.inl ⟨by rfl, fun w h => by go_simp⟩) hHeld ?_
        try simp only [Act.put, List.setIfInBounds_toArray, List.set_cons_zero, List.set_cons_succ, List.getElem_toArray, List.getElem_cons_succ, List.getElem_cons_zero]
        refine wpAnyH_take (i := 7) (oi := _) (v := .agg (vec 9 (wf d))) rfl (by kernel_rfl) (by kernel_rfl) (by kernel_rfl) (fun _ _ _ h => h) (yieldsIf_load_mid (by rfl) _ _ rfl _ _ rfl _ _ ((fun w h => by rw [h]; exact HE2.out)) Try.underlying67 rfl (size_wheel d)) hHeld ?_
        try simp only [Act.put, List.setIfInBounds_toArray, List.set_cons_zero, List.set_cons_succ, List.getElem_toArray, List.getElem_cons_succ, List.getElem_cons_zero]
        refine wpAnyH_take (i := 8) (oi := _) (v := .bool (!bit)) rfl (by kernel_rfl) (by kernel_rfl) (by kernel_rfl) (fun _ _ _ h => h) (Or.inl ⟨by rfl, fun w h => by go_simp⟩) hHeld ?_
        try simp only [Act.put, List.setIfInBounds_toArray, List.set_cons_zero, List.set_cons_succ, List.getElem_toArray, List.getElem_cons_succ, List.getElem_cons_zero]
        clear hHeld
        refine wpAnyH_done (by kernel_rfl) ?_ _
        cases bit
        · have HF : Aside (false = res) := (show false = res from by rw [← HRES.out]; exact (not_same HC.out HD.out HCD.out).symm)
          go_wp2
          go_ret
          rw [← HF.out]
          exact ⟨rfl, HL.out.drew⟩
        · go_wp2
          go_roundw
          case rel => exact ⟨k + 1, by omega, by go_num, take_same HA.out HC.out HD.out HCD.out, HL.out.drew⟩
          case measure => simp [intOf]; omega
      · obtain rfl : k = a.length := by omega
        have HF : Aside (true = res) := (show true = res from by
          have h1 := HA.out
          rw [List.take_length, HLL.out, List.take_length] at h1
          rw [← HRES.out]; exact (eqL_same h1).symm)
        go_wp2
        go_ret
        rw [← HF.out]
        exact ⟨rfl, HL.out⟩
  · have hlb : ((a.length : Int) == (b.length : Int)) = false := by simpa using (show ¬ (a.length : Int) = (b.length : Int) from by omega)
    rw [len_same hl]
    clear hp hq hl
    go_enter Try.func54, Try.ntmps54
    go_wp2
    go_ret
    exact ⟨rfl, Below.refl _ _⟩

set_option maxHeartbeats 2000000 in
theorem slicesEqual_any (va vb : Value) (a b : List Wh) (w : World) (ha : Reads w va a) (hb : Reads w vb b) : Calls Try.prog 76 #[va, vb] w fun e w' => e = .returned (.bool (eqL a b)) ∧ Below w.heap.size w w' := by
  obtain ⟨p, cap, rfl, hc1, hc2, hp0, hp⟩ := ha
  obtain ⟨q, cap2, rfl, hd1, hd2, hq0, hq⟩ := hb
  simp only [maxLen] at hc2 hd2
  by_cases hl : a.length = b.length
  · have hlz : (a.length : Int) = (b.length : Int) := by omega
    have hlb : ((a.length : Int) == (b.length : Int)) = true := by simpa using hlz
    have HP := Lib.hid hp
    have HQ := Lib.hid hq
    generalize hres : eqL a b = res
    have HRES := Lib.hid hres
    clear hp hq hres hlz
    have HLL := Lib.hid hl
    clear hl
    go_enter Try.func76, Try.ntmps76
    go_wp2
    go_loopw [5, 13] (fun _ i wr => ∃ k : Nat, k ≤ a.length ∧ i = .int .i64 k ∧ a.take k = b.take k ∧ Below w.heap.size w wr) (fun _ i _ => a.length - (intOf i).toNat)
    case atStart => exact ⟨0, Nat.zero_le _, rfl, rfl, Below.refl _ _⟩
    case round =>
      obtain ⟨k, hk, rfl, hall, hbel⟩ := hrel
      have HA := Lib.hid hall
      have HL := Lib.hid hbel
      clear hall hbel
      by_cases hlt : k < a.length
      · have hkz : (k : Int) < (a.length : Int) := by omega
        have hkb : (k : Int) < (b.length : Int) := by have := HLL.out; omega
        have hk0 : (0 : Int) ≤ (k : Int) := by omega
        have hlt2 : k < b.length := by have := HLL.out; omega
        obtain ⟨c, hc⟩ : ∃ c, a[k]? = some c := ⟨_, List.getElem?_eq_getElem hlt⟩
        obtain ⟨d, hd⟩ : ∃ d, b[k]? = some d := ⟨_, List.getElem?_eq_getElem hlt2⟩
        obtain ⟨g, o, rfl, hg, hr⟩ := HP.out (by rintro rfl; have := hp0 rfl; omega)
        obtain ⟨g2, o2, rfl, hg2, hr2⟩ := HQ.out (by rintro rfl; have := hq0 rfl; omega)
        have HE := Lib.hid (range_part (range_below hr hg HL.out) hc)
        have HE2 := Lib.hid (range_part (range_below hr2 hg2 HL.out) hd)
        have HC := Lib.hid hc
        have HD := Lib.hid hd
        have E := equal_nine c d
        clear hr hr2 hc hd hlt2
        generalize hcd : eqW c d = bit at *
        have HCD := Lib.hid hcd
        clear hcd
        go_upto_region 6 with fail
        refine wp_region_held_drew (S := fun w' => w' = wr.drew) (by kernel_rfl) rfl (fun hHeld => ?_)
        refine wpAnyH_take (i := 0) (oi := _) (v := .slice (some ⟨g, o, none⟩) a.length cap) rfl (by kernel_rfl) (by kernel_rfl) (by kernel_rfl) (fun _ _ _ h => h) (Or.inl ⟨by rfl, fun w h => by go_simp⟩) hHeld ?_
        try simp only [Act.put, List.setIfInBounds_toArray, List.set_cons_zero, List.set_cons_succ, List.getElem_toArray, List.getElem_cons_succ, List.getElem_cons_zero]
        refine wpAnyH_take (i := 1) (oi := _) (v := .int .i64 k) rfl (by kernel_rfl) (by kernel_rfl) (by kernel_rfl) (fun _ _ _ h => h) (Or.inl ⟨by rfl, fun w h => by go_simp⟩) hHeld ?_
        try simp only [Act.put, List.setIfInBounds_toArray, List.set_cons_zero, List.set_cons_succ, List.getElem_toArray, List.getElem_cons_succ, List.getElem_cons_zero]
        refine wpAnyH_take (i := 2) (oi := _) (v := .pointer (some ⟨g, o + k * 9, none⟩)) rfl (by kernel_rfl) (by kernel_rfl) (by kernel_rfl) (fun _ _ _ h => h) (Or.inl ⟨by rfl, fun w h => by go_simp⟩) hHeld ?_
        try simp only [Act.put, List.setIfInBounds_toArray, List.set_cons_zero, List.set_cons_succ, List.getElem_toArray, List.getElem_cons_succ, List.getElem_cons_zero]
        refine wpAnyH_take (i := 3) (oi := _) (v := .agg (vec 9 (wf c))) rfl (by kernel_rfl) (by kernel_rfl) (by kernel_rfl) (fun _ _ _ h => h) (yieldsIf_load_mid (by rfl) _ _ rfl _ _ rfl _ _ ((fun w h => by rw [h]; exact HE.out)) Try.underlying67 rfl (size_wheel c)) hHeld ?_
        try simp only [Act.put, List.setIfInBounds_toArray, List.set_cons_zero, List.set_cons_succ, List.getElem_toArray, List.getElem_cons_succ, List.getElem_cons_zero]
        refine wpAnyH_take (i := 4) (oi := _) (v := .slice (some ⟨g2, o2, none⟩) b.length cap2) rfl (by kernel_rfl) (by kernel_rfl) (by kernel_rfl) (fun _ _ _ h => h) (Or.inl ⟨by rfl, fun w h => by go_simp⟩) hHeld ?_
        try simp only [Act.put, List.setIfInBounds_toArray, List.set_cons_zero, List.set_cons_succ, List.getElem_toArray, List.getElem_cons_succ, List.getElem_cons_zero]
        refine wpAnyH_take (i := 5) (oi := _) (v := .int .i64 k) rfl (by kernel_rfl) (by kernel_rfl) (by kernel_rfl) (fun _ _ _ h => h) (Or.inl ⟨by rfl, fun w h => by go_simp⟩) hHeld ?_
        try simp only [Act.put, List.setIfInBounds_toArray, List.set_cons_zero, List.set_cons_succ, List.getElem_toArray, List.getElem_cons_succ, List.getElem_cons_zero]
        refine wpAnyH_take (i := 6) (oi := _) (v := .pointer (some ⟨g2, o2 + k * 9, none⟩)) rfl (by kernel_rfl) (by kernel_rfl) (by kernel_rfl) (fun _ _ _ h => h) (Or.inl ⟨by rfl, fun w h => by go_simp⟩) hHeld ?_
        try simp only [Act.put, List.setIfInBounds_toArray, List.set_cons_zero, List.set_cons_succ, List.getElem_toArray, List.getElem_cons_succ, List.getElem_cons_zero]
        refine wpAnyH_take (i := 7) (oi := _) (v := .agg (vec 9 (wf d))) rfl (by kernel_rfl) (by kernel_rfl) (by kernel_rfl) (fun _ _ _ h => h) (yieldsIf_load_mid (by rfl) _ _ rfl _ _ rfl _ _ ((fun w h => by rw [h]; exact HE2.out)) Try.underlying67 rfl (size_wheel d)) hHeld ?_
        try simp only [Act.put, List.setIfInBounds_toArray, List.set_cons_zero, List.set_cons_succ, List.getElem_toArray, List.getElem_cons_succ, List.getElem_cons_zero]
        refine wpAnyH_take (i := 8) (oi := _) (v := .bool (!bit)) rfl (by kernel_rfl) (by kernel_rfl) (by kernel_rfl) (fun _ _ _ h => h) (Or.inl ⟨by rfl, fun w h => by go_simp⟩) hHeld ?_
        try simp only [Act.put, List.setIfInBounds_toArray, List.set_cons_zero, List.set_cons_succ, List.getElem_toArray, List.getElem_cons_succ, List.getElem_cons_zero]
        clear hHeld
        refine wpAnyH_done (by kernel_rfl) ?_ _
        cases bit
        · have HF : Aside (false = res) := (show false = res from by rw [← HRES.out]; exact (not_same HC.out HD.out HCD.out).symm)
          go_wp2
          go_ret
          rw [← HF.out]
          exact ⟨rfl, HL.out.drew⟩
        · go_wp2
          go_roundw
          case rel => exact ⟨k + 1, by omega, by go_num, take_same HA.out HC.out HD.out HCD.out, HL.out.drew⟩
          case measure => simp [intOf]; omega
      · obtain rfl : k = a.length := by omega
        have HF : Aside (true = res) := (show true = res from by
          have h1 := HA.out
          rw [List.take_length, HLL.out, List.take_length] at h1
          rw [← HRES.out]; exact (eqL_same h1).symm)
        go_wp2
        go_ret
        rw [← HF.out]
        exact ⟨rfl, HL.out⟩
  · have hlb : ((a.length : Int) == (b.length : Int)) = false := by simpa using (show ¬ (a.length : Int) = (b.length : Int) from by omega)
    rw [len_same hl]
    clear hp hq hl
    go_enter Try.func76, Try.ntmps76
    go_wp2
    go_ret
    exact ⟨rfl, Below.refl _ _⟩

theorem tid_eq (ws : List Wh) : tid ws = if valid ws then tidy false ws else none := rfl

set_option maxHeartbeats 2000000 in
theorem DesignSame_any (va vb : Value) (a b : List Wh) (w : World) (ha : Reads w va a) (hb : Reads w vb b) : Calls Try.prog 52 #[va, vb] w fun e w' => e = .returned (.bool (sameD a b)) ∧ Below w.heap.size w w' := by
  have TA := DesignTidy_any va a w ha
  have TB := fun w2 (h : Below w.heap.size w w2) => DesignTidy_any vb b w2 (hb.below h)
  unfold sameD
  rw [← tid_eq] at TA
  have TB : ∀ w2 (h : Below w.heap.size w w2), Calls Try.prog 73 #[vb] w2 (Told w2 (tid b)) := TB
  generalize tid a = x at *
  generalize tid b = y at *
  have TA := Lib.hid TA
  have TB := Lib.hid TB
  clear ha hb
  cases x with
  | none =>
    go_enter Try.func52, Try.ntmps52
    go_wp2_with fail
    refine TA.out.mono ?_; rintro e w1 ⟨hb1, v1, rfl, ho1⟩
    go_wp2_with fail
    refine (TB.out _ hb1).mono ?_; rintro e w2 ⟨hb2, v2, rfl, ho2⟩
    have HB := Lib.hid (below_next hb1 hb2)
    clear TA TB hb1 hb2 ho1 ho2
    cases y <;> (go_wp2; go_ret; exact ⟨rfl, HB.out⟩)
  | some x =>
    cases y with
    | none =>
      go_enter Try.func52, Try.ntmps52
      go_wp2_with fail
      refine TA.out.mono ?_; rintro e w1 ⟨hb1, v1, rfl, ho1⟩
      go_wp2_with fail
      refine (TB.out _ hb1).mono ?_; rintro e w2 ⟨hb2, v2, rfl, ho2⟩
      have HB := Lib.hid (below_next hb1 hb2)
      clear TA TB hb1 hb2 ho1 ho2
      go_wp2
      go_ret
      exact ⟨rfl, HB.out⟩
    | some y =>
      show Calls _ _ _ _ fun e w' => e = .returned (.bool (eqL x y)) ∧ _
      have E := fun v1 v2 w2 h1 h2 => slicesEqual_any v1 v2 x y w2 h1 h2
      generalize eqL x y = r at *
      go_enter Try.func52, Try.ntmps52
      go_wp2_with fail
      refine TA.out.mono ?_; rintro e w1 ⟨hb1, v1, rfl, ho1⟩
      go_wp2_with fail
      refine (TB.out _ hb1).mono ?_; rintro e w2 ⟨hb2, v2, rfl, ho2⟩
      have HB := Lib.hid (below_next hb1 hb2)
      have E := E v1 v2 w2 (own_reads (own_below ho1 hb2)) (own_reads ho2)
      clear TA TB hb1 hb2 ho1 ho2
      go_wp2_with fail
      refine E.mono ?_; rintro e w3 ⟨rfl, hb3⟩
      have HB3 := Lib.hid (below_next HB.out hb3)
      clear hb3 E HB
      go_wp2
      go_ret
      exact ⟨rfl, HB3.out⟩

end Go.Proofs.Ytbdhbkedeglagaa
/- Where the wheels of a design point together. -/
namespace Go.Proofs.Ytbdhbkedeglagaa
set_option maxRecDepth 20000
open Go.ChangeShapes Go.WideShapes Go.ChangeAt Go.RowKit
set_option linter.unusedVariables false
set_option linter.unusedSimpArgs false

/-- Whether a number is a turn. -/
def isT (t : Int) : Bool := decide (0 ≤ t) && decide (t ≤ 23)
theorem isT_yes {t : Int} (h : isT t = true) : 0 ≤ t ∧ t ≤ 23 := by unfold isT at h; simpa using h
theorem isT_no {t : Int} (h : isT t = false) : t < 0 ∨ 23 < t := by
  unfold isT at h
  simp at h
  omega
/-- The point of a design at a turn. -/
def atD (ws : List Wh) (t : Int) : Option V := if valid ws && isT t then (if okv (pAt t ws) then some (pAt t ws) else none) else none
/-- What a function hands back that answers with a point, and true. -/
def pointOf (o : Option V) : Value := .tuple #[pt (o.getD V.zero).up, .bool o.isSome]
theorem pAt_next {t : Int} {ws : List Wh} {k : Nat} {c : Wh} (hc : ws[k]? = some c) : pAt t (ws.take (k + 1)) = V.add (pAt t (ws.take k)) (tV (tm t c.s) c.r) := by
  rw [take_next hc, pAt_append]
  show V.add _ (V.add _ V.zero) = _
  rw [V.add_zero]
theorem big_pAt (t : Int) : ∀ ws : List Wh, (∀ c ∈ ws, okv c.r = true) → Big (pAt t ws) (4000000 * (ws.length : Int))
  | [], _ => big_zero.mono (by simp)
  | c :: ws, h => by
    have h1 := big_tV (h c (by simp)) (tm_lt t c.s)
    have h2 := big_pAt t ws fun d hd => h d (by simp [hd])
    exact (h1.add h2).mono (by simp only [List.length_cons]; omega)
theorem big_part {t : Int} {ws : List Wh} (hv : valid ws = true) (k : Nat) : Big (pAt t (ws.take k)) 100000000 := by
  have h1 := big_pAt t (ws.take k) fun c hc => (valid_ok hv c (List.mem_of_mem_take hc)).2
  have h2 := valid_len hv
  exact h1.mono (by rw [List.length_take]; omega)
theorem speed_times {t s : Int} (ht : 0 ≤ t ∧ t ≤ 23) (hs : -1000 ≤ s ∧ s ≤ 1000) : -23000 ≤ t * s ∧ t * s ≤ 23000 := by
  have h1 : t * s ≤ t * 1000 := Int.mul_le_mul_of_nonneg_left hs.2 ht.1
  have h2 : t * (-1000) ≤ t * s := Int.mul_le_mul_of_nonneg_left hs.1 ht.1
  omega
theorem range_kept {B : Nat} {w w' : World} {g o : Nat} {cs : List Value} (h : w.rangeAt g o cs) (hg : g < B) (hb : Below B w w') : w'.rangeAt g o cs := fun j v hv => (World.cell?_of_block (hb.block g hg)).trans (h j v hv)
theorem row_kept {B : Nat} {w w' : World} {g n : Nat} {T : TypeId} {f : Nat → Int} (h : RowAt w g n T f) (hg : g < B) (hb : Below B w w') : RowAt w' g n T f := (hb.block g hg).trans h
theorem below_on {s : Nat} {W c w : World} (h : Below s W c) (hs : s ≤ W.heap.size) (k : Below c.heap.size c w) : Below s W w := h.trans (k.mono (Nat.le_trans hs h.size))
theorem wp_load8 {P : Program} {o : Oper} {a : Act} {w : World} {K : Act → World → Prop} {Q : Exit → Act → World → Prop} {T : TypeId} {d : TypeDesc} {g p : Nat} {f : Nat → Int} {x : Operand} (ho : o.op = .load T x) (hx : a.eval x = .pointer (some ⟨g, p, none⟩)) (hr : w.rangeAt g p (lst 8 f))
    (hu : P.underlying T = some d) (hd : d.isRow = true) (hi : (P.info? T).map (·.size) = some 8) (h : K (a.put o.dst (pt f)) w) : o.wp P a w K Q :=
  wp_load_mid T x ho g p hx (lst 8 f) d hr hu hd (by rw [lst_length]; exact hi) h

/-- Two rows of zeros. -/
def twoO (w : World) : World := (w.alloc (.cells (vec 8 nul) 36)).alloc (.cells (vec 8 nul) 36)
theorem twoO_facts (w : World) : RowAt (twoO w) w.heap.size 8 36 nul ∧ RowAt (twoO w) (w.heap.size + 1) 8 36 nul ∧ Below w.heap.size w (twoO w) ∧ (twoO w).heap.size = w.heap.size + 2 :=
  ⟨(RowAt.new w 8 _ _).alloc _, RowAt.newAt rfl (by simp), ((Below.refl _ _).alloc (Nat.le_refl _) _).alloc (by simp) _, by simp [twoO]⟩

theorem pointOf_none : pointOf none = .tuple #[pt nul, .bool false] := by show Value.tuple #[pt V.zero.up, .bool false] = _; rw [zero_up]
theorem atD_bad {ws : List Wh} {t : Int} (h : valid ws = false) : atD ws t = none := by unfold atD; rw [h]; rfl
theorem atD_not {ws : List Wh} {t : Int} (h : isT t = false) : atD ws t = none := by unfold atD; rw [h, Bool.and_false]; rfl
theorem atD_ok {ws : List Wh} {t : Int} (h : valid ws = true) (k : isT t = true) (l : okv (pAt t ws) = true) : atD ws t = some (pAt t ws) := by unfold atD; rw [h, k, l]; rfl
theorem atD_no {ws : List Wh} {t : Int} (l : okv (pAt t ws) = false) : atD ws t = none := by unfold atD; rw [l]; simp

set_option maxHeartbeats 4000000 in
theorem DesignAt_any (v : Value) (ws : List Wh) (t : Int) (w : World) (hv : Reads w v ws) :
    Calls Try.prog 21 #[v, .int .i64 t] w fun e w' => e = .returned (pointOf (atD ws t)) ∧ Below w.heap.size w w' := by
  have hO : RowAt (w.alloc (.cells (vec 8 nul) 36)) w.heap.size 8 36 nul := RowAt.new w 8 _ _
  have hL : Below w.heap.size w (w.alloc (.cells (vec 8 nul) 36)) := (Below.refl _ _).alloc (Nat.le_refl _) _
  have hZ : w.heap.size < (w.alloc (.cells (vec 8 nul) 36)).heap.size := by simp
  have hv1 := hv.below hL
  have C := circlesOf_any v ws _ hv1
  clear hv hv1
  cases hvd : valid ws
  · rw [hvd] at C
    have HF : Aside (atD ws t = none) := atD_bad hvd
    have C := Lib.hid C
    clear hvd
    go_enter Try.func21, Try.ntmps21
    go_upto_region 1 with fail
    show Code.wp _ _ _ _ (w.alloc (.cells (vec 8 nul) 36))
    generalize w.alloc (.cells (vec 8 nul) 36) = W at *
    go_wp2_with fail
    refine C.out.mono ?_; rintro e w2 ⟨hb2, v2, rfl, -⟩
    have hO3 := hO.below hb2
    have hL3 := below_next hL hb2
    clear hO hL hb2 C
    go_wp2_with (refine store_row (ty := 36) rfl rfl rfl (show _ = Value.agg (vec 8 nul) from rfl) hO3 info_cyc ?_)
    refine bodyPost_ret (results_row_tmp rfl rfl hO3.setRow Try.underlying36 rfl info_cyc) rfl ?_
    rw [HF.out, pointOf_none]
    exact ⟨rfl, below_setRow hL3 (by omega) _⟩
  · rw [hvd, only_yes] at C
    cases hT : isT t
    · have HF : Aside (atD ws t = none) := atD_not hT
      have IS := fun w => isTurn_no t (isT_no hT) w
      have C := Lib.hid C
      clear hvd hT
      go_enter Try.func21, Try.ntmps21
      go_upto_region 1 with fail
      show Code.wp _ _ _ _ (w.alloc (.cells (vec 8 nul) 36))
      generalize w.alloc (.cells (vec 8 nul) 36) = W at *
      go_wp2_with fail
      refine C.out.mono ?_; rintro e w2 ⟨hb2, v2, rfl, -⟩
      have hO3 := hO.below hb2
      have hL3 := below_next hL hb2
      clear hO hL hb2 C
      go_wp2_with fail
      refine (IS _).mono ?_; rintro e w3 ⟨rfl, rfl⟩
      clear IS
      go_wp2_with (refine store_row (ty := 36) rfl rfl rfl (show _ = Value.agg (vec 8 nul) from rfl) hO3 info_cyc ?_)
      refine bodyPost_ret (results_row_tmp rfl rfl hO3.setRow Try.underlying36 rfl info_cyc) rfl ?_
      rw [HF.out, pointOf_none]
      exact ⟨rfl, below_setRow hL3 (by omega) _⟩
    · have ht := isT_yes hT
      have IS := fun w => isTurn_yes t ht.1 ht.2 w
      obtain ⟨n, rfl⟩ : ∃ n : Nat, t = (n : Int) := ⟨t.toNat, by omega⟩
      have hn : n ≤ 23 := by omega
      have HV := Lib.hid hvd
      have HF : Aside (pointOf (atD ws n) = .tuple #[pt (if okv (pAt n ws) then pAt n ws else V.zero).up, .bool (okv (pAt n ws))]) := (show _ = _ from by
        cases hok : okv (pAt n ws)
        · rw [atD_no hok, pointOf_none]
          show _ = Value.tuple #[pt V.zero.up, _]
          rw [zero_up]
        · rw [atD_ok hvd hT hok]; rfl)
      have TD := fun w => toldV (pAt n ws) w
      generalize hres : pAt n ws = res at HF TD
      have HRES := Lib.hid hres
      have C := Lib.hid C
      clear hvd hT ht hres
      go_enter Try.func21, Try.ntmps21
      go_upto_region 1 with fail
      show Code.wp _ _ _ _ (w.alloc (.cells (vec 8 nul) 36))
      generalize w.alloc (.cells (vec 8 nul) 36) = W0 at *
      generalize hbw : w.heap.size = b at *
      go_wp2_with fail
      refine C.out.mono ?_; rintro e w1 ⟨hb1, v1, rfl, ho1⟩
      obtain ⟨p, cap, rfl, hc1, hc2, hp0, hp⟩ := own_reads ho1
      simp only [maxLen] at hc2
      have HP : Aside (p ≠ none → ∃ g o, p = some ⟨g, o, none⟩ ∧ g < w1.heap.size ∧ (w1.alloc (.cells (vec 8 nul) 74)).rangeAt g o (flat ws)) := (show _ → _ from fun h => by
        obtain ⟨g, o, e, hg, hr⟩ := hp h
        exact ⟨g, o, e, hg, range_below hr hg ((Below.refl _ _).alloc (Nat.le_refl _) _)⟩)
      have HO : Aside (RowAt (w1.alloc (.cells (vec 8 nul) 74)) b 8 36 nul) := (hO.below hb1).alloc _
      have HS : Aside (RowAt (w1.alloc (.cells (vec 8 nul) 74)) w1.heap.size 8 74 nul) := RowAt.new w1 8 _ _
      have hl1 : Below b w w1 := hL.trans (hb1.mono (Nat.le_of_lt hZ))
      have hbs : b < w1.heap.size := Nat.lt_of_lt_of_le hZ hb1.size
      have HL : Aside (Below b w (w1.alloc (.cells (vec 8 nul) 74))) := hl1.alloc (Nat.le_of_lt hbs) _
      have HZ2 : Aside (w1.heap.size ≤ (w1.alloc (.cells (vec 8 nul) 74)).heap.size) := (show _ ≤ _ by simp)
      have HZ3 : Aside (w1.heap.size < (w1.alloc (.cells (vec 8 nul) 74)).heap.size) := (show _ < _ by simp)
      have HBS := Lib.hid hbs
      clear hO hL hZ C hb1 ho1 hp hl1 hbs
      go_wp2_with fail
      refine (IS _).mono ?_; rintro e w3 ⟨rfl, rfl⟩
      clear IS
      go_upto_region 5 with fail
      show Code.wp _ _ _ _ (w1.alloc (.cells (vec 8 nul) 74))
      generalize w1.alloc (.cells (vec 8 nul) 74) = W at *
      generalize w1.heap.size = s at *
      go_wp2
      go_loopw [26] (fun i wr => ∃ k : Nat, k ≤ ws.length ∧ i = .int .i64 k ∧ RowAt wr s 8 74 (pAt n (ws.take k)).up ∧ Below s W wr) (fun i _ => ws.length - (intOf i).toNat)
      case atStart => exact ⟨0, Nat.zero_le _, rfl, by rw [List.take_zero]; show RowAt _ _ _ _ V.zero.up; rw [zero_up]; exact HS.out, Below.refl _ _⟩
      case round =>
        obtain ⟨k, hk, rfl, hS, hbel⟩ := hrel
        by_cases hlt : k < ws.length
        · have hkz : (k : Int) < (ws.length : Int) := by omega
          have hk0 : (0 : Int) ≤ (k : Int) := by omega
          obtain ⟨c, hc⟩ : ∃ c, ws[k]? = some c := ⟨_, List.getElem?_eq_getElem hlt⟩
          obtain ⟨g, o, rfl, hg, hr⟩ := HP.out (by rintro rfl; have := hp0 rfl; omega)
          have hcv := valid_ok HV.out c (List.mem_of_getElem? hc)
          have HE : Aside (wr.rangeAt g (o + k * 9) (enc c)) := range_kept (range_part hr hc) hg hbel
          have HB : Aside (Below s W (wr.alloc (.cells (vec 9 (wf c)) 76))) := below_on hbel HZ2.out ((Below.refl _ _).alloc (Nat.le_refl _) _)
          have HX : Aside (RowAt (wr.alloc (.cells (vec 9 (wf c)) 76)) wr.heap.size 9 76 (wf c)) := RowAt.new wr 9 _ _
          have HSS : Aside (RowAt (wr.alloc (.cells (vec 9 (wf c)) 76)) s 8 74 (pAt n (ws.take k)).up) := hS.alloc _
          have HBX : Aside (s < wr.heap.size) := (show s < wr.heap.size from Nat.lt_of_lt_of_le HZ3.out hbel.size)
          have HC := Lib.hid hc
          have AT := fun w => at_any c n hn hcv.1 hcv.2 w
          have PL : ∀ w, Calls Try.prog 46 #[pt (pAt n (ws.take k)).up, pt (tV (tm n c.s) c.r).up] w fun e w' => e = .returned (pt (pAt n (ws.take (k + 1))).up) ∧ Below w.heap.size w w' := fun w => by
            have b1 := big_part (t := n) HV.out k
            have b2 := big_tV hcv.2 (tm_lt n c.s)
            rw [pAt_next hc]
            exact plusV _ _ (b1.mono (by omega)) (b2.mono (by omega)) w
          generalize pAt n (ws.take k) = S0 at *
          generalize hS1 : pAt n (ws.take (k + 1)) = S1 at *
          generalize tV (tm n c.s) c.r = r at *
          have HS1 := Lib.hid hS1
          clear hr hc hcv hS1 hbel hS
          go_upto_region 8 with (first | (refine load_wheel (T := 76) (g := g) rfl rfl rfl HE.out Try.underlying76 rfl info_circle ?_; clear HE) | (refine store_new (ty := 76) rfl rfl rfl rfl zero9 info_circle ?_))
          show Code.wp _ _ _ _ (wr.alloc (.cells (vec 9 (wf c)) 76))
          generalize wr.alloc (.cells (vec 9 (wf c)) 76) = WR at *
          generalize wr.heap.size = bx at *
          have hG : RowAt WR.drew s 8 74 S0.up := HSS.out
          refine wp_region_held_drew (S := fun w' => Below s W w' ∧ RowAt w' bx 9 76 (wf c)) (by kernel_rfl) ⟨HB.out.drew, HX.out⟩ (fun hHeld => ?_)
          refine wpAnyH_take (i := 1) (oi := _) (v := .agg (vec 9 (wf c))) rfl (by kernel_rfl) (by kernel_rfl) (by kernel_rfl) (fun _ _ _ h => h) (yieldsIf_load_mid (by rfl) _ _ rfl _ _ rfl _ _ ((fun w h => row_wheel h.2)) Try.underlying76 rfl (size_circle c)) hHeld ?_
          try simp only [Act.put, List.setIfInBounds_toArray, List.set_cons_zero, List.set_cons_succ, List.getElem_toArray, List.getElem_cons_succ, List.getElem_cons_zero]
          refine wpAnyH_take (i := 2) (oi := _) (v := .int .i64 n) rfl (by kernel_rfl) (by kernel_rfl) (by kernel_rfl) (fun _ _ _ h => h) (Or.inl ⟨by rfl, fun w h => by go_simp⟩) hHeld ?_
          try simp only [Act.put, List.setIfInBounds_toArray, List.set_cons_zero, List.set_cons_succ, List.getElem_toArray, List.getElem_cons_succ, List.getElem_cons_zero]
          refine wpAnyH_ready (rs := [0, 3]) (by kernel_rfl) (by simp) ?_
          refine AllReadyH.cons (o := _) rfl (fun K hK => ?_) (AllReadyH.cons (o := _) rfl (fun K hK => ?_) AllReadyH.nil)
          · rw [if_pos (by rfl)]
            refine wp_load8 (T := 74) rfl rfl hG.range Try.underlying74 rfl info_exact ?_
            refine hK.out _ _ hHeld (fun hHeld => ?_)
            clear hK K
            try simp only [Act.put, List.setIfInBounds_toArray, List.set_cons_zero, List.set_cons_succ, List.getElem_toArray, List.getElem_cons_succ, List.getElem_cons_zero]
            refine wpAnyH_ready (rs := [3]) (by kernel_rfl) (by simp) ?_
            refine AllReadyH.cons (o := _) rfl (fun K hK => ?_) AllReadyH.nil
            go_simp
            refine (AT _).mono ?_; rintro e w5 ⟨rfl, hb5⟩
            go_wp2_with fail
            replace hG := hG.below hb5
            refine hK.out _ _ ⟨below_on hHeld.1 HZ2.out hb5, hHeld.2.below hb5⟩ (fun hHeld => ?_)
            clear hK K
            try simp only [Act.put, List.setIfInBounds_toArray, List.set_cons_zero, List.set_cons_succ, List.getElem_toArray, List.getElem_cons_succ, List.getElem_cons_zero]
            clear hb5 AT
            refine wpAnyH_ready (rs := [4]) (by kernel_rfl) (by simp) ?_
            refine AllReadyH.cons (o := _) rfl (fun K hK => ?_) AllReadyH.nil
            go_simp
            refine (PL _).mono ?_; rintro e w6 ⟨rfl, hb6⟩
            go_wp2_with fail
            replace hG := hG.below hb6
            refine hK.out _ _ ⟨below_on hHeld.1 HZ2.out hb6, hHeld.2.below hb6⟩ (fun hHeld => ?_)
            clear hK K
            try simp only [Act.put, List.setIfInBounds_toArray, List.set_cons_zero, List.set_cons_succ, List.getElem_toArray, List.getElem_cons_succ, List.getElem_cons_zero]
            clear hb6 PL
            refine wpAnyH_ready (rs := [5]) (by kernel_rfl) (by simp) ?_
            refine AllReadyH.cons (o := _) rfl (fun K hK => ?_) AllReadyH.nil
            rw [if_pos (by rfl)]
            refine store_step (f' := S1.up) rfl rfl rfl hG info_exact ?_
            have hG2 := hG.setRow (f' := S1.up)
            refine hK.out _ _ ⟨below_setRow hHeld.1 (Nat.le_refl _) _, hHeld.2.rowOther _ _ (by have := HBX.out; omega)⟩ (fun hHeld => ?_)
            clear hK K
            try simp only [Act.put, List.setIfInBounds_toArray, List.set_cons_zero, List.set_cons_succ, List.getElem_toArray, List.getElem_cons_succ, List.getElem_cons_zero]
            clear hG
            refine wpAnyH_done (by kernel_rfl) ?_ _
            have HG2 := Lib.hid hG2
            have HB2 := Lib.hid hHeld.1
            clear hG2 hHeld
            go_wp2
            go_roundw
            case rel => exact ⟨k + 1, by omega, by go_num, by rw [HS1.out]; exact HG2.out, HB2.out⟩
            case measure => simp [intOf]; omega
          · go_simp
            refine (AT _).mono ?_; rintro e w5 ⟨rfl, hb5⟩
            go_wp2_with fail
            replace hG := hG.below hb5
            refine hK.out _ _ ⟨below_on hHeld.1 HZ2.out hb5, hHeld.2.below hb5⟩ (fun hHeld => ?_)
            clear hK K
            try simp only [Act.put, List.setIfInBounds_toArray, List.set_cons_zero, List.set_cons_succ, List.getElem_toArray, List.getElem_cons_succ, List.getElem_cons_zero]
            clear hb5 AT
            refine wpAnyH_ready (rs := [0]) (by kernel_rfl) (by simp) ?_
            refine AllReadyH.cons (o := _) rfl (fun K hK => ?_) AllReadyH.nil
            rw [if_pos (by rfl)]
            refine wp_load8 (T := 74) rfl rfl hG.range Try.underlying74 rfl info_exact ?_
            refine hK.out _ _ hHeld (fun hHeld => ?_)
            clear hK K
            try simp only [Act.put, List.setIfInBounds_toArray, List.set_cons_zero, List.set_cons_succ, List.getElem_toArray, List.getElem_cons_succ, List.getElem_cons_zero]
            refine wpAnyH_ready (rs := [4]) (by kernel_rfl) (by simp) ?_
            refine AllReadyH.cons (o := _) rfl (fun K hK => ?_) AllReadyH.nil
            go_simp
            refine (PL _).mono ?_; rintro e w6 ⟨rfl, hb6⟩
            go_wp2_with fail
            replace hG := hG.below hb6
            refine hK.out _ _ ⟨below_on hHeld.1 HZ2.out hb6, hHeld.2.below hb6⟩ (fun hHeld => ?_)
            clear hK K
            try simp only [Act.put, List.setIfInBounds_toArray, List.set_cons_zero, List.set_cons_succ, List.getElem_toArray, List.getElem_cons_succ, List.getElem_cons_zero]
            clear hb6 PL
            refine wpAnyH_ready (rs := [5]) (by kernel_rfl) (by simp) ?_
            refine AllReadyH.cons (o := _) rfl (fun K hK => ?_) AllReadyH.nil
            rw [if_pos (by rfl)]
            refine store_step (f' := S1.up) rfl rfl rfl hG info_exact ?_
            have hG2 := hG.setRow (f' := S1.up)
            refine hK.out _ _ ⟨below_setRow hHeld.1 (Nat.le_refl _) _, hHeld.2.rowOther _ _ (by have := HBX.out; omega)⟩ (fun hHeld => ?_)
            clear hK K
            try simp only [Act.put, List.setIfInBounds_toArray, List.set_cons_zero, List.set_cons_succ, List.getElem_toArray, List.getElem_cons_succ, List.getElem_cons_zero]
            clear hG
            refine wpAnyH_done (by kernel_rfl) ?_ _
            have HG2 := Lib.hid hG2
            have HB2 := Lib.hid hHeld.1
            clear hG2 hHeld
            go_wp2
            go_roundw
            case rel => exact ⟨k + 1, by omega, by go_num, by rw [HS1.out]; exact HG2.out, HB2.out⟩
            case measure => simp [intOf]; omega
        · obtain rfl : k = ws.length := by omega
          have HFR : Aside (RowAt wr s 8 74 res.up) := (show RowAt _ _ _ _ _ from by rw [← HRES.out]; rw [List.take_length] at hS; exact hS)
          have HOR : Aside (RowAt wr b 8 36 nul) := row_kept HO.out HBS.out hbel
          have HQ : Aside (Below b w wr) := (show Below b w wr from HL.out.trans (hbel.mono (Nat.le_of_lt HBS.out)))
          have HBR : Aside (b < wr.heap.size) := (show b < wr.heap.size from Nat.lt_trans HBS.out (Nat.lt_of_lt_of_le HZ3.out hbel.size))
          clear hS hbel
          have HF2 := HF.out
          clear HF
          cases hok : okv res
          · rw [hok] at TD HF2
            simp only [Bool.false_eq_true, if_false, zero_up] at TD HF2
            have HF := Lib.hid HF2
            clear HF2
            go_wp2_with (first | (refine load_row (ty := 74) (g := s) rfl rfl rfl HFR.out Try.underlying74 rfl info_exact ?_; clear HFR))
            refine (TD _).mono ?_; rintro e w7 ⟨rfl, hb7⟩
            have HO7 : Aside (RowAt w7 b 8 36 nul) := HOR.out.below hb7
            have HQ7 : Aside (Below b w w7) := HQ.out.trans (hb7.mono (Nat.le_of_lt HBR.out))
            clear hb7 TD
            go_wp2_with (refine store_row (ty := 36) rfl rfl rfl rfl HO7.out info_cyc ?_)
            refine bodyPost_ret (results_row_tmp rfl rfl HO7.out.setRow Try.underlying36 rfl info_cyc) rfl ?_
            rw [HF.out]
            exact ⟨rfl, by rw [hbw]; exact below_setRow HQ7.out (Nat.le_refl _) _⟩
          · rw [hok] at TD HF2
            simp only [if_true] at TD HF2
            have HF := Lib.hid HF2
            clear HF2
            go_wp2_with (first | (refine load_row (ty := 74) (g := s) rfl rfl rfl HFR.out Try.underlying74 rfl info_exact ?_; clear HFR))
            refine (TD _).mono ?_; rintro e w7 ⟨rfl, hb7⟩
            have HO7 : Aside (RowAt w7 b 8 36 nul) := HOR.out.below hb7
            have HQ7 : Aside (Below b w w7) := HQ.out.trans (hb7.mono (Nat.le_of_lt HBR.out))
            clear hb7 TD
            go_wp2_with (refine store_row (ty := 36) rfl rfl rfl rfl HO7.out info_cyc ?_)
            refine bodyPost_ret (results_row_tmp rfl rfl HO7.out.setRow Try.underlying36 rfl info_cyc) rfl ?_
            rw [HF.out]
            exact ⟨rfl, by rw [hbw]; exact below_setRow HQ7.out (Nat.le_refl _) _⟩

end Go.Proofs.Ytbdhbkedeglagaa
