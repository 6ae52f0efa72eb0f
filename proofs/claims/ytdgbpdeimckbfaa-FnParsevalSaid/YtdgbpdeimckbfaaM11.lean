/-
  The model's tidy designs.
  Equality of wheels and of designs.
  Designs compared.
-/
import Derived.Test.YtdgbpdeimckbfaaM10
/- The model's tidy designs. -/
namespace Go.Proofs.Ytdgbpdeimckbfaa
set_option maxRecDepth 20000
open Go.ChangeShapes Go.WideShapes Go.ChangeAt Go.RowKit
set_option linter.unusedVariables false
set_option linter.unusedSimpArgs false

theorem equal_nz (c : Wh) (w : World) : (Op.equalIn 10000 36 (.agg (vec 8 c.r.up)) (.agg #[.int .i64 0, .int .i64 0, .int .i64 0, .int .i64 0, .int .i64 0, .int .i64 0, .int .i64 0, .int .i64 0])).run Try.prog w = .ok (!nz c) w := by
  have hz : (eqv 8 c.r.up nul) = !nz c := by unfold nz; rw [Bool.not_not]
  rw [← hz, zero8]
  exact equal_cyc c.r.up nul w
theorem done_eq (R : List Wh) : done R = if valid (R.filter nz) then some (R.filter nz) else none := rfl

set_option maxHeartbeats 2000000 in
theorem l5Done_any (v : Value) (R : List Wh) (w : World) (hv : Reads w v R) (hn : R.length ≤ 1000) : Calls Try.prog 157 #[v, .bool true] w (Told w (done R)) := by
  obtain ⟨p, cap, rfl, hc1, hc2, hp0, hp⟩ := hv
  simp only [maxLen] at hc2
  have HP := Lib.hid hp
  clear hp
  generalize hD : done R = res
  have HRES := Lib.hid hD
  clear hD
  go_enter Try.func157, Try.ntmps157
  go_wp2
  go_loopw [6, 7] (fun s6 i wr => ∃ k : Nat, k ≤ R.length ∧ i = .int .i64 k ∧ Own wr w.heap.size 125 s6 ((R.take k).filter nz) ∧ Below w.heap.size w wr ∧ w.heap.size ≤ wr.heap.size) (fun _ i _ => R.length - (intOf i).toNat)
  case atStart => exact ⟨0, Nat.zero_le _, rfl, own_lit w w.heap.size 125 (Nat.le_refl _), (Below.refl _ _).alloc (Nat.le_refl _) _, by simp⟩
  case round =>
    obtain ⟨k, hk, rfl, hO, hbel, hB⟩ := hrel
    by_cases hlt : k < R.length
    · have hkz : (k : Int) < (R.length : Int) := by omega
      have hk0 : (0 : Int) ≤ (k : Int) := by omega
      obtain ⟨c, hc⟩ : ∃ c, R[k]? = some c := ⟨_, List.getElem?_eq_getElem hlt⟩
      obtain ⟨g, o, rfl, hg, hr⟩ := HP.out (by rintro rfl; have := hp0 rfl; omega)
      have HE := Lib.hid (range_part (range_below hr hg hbel) hc)
      have HO := Lib.hid hO
      have HL := Lib.hid hbel
      have HB := Lib.hid hB
      have HC := Lib.hid hc
      have E := equal_nz c
      have hln : ((R.take k).filter nz).length ≤ 1000 := Nat.le_trans (List.length_filter_le _ _) (by rw [List.length_take]; omega)
      clear hr hO hbel hB hc
      cases hz : nz c
      · rw [hz] at E
        go_wp2_with (first | (refine load_part (T := 36) rfl rfl rfl (range_radius HE.out) Try.underlying36 rfl info_cyc ?_))
        go_roundw
        case rel =>
          refine ⟨k + 1, by omega, by go_num, ?_, HL.out, HB.out⟩
          have e : (R.take (k + 1)).filter nz = (R.take k).filter nz := by
            rw [take_next HC.out, List.filter_append]
            simp [hz]
          rw [e]; exact HO.out
        case measure => simp [intOf]; omega
      · rw [hz] at E
        go_wp2_with (first | (refine load_part (T := 36) rfl rfl rfl (range_radius HE.out) Try.underlying36 rfl info_cyc ?_) | (refine load_wheel (T := 125) rfl rfl rfl HE.out Try.underlying125 rfl info_wheel ?_) | (refine one9 tyW rfl rfl rfl ?_) |
          (refine append9 tyW rfl rfl rfl rfl (HO.out.alloc _) (reads_lit _ _ _) (by simp; omega) (HL.out.alloc HB.out _) (by simp; have := HB.out; omega) ?_; intro v2 w4 ho4 hb4 hB4))
        go_roundw
        case rel =>
          refine ⟨k + 1, by omega, by go_num, ?_, hb4, hB4⟩
          have e : (R.take (k + 1)).filter nz = (R.take k).filter nz ++ [c] := by
            rw [take_next HC.out, List.filter_append]
            simp [hz]
          rw [e]; exact ho4
        case measure => simp [intOf]; omega
    · obtain rfl : k = R.length := by omega
      rw [List.take_length] at hO
      have D := specDesignValid_any u6 (R.filter nz) wr (own_reads hO)
      have HR2 := HRES.out
      rw [done_eq] at HR2
      have HR2 := Lib.hid HR2
      have HO := Lib.hid hO
      have HL := Lib.hid hbel
      have HB := Lib.hid hB
      clear hO hbel hB HRES
      cases hvd : valid (R.filter nz)
      · rw [hvd] at D
        have HR3 : Aside (none = res) := (show none = res from by have := HR2.out; rw [hvd] at this; exact this)
        clear HR2
        go_wp2_with fail
        refine (D).mono ?_; rintro e w2 ⟨rfl, hb2⟩
        have HQ : Aside (Told w res (.returned (.tuple #[.slice (some ⟨w2.heap.size, 0, none⟩) 0 0, .bool false])) (w2.alloc (.cells #[] 125))) := (show Told _ _ _ _ from by
          rw [← HR3.out]
          have hz := Nat.le_trans HB.out hb2.size
          exact ⟨below_next HL.out (hb2.alloc hb2.size _), _, rfl, own_lit w2 w.heap.size 125 hz⟩)
        clear D hb2
        go_wp2
        go_ret2
        exact HQ.out
      · rw [hvd] at D
        have HR3 : Aside (some (R.filter nz) = res) := (show some (R.filter nz) = res from by have := HR2.out; rw [hvd] at this; exact this)
        clear HR2
        go_wp2_with fail
        refine (D).mono ?_; rintro e w2 ⟨rfl, hb2⟩
        have HQ : Aside (Told w res (.returned (.tuple #[u6, .bool true])) w2) := (show Told _ _ _ _ from by
          rw [← HR3.out]
          exact ⟨below_next HL.out hb2, _, rfl, own_below HO.out hb2⟩)
        clear D hb2
        go_wp2
        go_ret2
        exact HQ.out

theorem ins_ne (R : List Wh) (c : Wh) : ins R c ≠ [] := by
  cases R with
  | nil => simp [ins]
  | cons d R =>
    unfold ins
    split
    · simp
    · split <;> simp
theorem ins_big (c : Wh) (M : Int) (hM : 1000000 ≤ M) : ∀ R : List Wh, insOk true R c = true → (∀ d ∈ R, Big d.r M) → ∀ d ∈ ins R c, Big d.r M
  | [], h, _, d, hd => by
    simp only [insOk, Bool.not_true, Bool.false_or] at h
    simp only [ins, List.mem_singleton] at hd
    rw [hd]; exact (big_ok h).mono hM
  | e :: R, h, hR, d, hd => by
    unfold insOk at h
    unfold ins at hd
    by_cases h1 : e.s < c.s
    · rw [if_pos h1] at h hd
      rcases List.mem_cons.1 hd with rfl | hd
      · exact hR _ (by simp)
      · exact ins_big c M hM R h (fun d hd => hR d (by simp [hd])) d hd
    · rw [if_neg h1] at h hd
      by_cases h2 : e.s = c.s
      · rw [if_pos h2] at h hd
        rcases List.mem_cons.1 hd with rfl | hd
        · exact (big_ok h).mono hM
        · exact hR d (by simp [hd])
      · rw [if_neg h2] at h hd
        simp only [Bool.not_true, Bool.false_or] at h
        rcases List.mem_cons.1 hd with rfl | hd
        · exact (big_ok h).mono hM
        · exact hR d hd
theorem own_parts {w : World} {B T g n cap : Nat} {ws : List Wh} (h : Own w B T (.slice (some ⟨g, 0, none⟩) n cap) ws) : g < w.heap.size ∧ w.rangeAt g 0 (flat ws) ∧ ws.length ≤ cap ∧ cap ≤ maxLen := by
  obtain ⟨p, cap', e, h2, h3, _, h5⟩ := own_reads h
  simp only [Value.slice.injEq] at e
  obtain ⟨rfl, _, rfl⟩ := e
  obtain ⟨g', o, e, hg, hr⟩ := h5 (by simp)
  simp only [Option.some.injEq, Addr.mk.injEq, and_true] at e
  obtain ⟨rfl, rfl⟩ := e
  exact ⟨hg, hr, h2, h3⟩

set_option maxHeartbeats 2000000 in
theorem l5Tidy_any (v : Value) (ws : List Wh) (w : World) (hv : Reads w v ws) (hn : ws.length ≤ 1000) (hbig : ∀ c ∈ ws, Big c.r 4000000) : Calls Try.prog 112 #[v] w (Told w (tidy true ws)) := by
  obtain ⟨p, cap, rfl, hc1, hc2, hp0, hp⟩ := hv
  simp only [maxLen] at hc2
  have HP := Lib.hid hp
  have HBG := Lib.hid hbig
  clear hp hbig
  generalize hD : tidy true ws = res
  unfold tidy at hD
  generalize hrun : run true [] ws = run0 at hD
  have HRUN := Lib.hid hrun
  have HRES := Lib.hid hD
  clear hD hrun
  go_enter Try.func112, Try.ntmps112
  go_wp2
  go_loopw [4, 5] (fun s4 i wr => ∃ (k : Nat) (R : List Wh) (g capr : Nat), k ≤ ws.length ∧ i = .int .i64 k ∧ R.length ≤ k ∧ s4 = .slice (some ⟨g, 0, none⟩) R.length capr ∧ Own wr w.heap.size 125 (.slice (some ⟨g, 0, none⟩) R.length capr) R ∧
    ((∀ d ∈ R, Big d.r 4000000) ∧ run true R (ws.drop k) = run0) ∧ Below w.heap.size w wr ∧ w.heap.size ≤ wr.heap.size) (fun _ i _ => ws.length - (intOf i).toNat)
  case atStart => exact ⟨0, [], w.heap.size, 0, Nat.zero_le _, rfl, Nat.zero_le _, rfl, own_lit w w.heap.size 125 (Nat.le_refl _), ⟨by simp, HRUN.out⟩, (Below.refl _ _).alloc (Nat.le_refl _) _, by simp⟩
  case round =>
    obtain ⟨k, R, g1, capr, hk, rfl, hRk, rfl, hO, hfacts, hbel, hB⟩ := hrel
    by_cases hlt : k < ws.length
    · have hkz : (k : Int) < (ws.length : Int) := by omega
      have hk0 : (0 : Int) ≤ (k : Int) := by omega
      obtain ⟨c, hc⟩ : ∃ c, ws[k]? = some c := ⟨_, List.getElem?_eq_getElem hlt⟩
      obtain ⟨g, o, rfl, hg, hr⟩ := HP.out (by rintro rfl; have := hp0 rfl; omega)
      have HE := Lib.hid (range_part (range_below hr hg hbel) hc)
      obtain ⟨o1, o2, o3, o4⟩ := own_parts hO
      have C := l5Add_any g1 0 capr R c wr o1 o2 o3 o4 (by omega) hfacts.1 (HBG.out c (List.mem_of_getElem? hc))
      have hdrop : ws.drop k = c :: ws.drop (k + 1) := by
        rw [List.drop_eq_getElem_cons hlt]
        have := List.getElem?_eq_getElem hlt
        rw [hc] at this
        rw [← Option.some.inj this]
      have hrn := hfacts.2
      rw [hdrop] at hrn
      unfold run at hrn
      have HRN := Lib.hid hrn
      have HFA := Lib.hid hfacts.1
      have HL := Lib.hid hbel
      have HB := Lib.hid hB
      clear hr hO hbel hB hc hfacts o1 o2 o3 o4 hdrop hrn
      cases hq : insOk true R c
      · have HN : Aside (none = run0) := (show none = run0 from by have := HRN.out; rw [hq] at this; exact this)
        go_wp2_with (first | (refine load_wheel (T := 125) rfl rfl rfl HE.out Try.underlying125 rfl info_wheel ?_))
        refine C.mono ?_; rintro e w2 ⟨hb2, v2, rfl, ho2⟩
        rw [hq]
        have HQ : Aside (Told w res (.returned (.tuple #[.slice (some ⟨w2.heap.size, 0, none⟩) 0 0, .bool false])) (w2.alloc (.cells #[] 125))) := (show Told _ _ _ _ from by
          have hr0 := HRES.out
          rw [← HN.out] at hr0
          have hr1 : none = res := hr0
          rw [← hr1]
          have hz := Nat.le_trans HB.out hb2.size
          exact ⟨below_next HL.out (hb2.alloc hb2.size _), _, rfl, own_lit w2 w.heap.size 125 hz⟩)
        clear C hb2 ho2 HE HRN
        go_wp2
        go_ret2
        exact HQ.out
      · have HN : Aside (run true (ins R c) (ws.drop (k + 1)) = run0) := (show _ from by have := HRN.out; rw [hq, if_pos rfl] at this; exact this)
        go_wp2_with (first | (refine load_wheel (T := 125) rfl rfl rfl HE.out Try.underlying125 rfl info_wheel ?_))
        refine C.mono ?_; rintro e w2 ⟨hb2, v2, rfl, ho2⟩
        rw [hq]
        obtain ⟨p2, cap2, rfl, hq1, hq2, hne⟩ := own_form ho2
        obtain ⟨g2, rfl, hg2⟩ := hne (ins_ne R c)
        have HO2 := Lib.hid (own_mono ho2 HB.out)
        have HL2 := Lib.hid (below_next HL.out hb2)
        have HB2 := Lib.hid (Nat.le_trans HB.out hb2.size)
        have HG2 := Lib.hid (ins_big c 4000000 (by omega) R hq HFA.out)
        have hln := ins_len c R
        clear C hb2 ho2 HE HRN hne
        go_wp2
        go_roundw
        case rel => exact ⟨k + 1, ins R c, g2, cap2, by omega, by go_num, by omega, rfl, HO2.out, ⟨HG2.out, HN.out⟩, HL2.out, HB2.out⟩
        case measure => simp [intOf]; omega
    · obtain rfl : k = ws.length := by omega
      have D := l5Done_any _ R wr (own_reads hO) (by omega)
      have hrn := hfacts.2
      rw [List.drop_length] at hrn
      unfold run at hrn
      have hr0 := HRES.out
      rw [← hrn] at hr0
      have hr1 : done R = res := hr0
      rw [hr1] at D
      have HL := Lib.hid hbel
      have HB := Lib.hid hB
      clear hO hbel hB hrn hr0 hr1 HRES HRUN hfacts
      go_wp2_with fail
      refine D.mono ?_; rintro e w2 ⟨hb2, v2, rfl, ho2⟩
      have HQ : Aside (Told w res (.returned (.tuple #[v2, .bool res.isSome])) w2) := ⟨below_next HL.out hb2, _, rfl, own_mono ho2 HB.out⟩
      clear D hb2 ho2
      go_wp2
      go_ret2
      exact HQ.out

end Go.Proofs.Ytdgbpdeimckbfaa
/- Equality of wheels and of designs. -/
namespace Go.Proofs.Ytdgbpdeimckbfaa
set_option maxRecDepth 20000
open Go.ChangeShapes Go.WideShapes Go.ChangeAt Go.RowKit
set_option linter.unusedVariables false
set_option linter.unusedSimpArgs false

theorem equal_cyc9 (a b : Nat → Int) (w : World) : (Op.equalIn 9999 36 (.agg (vec 8 a)) (.agg (vec 8 b))).run Try.prog w = .ok (eqv 8 a b) w := by
  obtain ⟨i, hi⟩ := Option.isSome_iff_exists.1 some_int
  obtain ⟨j, hj⟩ := Option.isSome_iff_exists.1 some_arr8
  exact equal_one (d := 9996) Try.underlying36 (by kernel_rfl) (fun d xs ys => by unfold Op.eqFields; exact if_pos (by decide)) rfl rfl Try.underlying34 hj cells_arr8 hi cells_int Try.underlying3 key_int w
theorem vec_tail (f : Nat → Int) : (vec 9 f).extract 1 (1 + 8) = vec 8 (fun j => f (j + 1)) := by
  refine Array.ext (by simp [vec_size]) fun i h1 h2 => ?_
  rw [vec_size] at h2
  have e1 := vec_at f (k := 1 + i) (n := 9) (by omega)
  have e2 := vec_at (fun j => f (j + 1)) (k := i) (n := 8) h2
  rw [Array.getElem_extract]
  have := (Array.getElem?_eq_some_iff.1 e1).2
  have h3 := (Array.getElem?_eq_some_iff.1 e2).2
  rw [this, h3, Nat.add_comm]
theorem agg_cyc (w : World) : (isAgg 36).run Try.prog w = .ok true w := by rfl
theorem sizeof_cyc (w : World) : (Go.sizeOf 36).run Try.prog w = .ok 8 w := by rfl
theorem part_cyc (f : Nat → Int) (w : World) : (part 36 (vec 9 f) 1).run Try.prog w = .ok (.agg (vec 8 (fun j => f (j + 1)))) w := by
  simp [part, Sem.run_bind, agg_cyc, sizeof_cyc, vec_tail]
theorem eqv_nine (f g : Nat → Int) : eqv 9 f g = (f 0 == g 0 && eqv 8 (fun j => f (j + 1)) (fun j => g (j + 1))) := by
  have e : List.range 9 = 0 :: (List.range 8).map (· + 1) := by decide
  unfold eqv
  rw [e, List.all_cons, List.all_map]
  rfl
theorem equal_wheel (f g : Nat → Int) (w : World) : (Op.equalIn 10000 125 (.agg (vec 9 f)) (.agg (vec 9 g))).run Try.prog w = .ok (eqv 9 f g) w := by
  have hF := Try.underlying125
  have hf : Try.prog.underlying 125 = some (.struct (Try.prog.fieldsOf 125)) := by simp [Program.fieldsOf, hF]
  rw [run_equalIn_struct w 9999 125 _ _ hf (by kernel_rfl)]
  simp only [Program.fieldsOf, hF]
  simp only [Op.eqFields]
  rw [if_pos (by decide), if_pos (by decide)]
  simp only [Sem.run_bind, run_part_plain (w := w) key_int (vec_at f (k := 0) (n := 9) (by omega)), run_part_plain (w := w) key_int (vec_at g (k := 0) (n := 9) (by omega)), Result.andThen_ok, run_equalIn_int w 9998 3 .i64 .i64 (f 0) (g 0) Try.underlying3]
  rw [eqv_nine]
  cases h : (f 0 == g 0)
  · simp
  · simp [part_cyc, equal_cyc9]
    cases eqv 8 (fun j => f (j + 1)) (fun j => g (j + 1)) <;> simp
/-- Whether two wheels are the same. -/
def eqW (a b : Wh) : Bool := eqv 9 (wf a) (wf b)
theorem eqW_true {a b : Wh} : eqW a b = true ↔ a = b := by
  constructor
  · intro h
    have h' := eqv_same h
    refine Wh.same (h' 0 (by omega)) (V.ext fun j hj => ?_)
    have := h' (j + 1) (by omega)
    simpa [wf] using this
  · rintro rfl
    exact eqv_true fun _ _ => rfl
theorem equal_wh (a b : Wh) (w : World) : (Op.equalIn 10000 125 (wh a) (wh b)).run Try.prog w = .ok (eqW a b) w := equal_wheel _ _ w
/-- Whether two lists are the same. -/
def eqL : List Wh → List Wh → Bool
  | [], [] => true
  | a :: l, b :: m => eqW a b && eqL l m
  | _, _ => false
theorem eqL_true : ∀ {a b : List Wh}, eqL a b = true ↔ a = b
  | [], [] => by simp [eqL]
  | [], b :: m => by simp [eqL]
  | a :: l, [] => by simp [eqL]
  | a :: l, b :: m => by
    unfold eqL
    rw [Bool.and_eq_true, eqW_true, eqL_true (a := l) (b := m)]
    simp
theorem eqL_same {a b : List Wh} (h : a = b) : eqL a b = true := eqL_true.2 h
theorem eqL_not {a b : List Wh} (h : ¬ a = b) : eqL a b = false := by
  cases e : eqL a b
  · rfl
  · exact absurd (eqL_true.1 e) h

end Go.Proofs.Ytdgbpdeimckbfaa
/- Designs compared. -/
namespace Go.Proofs.Ytdgbpdeimckbfaa
set_option maxRecDepth 20000
open Go.ChangeShapes Go.WideShapes Go.ChangeAt Go.RowKit
set_option linter.unusedVariables false
set_option linter.unusedSimpArgs false

theorem equal_nine (a b : Wh) (w : World) : (Op.equalIn 10000 125 (.agg (vec 9 (wf a))) (.agg (vec 9 (wf b)))).run Try.prog w = .ok (eqW a b) w := equal_wheel _ _ w
theorem take_same {a b : List Wh} {k : Nat} {c d : Wh} (h : a.take k = b.take k) (hc : a[k]? = some c) (hd : b[k]? = some d) (e : eqW c d = true) : a.take (k + 1) = b.take (k + 1) := by
  rw [take_next hc, take_next hd, h, eqW_true.1 e]
theorem not_same {a b : List Wh} {k : Nat} {c d : Wh} (hc : a[k]? = some c) (hd : b[k]? = some d) (e : eqW c d = false) : eqL a b = false := eqL_not (by
  rintro rfl
  rw [hc] at hd
  obtain rfl := Option.some.inj hd
  rw [eqW_true.2 rfl] at e
  cases e)
theorem len_same {a b : List Wh} (h : ¬ a.length = b.length) : eqL a b = false := eqL_not (by rintro rfl; exact h rfl)
/-- The tidy form of a design. -/
def tid (ws : List Wh) : Option (List Wh) := if valid ws then tidy false ws else none
/-- Whether two designs are the same when tidy. -/
def sameD (a b : List Wh) : Bool := (tid a).isSome && (tid b).isSome && eqL (got (tid a)) (got (tid b))

theorem tid_eq (ws : List Wh) : tid ws = if valid ws then tidy false ws else none := rfl

end Go.Proofs.Ytdgbpdeimckbfaa
