/-
  The draws of whole points and of points that are often real.
  What the walks of the laws of exact points share.
  What the walks of the laws of designs share.
-/
import Derived.Test.YtbdhbkedeglagaaM13
import Derived.Test.YtbdhbkedeglagaaM04
/- The draws of whole points and of points that are often real. -/
namespace Go.Proofs.Ytbdhbkedeglagaa
set_option maxRecDepth 20000
open Go.ChangeShapes Go.WideShapes Go.ChangeAt Go.RowKit
set_option linter.unusedVariables false
set_option linter.unusedSimpArgs false

end Go.Proofs.Ytbdhbkedeglagaa
/- What the walks of the laws of exact points share. -/
namespace Go.Proofs.Ytbdhbkedeglagaa
set_option maxRecDepth 20000
open Go.ChangeShapes Go.WideShapes Go.ChangeAt Go.RowKit
set_option linter.unusedVariables false
set_option linter.unusedSimpArgs false

theorem code_length {w : World} {v : Value} (h : CodeAt w v) : ∃ a n c, v = .slice a n c ∧ n ≤ 9223372036854775807 := by
  rcases h with ⟨a, rfl⟩ | ⟨b, off, len, cap, zs, rfl, _, h1, h2, _⟩
  · exact ⟨a, 0, 0, rfl, by omega⟩
  · exact ⟨_, _, _, rfl, by unfold maxLen at h2; omega⟩
theorem ans_t {v : Bool} {c : Nat → Int} (h : (v && okc c) = true) : ans v c = .tuple #[.agg (vec 8 c), .bool true] := by simp [ans, h]
theorem ans_f {v : Bool} {c : Nat → Int} (h : (v && okc c) = false) : ans v c = .tuple #[.agg (vec 8 nul), .bool false] := by simp [ans, h]
theorem ans_is {v : Bool} {c d : Nat → Int} (h : Eight c d) (hv : (v && okc d) = true) : ans v c = .tuple #[.agg (vec 8 d), .bool true] := by rw [ans_same v h]; exact ans_t hv
theorem eq_cells (f : Nat → Int) (w : World) : (Op.equalIn 10000 36 (.agg #[.int .i64 (f 0), .int .i64 (f 1), .int .i64 (f 2), .int .i64 (f 3), .int .i64 (f 4), .int .i64 (f 5), .int .i64 (f 6), .int .i64 (f 7)]) (.agg #[.int .i64 (f 0), .int .i64 (f 1), .int .i64 (f 2), .int .i64 (f 3), .int .i64 (f 4), .int .i64 (f 5), .int .i64 (f 6), .int .i64 (f 7)])).run Try.prog w = .ok true w := by
  have h := equal_cyc f f w
  rw [eqv_true (fun _ _ => rfl)] at h
  exact h
theorem eq_nul (w : World) : (Op.equalIn 10000 36 (.agg #[.int .i64 (nul 0), .int .i64 (nul 1), .int .i64 (nul 2), .int .i64 (nul 3), .int .i64 (nul 4), .int .i64 (nul 5), .int .i64 (nul 6), .int .i64 (nul 7)]) (.agg #[.int .i64 0, .int .i64 0, .int .i64 0, .int .i64 0, .int .i64 0, .int .i64 0, .int .i64 0, .int .i64 0])).run Try.prog w = .ok true w := eq_cells nul w
theorem okc_nul : okc nul = true := by decide
theorem okc_scl {a : Nat → Int} (h : okc a = true) : okc (scl (-1) a) = true := inR_okc fun j hj => by have := okc_inR h j hj; simp only [scl]; omega
theorem okc_root {t : Nat} (ht : t ≤ 23) : okc (trn one t) = true := inR_okc fun j hj => by have := (root_facts t ht j hj).1; omega
theorem okc_mroot {t : Nat} (ht : t ≤ 23) : okc (mir (trn one t)) = true := inR_okc fun j hj => by have := (root_facts t ht j hj).2.1; omega
theorem okc_one : okc one = true := by decide
theorem rl_true {a : Nat → Int} (h : Eight (mir a) a) : rl a = true := eqv_true h
theorem rl_same {a : Nat → Int} (h : rl a = true) : Eight (mir a) a := eqv_same h
theorem mir_same {a b : Nat → Int} (h : Eight a b) : Eight (mir a) (mir b) := by
  have h0 := h 0 (by omega); have h1 := h 1 (by omega); have h2 := h 2 (by omega); have h3 := h 3 (by omega); have h4 := h 4 (by omega); have h5 := h 5 (by omega); have h6 := h 6 (by omega); have h7 := h 7 (by omega)
  refine eight_cases ?_ ?_ ?_ ?_ ?_ ?_ ?_ ?_ <;> simp [mir, *]
theorem prd_both {a : Nat → Int} (h : Eight (mir a) a) : Eight (mir (prd a a)) (prd a a) := fun j hj =>
  (mir_prd a a j hj).trans ((prd_same h j hj).trans ((prd_comm a (mir a) j hj).trans (prd_same h j hj)))
end Go.Proofs.Ytbdhbkedeglagaa
/- What the walks of the laws of designs share. -/
namespace Go.Proofs.Ytbdhbkedeglagaa
set_option maxRecDepth 20000
open Go.ChangeShapes Go.WideShapes Go.ChangeAt Go.RowKit
set_option linter.unusedVariables false
set_option linter.unusedSimpArgs false

set_option maxHeartbeats 2000000 in
theorem sameWheels_any (va vb : Value) (a b : List Wh) (w : World) (ha : Reads w va a) (hb : Reads w vb b) : Calls Try.prog 20 #[va, vb] w fun e w' => e = .returned (.bool (eqL a b)) ∧ Below w.heap.size w w' := by
  obtain ⟨p, cap, rfl, hc1, hc2, hp0, hp⟩ := ha
  obtain ⟨q, cap2, rfl, hd1, hd2, hq0, hq⟩ := hb
  simp only [maxLen] at hc2 hd2
  by_cases hl : a.length = b.length
  · have hlz : (a.length : Int) = (b.length : Int) := by omega
    have hlb : ((a.length : Int) == (b.length : Int)) = true := by simpa using hlz
    have HP := Lib.hid hp
    have HQ := Lib.hid hq
    generalize hres : eqL a b = res
    have HRES := Lib.hid hres
    clear hp hq hres hlz
    have HLL := Lib.hid hl
    clear hl
    go_enter Try.func20, Try.ntmps20
    go_wp2
    go_loopw [5] (fun i wr => ∃ k : Nat, k ≤ a.length ∧ i = .int .i64 k ∧ a.take k = b.take k ∧ Below w.heap.size w wr) (fun i _ => a.length - (intOf i).toNat)
    case atStart => exact ⟨0, Nat.zero_le _, rfl, rfl, Below.refl _ _⟩
    case round =>
      obtain ⟨k, hk, rfl, hall, hbel⟩ := hrel
      have HA := Lib.hid hall
      have HL := Lib.hid hbel
      clear hall hbel
      by_cases hlt : k < a.length
      · have hkz : (k : Int) < (a.length : Int) := by omega
        have hkb : (k : Int) < (b.length : Int) := by have := HLL.out; omega
        have hk0 : (0 : Int) ≤ (k : Int) := by omega
        have hlt2 : k < b.length := by have := HLL.out; omega
        obtain ⟨c, hc⟩ : ∃ c, a[k]? = some c := ⟨_, List.getElem?_eq_getElem hlt⟩
        obtain ⟨d, hd⟩ : ∃ d, b[k]? = some d := ⟨_, List.getElem?_eq_getElem hlt2⟩
        obtain ⟨g, o, rfl, hg, hr⟩ := HP.out (by rintro rfl; have := hp0 rfl; omega)
        obtain ⟨g2, o2, rfl, hg2, hr2⟩ := HQ.out (by rintro rfl; have := hq0 rfl; omega)
        have HE := Lib.hid (range_part (range_below hr hg HL.out) hc)
        have HE2 := Lib.hid (range_part (range_below hr2 hg2 HL.out) hd)
        have HC := Lib.hid hc
        have HD := Lib.hid hd
        have E := equal_nine c d
        clear hr hr2 hc hd hlt2
        generalize hcd : eqW c d = bit at *
        have HCD := Lib.hid hcd
        clear hcd
        go_upto_region 6 with fail
        refine wp_region_held_drew (S := fun w' => w' = wr.drew) (by kernel_rfl) rfl (fun hHeld => ?_)
        refine wpAnyH_take (i := 0) (oi := _) (v := .slice (some ⟨g, o, none⟩) a.length cap) rfl (by kernel_rfl) (by kernel_rfl) (by kernel_rfl) (fun _ _ _ h => h) (Or.inl ⟨by rfl, fun w h => by go_simp⟩) hHeld ?_
        try simp only [Act.put, List.setIfInBounds_toArray, List.set_cons_zero, List.set_cons_succ, List.getElem_toArray, List.getElem_cons_succ, List.getElem_cons_zero]
        refine wpAnyH_take (i := 1) (oi := _) (v := .int .i64 k) rfl (by kernel_rfl) (by kernel_rfl) (by kernel_rfl) (fun _ _ _ h => h) (Or.inl ⟨by rfl, fun w h => by go_simp⟩) hHeld ?_
        try simp only [Act.put, List.setIfInBounds_toArray, List.set_cons_zero, List.set_cons_succ, List.getElem_toArray, List.getElem_cons_succ, List.getElem_cons_zero]
        refine wpAnyH_take (i := 2) (oi := _) (v := .pointer (some ⟨g, o + k * 9, none⟩)) rfl (by kernel_rfl) (by kernel_rfl) (by kernel_rfl) (fun _ _ _ h => h) (Or.inl ⟨by rfl, fun w h => by go_simp⟩) hHeld ?_
        try simp only [Act.put, List.setIfInBounds_toArray, List.set_cons_zero, List.set_cons_succ, List.getElem_toArray, List.getElem_cons_succ, List.getElem_cons_zero]
        refine wpAnyH_take (i := 3) (oi := _) (v := .agg (vec 9 (wf c))) rfl (by kernel_rfl) (by kernel_rfl) (by kernel_rfl) (fun _ _ _ h => h) (yieldsIf_load_mid (by rfl) _ _ rfl _ _ rfl _ _ ((fun w h => by rw [h]; exact HE.out)) Try.underlying67 rfl (size_wheel c)) hHeld ?_
        try simp only [Act.put, List.setIfInBounds_toArray, List.set_cons_zero, List.set_cons_succ, List.getElem_toArray, List.getElem_cons_succ, List.getElem_cons_zero]
        refine wpAnyH_take (i := 4) (oi := _) (v := .slice (some ⟨g2, o2, none⟩) b.length cap2) rfl (by kernel_rfl) (by kernel_rfl) (by kernel_rfl) (fun _ _ _ h => h) (Or.inl ⟨by rfl, fun w h => by go_simp⟩) hHeld ?_
        try simp only [Act.put, List.setIfInBounds_toArray, List.set_cons_zero, List.set_cons_succ, List.getElem_toArray, List.getElem_cons_succ, List.getElem_cons_zero]
        refine wpAnyH_take (i := 5) (oi := _) (v := .int .i64 k) rfl (by kernel_rfl) (by kernel_rfl) (by kernel_rfl) (fun _ _ _ h => h) (Or.inl ⟨by rfl, fun w h => by go_simp⟩) hHeld ?_
        try simp only [Act.put, List.setIfInBounds_toArray, List.set_cons_zero, List.set_cons_succ, List.getElem_toArray, List.getElem_cons_succ, List.getElem_cons_zero]
        refine wpAnyH_take (i := 6) (oi := _) (v := .pointer (some ⟨g2, o2 + k * 9, none⟩)) rfl (by kernel_rfl) (by kernel_rfl) (by kernel_rfl) (fun _ _ _ h => h) (Or.inl ⟨by rfl, fun w h => by go_simp⟩) hHeld ?_
        try simp only [Act.put, List.setIfInBounds_toArray, List.set_cons_zero, List.set_cons_succ, List.getElem_toArray, List.getElem_cons_succ, List.getElem_cons_zero]
        refine wpAnyH_take (i := 7) (oi := _) (v := .agg (vec 9 (wf d))) rfl (by kernel_rfl) (by kernel_rfl) (by kernel_rfl) (fun _ _ _ h => h) (yieldsIf_load_mid (by rfl) _ _ rfl _ _ rfl _ _ ((fun w h => by rw [h]; exact HE2.out)) Try.underlying67 rfl (size_wheel d)) hHeld ?_
        try simp only [Act.put, List.setIfInBounds_toArray, List.set_cons_zero, List.set_cons_succ, List.getElem_toArray, List.getElem_cons_succ, List.getElem_cons_zero]
        refine wpAnyH_take (i := 8) (oi := _) (v := .bool (!bit)) rfl (by kernel_rfl) (by kernel_rfl) (by kernel_rfl) (fun _ _ _ h => h) (Or.inl ⟨by rfl, fun w h => by go_simp⟩) hHeld ?_
        try simp only [Act.put, List.setIfInBounds_toArray, List.set_cons_zero, List.set_cons_succ, List.getElem_toArray, List.getElem_cons_succ, List.getElem_cons_zero]
        clear hHeld
        refine wpAnyH_done (by kernel_rfl) ?_ _
        cases bit
        · have HF : Aside (false = res) := (show false = res from by rw [← HRES.out]; exact (not_same HC.out HD.out HCD.out).symm)
          go_wp2
          go_ret
          rw [← HF.out]
          exact ⟨rfl, HL.out.drew⟩
        · go_wp2
          go_roundw
          case rel => exact ⟨k + 1, by omega, by go_num, take_same HA.out HC.out HD.out HCD.out, HL.out.drew⟩
          case measure => simp [intOf]; omega
      · obtain rfl : k = a.length := by omega
        have HF : Aside (true = res) := (show true = res from by
          have h1 := HA.out
          rw [List.take_length, HLL.out, List.take_length] at h1
          rw [← HRES.out]; exact (eqL_same h1).symm)
        go_wp2
        go_ret
        rw [← HF.out]
        exact ⟨rfl, HL.out⟩
  · have hlb : ((a.length : Int) == (b.length : Int)) = false := by simpa using (show ¬ (a.length : Int) = (b.length : Int) from by omega)
    rw [len_same hl]
    clear hp hq hl
    go_enter Try.func20, Try.ntmps20
    go_wp2
    go_ret
    exact ⟨rfl, Below.refl _ _⟩

theorem same_self (va vb : Value) (L : List Wh) (w : World) (ha : Reads w va L) (hb : Reads w vb L) : Calls Try.prog 20 #[va, vb] w fun e w' => e = .returned (.bool true) ∧ Below w.heap.size w w' := by
  have := sameWheels_any va vb L L w ha hb
  rw [eqL_same rfl] at this
  exact this
section
variable {P : Program} {ops : Array Oper} {rest : List Oper} {o : Oper} {a : Act} {Q : Exit → Act → World → Prop} {w : World}
/-- A row that is read behind '&&' or '||'. -/
theorem load_row_on {T ty : TypeId} {d : TypeDesc} {g : Nat} {f : Nat → Int} (hw : Region.wanted o (yielded ops a.tmps) = true) {x : Operand} (ho : o.op = .load T x) (hx : a.eval x = .pointer (some ⟨g, 0, none⟩)) (hr : RowAt w g 8 ty f)
    (hu : P.underlying T = some d) (hd : d.isRow = true) (hi : (P.info? T).map (·.size) = some 8)
    (h : wpList P ops Q rest (a.put o.dst (.agg (vec 8 f))) w) : wpList P ops Q (o :: rest) a w := load_part_on hw ho hx hr.range hu hd hi h
end
theorem atD_some {ws : List Wh} {t : Int} {a : V} (h : atD ws t = some a) : valid ws = true ∧ a = pAt t ws := by
  unfold atD at h
  split at h
  · rename_i hv
    split at h
    · exact ⟨by simp at hv; exact hv.1, (Option.some.inj h).symm⟩
    · cases h
  · cases h
theorem know_at (ws : List Wh) (t : Int) : ∃ (f : Nat → Int) (q : Bool), pointOf (atD ws t) = .tuple #[.agg (vec 8 f), .bool q] ∧ (q = true → valid ws = true ∧ okc f = true ∧ f = (pAt t ws).up) := by
  cases h : atD ws t with
  | none => exact ⟨nul, false, pointOf_none, fun h => by cases h⟩
  | some a =>
    obtain ⟨h1, h2⟩ := atD_some h
    refine ⟨a.up, true, rfl, fun _ => ⟨h1, ?_, by rw [h2]⟩⟩
    unfold atD at h
    split at h
    · split at h
      · rename_i hk
        rw [h2]; exact hk
      · cases h
    · cases h
theorem tid_some {ws R : List Wh} (h : tid ws = some R) : valid ws = true ∧ Tidy R ∧ (∀ s, tot s R = tot s ws) ∧ ∀ t, pAt t R = pAt t ws := by
  unfold tid at h
  split at h
  · rename_i hv
    exact ⟨hv, tidy_some h⟩
  · cases h
theorem tid_again {R : List Wh} (h : Tidy R) : tid R = some R := by
  unfold tid
  rw [if_pos h.ok]
  exact Tidy.again false h
theorem dOf_some {f : Wh → Wh} {ws R : List Wh} (h : dOf f ws = some R) : valid ws = true ∧ Tidy R ∧ (∀ s, tot s R = tot s (ws.map f)) ∧ ∀ t, pAt t R = pAt t (ws.map f) := by
  unfold dOf at h
  split at h
  · rename_i hv
    exact ⟨hv, tidy_some h⟩
  · cases h
theorem dFast_some {n : Int} {ws R : List Wh} (h : dFast n ws = some R) : (-20 ≤ n ∧ n ≤ 20) ∧ dOf (fastW n) ws = some R := by
  unfold dFast at h
  split at h
  · rename_i hn
    exact ⟨hn, h⟩
  · cases h
theorem valid_take {ws : List Wh} (k : Nat) (h : valid ws = true) : valid (ws.take k) = true := by
  unfold valid at *
  simp only [Bool.and_eq_true, decide_eq_true_eq, List.all_eq_true] at *
  exact ⟨by rw [List.length_take]; omega, fun c hc => h.2 c (List.mem_of_mem_take hc)⟩

end Go.Proofs.Ytbdhbkedeglagaa
