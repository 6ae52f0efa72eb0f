/-
  What the walks of the laws of polygons share.
  What the walks of the laws with surds share.
  What the walks of the laws with a polygon and a point share.
-/
import Derived.Test.YtdpakhggpgdgbaaM22
import Derived.Test.YtdpakhggpgdgbaaM28
import Derived.Test.YtdpakhggpgdgbaaM17
import Derived.Test.YtdpakhggpgdgbaaM27
import Derived.Test.YtdpakhggpgdgbaaM13
import Derived.Test.YtdpakhggpgdgbaaM16
import Derived.Test.YtdpakhggpgdgbaaM29
import Derived.Test.YtdpakhggpgdgbaaM20
/- What the walks of the laws of polygons share. -/
namespace Go.Proofs.Ytdpakhggpgdgbaa
set_option maxRecDepth 20000
open Go.ChangeShapes Go.WideShapes Go.ChangeAt Go.RowKit
set_option linter.unusedVariables false
set_option linter.unusedSimpArgs false

theorem readsL_form {w : World} {v : Value} {xs : List V} (h : ReadsL encV w v xs) : ∃ p c, v = .slice p xs.length c := by
  obtain ⟨p, c, e, -⟩ := h
  exact ⟨p, c, e⟩
theorem readsL_box {w : World} {v : Value} {xs : List V} (h : ReadsL encV w v xs) (o : Obj) : ReadsL encV (w.alloc o) v xs := h.below ((Below.refl _ _).alloc (Nat.le_refl _) _)
set_option maxHeartbeats 2000000 in
theorem sameC_self (va vb : Value) (L : List V) (w : World) (ha : ReadsL encV w va L) (hb : ReadsL encV w vb L) : Calls Try.prog 23 #[va, vb] w fun e w' => e = .returned (.bool true) ∧ Below w.heap.size w w' := by
  obtain ⟨p, cap, rfl, hc1, hc2, hp0, hp⟩ := ha
  obtain ⟨q, cap2, rfl, hd1, hd2, hq0, hq⟩ := hb
  simp only [maxLen] at hc2
  have hlb : ((L.length : Int) != (L.length : Int)) = false := by simp
  have HP := Lib.hid hp
  have HQ := Lib.hid hq
  clear hp hq
  go_enter Try.func23, Try.ntmps23
  go_wp2
  go_loopw [5] (fun i wr => ∃ k : Nat, k ≤ L.length ∧ i = .int .i64 k ∧ Below w.heap.size w wr) (fun i _ => L.length - (intOf i).toNat)
  case atStart => exact ⟨0, Nat.zero_le _, rfl, Below.refl _ _⟩
  case round =>
    obtain ⟨k, hk, rfl, hbel⟩ := hrel
    have HL := Lib.hid hbel
    clear hbel
    by_cases hlt : k < L.length
    · have hkz : (k : Int) < (L.length : Int) := by omega
      have hk0 : (0 : Int) ≤ (k : Int) := by omega
      obtain ⟨c, hc⟩ : ∃ c, L[k]? = some c := ⟨_, List.getElem?_eq_getElem hlt⟩
      obtain ⟨g, o, rfl, hg, hr⟩ := HP.out (by rintro rfl; have := hp0 rfl; omega)
      obtain ⟨g2, o2, rfl, hg2, hr2⟩ := HQ.out (by rintro rfl; have := hq0 rfl; omega)
      have HE : Aside (g < w.heap.size ∧ w.rangeAt g (o + k * 8) (encV c)) := (show _ ∧ _ from ⟨hg, cells_part encV_ok hr hc⟩)
      have HE2 : Aside (g2 < w.heap.size ∧ w.rangeAt g2 (o2 + k * 8) (encV c)) := (show _ ∧ _ from ⟨hg2, cells_part encV_ok hr2 hc⟩)
      have E := equal_cyc c.up c.up
      rw [eqv_true (n := 8) (f := c.up) (g := c.up) fun _ _ => rfl] at E
      clear hr hr2 hc hg hg2
      go_upto_region 6 with fail
      refine wp_region_held_drew (S := fun w' => Below w.heap.size w w') (by kernel_rfl) HL.out.drew (fun hHeld => ?_)
      refine wpAnyH_take (i := 0) (oi := _) (v := .slice (some ⟨g, o, none⟩) L.length cap) rfl (by kernel_rfl) (by kernel_rfl) (by kernel_rfl) (fun _ _ _ h => h) (Or.inl ⟨by rfl, fun w h => by go_simp⟩) hHeld ?_
      try simp only [Act.put, List.setIfInBounds_toArray, List.set_cons_zero, List.set_cons_succ, List.getElem_toArray, List.getElem_cons_succ, List.getElem_cons_zero]
      refine wpAnyH_take (i := 1) (oi := _) (v := .int .i64 k) rfl (by kernel_rfl) (by kernel_rfl) (by kernel_rfl) (fun _ _ _ h => h) (Or.inl ⟨by rfl, fun w h => by go_simp⟩) hHeld ?_
      try simp only [Act.put, List.setIfInBounds_toArray, List.set_cons_zero, List.set_cons_succ, List.getElem_toArray, List.getElem_cons_succ, List.getElem_cons_zero]
      refine wpAnyH_take (i := 2) (oi := _) (v := .pointer (some ⟨g, o + k * 8, none⟩)) rfl (by kernel_rfl) (by kernel_rfl) (by kernel_rfl) (fun _ _ _ h => h) (Or.inl ⟨by rfl, fun w h => by go_simp⟩) hHeld ?_
      try simp only [Act.put, List.setIfInBounds_toArray, List.set_cons_zero, List.set_cons_succ, List.getElem_toArray, List.getElem_cons_succ, List.getElem_cons_zero]
      refine wpAnyH_take (i := 3) (oi := _) (v := .agg (vec 8 c.up)) rfl (by kernel_rfl) (by kernel_rfl) (by kernel_rfl) (fun _ _ _ h => h) (yieldsIf_load_mid (by rfl) _ _ rfl _ _ rfl _ _ ((fun w h => range_kept HE.out.2 HE.out.1 h)) Try.underlying32 rfl (size_cycL c)) hHeld ?_
      try simp only [Act.put, List.setIfInBounds_toArray, List.set_cons_zero, List.set_cons_succ, List.getElem_toArray, List.getElem_cons_succ, List.getElem_cons_zero]
      refine wpAnyH_take (i := 4) (oi := _) (v := .slice (some ⟨g2, o2, none⟩) L.length cap2) rfl (by kernel_rfl) (by kernel_rfl) (by kernel_rfl) (fun _ _ _ h => h) (Or.inl ⟨by rfl, fun w h => by go_simp⟩) hHeld ?_
      try simp only [Act.put, List.setIfInBounds_toArray, List.set_cons_zero, List.set_cons_succ, List.getElem_toArray, List.getElem_cons_succ, List.getElem_cons_zero]
      refine wpAnyH_take (i := 5) (oi := _) (v := .int .i64 k) rfl (by kernel_rfl) (by kernel_rfl) (by kernel_rfl) (fun _ _ _ h => h) (Or.inl ⟨by rfl, fun w h => by go_simp⟩) hHeld ?_
      try simp only [Act.put, List.setIfInBounds_toArray, List.set_cons_zero, List.set_cons_succ, List.getElem_toArray, List.getElem_cons_succ, List.getElem_cons_zero]
      refine wpAnyH_take (i := 6) (oi := _) (v := .pointer (some ⟨g2, o2 + k * 8, none⟩)) rfl (by kernel_rfl) (by kernel_rfl) (by kernel_rfl) (fun _ _ _ h => h) (Or.inl ⟨by rfl, fun w h => by go_simp⟩) hHeld ?_
      try simp only [Act.put, List.setIfInBounds_toArray, List.set_cons_zero, List.set_cons_succ, List.getElem_toArray, List.getElem_cons_succ, List.getElem_cons_zero]
      refine wpAnyH_take (i := 7) (oi := _) (v := .agg (vec 8 c.up)) rfl (by kernel_rfl) (by kernel_rfl) (by kernel_rfl) (fun _ _ _ h => h) (yieldsIf_load_mid (by rfl) _ _ rfl _ _ rfl _ _ ((fun w h => range_kept HE2.out.2 HE2.out.1 h)) Try.underlying32 rfl (size_cycL c)) hHeld ?_
      try simp only [Act.put, List.setIfInBounds_toArray, List.set_cons_zero, List.set_cons_succ, List.getElem_toArray, List.getElem_cons_succ, List.getElem_cons_zero]
      refine wpAnyH_take (i := 8) (oi := _) (v := .bool (!true)) rfl (by kernel_rfl) (by kernel_rfl) (by kernel_rfl) (fun _ _ _ h => h) (Or.inl ⟨by rfl, fun w h => by go_simp⟩) hHeld ?_
      try simp only [Act.put, List.setIfInBounds_toArray, List.set_cons_zero, List.set_cons_succ, List.getElem_toArray, List.getElem_cons_succ, List.getElem_cons_zero]
      refine wpAnyH_done (by kernel_rfl) ?_ _
      have HL5 := Lib.hid hHeld
      clear hHeld
      go_wp2
      go_roundw
      case rel => exact ⟨k + 1, by omega, by go_num, HL5.out⟩
      case measure => simp [intOf]; omega
    · obtain rfl : k = L.length := by omega
      go_wp2
      go_ret
      exact ⟨rfl, HL.out⟩

/-! Scaled rows. -/
theorem sameI_any {w : World} {B C T U : Nat} {v u : Value} {xs : List Int} (h : OwnL encI 1 w B T v xs) (h2 : OwnL encI 1 w C U u xs) (hl : xs.length ≤ 1000000) :
    Calls Try.prog 34 #[v, u] w fun e w' => e = .returned (.bool true) ∧ Below w.heap.size w w' := by
  refine (sameInts_yes v u xs w (intsAt_of_own (own_ints h)) (intsAt_of_own (own_ints h2)) hl).mono ?_
  rintro e w' ⟨rfl, m, rfl⟩
  exact ⟨rfl, below_drewN (Below.refl _ _) m⟩

/-- A polygon out of a code. -/
def DrewPoly (w : World) (e : Ending) (w' : World) : Prop := ∃ (v : Value) (xs : List V), e = .returned v ∧ xs.length ≤ 48 ∧ ReadsL encV w' v xs ∧ Below w.heap.size w w'
/-- The cells of a point of a list. -/
theorem reads_point {w : World} {v : Value} {xs : List V} (h : ReadsL encV w v xs) {k : Nat} (hk : k < xs.length) : ∃ g o cap, v = .slice (some ⟨g, o, none⟩) xs.length cap ∧ g < w.heap.size ∧ w.rangeAt g (o + k * 8) (encV (at' xs k)) := by
  obtain ⟨p, cap, rfl, h1, h2, h3, h4⟩ := h
  have hne : p ≠ none := fun e => by have := h3 e; omega
  obtain ⟨g, o, rfl, hg, hr⟩ := h4 hne
  exact ⟨g, o, cap, rfl, hg, cells_part encV_ok hr (at_get hk)⟩
theorem ints_at {w : World} {B T n : Nat} {v : Value} {L : List Int} (h : OwnL encI 1 w B T v L) (hn : L.length = n) (hl : 1 ≤ n) : ∃ g cap, v = .slice (some ⟨g, 0, none⟩) n cap ∧ g < w.heap.size ∧ ∀ k z, L[k]? = some z → w.cell? ⟨g, k, none⟩ = some (.int .i64 z) := by
  subst hn
  have h1 := own_ints h
  obtain ⟨p, cap, rfl, h2⟩ := intsAt_of_own h1
  obtain ⟨g, off, rfl, h3⟩ := h2 (by intro e; rw [e] at hl; simp at hl)
  rcases h.2 with ⟨e, -⟩ | ⟨g', cap', cur, e, -, hg, -⟩
  · cases e
  · simp only [Value.slice.injEq, Option.some.injEq, Addr.mk.injEq, and_true] at e
    obtain ⟨⟨rfl, rfl⟩, -⟩ := e
    refine ⟨_, _, rfl, (Array.getElem?_eq_some_iff.1 hg).1, fun k z hz => ?_⟩
    have hk := (List.getElem?_eq_some_iff.1 hz).1
    have := h3 k hk
    rw [Nat.zero_add] at this
    rw [this, List.getD_eq_getElem?_getD, hz]
    rfl
theorem toldZ_some (m : Int) : toldZ (some m) = .tuple #[.int .i64 m, .bool true] := rfl
theorem toldZ_none : toldZ none = .tuple #[.int .i64 0, .bool false] := rfl

end Go.Proofs.Ytdpakhggpgdgbaa
/- What the walks of the laws with surds share. -/
namespace Go.Proofs.Ytdpakhggpgdgbaa
set_option maxRecDepth 20000
open Go.ChangeShapes Go.WideShapes Go.ChangeAt Go.RowKit
set_option linter.unusedVariables false
set_option linter.unusedSimpArgs false

theorem eqs_cells (f : Nat → Int) (w : World) : (Op.equalIn 10000 37 (.agg #[.int .i64 (f 0), .int .i64 (f 1), .int .i64 (f 2), .int .i64 (f 3)]) (.agg #[.int .i64 (f 0), .int .i64 (f 1), .int .i64 (f 2), .int .i64 (f 3)])).run Try.prog w = .ok true w := by
  have h := eq_four 37 (.inl rfl) (f 0) (f 1) (f 2) (f 3) (f 0) (f 1) (f 2) (f 3) w
  simpa using h
theorem eqs_nul (w : World) : (Op.equalIn 10000 37 (.agg #[.int .i64 (nul 0), .int .i64 (nul 1), .int .i64 (nul 2), .int .i64 (nul 3)]) (.agg #[.int .i64 0, .int .i64 0, .int .i64 0, .int .i64 0])).run Try.prog w = .ok true w := eqs_cells nul w
theorem okf_same {a b : Nat → Int} (h : ∀ j, j < 4 → a j = b j) : okf a = okf b := by
  unfold okf; rw [h 0 (by omega), h 1 (by omega), h 2 (by omega), h 3 (by omega)]
theorem tls_is {v : Bool} {c d : Nat → Int} (h : ∀ j, j < 4 → c j = d j) (hv : (v && okf d) = true) : tls v c = .tuple #[.agg (vec 4 d), .bool true] := by
  simp only [tls, okf_same h, hv, if_true]
  rw [show p4 c = p4 d by unfold p4; rw [vec_same h]]
theorem tls_some (v : Bool) (f : Nat → Int) : ∃ c u, tls v f = .tuple #[.agg (vec 4 c), .bool u] ∧ (u = true → v = true ∧ okf f = true ∧ c = f) := by
  by_cases h : (v && okf f) = true
  · exact ⟨f, true, by simp [tls, h], fun _ => by simp only [Bool.and_eq_true] at h; exact ⟨h.1, h.2, rfl⟩⟩
  · exact ⟨nul, false, by simp [tls, h], fun h => by cases h⟩
theorem okf_nul4 : okf nul = true := by decide
theorem okf_neg4 {c d : Nat → Int} (hd : ∀ j, d j = -c j) (h : okf c = true) : okf d = true := by
  unfold okf okr rng at h ⊢
  simp only [Bool.and_eq_true, decide_eq_true_iff, hd] at h ⊢
  omega
theorem okf_wrap {c d : Nat → Int} (hd : ∀ j, d j = -c j) (h : okf c = true) : ∀ j, j < 4 → IntKind.i64.wrap (-c j) = d j := fun j hj => by
  unfold okf okr rng at h
  simp only [Bool.and_eq_true, decide_eq_true_iff] at h
  rw [hd, IntKind.wrap_i64]
  have : j = 0 ∨ j = 1 ∨ j = 2 ∨ j = 3 := by omega
  rcases this with rfl | rfl | rfl | rfl <;> omega

end Go.Proofs.Ytdpakhggpgdgbaa
/- What the walks of the laws with a polygon and a point share. -/
namespace Go.Proofs.Ytdpakhggpgdgbaa
set_option maxRecDepth 20000
open Go.ChangeShapes Go.WideShapes Go.ChangeAt Go.RowKit
set_option linter.unusedVariables false
set_option linter.unusedSimpArgs false

section
variable {P : Program} {ops : Array Oper} {rest : List Oper} {o : Oper} {a : Act} {Q : Exit → Act → World → Prop} {w : World}
/-- A row that is read behind '&&' or '||'. -/
theorem load_row_on {T ty : TypeId} {d : TypeDesc} {g : Nat} {f : Nat → Int} (hw : Region.wanted o (yielded ops a.tmps) = true) {x : Operand} (ho : o.op = .load T x) (hx : a.eval x = .pointer (some ⟨g, 0, none⟩)) (hr : RowAt w g 8 ty f)
    (hu : P.underlying T = some d) (hd : d.isRow = true) (hi : (P.info? T).map (·.size) = some 8)
    (h : wpList P ops Q rest (a.put o.dst (.agg (vec 8 f))) w) : wpList P ops Q (o :: rest) a w := load_part_on hw ho hx hr.range hu hd hi h
end

end Go.Proofs.Ytdpakhggpgdgbaa
