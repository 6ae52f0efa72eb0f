/-
  impl's functions of surds.
-/
import Derived.Test.YtcdlenphgenejaaSurdD
import Derived.Test.YtcdlenphgenejaaCycF
namespace Go.Proofs.Ytcdlenphgenejaa
set_option maxRecDepth 20000
open Go.ChangeShapes Go.WideShapes Go.ChangeAt Go.RowKit
set_option linter.unusedVariables false
set_option linter.unusedSimpArgs false

theorem zero4 : (#[.int .i64 0, .int .i64 0, .int .i64 0, .int .i64 0] : Array Value) = vec 4 (fun _ => 0) := rfl
/-- A surd as a value, by its four numbers. -/
abbrev p4 (f : Nat → Int) : Value := .agg (vec 4 f)
def okf (f : Nat → Int) : Bool := okr (f 0) (f 1) (f 2) (f 3)
/-- What is told of a surd. -/
def tls (v : Bool) (f : Nat → Int) : Value := if v && okf f then .tuple #[p4 f, .bool true] else .tuple #[p4 nul, .bool false]
theorem tls_no4 (f : Nat → Int) : tls false f = .tuple #[p4 nul, .bool false] := rfl
theorem ans_no4 (f : Nat → Int) : tls false f = .tuple #[p4 nul, .bool false] := rfl
theorem ans_yes4 {f : Nat → Int} (h : okf f = true) : tls true f = .tuple #[p4 f, .bool true] := by simp [tls, h]
theorem ans_bad4 {f : Nat → Int} (h : okf f = false) : tls true f = .tuple #[p4 nul, .bool false] := by simp [tls, h]
theorem tell_tls (f : Nat → Int) : tell (f 0) (f 1) (f 2) (f 3) = tls true f := by
  cases h : okf f
  · rw [ans_bad4 h, tell_f h]; rfl
  · rw [ans_yes4 h, tell_t h]; rfl
theorem okf_in {f : Nat → Int} (h : okf f = true) : (-10000000 ≤ f 0 ∧ f 0 ≤ 10000000) ∧ (-10000000 ≤ f 1 ∧ f 1 ≤ 10000000) ∧ (-10000000 ≤ f 2 ∧ f 2 ≤ 10000000) ∧ (-10000000 ≤ f 3 ∧ f 3 ≤ 10000000) := okr_in h
theorem radicalOf_at (a : Nat → Int) (w : World) : Calls Try.prog 51 #[p4 a] w fun e w' => e = .returned (tls true a) ∧ Below w.heap.size w w' := by
  rw [← tell_tls]; exact radicalOf_any (a 0) (a 1) (a 2) (a 3) w
theorem rtold_at (a : Nat → Int) (w : World) : Calls Try.prog 56 #[p4 a] w fun e w' => e = .returned (tls true a) ∧ Below w.heap.size w w' := by
  rw [← tell_tls]; exact rtold_any (a 0) (a 1) (a 2) (a 3) w
def box24 (w : World) (a b : Nat → Int) (T O : TypeId) : World := ((w.alloc (.cells (vec 4 a) T)).alloc (.cells (vec 4 b) T)).alloc (.cells (vec 4 nul) O)
theorem box2_facts4 (w : World) (a b : Nat → Int) (T O : TypeId) : RowAt (box24 w a b T O) w.heap.size 4 T a ∧ RowAt (box24 w a b T O) (w.heap.size + 1) 4 T b ∧ RowAt (box24 w a b T O) (w.heap.size + 1 + 1) 4 O nul ∧ Below w.heap.size w (box24 w a b T O) :=
  ⟨((RowAt.newAt rfl rfl).alloc _).alloc _, (RowAt.newAt rfl (by simp)).alloc _, RowAt.newAt rfl (by simp), (((Below.refl _ _).alloc (Nat.le_refl _) _).alloc (by simp) _).alloc (by simp; omega) _⟩
def box14 (w : World) (a : Nat → Int) (T O : TypeId) : World := (w.alloc (.cells (vec 4 a) T)).alloc (.cells (vec 4 nul) O)
theorem box1_facts4 (w : World) (a : Nat → Int) (T O : TypeId) : RowAt (box14 w a T O) w.heap.size 4 T a ∧ RowAt (box14 w a T O) (w.heap.size + 1) 4 O nul ∧ Below w.heap.size w (box14 w a T O) :=
  ⟨(RowAt.newAt rfl rfl).alloc _, RowAt.newAt rfl (by simp), ((Below.refl _ _).alloc (Nat.le_refl _) _).alloc (by simp) _⟩
def box04 (w : World) (a : Nat → Int) (T : TypeId) : World := w.alloc (.cells (vec 4 a) T)
theorem box0_facts4 (w : World) (a : Nat → Int) (T : TypeId) : RowAt (box04 w a T) w.heap.size 4 T a ∧ Below w.heap.size w (box04 w a T) := ⟨RowAt.newAt rfl rfl, (Below.refl _ _).alloc (Nat.le_refl _) _⟩
theorem pair_first4 (w : World) (E : TypeId) : RowAt ((w.alloc (.cells (vec 4 nul) E)).alloc (.cells (vec 4 nul) E)) w.heap.size 4 E nul := (RowAt.newAt rfl rfl : RowAt _ _ 4 E nul).alloc _
theorem pair_second4 (w : World) (a : Nat → Int) (E : TypeId) : RowAt (((w.alloc (.cells (vec 4 nul) E)).alloc (.cells (vec 4 nul) E)).setRow w.heap.size (vec 4 a)) (w.heap.size + 1) 4 E nul :=
  (RowAt.newAt rfl (by simp) : RowAt _ _ 4 E nul).rowOther _ _ (by omega)
def two4 (w : World) (a b : Nat → Int) (E : TypeId) : World := (((w.alloc (.cells (vec 4 nul) E)).alloc (.cells (vec 4 nul) E)).setRow w.heap.size (vec 4 a)).setRow (w.heap.size + 1) (vec 4 b)
theorem two_first4 (w : World) (a b : Nat → Int) (E : TypeId) : RowAt (two4 w a b E) w.heap.size 4 E a := (((RowAt.newAt rfl rfl : RowAt _ _ 4 E nul).alloc _).setRow).rowOther _ _ (by omega)
theorem two_second4 (w : World) (a b : Nat → Int) (E : TypeId) : RowAt (two4 w a b E) (w.heap.size + 1) 4 E b := ((RowAt.newAt rfl (by simp) : RowAt _ _ 4 E nul).rowOther _ _ (by omega)).setRow
theorem two_keep4 {w : World} {g n : Nat} {T : TypeId} {f : Nat → Int} (h : RowAt w g n T f) (a b : Nat → Int) (E : TypeId) : RowAt (two4 w a b E) g n T f :=
  have := h.lt
  (((h.alloc _).alloc _).rowOther _ _ (by omega)).rowOther _ _ (by omega)
theorem two_below4 {w W : World} (h : Below w.heap.size w W) (a b : Nat → Int) (E : TypeId) : Below w.heap.size w (two4 W a b E) :=
  have := h.size
  below_setRow (below_setRow ((h.alloc this _).alloc (by simp; omega) _) this _) (by omega) _
def sole4 (w : World) (a : Nat → Int) (E : TypeId) : World := (w.alloc (.cells (vec 4 nul) E)).setRow w.heap.size (vec 4 a)
theorem sole_first4 (w : World) (a : Nat → Int) (E : TypeId) : RowAt (sole4 w a E) w.heap.size 4 E a := (RowAt.newAt rfl rfl : RowAt _ _ 4 E nul).setRow
theorem sole_keep4 {w : World} {g n : Nat} {T : TypeId} {f : Nat → Int} (h : RowAt w g n T f) (a : Nat → Int) (E : TypeId) : RowAt (sole4 w a E) g n T f :=
  have := h.lt
  (h.alloc _).rowOther _ _ (by omega)
theorem sole_below4 {w W : World} (h : Below w.heap.size w W) (a : Nat → Int) (E : TypeId) : Below w.heap.size w (sole4 W a E) :=
  have := h.size
  below_setRow (h.alloc this _) this _
theorem radicalOf_yes (a : Nat → Int) (h : okf a = true) (w : World) :
    Calls Try.prog 51 #[p4 a] w fun e w' => e = .returned (.tuple #[p4 a, .bool true]) ∧ Below w.heap.size w w' := by
  rw [← ans_yes4 h]; exact radicalOf_at a w
theorem radicalOf_no (a : Nat → Int) (h : okf a = false) (w : World) :
    Calls Try.prog 51 #[p4 a] w fun e w' => e = .returned (.tuple #[p4 nul, .bool false]) ∧ Below w.heap.size w w' := by
  rw [← ans_bad4 h]; exact radicalOf_at a w
theorem told_yes4 (a : Nat → Int) (h : okf a = true) (w : World) :
    Calls Try.prog 56 #[p4 a] w fun e w' => e = .returned (.tuple #[p4 a, .bool true]) ∧ Below w.heap.size w w' := by
  rw [← ans_yes4 h]; exact rtold_at a w
theorem told_no4 (a : Nat → Int) (h : okf a = false) (w : World) :
    Calls Try.prog 56 #[p4 a] w fun e w' => e = .returned (.tuple #[p4 nul, .bool false]) ∧ Below w.heap.size w w' := by
  rw [← ans_bad4 h]; exact rtold_at a w

/-- What exactOf's two4 answers are. -/
theorem radicalOf_two (a : Nat → Int) (w : World) :
    Calls Try.prog 51 #[p4 a] w fun e w' => e = .returned (.tuple #[p4 (if okf a then a else nul), .bool (okf a)]) ∧ Below w.heap.size w w' := by
  cases h : okf a
  · exact radicalOf_no a h w
  · exact radicalOf_yes a h w
theorem told_two4 (a : Nat → Int) (w : World) :
    Calls Try.prog 56 #[p4 a] w fun e w' => e = .returned (.tuple #[p4 (if okf a then a else nul), .bool (okf a)]) ∧ Below w.heap.size w w' := by
  cases h : okf a
  · exact told_no4 a h w
  · exact told_yes4 a h w

theorem radicalPair_at (a b : Nat → Int) (w : World) :
    Calls Try.prog 54 #[p4 a, p4 b] w fun e w' => e = .returned (.tuple #[p4 (if okf a && okf b then a else nul), p4 (if okf a && okf b then b else nul), .bool (okf a && okf b)]) ∧ Below w.heap.size w w' := by
  have sa := vec_size 4 a
  have sb := vec_size 4 b
  have CA := fun w => radicalOf_two a w
  have CB := fun w => radicalOf_two b w
  generalize hva : okf a = va at *
  generalize hvb : okf b = vb at *
  generalize ha' : (if va then a else nul) = a' at *
  generalize hb' : (if vb then b else nul) = b' at *
  unfold p4 at *
  go_enter Try.func54, Try.ntmps54
  go_upto_region 1 with fail
  go_cut [2, 3, 4, 5, 6, 7, 8] (fun s2 s3 s4 s5 s6 s7 s8 wx => ∃ g : Nat, s2 = .pointer (some ⟨w.heap.size, 0, none⟩) ∧ s3 = .pointer (some ⟨w.heap.size + 1, 0, none⟩) ∧ s4 = .pointer (some ⟨w.heap.size + 1 + 1, 0, none⟩) ∧ s5 = .pointer (some ⟨w.heap.size + 1 + 1 + 1, 0, none⟩) ∧ s7 = .pointer (some ⟨g, 0, none⟩) ∧ s8 = .bool va ∧ w.heap.size + 1 + 1 + 1 < g ∧
      RowAt wx (w.heap.size + 1) 4 24 b ∧ RowAt wx (w.heap.size + 1 + 1) 4 57 nul ∧ RowAt wx (w.heap.size + 1 + 1 + 1) 4 57 nul ∧ RowAt wx g 4 57 a' ∧ Below w.heap.size w wx)
  case first =>
    have hA : RowAt (((w.alloc (.cells (vec 4 a) 24)).alloc (.cells (vec 4 b) 24)).alloc (.cells (vec 4 nul) 57) |>.alloc (.cells (vec 4 nul) 57)) w.heap.size 4 24 a := (((RowAt.newAt rfl rfl).alloc _).alloc _).alloc _
    have hB : RowAt (((w.alloc (.cells (vec 4 a) 24)).alloc (.cells (vec 4 b) 24)).alloc (.cells (vec 4 nul) 57) |>.alloc (.cells (vec 4 nul) 57)) (w.heap.size + 1) 4 24 b := ((RowAt.newAt rfl (by simp)).alloc _).alloc _
    have hO : RowAt (((w.alloc (.cells (vec 4 a) 24)).alloc (.cells (vec 4 b) 24)).alloc (.cells (vec 4 nul) 57) |>.alloc (.cells (vec 4 nul) 57)) (w.heap.size + 1 + 1) 4 57 nul := (RowAt.newAt rfl (by simp)).alloc _
    have hQ : RowAt (((w.alloc (.cells (vec 4 a) 24)).alloc (.cells (vec 4 b) 24)).alloc (.cells (vec 4 nul) 57) |>.alloc (.cells (vec 4 nul) 57)) (w.heap.size + 1 + 1 + 1) 4 57 nul := RowAt.newAt rfl (by simp)
    have hL : Below w.heap.size w (((w.alloc (.cells (vec 4 a) 24)).alloc (.cells (vec 4 b) 24)).alloc (.cells (vec 4 nul) 57) |>.alloc (.cells (vec 4 nul) 57)) := ((((Below.refl _ _).alloc (Nat.le_refl _) _).alloc (by simp) _).alloc (by simp; omega) _).alloc (by simp; omega) _
    go_wp2_with (refine load_row rfl rfl rfl hA Try.underlying24 rfl info_surd ?_)
    refine (CA _).mono ?_; rintro e w2 ⟨rfl, hb2⟩
    have hB2 := hB.below hb2
    have hO2 := hO.below hb2
    have hQ2 := hQ.below hb2
    have hL2 := below_next hL hb2
    have z2 := hQ2.lt
    clear CA CB hA hB hO hQ hL hb2
    go_wp2_with (refine store_row rfl rfl rfl rfl (RowAt.newAt zero4 rfl) info_radical ?_)
    go_meet
    exact ⟨w2.heap.size, rfl, rfl, rfl, rfl, rfl, rfl, z2, (hB2.alloc _).rowOther _ _ (by omega), (hO2.alloc _).rowOther _ _ (by omega), (hQ2.alloc _).rowOther _ _ (by omega), (RowAt.newAt zero4 rfl).setRow, below_setRow (hL2.alloc (by omega) _) (by omega) _⟩
  case rest =>
  obtain ⟨g, rfl, rfl, rfl, rfl, rfl, rfl, hg, hB, hO, hQ, hA', hL⟩ := hcut
  go_upto_region 2 with fail
  go_cut [9, 10] (fun s9 s10 wx => ∃ g' : Nat, s9 = .pointer (some ⟨g', 0, none⟩) ∧ s10 = .bool vb ∧ w.heap.size + 1 + 1 + 1 < g' ∧ g ≠ g' ∧
      RowAt wx (w.heap.size + 1 + 1) 4 57 nul ∧ RowAt wx (w.heap.size + 1 + 1 + 1) 4 57 nul ∧ RowAt wx g 4 57 a' ∧ RowAt wx g' 4 57 b' ∧ Below w.heap.size w wx)
  case first =>
    have HO := Lib.hid hO; have HQ := Lib.hid hQ; have HA := Lib.hid hA'; have HL := Lib.hid hL
    clear hO hQ hA' hL
    go_wp2_with (refine load_row rfl rfl rfl hB Try.underlying24 rfl info_surd ?_)
    refine (CB _).mono ?_; rintro e w2 ⟨rfl, hb2⟩
    have hO2 := HO.out.below hb2
    have hQ2 := HQ.out.below hb2
    have hA2 := HA.out.below hb2
    have hL2 := below_next HL.out hb2
    have z2 := hQ2.lt
    have z3 := hA2.lt
    clear CA CB hB HO HQ HA HL hb2
    go_wp2_with (refine store_row rfl rfl rfl rfl (RowAt.newAt zero4 rfl) info_radical ?_)
    go_meet
    exact ⟨w2.heap.size, rfl, rfl, z2, by omega, (hO2.alloc _).rowOther _ _ (by omega), (hQ2.alloc _).rowOther _ _ (by omega), (hA2.alloc _).rowOther _ _ (by omega), (RowAt.newAt zero4 rfl).setRow, below_setRow (hL2.alloc (by omega) _) (by omega) _⟩
  case rest =>
  clear hO hQ hA' hL hB CA CB
  obtain ⟨g', rfl, rfl, hg', hne, hO, hQ, hA', hB', hL⟩ := hcut
  have hO2 := hO.setRow (f' := nul)
  have hQ2 := (hQ.rowOther (w.heap.size + 1 + 1) (vec 4 nul) (by omega))
  cases va
  · cases vb <;>
    · go_wp2_with (first | (refine store_row rfl rfl rfl (show _ = Value.agg (vec 4 nul) from rfl) hO info_radical ?_) | (refine store_row rfl rfl rfl (show _ = Value.agg (vec 4 nul) from rfl) hQ2 info_radical ?_))
      refine bodyPost_ret (results_row2_tmp rfl rfl rfl (hO2.rowOther _ _ (by omega)) hQ2.setRow Try.underlying57 rfl info_radical Try.underlying57 rfl info_radical) rfl ?_
      exact ⟨rfl, below_setRow (below_setRow hL (by omega) _) (by omega) _⟩
  · cases vb
    · go_wp2_with (first | (refine store_row rfl rfl rfl (show _ = Value.agg (vec 4 nul) from rfl) hO info_radical ?_) | (refine store_row rfl rfl rfl (show _ = Value.agg (vec 4 nul) from rfl) hQ2 info_radical ?_))
      refine bodyPost_ret (results_row2_tmp rfl rfl rfl (hO2.rowOther _ _ (by omega)) hQ2.setRow Try.underlying57 rfl info_radical Try.underlying57 rfl info_radical) rfl ?_
      exact ⟨rfl, below_setRow (below_setRow hL (by omega) _) (by omega) _⟩
    · obtain rfl : a' = a := ha'.symm
      obtain rfl : b' = b := hb'.symm
      have hu := Try.underlying57
      have iA : (Try.prog.info? 57).map (·.size) = some (lst 4 a').length := by rw [lst_length]; exact info_radical
      have iB : (Try.prog.info? 57).map (·.size) = some (lst 4 b').length := by rw [lst_length]; exact info_radical
      go_wp2_with fail
      refine wp_region_held_drew (S := fun w' => RowAt w' g 4 57 a' ∧ RowAt w' g' 4 57 b' ∧ (∃ f, RowAt w' (w.heap.size + 1 + 1) 4 57 f) ∧ (∃ f, RowAt w' (w.heap.size + 1 + 1 + 1) 4 57 f) ∧ Below w.heap.size w w') (by kernel_rfl) ⟨hA'.drew1, hB'.drew1, ⟨_, hO.drew1⟩, ⟨_, hQ.drew1⟩, hL.drew⟩ (fun hHeld => ?_)
      refine wpAnyH_take (i := 0) (oi := _) (v := .agg (vec 4 a')) rfl (by kernel_rfl) (by kernel_rfl) (by kernel_rfl) (fun _ _ _ h => h) (yieldsIf_load_mid (by rfl) _ _ rfl _ _ rfl _ _ (fun w h => h.1.range) hu rfl iA) hHeld ?_
      try simp only [Act.put, List.setIfInBounds_toArray, List.set_cons_zero, List.set_cons_succ]
      refine wpAnyH_take (i := 1) (oi := _) (v := .agg (vec 4 b')) rfl (by kernel_rfl) (by kernel_rfl) (by kernel_rfl) (fun _ _ _ h => h) (yieldsIf_load_mid (by rfl) _ _ rfl _ _ rfl _ _ (fun w h => h.2.1.range) hu rfl iB) hHeld ?_
      try simp only [Act.put, List.setIfInBounds_toArray, List.set_cons_zero, List.set_cons_succ]
      refine wpAnyH_ready (rs := [2]) (by kernel_rfl) (by simp) ?_
      obtain ⟨h1, h2, ⟨_, h3⟩, ⟨_, h4⟩, h5⟩ := hHeld
      refine AllReadyH.cons (o := _) rfl (fun K hK => ?_) AllReadyH.nil
      rw [if_pos (by rfl)]
      refine store_step rfl rfl rfl h3 info_radical ?_
      refine hK.out _ _ ⟨h1.rowOther _ _ (by omega), h2.rowOther _ _ (by omega), ⟨_, h3.setRow⟩, ⟨_, h4.rowOther _ _ (by omega)⟩, below_setRow h5 (by omega) _⟩ (fun hHeld => ?_)
      clear hK K
      try simp only [Act.put, List.setIfInBounds_toArray, List.set_cons_zero, List.set_cons_succ]
      have k3 := h3.setRow (f' := a')
      have k4 := h4.rowOther (w.heap.size + 1 + 1) (vec 4 a') (by omega)
      have k5 := below_setRow h5 (g := w.heap.size + 1 + 1) (by omega) (vec 4 a')
      refine wpAnyH_ready (rs := [3]) (by kernel_rfl) (by simp) ?_
      refine AllReadyH.cons (o := _) rfl (fun K hK => ?_) AllReadyH.nil
      rw [if_pos (by rfl)]
      refine store_step rfl rfl rfl k4 info_radical ?_
      obtain ⟨h1, h2, _, _, h5⟩ := hHeld
      refine hK.out _ _ ⟨h1.rowOther _ _ (by omega), h2.rowOther _ _ (by omega), ⟨_, k3.rowOther _ _ (by omega)⟩, ⟨_, k4.setRow⟩, below_setRow h5 (by omega) _⟩ (fun hHeld => ?_)
      clear hK K
      try simp only [Act.put, List.setIfInBounds_toArray, List.set_cons_zero, List.set_cons_succ]
      have m3 := k3.rowOther (w.heap.size + 1 + 1 + 1) (vec 4 b') (by omega)
      have m4 := k4.setRow (f' := b')
      have m5 := below_setRow k5 (g := w.heap.size + 1 + 1 + 1) (by omega) (vec 4 b')
      refine wpAnyH_ready (rs := [4]) (by kernel_rfl) (by simp) ?_
      refine AllReadyH.cons (o := _) rfl (fun K hK => ?_) AllReadyH.nil
      go_simp
      refine hK.out _ _ hHeld (fun hHeld => ?_)
      clear hK K
      try simp only [Act.put, List.setIfInBounds_toArray, List.set_cons_zero, List.set_cons_succ]
      refine wpAnyH_done (by kernel_rfl) ?_ _
      go_wp2_with fail
      refine bodyPost_ret (results_row2_tmp rfl rfl rfl m3 m4 Try.underlying57 rfl info_radical Try.underlying57 rfl info_radical) rfl ?_
      exact ⟨rfl, m5⟩
theorem told_some4 (c : Nat → Int) : ∃ c' v', (∀ w, Calls Try.prog 56 #[.agg (vec 4 c)] w fun e w' => e = .returned (.tuple #[.agg (vec 4 c'), .bool v']) ∧ Below w.heap.size w w') ∧ tls true c = .tuple #[.agg (vec 4 c'), .bool v'] :=
  ⟨if okf c then c else nul, okf c, told_two4 c, by cases h : okf c <;> simp [tls, h]⟩
/-- Four times a product. -/
def stm (a b : Nat → Int) : Nat → Int := f4 (a 0 * b 0 + 2 * a 1 * b 1 + 3 * a 2 * b 2 + 6 * a 3 * b 3) (a 0 * b 1 + a 1 * b 0 + 3 * (a 2 * b 3 + a 3 * b 2)) (a 0 * b 2 + a 2 * b 0 + 2 * (a 1 * b 3 + a 3 * b 1)) (a 0 * b 3 + a 3 * b 0 + a 1 * b 2 + a 2 * b 1)
theorem rtimes_at (a b : Nat → Int) (ha : okf a = true) (hb : okf b = true) (w : World) : Calls Try.prog 73 #[p4 a, p4 b] w fun e w' => e = .returned (p4 (stm a b)) ∧ Below w.heap.size w w' := by
  obtain ⟨h0, h1, h2, h3⟩ := okf_in ha
  obtain ⟨k0, k1, k2, k3⟩ := okf_in hb
  exact rtimes_any (a 0) (a 1) (a 2) (a 3) (b 0) (b 1) (b 2) (b 3) h0 h1 h2 h3 k0 k1 k2 k3 w
theorem rplus_at (a b : Nat → Int) (ha : okf a = true) (hb : okf b = true) (w : World) : Calls Try.prog 55 #[p4 a, p4 b] w fun e w' => e = .returned (p4 (add a b)) ∧ Below w.heap.size w w' := by
  obtain ⟨h0, h1, h2, h3⟩ := okf_in ha
  obtain ⟨k0, k1, k2, k3⟩ := okf_in hb
  exact rplus_any (a 0) (a 1) (a 2) (a 3) (b 0) (b 1) (b 2) (b 3) (by omega) (by omega) (by omega) (by omega) (by omega) (by omega) (by omega) (by omega) w
set_option maxHeartbeats 1000000 in
theorem SurdTimes_any (a b : Nat → Int) (w : World) :
    Calls Try.prog 33 #[p4 a, p4 b] w fun e w' => e = .returned (tls (okf a && okf b) (stm a b)) ∧ Below w.heap.size w w' := by
  have sa := vec_size 4 a
  have sb := vec_size 4 b
  cases hv : okf a && okf b
  · rw [ans_no4]
    have P : ∀ w, Calls Try.prog 54 #[p4 a, p4 b] w fun e w' => e = .returned (.tuple #[p4 nul, p4 nul, .bool false]) ∧ Below w.heap.size w w' := fun w => by
      have := radicalPair_at a b w
      rw [hv] at this
      exact this
    unfold p4 at *
    clear hv
    go_enter Try.func33, Try.ntmps33
    go_upto_region 1 with fail
    show Code.wp _ _ _ _ (box24 w a b 24 24)
    obtain ⟨hA, hB, hO, hL⟩ := box2_facts4 w a b 24 24
    generalize box24 w a b 24 24 = W at *
    go_wp2_with (first | (refine load_row rfl rfl rfl hA Try.underlying24 rfl info_surd ?_) | (refine load_row rfl rfl rfl hB Try.underlying24 rfl info_surd ?_))
    refine (P _).mono ?_; rintro e w2 ⟨rfl, hb2⟩
    have hO2 := hO.below hb2
    have hL2 := below_next hL hb2
    clear hA hB hO hL hb2 P
    have hS6 := pair_first4 w2 57
    have hS7 := pair_second4 w2 nul 57
    go_upto_region 2 with (first | (refine store_row (g := w2.heap.size) rfl rfl rfl rfl hS6 info_radical ?_) | (refine store_row (g := w2.heap.size + 1) rfl rfl rfl rfl hS7 info_radical ?_))
    clear hS6 hS7
    show Code.wp _ _ _ _ (two4 w2 nul nul 57)
    have hA3 := two_first4 w2 nul nul 57
    have hB3 := two_second4 w2 nul nul 57
    have hO3 := two_keep4 hO2 nul nul 57
    have hL3 := two_below4 hL2 nul nul 57
    clear hO2 hL2
    generalize two4 w2 nul nul 57 = W3 at *
    go_wp2_with (refine store_row rfl rfl rfl (show _ = Value.agg (vec 4 nul) from rfl) hO3 info_surd ?_)
    refine bodyPost_ret (results_row_tmp rfl rfl hO3.setRow Try.underlying24 rfl info_surd) rfl ?_
    exact ⟨rfl, below_setRow hL3 (by omega) _⟩
  · obtain ⟨c', v', T, eT⟩ := told_some4 (stm a b)
    rw [eT]
    have P : ∀ w, Calls Try.prog 54 #[p4 a, p4 b] w fun e w' => e = .returned (.tuple #[p4 a, p4 b, .bool true]) ∧ Below w.heap.size w w' := fun w => by
      have := radicalPair_at a b w
      rw [hv] at this
      exact this
    obtain ⟨va, vb⟩ : okf a = true ∧ okf b = true := by simpa using hv
    have M := fun w => rtimes_at a b va vb w
    unfold p4 at *
    clear hv
    go_enter Try.func33, Try.ntmps33
    go_upto_region 1 with fail
    show Code.wp _ _ _ _ (box24 w a b 24 24)
    obtain ⟨hA, hB, hO, hL⟩ := box2_facts4 w a b 24 24
    generalize box24 w a b 24 24 = W at *
    go_wp2_with (first | (refine load_row rfl rfl rfl hA Try.underlying24 rfl info_surd ?_) | (refine load_row rfl rfl rfl hB Try.underlying24 rfl info_surd ?_))
    refine (P _).mono ?_; rintro e w2 ⟨rfl, hb2⟩
    have hO2 := hO.below hb2
    have hL2 := below_next hL hb2
    clear hA hB hO hL hb2 P
    have hS6 := pair_first4 w2 57
    have hS7 := pair_second4 w2 a 57
    go_upto_region 2 with (first | (refine store_row (g := w2.heap.size) rfl rfl rfl rfl hS6 info_radical ?_) | (refine store_row (g := w2.heap.size + 1) rfl rfl rfl rfl hS7 info_radical ?_))
    clear hS6 hS7
    show Code.wp _ _ _ _ (two4 w2 a b 57)
    have hA3 := two_first4 w2 a b 57
    have hB3 := two_second4 w2 a b 57
    have hO3 := two_keep4 hO2 a b 57
    have hL3 := two_below4 hL2 a b 57
    clear hO2 hL2
    generalize two4 w2 a b 57 = W3 at *
    go_wp2_with (first | (refine load_row rfl rfl rfl hA3 Try.underlying57 rfl info_radical ?_) | (refine load_row rfl rfl rfl hB3 Try.underlying57 rfl info_radical ?_))
    refine (M _).mono ?_; rintro e w4 ⟨rfl, hb4⟩
    have hO4 := hO3.below hb4
    have hL4 := below_next hL3 hb4
    clear hA3 hB3 hO3 hL3 hb4 M
    go_wp2_with fail
    refine (T _).mono ?_; rintro e w5 ⟨rfl, hb5⟩
    have hO5 := hO4.below hb5
    have hL5 := below_next hL4 hb5
    clear hO4 hL4 hb5
    go_wp2_with (refine store_row rfl rfl rfl rfl hO5 info_surd ?_)
    refine bodyPost_ret (results_row_tmp rfl rfl hO5.setRow Try.underlying24 rfl info_surd) rfl ?_
    exact ⟨rfl, below_setRow hL5 (by omega) _⟩

set_option maxHeartbeats 1000000 in
theorem SurdAdd_any (a b : Nat → Int) (w : World) :
    Calls Try.prog 19 #[p4 a, p4 b] w fun e w' => e = .returned (tls (okf a && okf b) (add a b)) ∧ Below w.heap.size w w' := by
  have sa := vec_size 4 a
  have sb := vec_size 4 b
  cases hv : okf a && okf b
  · rw [ans_no4]
    have P : ∀ w, Calls Try.prog 54 #[p4 a, p4 b] w fun e w' => e = .returned (.tuple #[p4 nul, p4 nul, .bool false]) ∧ Below w.heap.size w w' := fun w => by
      have := radicalPair_at a b w
      rw [hv] at this
      exact this
    unfold p4 at *
    clear hv
    go_enter Try.func19, Try.ntmps19
    go_upto_region 1 with fail
    show Code.wp _ _ _ _ (box24 w a b 24 24)
    obtain ⟨hA, hB, hO, hL⟩ := box2_facts4 w a b 24 24
    generalize box24 w a b 24 24 = W at *
    go_wp2_with (first | (refine load_row rfl rfl rfl hA Try.underlying24 rfl info_surd ?_) | (refine load_row rfl rfl rfl hB Try.underlying24 rfl info_surd ?_))
    refine (P _).mono ?_; rintro e w2 ⟨rfl, hb2⟩
    have hO2 := hO.below hb2
    have hL2 := below_next hL hb2
    clear hA hB hO hL hb2 P
    have hS6 := pair_first4 w2 57
    have hS7 := pair_second4 w2 nul 57
    go_upto_region 2 with (first | (refine store_row (g := w2.heap.size) rfl rfl rfl rfl hS6 info_radical ?_) | (refine store_row (g := w2.heap.size + 1) rfl rfl rfl rfl hS7 info_radical ?_))
    clear hS6 hS7
    show Code.wp _ _ _ _ (two4 w2 nul nul 57)
    have hA3 := two_first4 w2 nul nul 57
    have hB3 := two_second4 w2 nul nul 57
    have hO3 := two_keep4 hO2 nul nul 57
    have hL3 := two_below4 hL2 nul nul 57
    clear hO2 hL2
    generalize two4 w2 nul nul 57 = W3 at *
    go_wp2_with (refine store_row rfl rfl rfl (show _ = Value.agg (vec 4 nul) from rfl) hO3 info_surd ?_)
    refine bodyPost_ret (results_row_tmp rfl rfl hO3.setRow Try.underlying24 rfl info_surd) rfl ?_
    exact ⟨rfl, below_setRow hL3 (by omega) _⟩
  · obtain ⟨c', v', T, eT⟩ := told_some4 (add a b)
    rw [eT]
    have P : ∀ w, Calls Try.prog 54 #[p4 a, p4 b] w fun e w' => e = .returned (.tuple #[p4 a, p4 b, .bool true]) ∧ Below w.heap.size w w' := fun w => by
      have := radicalPair_at a b w
      rw [hv] at this
      exact this
    obtain ⟨va, vb⟩ : okf a = true ∧ okf b = true := by simpa using hv
    have M := fun w => rplus_at a b va vb w
    unfold p4 at *
    clear hv
    go_enter Try.func19, Try.ntmps19
    go_upto_region 1 with fail
    show Code.wp _ _ _ _ (box24 w a b 24 24)
    obtain ⟨hA, hB, hO, hL⟩ := box2_facts4 w a b 24 24
    generalize box24 w a b 24 24 = W at *
    go_wp2_with (first | (refine load_row rfl rfl rfl hA Try.underlying24 rfl info_surd ?_) | (refine load_row rfl rfl rfl hB Try.underlying24 rfl info_surd ?_))
    refine (P _).mono ?_; rintro e w2 ⟨rfl, hb2⟩
    have hO2 := hO.below hb2
    have hL2 := below_next hL hb2
    clear hA hB hO hL hb2 P
    have hS6 := pair_first4 w2 57
    have hS7 := pair_second4 w2 a 57
    go_upto_region 2 with (first | (refine store_row (g := w2.heap.size) rfl rfl rfl rfl hS6 info_radical ?_) | (refine store_row (g := w2.heap.size + 1) rfl rfl rfl rfl hS7 info_radical ?_))
    clear hS6 hS7
    show Code.wp _ _ _ _ (two4 w2 a b 57)
    have hA3 := two_first4 w2 a b 57
    have hB3 := two_second4 w2 a b 57
    have hO3 := two_keep4 hO2 a b 57
    have hL3 := two_below4 hL2 a b 57
    clear hO2 hL2
    generalize two4 w2 a b 57 = W3 at *
    go_wp2_with (first | (refine load_row rfl rfl rfl hA3 Try.underlying57 rfl info_radical ?_) | (refine load_row rfl rfl rfl hB3 Try.underlying57 rfl info_radical ?_))
    refine (M _).mono ?_; rintro e w4 ⟨rfl, hb4⟩
    have hO4 := hO3.below hb4
    have hL4 := below_next hL3 hb4
    clear hA3 hB3 hO3 hL3 hb4 M
    go_wp2_with fail
    refine (T _).mono ?_; rintro e w5 ⟨rfl, hb5⟩
    have hO5 := hO4.below hb5
    have hL5 := below_next hL4 hb5
    clear hO4 hL4 hb5
    go_wp2_with (refine store_row rfl rfl rfl rfl hO5 info_surd ?_)
    refine bodyPost_ret (results_row_tmp rfl rfl hO5.setRow Try.underlying24 rfl info_surd) rfl ?_
    exact ⟨rfl, below_setRow hL5 (by omega) _⟩

end Go.Proofs.Ytcdlenphgenejaa
