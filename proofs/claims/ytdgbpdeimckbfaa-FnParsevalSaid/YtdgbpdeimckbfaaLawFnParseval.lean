/-
  The walk of the law FnParseval.
-/
import Derived.Test.YtdgbpdeimckbfaaLawRowSq
import Derived.Test.YtdgbpdeimckbfaaM32
import Derived.Test.YtdgbpdeimckbfaaM34
import Derived.Test.YtdgbpdeimckbfaaM31
namespace Go.Proofs.Ytdgbpdeimckbfaa
set_option maxRecDepth 20000
open Go.ChangeShapes Go.WideShapes Go.ChangeAt Go.RowKit
set_option linter.unusedVariables false
set_option linter.unusedSimpArgs false

set_option maxHeartbeats 8000000 in
theorem lawFnParseval_walk (v : Value) (w : World) (h : CodeAt w v) : Calls Try.prog 6 #[v] w (Fine w) := by
  have D := Lib.hid (drawTransformOf v w h)
  obtain ⟨pa, pn, pc, rfl, hpn⟩ := code_length h
  clear h
  by_cases hbig : 1048576 < pn
  · have hb : (1048576 : Int) < (pn : Int) := by omega
    go_enter Try.func6, Try.ntmps6
    go_wp2_with fail
    go_ret
    exact fine_same ⟨rfl, rfl⟩
  have hb : ¬ (1048576 : Int) < (pn : Int) := by omega
  go_enter Try.func6, Try.ntmps6
  go_wp2_with fail
  refine D.out.mono ?_; rintro e w1 ⟨v2, xs, rfl, hR, hL⟩
  clear D hb
  obtain ⟨pl, cl, rfl⟩ := readsL_form hR
  have T1 := TransformOf_any _ xs w1 hR
  have T2 := fun w (h : ReadsL encV w (.slice pl xs.length cl) xs) => specTransformOf_any _ xs w h
  cases hx : trF xs with
  | none =>
    rw [hx] at T1 T2
    go_wp2_with fail
    refine (T1).mono ?_; rintro e w2 ⟨hb, vO, rfl, ho⟩
    replace hR := hR.below hb
    replace hL := below_next hL hb
    have hO : ReadsL encV w2 vO ([]) := ownL_reads ho
    clear hb ho
    go_wp2_with fail
    refine (T2 _ hR).mono ?_; rintro e w3 ⟨hb, vW, rfl, ho⟩
    replace hR := hR.below hb
    replace hO := hO.below hb
    replace hL := below_next hL hb
    have hW : ReadsL encV w3 vW ([]) := ownL_reads ho
    clear hb ho
    clear T1 T2
    go_wp2_with fail
    refine (sameC_self vO vW _ _ hO hW).mono ?_; rintro e w4 ⟨rfl, hb⟩
    replace hR := hR.below hb
    replace hO := hO.below hb
    replace hW := hW.below hb
    replace hL := below_next hL hb
    clear hb
    go_wp2_with fail
    refine (sameC_self vO vW _ _ hO hW).mono ?_; rintro e w5 ⟨rfl, hb⟩
    replace hR := hR.below hb
    replace hO := hO.below hb
    replace hW := hW.below hb
    replace hL := below_next hL hb
    clear hb
    go_wp2
    go_ret
    exact ⟨rfl, hL⟩
  | some R =>
    rw [hx] at T1 T2
    go_wp2_with fail
    refine (T1).mono ?_; rintro e w2 ⟨hb, vO, rfl, ho⟩
    replace hR := hR.below hb
    replace hL := below_next hL hb
    have hO : ReadsL encV w2 vO (R) := ownL_reads ho
    clear hb ho
    go_wp2_with fail
    refine (T2 _ hR).mono ?_; rintro e w3 ⟨hb, vW, rfl, ho⟩
    replace hR := hR.below hb
    replace hO := hO.below hb
    replace hL := below_next hL hb
    have hW : ReadsL encV w3 vW (R) := ownL_reads ho
    clear hb ho
    clear T1 T2
    go_wp2_with fail
    refine (sameC_self vO vW _ _ hO hW).mono ?_; rintro e w4 ⟨rfl, hb⟩
    replace hR := hR.below hb
    replace hO := hO.below hb
    replace hW := hW.below hb
    replace hL := below_next hL hb
    clear hb
    clear hW
    have hok := (trO_some hx).1
    have h24 := (rowOk_short hok).2
    have T3 := RowSquares_any vO R w4 hO
    unfold surdO at T3
    have hsay : ∀ s t, sqR R = some s → sqR xs = some t → ∀ j, j < 4 → s j = xs.length * t j := fun s t h1 h2 => say_kept hx h1 h2
    clear hx hok
    generalize sqR R = o2 at *
    go_wp2_with fail
    refine (T3).mono ?_; rintro e w5 ⟨rfl, hb⟩
    replace hR := hR.below hb
    replace hO := hO.below hb
    replace hL := below_next hL hb
    clear hb
    clear T3 hO
    generalize hf : o2.getD nul = f at *
    generalize hp : o2.isSome = p at *
    go_upto_region 9 with (refine store_new (n := 4) (ty := 43) (f' := f) rfl rfl rfl rfl zero4 info_surd ?_)
    show Code.wp _ _ _ _ (w5.alloc (.cells (vec 4 f) 43))
    replace hR := readsL_box hR (.cells (vec 4 f) 43)
    have rA := RowAt.new w5 4 43 f
    replace hL := hL.alloc hL.size (.cells (vec 4 f) 43)
    generalize w5.heap.size = g_rA at *
    generalize w5.alloc (.cells (vec 4 f) 43) = B5 at *
    have T3 := RowSquares_any _ xs _ hR
    unfold surdO at T3
    have hB : ∀ j, j < 4 → -10000000 ≤ (sqR xs).getD nul j ∧ (sqR xs).getD nul j ≤ 10000000 := fun j hj => sqR_bound xs j hj
    generalize sqR xs = o3 at *
    go_wp2_with fail
    refine (T3).mono ?_; rintro e w6 ⟨rfl, hb⟩
    replace hR := hR.below hb
    replace rA := rA.below hb
    replace hL := below_next hL hb
    clear hb
    clear T3
    generalize hg : o3.getD nul = b at *
    generalize hq : o3.isSome = q at *
    go_upto_region 10 with (refine store_new (n := 4) (ty := 43) (f' := b) rfl rfl rfl rfl zero4 info_surd ?_)
    show Code.wp _ _ _ _ (w6.alloc (.cells (vec 4 b) 43))
    replace rA := rA.alloc (.cells (vec 4 b) 43)
    replace hR := readsL_box hR (.cells (vec 4 b) 43)
    have rB := RowAt.new w6 4 43 b
    replace hL := hL.alloc hL.size (.cells (vec 4 b) 43)
    generalize w6.heap.size = g_rB at *
    generalize w6.alloc (.cells (vec 4 b) 43) = B6 at *
    have b0 := hB 0 (by omega)
    have b1 := hB 1 (by omega)
    have b2 := hB 2 (by omega)
    have b3 := hB 3 (by omega)
    have c0 := rB.cell (k := 0) (by omega)
    have c1 := rB.cell (k := 1) (by omega)
    have c2 := rB.cell (k := 2) (by omega)
    have c3 := rB.cell (k := 3) (by omega)
    have hsay2 : p = true → q = true → ∀ j, j < 4 → f j = xs.length * b j := fun h1 h2 j hj => by
      subst hp hq hf hg
      cases o2 with
      | none => cases h1
      | some s => cases o3 with
        | none => cases h2
        | some t => exact hsay s t rfl rfl j hj
    clear hsay hf hp hg hq hR hB
    obtain ⟨F, hF⟩ : ∃ F : Nat → Int, F = fun j => xs.length * b j := ⟨_, rfl⟩
    have m0 : (xs.length : Int) * b 0 = F 0 := by rw [hF]
    have m1 : (xs.length : Int) * b 1 = F 1 := by rw [hF]
    have m2 : (xs.length : Int) * b 2 = F 2 := by rw [hF]
    have m3 : (xs.length : Int) * b 3 = F 3 := by rw [hF]
    have hsay3 : p = true → q = true → vec 4 f = vec 4 F := fun h1 h2 => vec_same fun j hj => by rw [hF]; exact hsay2 h1 h2 j hj
    have B : ∀ x : Int, -10000000 ≤ x → x ≤ 10000000 → -240000000 ≤ (xs.length : Int) * x ∧ (xs.length : Int) * x ≤ 240000000 := fun x h1 h2 => len_times (by omega) h1 h2
    have k0 := B _ b0.1 b0.2
    have k1 := B _ b1.1 b1.2
    have k2 := B _ b2.1 b2.2
    have k3 := B _ b3.1 b3.2
    rw [m0] at k0
    rw [m1] at k1
    rw [m2] at k2
    rw [m3] at k3
    have q0 : IntKind.i64.wrap (F 0) = F 0 := by rw [IntKind.wrap_i64]; omega
    have q1 : IntKind.i64.wrap (F 1) = F 1 := by rw [IntKind.wrap_i64]; omega
    have q2 : IntKind.i64.wrap (F 2) = F 2 := by rw [IntKind.wrap_i64]; omega
    have q3 : IntKind.i64.wrap (F 3) = F 3 := by rw [IntKind.wrap_i64]; omega
    clear B b0 b1 b2 b3 k0 k1 k2 k3 hF hsay2 h24
    go_upto_region 12 with (refine store_new (n := 4) (ty := 43) (f' := F) rfl rfl rfl rfl zero4 info_surd ?_)
    show Code.wp _ _ _ _ (B6.alloc (.cells (vec 4 F) 43))
    replace rA := rA.alloc (.cells (vec 4 F) 43)
    have rD := RowAt.new B6 4 43 F
    replace hL := hL.alloc hL.size (.cells (vec 4 F) 43)
    generalize B6.heap.size = g_rD at *
    generalize B6.alloc (.cells (vec 4 F) 43) = B9 at *
    clear c0 c1 c2 c3 m0 m1 m2 m3 q0 q1 q2 q3 rB
    cases p
    · go_wp2
      go_ret
      exact ⟨rfl, hL⟩
    cases q
    · go_wp2
      go_ret
      exact ⟨rfl, hL⟩
    replace rA : RowAt B9 g_rA 4 43 F := rA.same4 (hsay3 rfl rfl)
    have EQ := fun w => eqS F w
    clear hsay3
    go_wp2_with (first | (refine load4_on (g := g_rD) rfl rfl rfl rD Try.underlying43 rfl info_surd ?_) | (refine load4_on (g := g_rA) rfl rfl rfl rA Try.underlying43 rfl info_surd ?_))
    go_ret
    exact ⟨rfl, hL⟩

end Go.Proofs.Ytdgbpdeimckbfaa
