/-
  RingSame on both sides.
-/
import Derived.Test.YtbdhbkedeglagaaM22
/- RingSame on both sides. -/
namespace Go.Proofs.Ytbdhbkedeglagaa
set_option maxRecDepth 20000
open Go.ChangeShapes Go.WideShapes Go.ChangeAt Go.RowKit
set_option linter.unusedVariables false
set_option linter.unusedSimpArgs false

theorem sameR_no1 {a b r p q : Int} (h : ringO a b true p = none) : sameR a b r p q = false := by unfold sameR; rw [h]
theorem sameR_no2 {a b r p q : Int} (h : ringO a r true q = none) : sameR a b r p q = false := by
  unfold sameR; rw [h]; cases ringO a b true p <;> rfl
theorem sameR_yes {a b r p q : Int} {A B : List Wh} (h1 : ringO a b true p = some A) (h2 : ringO a r true q = some B) : sameR a b r p q = eqL (bk A) B := by
  unfold sameR; rw [h1, h2]
theorem sameD_tidy {A B : List Wh} (hA : Tidy A) (hB : Tidy B) : sameD A B = eqL A B := by
  unfold sameD tid
  rw [hA.ok, hB.ok, if_pos rfl, if_pos rfl, Tidy.again false hA, Tidy.again false hB]
  rfl

set_option maxHeartbeats 2000000 in
theorem RingSame_any (a b p q r : Int) (hr : IntKind.i64.wrap (a - b) = r) (w : World) : Calls Try.prog 25 #[.int .i64 a, .int .i64 b, .int .i64 p, .int .i64 q] w fun e w' => e = .returned (.bool (sameR a b r p q)) ∧ Below w.heap.size w w' := by
  have R1 := RingDesign_any a b true p w
  have R2 := fun w => RingDesign_any a r true q w
  cases h1 : ringO a b true p with
  | none =>
    rw [sameR_no1 h1]
    rw [h1] at R1
    obtain ⟨o2, ho2⟩ : ∃ o, ringO a r true q = o := ⟨_, rfl⟩
    rw [ho2] at R2
    obtain ⟨o3, ho3⟩ : ∃ o, dOf (fastW (-1)) [] = o := ⟨_, rfl⟩
    have B3 := fun v w (h : Reads w v []) => DesignBack_any v [] w h
    rw [ho3] at B3
    clear h1 ho2 ho3
    go_enter Try.func25, Try.ntmps25
    go_wp2_with fail
    refine R1.mono ?_; rintro e w1 ⟨hb1, v1, rfl, ho⟩
    have hA : Reads w1 v1 [] := own_reads ho
    clear ho R1
    go_wp2_with fail
    refine (R2 _).mono ?_; rintro e w2 ⟨hb2, v2, rfl, -⟩
    replace hA := hA.below hb2
    replace hb2 := below_next hb1 hb2
    clear hb1 R2
    go_wp2_with fail
    refine (B3 _ _ hA).mono ?_; rintro e w3 ⟨hb3, v3, rfl, -⟩
    replace hb3 := below_next hb2 hb3
    clear hb2 B3 hA
    go_wp2
    go_ret
    exact ⟨rfl, hb3⟩
  | some A =>
    rw [h1] at R1
    obtain ⟨-, -, -, tA, -, -⟩ := ringO_tidy h1
    have B3 := fun v w (h : Reads w v A) => DesignBack_any v A w h
    rw [back_bk tA] at B3
    have tK := tidy_bk tA
    cases h2 : ringO a r true q with
    | none =>
      rw [sameR_no2 h2]
      rw [h2] at R2
      clear h1 h2 tA tK
      generalize bk A = K at *
      go_enter Try.func25, Try.ntmps25
      go_wp2_with fail
      refine R1.mono ?_; rintro e w1 ⟨hb1, v1, rfl, ho⟩
      have hA : Reads w1 v1 A := own_reads ho
      clear ho R1
      go_wp2_with fail
      refine (R2 _).mono ?_; rintro e w2 ⟨hb2, v2, rfl, -⟩
      replace hA := hA.below hb2
      replace hb2 := below_next hb1 hb2
      clear hb1 R2
      go_wp2_with fail
      refine (B3 _ _ hA).mono ?_; rintro e w3 ⟨hb3, v3, rfl, -⟩
      replace hb3 := below_next hb2 hb3
      clear hb2 B3 hA
      go_wp2
      go_ret
      exact ⟨rfl, hb3⟩
    | some B =>
      rw [sameR_yes h1 h2]
      rw [h2] at R2
      obtain ⟨-, -, -, tB, -, -⟩ := ringO_tidy h2
      have S := fun va vb w (ha : Reads w va (bk A)) (hb : Reads w vb B) => DesignSame_any va vb (bk A) B w ha hb
      rw [sameD_tidy tK tB] at S
      clear h1 h2 tA tK tB
      generalize bk A = K at *
      generalize eqL K B = bit at *
      go_enter Try.func25, Try.ntmps25
      go_wp2_with fail
      refine R1.mono ?_; rintro e w1 ⟨hb1, v1, rfl, ho⟩
      have hA : Reads w1 v1 A := own_reads ho
      clear ho R1
      go_wp2_with fail
      refine (R2 _).mono ?_; rintro e w2 ⟨hb2, v2, rfl, ho⟩
      have hB : Reads w2 v2 B := own_reads ho
      replace hA := hA.below hb2
      replace hb2 := below_next hb1 hb2
      clear hb1 R2 ho
      go_wp2_with fail
      refine (B3 _ _ hA).mono ?_; rintro e w3 ⟨hb3, v3, rfl, ho⟩
      have hK : Reads w3 v3 K := own_reads ho
      replace hB := hB.below hb3
      replace hb3 := below_next hb2 hb3
      clear hb2 B3 hA ho
      go_wp2_with fail
      refine (S _ _ _ hK hB).mono ?_; rintro e w4 ⟨rfl, hb4⟩
      replace hb4 := below_next hb3 hb4
      clear hb3 S hK hB
      go_wp2
      go_ret
      exact ⟨rfl, hb4⟩

set_option maxHeartbeats 2000000 in
theorem specRingSame_any (a b p q r : Int) (hr : IntKind.i64.wrap (a - b) = r) (w : World) : Calls Try.prog 26 #[.int .i64 a, .int .i64 b, .int .i64 p, .int .i64 q] w fun e w' => e = .returned (.bool (sameR a b r p q)) ∧ Below w.heap.size w w' := by
  have R1 := specRingDesign_any a b true p w
  have R2 := fun w => specRingDesign_any a r true q w
  cases h1 : ringO a b true p with
  | none =>
    rw [sameR_no1 h1]
    rw [h1] at R1
    obtain ⟨o2, ho2⟩ : ∃ o, ringO a r true q = o := ⟨_, rfl⟩
    rw [ho2] at R2
    clear h1 ho2
    go_enter Try.func26, Try.ntmps26
    go_wp2_with fail
    refine R1.mono ?_; rintro e w1 ⟨hb1, v1, rfl, -⟩
    clear R1
    go_wp2_with fail
    refine (R2 _).mono ?_; rintro e w2 ⟨hb2, v2, rfl, -⟩
    replace hb2 := below_next hb1 hb2
    clear hb1 R2
    go_wp2
    go_ret
    exact ⟨rfl, hb2⟩
  | some A =>
    rw [h1] at R1
    obtain ⟨-, -, -, tA, -, -⟩ := ringO_tidy h1
    have B3 := fun v w (h : Reads w v A) => specDesignBack_any v A w h
    rw [back_bk tA] at B3
    cases h2 : ringO a r true q with
    | none =>
      rw [sameR_no2 h2]
      rw [h2] at R2
      clear h1 h2 tA B3
      go_enter Try.func26, Try.ntmps26
      go_wp2_with fail
      refine R1.mono ?_; rintro e w1 ⟨hb1, v1, rfl, -⟩
      clear R1
      go_wp2_with fail
      refine (R2 _).mono ?_; rintro e w2 ⟨hb2, v2, rfl, -⟩
      replace hb2 := below_next hb1 hb2
      clear hb1 R2
      go_wp2
      go_ret
      exact ⟨rfl, hb2⟩
    | some B =>
      rw [sameR_yes h1 h2]
      rw [h2] at R2
      have S := fun va vb w (ha : Reads w va (bk A)) (hb : Reads w vb B) => l5Equal_any va vb (bk A) B w ha hb
      clear h1 h2 tA
      generalize bk A = K at *
      generalize eqL K B = bit at *
      go_enter Try.func26, Try.ntmps26
      go_wp2_with fail
      refine R1.mono ?_; rintro e w1 ⟨hb1, v1, rfl, ho⟩
      have hA : Reads w1 v1 A := own_reads ho
      clear ho R1
      go_wp2_with fail
      refine (R2 _).mono ?_; rintro e w2 ⟨hb2, v2, rfl, ho⟩
      have hB : Reads w2 v2 B := own_reads ho
      replace hA := hA.below hb2
      replace hb2 := below_next hb1 hb2
      clear hb1 R2 ho
      go_wp2_with fail
      refine (B3 _ _ hA).mono ?_; rintro e w3 ⟨hb3, v3, rfl, ho⟩
      have hK : Reads w3 v3 K := own_reads ho
      replace hB := hB.below hb3
      replace hb3 := below_next hb2 hb3
      clear hb2 B3 hA ho
      go_wp2_with fail
      refine (S _ _ _ hK hB).mono ?_; rintro e w4 ⟨rfl, hb4⟩
      replace hb4 := below_next hb3 hb4
      clear hb3 S hK hB
      go_wp2
      go_ret
      exact ⟨rfl, hb4⟩
end Go.Proofs.Ytbdhbkedeglagaa
