/-
  spec's swings: paths and sums.
  The draws of swings.
  What the draw functions of chapter 11 draw.
  What the walks of the laws of swings share.
-/
import Derived.Test.YtpbppgaohfgpbaaM31
import Derived.Test.YtpbppgaohfgpbaaM12
import Derived.Test.YtpbppgaohfgpbaaM11
/- spec's swings: paths and sums. -/
namespace Go.Proofs.Ytpbppgaohfgpbaa
set_option maxRecDepth 20000
open Go.ChangeShapes Go.WideShapes Go.ChangeAt Go.RowKit
set_option linter.unusedVariables false
set_option linter.unusedSimpArgs false
attribute [local go_sem] run_store_fl run_store_cx

theorem ownC_nilU (w : World) (B : Nat) (T : Nat) (hB : B ≤ w.heap.size) : OwnL encC 1 (w.alloc (.cells #[] T)) B T (.slice (some ⟨w.heap.size, 0, none⟩) 0 0) ([] : List Pn) := World.ownsRow_made w #[] 0 hB (by simp [maxLen]) (by simp)
set_option maxHeartbeats 2000000 in
theorem specSwingPath_any (a : Pn) (t h n : Int) (w : World) : Calls Try.prog 33 #[sW a t h, .int .i64 n] w (ToldC w (pthO a t h n)) := by
  have C := fun w => specSwingValid_any a t h w
  have N1 := fun w => specIn_sw n 1 100 w
  have HL : Hid (BlkAt (w.alloc (.cells #[.complex .f32 a.1 a.2, .int .i64 t, .int .i64 h] 25)) w.heap.size 25 #[.complex .f32 a.1 a.2, .int .i64 t, .int .i64 h]) := BlkAt.newAt rfl rfl
  have HB0 := Lib.hid (bel1 w (.cells #[.complex .f32 a.1 a.2, .int .i64 t, .int .i64 h] 25))
  have hW : Hid ((w.alloc (.cells #[.complex .f32 a.1 a.2, .int .i64 t, .int .i64 h] 25)).heap.size = w.heap.size + 1) := by exact World.size_alloc _ _
  by_cases hok : okW a t h = true ∧ 1 ≤ n ∧ n ≤ 100
  · obtain ⟨o, q1, q2⟩ := hok
    obtain ⟨ha, ht, hh⟩ := okW_parts o
    rw [show (decide (1 ≤ n) && decide (n ≤ 100)) = true by simp; omega] at N1
    generalize hres : pthO a t h n = res
    unfold pthO at hres
    rw [o, Bool.true_and, decide_eq_true (by omega), Bool.true_and] at hres
    rw [o] at C
    clear o
    obtain ⟨T, rfl⟩ : ∃ T : Nat, t = T := ⟨t.toNat, by omega⟩
    obtain ⟨H, rfl⟩ : ∃ H : Nat, h = H := ⟨h.toNat, by omega⟩
    obtain ⟨m, rfl⟩ : ∃ k : Nat, n = k := ⟨n.toNat, by omega⟩
    rw [Int.toNat_natCast, Int.toNat_natCast, Int.toNat_natCast] at hres
    have HRES := Lib.hid hres
    have hT : T ≤ 3 := by omega
    have hH : H ≤ 4 := by omega
    have hM : m ≤ 100 := by omega
    clear ht hh hres q1 q2
    go_enter Try.func33, Try.ntmps33
    go_upto_region 1 with fail
    show Code.wp _ _ _ _ (w.alloc (.cells #[.complex .f32 a.1 a.2, .int .i64 T, .int .i64 H] 25))
    generalize (w.alloc (.cells #[.complex .f32 a.1 a.2, .int .i64 T, .int .i64 H] 25)) = W at *
    have hL1 := HL.out.alloc (.cells #[] 23)
    have c0 := hL1.cell (k := 0) rfl
    have c1 := hL1.cell (k := 1) rfl
    have c2 := hL1.cell (k := 2) rfl
    have HO1 := Lib.hid (ownC_nilU W W.heap.size 23 (Nat.le_refl _))
    have HL1 := Lib.hid hL1
    clear hL1
    go_wp2_with fail
    refine (C _).mono ?_; rintro e w2 ⟨rfl, hb⟩
    have hL := HL1.out.below hb
    have c0 := hL.cell (k := 0) rfl
    have HO2 := Lib.hid (rows_below HO1.out hb)
    have HB2 := Lib.hid (belT (bel1 W _) hb)
    clear hb C hL HL1 HO1 c1 c2
    go_wp2_with fail
    refine (N1 _).mono ?_; rintro e w3 ⟨rfl, rfl⟩
    clear N1
    go_wp2_with fail
    go_loopw [6, 7, 8] (fun v' z u wr => ∃ k : Nat, k ≤ m ∧ u = .int .i64 k ∧ z = .complex .f32 (rnS T H k a).1 (rnS T H k a).2 ∧ Aside (OwnL encC 1 wr W.heap.size 23 v' (nums T H k a)) ∧ Aside (Below W.heap.size W wr)) (fun _ _ u _ => m - (intOf u).toNat)
    case atStart => exact ⟨0, Nat.zero_le _, rfl, rfl, HO2.out, HB2.out⟩
    case round =>
      clear c0 HO2 HB2
      obtain ⟨k, hk, rfl, rfl, hO, hB⟩ := hrel
      have hO : OwnL encC 1 _ _ _ _ _ := hO
      have hB : Below _ _ _ := hB
      by_cases hlt : k < m
      · have hf := rnS_fin (t := T) (h := H) k ha
        have C := fun w => specSingle_any _ T H hf a w hT hH
        have HN := Lib.hid (nums_next T H k a)
        have HR := Lib.hid (rnS_next T H k a)
        have hlen := nums_len T H k a
        generalize nums T H k a = L at *
        generalize rnS T H k a = z at *
        obtain rfl : L.length = k := hlen
        have HO := Lib.hid hO
        have HB := Lib.hid hB
        have hz := hB.size
        clear hf hO hB
        go_upto_region 9 with (at_builtin; refine appendL tyZ encC_ok rfl rfl rfl rfl (xs := L) (World.ownsRow.alloc HO.out _) (litC _ z _) (by simp; omega) (belA HB.out _) (by simp; omega) ?_; intro v2 w5 ho5 hb5 hB5 hgr5)
        have HO5 := Lib.hid ho5
        have HB5 := Lib.hid hb5
        have hL5 := HL.out.below hb5
        have d0 := hL5.cell (k := 0) rfl
        have d1 := hL5.cell (k := 1) rfl
        have d2 := hL5.cell (k := 2) rfl
        clear ho5 hb5 hB5 hgr5 hL5 HO HB hz
        generalize stS T H z = y at *
        go_wp2_with fail
        refine (C _).mono ?_; rintro e w6 ⟨rfl, hb⟩
        have HO6 := Lib.hid (rows_below HO5.out hb)
        have HB6 := Lib.hid (belT HB5.out hb)
        clear hb d0 d1 d2 HO5 HB5 C
        go_wp2_with fail
        go_roundw
        case rel => exact ⟨L.length + 1, by omega, by go_num, by rw [HR.out], by rw [HN.out]; exact HO6.out, HB6.out⟩
        case measure => simp [intOf]; omega
      · obtain rfl : k = m := by omega
        generalize nums T H k a = L at *
        have D := specPathValid_any _ L wr (ownL_reads hO)
        have HO := Lib.hid hO
        have HB := Lib.hid hB
        clear hO hB
        cases hp : pvB L with
        | true =>
          rw [hp] at D
          have hres := HRES.out
          rw [hp, if_pos rfl] at hres
          subst hres
          go_wp2_with fail
          refine D.mono ?_; rintro e w4 ⟨rfl, rfl⟩
          clear D
          go_wp2_with fail
          go_ret2
          exact ⟨belT HB0.out HB.out, _, rfl, rows_mono HO.out (by rw [hW.out]; omega)⟩
        | false =>
          rw [hp] at D
          have hres := HRES.out
          rw [hp, if_neg (by decide)] at hres
          subst hres
          go_wp2_with fail
          refine D.mono ?_; rintro e w4 ⟨rfl, rfl⟩
          clear D
          go_wp2_with fail
          go_ret2
          exact ⟨belA (belT HB0.out HB.out) _, _, rfl, ownC_nilU _ _ _ (belT HB0.out HB.out).size⟩
  · rw [pthO_bad hok]
    cases o : okW a t h with
    | false =>
      rw [o] at C
      clear o hok N1
      go_enter Try.func33, Try.ntmps33
      go_upto_region 1 with fail
      show Code.wp _ _ _ _ (w.alloc (.cells #[.complex .f32 a.1 a.2, .int .i64 t, .int .i64 h] 25))
      generalize (w.alloc (.cells #[.complex .f32 a.1 a.2, .int .i64 t, .int .i64 h] 25)) = W at *
      have hL1 := HL.out.alloc (.cells #[] 23)
      have c0 := hL1.cell (k := 0) rfl
      have c1 := hL1.cell (k := 1) rfl
      have c2 := hL1.cell (k := 2) rfl
      have HO1 := Lib.hid (ownC_nilU W W.heap.size 23 (Nat.le_refl _))
      clear hL1
      go_wp2_with fail
      refine (C _).mono ?_; rintro e w2 ⟨rfl, hb⟩
      have HO2 := Lib.hid (rows_below HO1.out hb)
      have HB2 := Lib.hid (belT HB0.out (belT (bel1 W _) hb))
      clear hb C HO1 c0 c1 c2
      go_wp2_with fail
      go_ret2
      exact ⟨HB2.out, _, rfl, rows_mono HO2.out (by rw [hW.out]; omega)⟩
    | true =>
      rw [o] at C
      rw [show (decide (1 ≤ n) && decide (n ≤ 100)) = false by simp; intro h1; have h2 : ¬ n ≤ 100 := fun h3 => hok ⟨o, h1, h3⟩; omega] at N1
      clear o hok
      go_enter Try.func33, Try.ntmps33
      go_upto_region 1 with fail
      show Code.wp _ _ _ _ (w.alloc (.cells #[.complex .f32 a.1 a.2, .int .i64 t, .int .i64 h] 25))
      generalize (w.alloc (.cells #[.complex .f32 a.1 a.2, .int .i64 t, .int .i64 h] 25)) = W at *
      have hL1 := HL.out.alloc (.cells #[] 23)
      have c0 := hL1.cell (k := 0) rfl
      have c1 := hL1.cell (k := 1) rfl
      have c2 := hL1.cell (k := 2) rfl
      have HO1 := Lib.hid (ownC_nilU W W.heap.size 23 (Nat.le_refl _))
      clear hL1
      go_wp2_with fail
      refine (C _).mono ?_; rintro e w2 ⟨rfl, hb⟩
      have HO2 := Lib.hid (rows_below HO1.out hb)
      have HB2 := Lib.hid (belT HB0.out (belT (bel1 W _) hb))
      clear hb C HO1 c0 c1 c2
      go_wp2_with fail
      refine (N1 _).mono ?_; rintro e w3 ⟨rfl, rfl⟩
      clear N1
      go_wp2_with fail
      go_ret2
      exact ⟨HB2.out, _, rfl, rows_mono HO2.out (by rw [hW.out]; omega)⟩
theorem sums_next (t h k : Nat) (a : Pn) : smP (nums t h (k + 1) a) = adP (smP (nums t h k a)) (rnS t h k a) := by rw [nums_next, smP_next]
set_option maxHeartbeats 2000000 in
theorem specSwingSum_any (a : Pn) (t h n : Int) (w : World) : Calls Try.prog 37 #[sW a t h, .int .i64 n] w fun e w' => e = .returned (.tuple #[cs (sumSw a t h n).1 (sumSw a t h n).2, .bool (mkW' a t h n)]) ∧ Below w.heap.size w w' := by
  have C := fun w => specSwingValid_any a t h w
  have N1 := fun w => specIn_sw n 0 400 w
  have hmk : mkW' a t h n = (okW a t h && (decide (0 ≤ n) && decide (n ≤ 400))) := by unfold mkW'; rw [Bool.decide_and]
  unfold cs
  cases o : mkW' a t h n with
  | false =>
    have hr : sumSw a t h n = (0, 0) := by unfold sumSw; rw [o]; rfl
    rw [hr]
    rw [o] at hmk
    clear o hr
    cases v : okW a t h with
    | false =>
      rw [v] at C
      clear v hmk N1
      go_enter Try.func37, Try.ntmps37
      go_wp2_with fail
      refine (C _).mono ?_; rintro e w2 ⟨rfl, hb⟩
      have HB := Lib.hid (belT (bel1 _ _) hb)
      clear hb C
      go_wp2_with fail
      go_ret2
      exact ⟨rfl, HB.out⟩
    | true =>
      rw [v] at C hmk
      rw [Bool.true_and] at hmk
      rw [← hmk] at N1
      clear v hmk
      go_enter Try.func37, Try.ntmps37
      go_wp2_with fail
      refine (C _).mono ?_; rintro e w2 ⟨rfl, hb⟩
      have HB := Lib.hid (belT (bel1 _ _) hb)
      clear hb C
      go_wp2_with fail
      refine (N1 _).mono ?_; rintro e w3 ⟨rfl, rfl⟩
      clear N1
      go_wp2_with fail
      go_ret2
      exact ⟨rfl, HB.out⟩
  | true =>
    obtain ⟨v1, v2⟩ := mkW_parts o
    obtain ⟨ha, ht, hh⟩ := okW_parts v1
    generalize hres : sumSw a t h n = res
    unfold sumSw at hres
    rw [o, if_pos rfl] at hres
    rw [v1] at C
    rw [show (decide (0 ≤ n) && decide (n ≤ 400)) = true by simp; omega] at N1
    clear o v1 hmk
    obtain ⟨T, rfl⟩ : ∃ T : Nat, t = T := ⟨t.toNat, by omega⟩
    obtain ⟨H, rfl⟩ : ∃ H : Nat, h = H := ⟨h.toNat, by omega⟩
    obtain ⟨m, rfl⟩ : ∃ k : Nat, n = k := ⟨n.toNat, by omega⟩
    rw [Int.toNat_natCast, Int.toNat_natCast, Int.toNat_natCast] at hres
    have HRES := Lib.hid hres
    have HL : Hid (BlkAt (w.alloc (.cells #[.complex .f32 a.1 a.2, .int .i64 T, .int .i64 H] 25)) w.heap.size 25 #[.complex .f32 a.1 a.2, .int .i64 T, .int .i64 H]) := BlkAt.newAt rfl rfl
    have hT : T ≤ 3 := by omega
    have hH : H ≤ 4 := by omega
    have hM : m ≤ 400 := by omega
    clear hres ht hh v2
    go_enter Try.func37, Try.ntmps37
    go_wp2_with fail
    refine (C _).mono ?_; rintro e w2 ⟨rfl, hb⟩
    have HB := Lib.hid (belT (bel1 _ _) hb)
    have hL := HL.out.below hb
    have c0 := hL.cell (k := 0) rfl
    have HL2 := Lib.hid hL
    clear hb C hL HL
    go_wp2_with fail
    refine (N1 _).mono ?_; rintro e w3 ⟨rfl, rfl⟩
    clear N1
    go_wp2_with fail
    go_loopw [6, 7, 8] (fun s z u wr => ∃ k : Nat, k ≤ m ∧ u = .int .i64 k ∧ s = .complex .f32 (smP (nums T H k a)).1 (smP (nums T H k a)).2 ∧ z = .complex .f32 (rnS T H k a).1 (rnS T H k a).2 ∧ Aside (BlkAt wr w.heap.size 25 #[.complex .f32 a.1 a.2, .int .i64 T, .int .i64 H]) ∧ Aside (Below w.heap.size w wr)) (fun _ _ u _ => m - (intOf u).toNat)
    case atStart => exact ⟨0, Nat.zero_le _, rfl, rfl, rfl, HL2.out, HB.out⟩
    case round =>
      clear c0 HL2 HB
      obtain ⟨k, hk, rfl, rfl, rfl, hL, hB⟩ := hrel
      have hL : BlkAt _ _ _ _ := hL
      have hB : Below _ _ _ := hB
      by_cases hlt : k < m
      · have hf := rnS_fin (t := T) (h := H) k ha
        have C := fun w => specSingle_any _ T H hf a w hT hH
        have hs := smP_nas (L := nums T H k a) (fun y hy => nums_mem ha hy)
        have R := fun t w => run_cadd hs hf t w
        have HN := Lib.hid (rnS_next T H k a)
        have HS := Lib.hid (sums_next T H k a)
        clear hs hf
        generalize smP (nums T H k a) = s at *
        generalize rnS T H k a = z at *
        generalize adP s z = s2 at *
        generalize stS T H z = y at *
        have d0 := hL.cell (k := 0) rfl
        have d1 := hL.cell (k := 1) rfl
        have d2 := hL.cell (k := 2) rfl
        have HL := Lib.hid hL
        have HB := Lib.hid hB
        clear hL hB
        go_wp2_with (first | rw [R])
        refine (C _).mono ?_; rintro e w4 ⟨rfl, hb⟩
        have HL4 := Lib.hid (HL.out.below hb)
        have HB4 := Lib.hid (belT HB.out hb)
        clear d0 d1 d2 hb HL HB C R
        go_wp2
        go_roundw
        case rel => exact ⟨k + 1, by omega, by go_num, by rw [HS.out], by rw [HN.out], HL4.out, HB4.out⟩
        case measure => simp [intOf]; omega
      · obtain rfl : k = m := by omega
        rw [HRES.out]
        have HB := Lib.hid hB
        clear hL hB
        go_wp2
        go_ret2
        exact ⟨rfl, HB.out⟩
end Go.Proofs.Ytpbppgaohfgpbaa
/- The draws of swings. -/
namespace Go.Proofs.Ytpbppgaohfgpbaa
set_option maxRecDepth 20000
open Go.ChangeShapes Go.WideShapes Go.ChangeAt Go.RowKit
set_option linter.unusedVariables false
set_option linter.unusedSimpArgs false
attribute [local go_sem] run_store_fl run_store_cx

/-- A float of 64 bits made narrow: some word, perhaps out of a draw. -/
theorem narrow_some (x : Nat) (w : World) : ∃ r n, (Conv.floatToFloat .f64 x .f32).run Try.prog w = .ok (.float .f32 r) (w.drewN n) := by
  unfold Conv.floatToFloat
  rw [if_neg (by decide)]
  cases FloatKind.f64.decode x with
  | nan s t =>
    refine ⟨Question.cut (.nanConv .f32 x) (w.tape w.drawn (.nanConv .f32 x)), 1, ?_⟩
    simp [choose, Sem.run, Question.forced]
    rfl
  | infinity s => exact ⟨_, 0, rfl⟩
  | number s m e =>
    simp only
    split
    · refine ⟨Question.cut (.floatToFloat x) (w.tape w.drawn (.floatToFloat x)), 1, ?_⟩
      simp [choose, Sem.run, Question.forced]
      rfl
    · exact ⟨_, 0, rfl⟩
theorem narrow_cx (x y : Nat) (w : World) : ∃ r s n, (convert 34 23 (.complex .f64 x y)).run Try.prog w = .ok (.complex .f32 r s) (w.drewN n) := by
  obtain ⟨r, n, h1⟩ := narrow_some x w
  obtain ⟨s, m, h2⟩ := narrow_some y (w.drewN n)
  refine ⟨r, s, n + m, ?_⟩
  have hu : (Try.prog.underlying 34) = some (.complex .f64) := by kernel_rfl
  have hd : (Try.prog.underlying 23) = some (.complex .f32) := by kernel_rfl
  simp [convert, run_underlying hu, run_underlying hd, Conv.complexToComplex, h1, h2, Sem.run_bind]
def fltOk (j : Int) : Bool := (floatBits .quo .f32 (floatOfInt .f32 j) 1082130432).isSome
theorem quarter_at (j : Int) (h1 : -16 ≤ j) (h2 : j ≤ 16) : ∃ z, floatBits .quo .f32 (floatOfInt .f32 j) 1082130432 = some z := by
  have key : ∀ k : Fin 33, (floatBits .quo .f32 (floatOfInt .f32 ((k.val : Int) - 16)) 1082130432).isSome = true := by decide +kernel
  have := key ⟨(j + 16).toNat, by omega⟩
  rw [show (((j + 16).toNat : Nat) : Int) - 16 = j by omega] at this
  exact Option.isSome_iff_exists.1 this
def DrewSw (w : World) (R p : Nat) (e : Ending) (w' : World) : Prop := ∃ (a : Pn) (t h : Nat) (q : Nat), e = .returned (sW a t h) ∧ t ≤ 4 ∧ h ≤ 4 ∧ q ≤ p + 9 ∧ Rd w' R q ∧ w.grownBy w' (some R)
theorem only_cell {a w : World} {row : Option Nat} (h : a.grownBy w row) {g : Nat} (hg : a.heap.size ≤ g) (k : Nat) (v : Value) : a.grownBy (w.setCell ⟨g, k, none⟩ v) row :=
  ⟨h.os, h.tape, h.output, by simpa [World.setCell] using h.size, fun i hi hne => (heap_setCell_other w ⟨g, k, none⟩ i v (by show i ≠ g; omega)).trans (h.block i hi hne)⟩
theorem rd_cell {w : World} {R p : Nat} (h : Rd w R p) {g : Nat} (hg : R < g) (k : Nat) (v : Value) : Rd (w.setCell ⟨g, k, none⟩ v) R p :=
  h.keep (row := some g) ⟨rfl, rfl, rfl, by simp [World.setCell], fun i _ hne => heap_setCell_other w ⟨g, k, none⟩ i v (by rintro rfl; exact hne rfl)⟩ (fun x e => by cases e; exact hg)
set_option maxHeartbeats 4000000 in
theorem swing_drawn (R p : Nat) (w : World) (h : Rd w R p) (hp : p ≤ 500000) : Calls Try.prog 38 #[.pointer (some ⟨R, 0, none⟩)] w (DrewSw w R p) := by
  have hlt := h.lt
  have P1 := Lib.hid (pick_any R p 33 _ (h.alloc (.cells #[.complex .f32 0 0, .int .i64 0, .int .i64 0] 25)) (by omega) (by omega))
  have hA : BlkAt (w.alloc (.cells #[.complex .f32 0 0, .int .i64 0, .int .i64 0] 25)) w.heap.size 25 #[.complex .f32 0 0, .int .i64 0, .int .i64 0] := BlkAt.newAt rfl rfl
  have HG := Lib.hid (only_alloc (only_refl w (some R)) (.cells #[.complex .f32 0 0, .int .i64 0, .int .i64 0] 25))
  have HA := Lib.hid hA
  clear h hA
  go_enter Try.func38, Try.ntmps38
  go_wp2_with fail
  refine P1.out.mono ?_; rintro e w1 ⟨k1, rfl, k10, k11, hr1, hg1⟩
  obtain ⟨u1, hu1⟩ : ∃ u : Int, k1 - 16 = u := ⟨_, rfl⟩
  have wu1 : IntKind.i64.wrap u1 = u1 := by rw [IntKind.wrap_i64]; omega
  obtain ⟨z1, hz1⟩ := quarter_at u1 (by omega) (by omega)
  have R1 := Lib.hid (fun t w => run_float_arith (P := Try.prog) w .quo t .f32 _ _ _ hz1)
  have P2 := Lib.hid (pick_any R (p + 1) 33 w1 hr1 (by omega) (by omega))
  have HG1 := Lib.hid (only_trans' HG.out hg1)
  have HA1 := Lib.hid (HA.out.grown hg1 (by omega))
  clear P1 hr1 hg1 HG HA hz1
  go_wp2_with (first | rw [R1.out])
  refine P2.out.mono ?_; rintro e w2 ⟨k2, rfl, k20, k21, hr2, hg2⟩
  obtain ⟨u2, hu2⟩ : ∃ u : Int, k2 - 16 = u := ⟨_, rfl⟩
  have wu2 : IntKind.i64.wrap u2 = u2 := by rw [IntKind.wrap_i64]; omega
  obtain ⟨z2, hz2⟩ := quarter_at u2 (by omega) (by omega)
  have R2 := Lib.hid (fun t w => run_float_arith (P := Try.prog) w .quo t .f32 _ _ _ hz2)
  have P3 := Lib.hid (pick_any R (p + 1 + 1) 4 w2 hr2 (by omega) (by omega))
  have HG2 := Lib.hid (only_trans' HG1.out hg2)
  have HA2 := Lib.hid (HA1.out.grown hg2 (by omega))
  clear P2 hr2 hg2 HG1 HA1 hz2 R1
  go_wp2_with (first | rw [R2.out])
  refine P3.out.mono ?_; rintro e w3 ⟨k3, rfl, k30, k31, hr3, hg3⟩
  have P4 := Lib.hid (pick_any R (p + 1 + 1 + 1) 5 w3 hr3 (by omega) (by omega))
  have HG3 := Lib.hid (only_trans' HG2.out hg3)
  have HA3 := Lib.hid (HA2.out.grown hg3 (by omega))
  clear P3 hr3 hg3 HG2 HA2 R2
  go_wp2_with fail
  refine P4.out.mono ?_; rintro e w4 ⟨k4, rfl, k40, k41, hr4, hg4⟩
  obtain ⟨T, rfl⟩ : ∃ T : Nat, k3 = T := ⟨k3.toNat, by omega⟩
  obtain ⟨H, rfl⟩ : ∃ H : Nat, k4 = H := ⟨k4.toNat, by omega⟩
  have hg4' := only_trans' HG3.out hg4
  have hA4 := HA3.out.grown hg4 (by omega)
  have hz4 := hg4'.size
  have P5 := Lib.hid (pick_any R (p + 1 + 1 + 1 + 1) 16 _ (hr4.alloc (.cells #[.complex .f32 z1 z2, .int .i64 T, .int .i64 H] 25)) (by omega) (by omega))
  have HG4 := Lib.hid (only_alloc hg4' (.cells #[.complex .f32 z1 z2, .int .i64 T, .int .i64 H] 25))
  have HA4 := Lib.hid (hA4.alloc (.cells #[.complex .f32 z1 z2, .int .i64 T, .int .i64 H] 25))
  have HO4 : Hid (BlkAt (w4.alloc (.cells #[.complex .f32 z1 z2, .int .i64 T, .int .i64 H] 25)) w4.heap.size 25 #[.complex .f32 z1 z2, .int .i64 T, .int .i64 H]) := BlkAt.newAt rfl rfl
  have hlt4 := hA4.lt
  clear P4 hr4 hg4 HG3 HA3 hg4' hA4
  go_wp2_with fail
  refine P5.out.mono ?_; rintro e w5 ⟨k5, rfl, k50, k51, hr5, hg5⟩
  have HG5 := Lib.hid (only_trans' HG4.out hg5)
  have HA5 := Lib.hid (HA4.out.grown hg5 (by omega))
  have HO5 := Lib.hid (HO4.out.grown hg5 (by omega))
  have HR5 := Lib.hid hr5
  clear P5 hg5 HG4 HA4 HO4 hr5
  generalize w4.heap.size = g1 at *
  rcases (show k5 = 0 ∨ k5 = 1 ∨ k5 = 2 ∨ k5 = 3 ∨ 4 ≤ k5 by omega) with rfl | rfl | rfl | rfl | hk
  · have D := Lib.hid (wide_drawn _ _ w5 HR5.out (by omega))
    go_wp2_with fail
    refine D.out.mono ?_; rintro e w6 ⟨x, y, q, rfl, hk, hq, hr6, hg6⟩
    obtain ⟨r, s, n, RN⟩ := narrow_cx x y w6
    have HG6 := Lib.hid (only_drewN (only_trans' HG5.out hg6) n)
    have HA6 := Lib.hid ((HA5.out.grown hg6 (by omega)).drewN n)
    have HO6 := Lib.hid ((HO5.out.grown hg6 (by omega)).drewN n)
    have HR6 := Lib.hid (hr6.keep (only_drewN (only_refl w6 none) n) (fun g e => by cases e))
    clear D HR5 HG5 HA5 HO5 hr6 hg6 hk
    have o0 := HO6.out.cell (k := 0) rfl
    have f0 := HO6.out.free 0
    have hng : w.heap.size ≠ g1 := by omega
    unfold cw
    go_upto_region 11 with (first | rw [RN])
    clear RN
    generalize w6.drewN n = w7 at *
    have HO7 : Hid (BlkAt _ g1 25 #[.complex .f32 r s, .int .i64 T, .int .i64 H]) := HO6.out.set 0 (.complex .f32 r s)
    have HA7 := Lib.hid (HA6.out.other ⟨g1, 0, none⟩ (.complex .f32 r s) (by simpa using hng))
    have HR7 := Lib.hid (rd_cell HR6.out (show R < g1 by omega) 0 (.complex .f32 r s))
    have HG7 := Lib.hid (only_cell HG6.out (show w.heap.size ≤ g1 by omega) 0 (.complex .f32 r s))
    clear HO6 HA6 HR6 HG6 o0 f0 hng
    generalize w7.setCell ⟨g1, 0, none⟩ (.complex .f32 r s) = w8 at *
    have o0 := HO7.out.cell (k := 0) rfl
    have o1 := HO7.out.cell (k := 1) rfl
    have o2 := HO7.out.cell (k := 2) rfl
    have a0 := HA7.out.cell (k := 0) rfl
    have a1 := HA7.out.cell (k := 1) rfl
    have a2 := HA7.out.cell (k := 2) rfl
    have f0 := HA7.out.free 0
    have f1 := HA7.out.free 1
    have f2 := HA7.out.free 2
    go_wp2_with fail
    refine bodyPost_ret (results_blk rfl rfl (((HA7.out.set 0 _).set 1 _).set 2 _) Try.underlying25 rfl (by kernel_rfl)) rfl ?_
    exact ⟨(r, s), T, H, _, rfl, by omega, by omega, by omega, rd_cell (rd_cell (rd_cell HR7.out hlt _ _) hlt _ _) hlt _ _, only_cell (only_cell (only_cell HG7.out (Nat.le_refl _) _ _) (Nat.le_refl _) _ _) (Nat.le_refl _) _ _⟩
  · have o1 := HO5.out.cell (k := 1) rfl
    have f1 := HO5.out.free 1
    have hng : w.heap.size ≠ g1 := by omega
    go_upto_region 11 with fail
    have HO7 : Hid (BlkAt _ g1 25 #[.complex .f32 z1 z2, .int .i64 4, .int .i64 H]) := HO5.out.set 1 (.int .i64 4)
    have HA7 := Lib.hid (HA5.out.other ⟨g1, 1, none⟩ (.int .i64 4) (by simpa using hng))
    have HR7 := Lib.hid (rd_cell HR5.out (show R < g1 by omega) 1 (.int .i64 4))
    have HG7 := Lib.hid (only_cell HG5.out (show w.heap.size ≤ g1 by omega) 1 (.int .i64 4))
    clear HO5 HA5 HR5 HG5 o1 f1 hng
    generalize w5.setCell ⟨g1, 1, none⟩ (.int .i64 4) = w8 at *
    have o0 := HO7.out.cell (k := 0) rfl
    have o1 := HO7.out.cell (k := 1) rfl
    have o2 := HO7.out.cell (k := 2) rfl
    have a0 := HA7.out.cell (k := 0) rfl
    have a1 := HA7.out.cell (k := 1) rfl
    have a2 := HA7.out.cell (k := 2) rfl
    have f0 := HA7.out.free 0
    have f1 := HA7.out.free 1
    have f2 := HA7.out.free 2
    go_wp2_with fail
    refine bodyPost_ret (results_blk rfl rfl (((HA7.out.set 0 _).set 1 _).set 2 _) Try.underlying25 rfl (by kernel_rfl)) rfl ?_
    exact ⟨(z1, z2), 4, H, _, rfl, by omega, by omega, by omega, rd_cell (rd_cell (rd_cell HR7.out hlt _ _) hlt _ _) hlt _ _, only_cell (only_cell (only_cell HG7.out (Nat.le_refl _) _ _) (Nat.le_refl _) _ _) (Nat.le_refl _) _ _⟩
  · have o0 := HO5.out.cell (k := 0) rfl
    have f0 := HO5.out.free 0
    have hng : w.heap.size ≠ g1 := by omega
    go_upto_region 11 with fail
    have HO7 : Hid (BlkAt _ g1 25 #[.complex .f32 7136238 2, .int .i64 T, .int .i64 H]) := HO5.out.set 0 (.complex .f32 7136238 2)
    have HA7 := Lib.hid (HA5.out.other ⟨g1, 0, none⟩ (.complex .f32 7136238 2) (by simpa using hng))
    have HR7 := Lib.hid (rd_cell HR5.out (show R < g1 by omega) 0 (.complex .f32 7136238 2))
    have HG7 := Lib.hid (only_cell HG5.out (show w.heap.size ≤ g1 by omega) 0 (.complex .f32 7136238 2))
    clear HO5 HA5 HR5 HG5 o0 f0 hng
    generalize w5.setCell ⟨g1, 0, none⟩ (.complex .f32 7136238 2) = w8 at *
    have o0 := HO7.out.cell (k := 0) rfl
    have o1 := HO7.out.cell (k := 1) rfl
    have o2 := HO7.out.cell (k := 2) rfl
    have a0 := HA7.out.cell (k := 0) rfl
    have a1 := HA7.out.cell (k := 1) rfl
    have a2 := HA7.out.cell (k := 2) rfl
    have f0 := HA7.out.free 0
    have f1 := HA7.out.free 1
    have f2 := HA7.out.free 2
    go_wp2_with fail
    refine bodyPost_ret (results_blk rfl rfl (((HA7.out.set 0 _).set 1 _).set 2 _) Try.underlying25 rfl (by kernel_rfl)) rfl ?_
    exact ⟨(7136238, 2), T, H, _, rfl, by omega, by omega, by omega, rd_cell (rd_cell (rd_cell HR7.out hlt _ _) hlt _ _) hlt _ _, only_cell (only_cell (only_cell HG7.out (Nat.le_refl _) _ _) (Nat.le_refl _) _ _) (Nat.le_refl _) _ _⟩
  · have o0 := HO5.out.cell (k := 0) rfl
    have f0 := HO5.out.free 0
    have hng : w.heap.size ≠ g1 := by omega
    go_upto_region 11 with fail
    have HO7 : Hid (BlkAt _ g1 25 #[.complex .f32 1036831949 2137108966, .int .i64 T, .int .i64 H]) := HO5.out.set 0 (.complex .f32 1036831949 2137108966)
    have HA7 := Lib.hid (HA5.out.other ⟨g1, 0, none⟩ (.complex .f32 1036831949 2137108966) (by simpa using hng))
    have HR7 := Lib.hid (rd_cell HR5.out (show R < g1 by omega) 0 (.complex .f32 1036831949 2137108966))
    have HG7 := Lib.hid (only_cell HG5.out (show w.heap.size ≤ g1 by omega) 0 (.complex .f32 1036831949 2137108966))
    clear HO5 HA5 HR5 HG5 o0 f0 hng
    generalize w5.setCell ⟨g1, 0, none⟩ (.complex .f32 1036831949 2137108966) = w8 at *
    have o0 := HO7.out.cell (k := 0) rfl
    have o1 := HO7.out.cell (k := 1) rfl
    have o2 := HO7.out.cell (k := 2) rfl
    have a0 := HA7.out.cell (k := 0) rfl
    have a1 := HA7.out.cell (k := 1) rfl
    have a2 := HA7.out.cell (k := 2) rfl
    have f0 := HA7.out.free 0
    have f1 := HA7.out.free 1
    have f2 := HA7.out.free 2
    go_wp2_with fail
    refine bodyPost_ret (results_blk rfl rfl (((HA7.out.set 0 _).set 1 _).set 2 _) Try.underlying25 rfl (by kernel_rfl)) rfl ?_
    exact ⟨(1036831949, 2137108966), T, H, _, rfl, by omega, by omega, by omega, rd_cell (rd_cell (rd_cell HR7.out hlt _ _) hlt _ _) hlt _ _, only_cell (only_cell (only_cell HG7.out (Nat.le_refl _) _ _) (Nat.le_refl _) _ _) (Nat.le_refl _) _ _⟩
  · have n0 : k5 ≠ 0 := by omega
    have n1 : k5 ≠ 1 := by omega
    have n2 : k5 ≠ 2 := by omega
    have n3 : k5 ≠ 3 := by omega
    have o0 := HO5.out.cell (k := 0) rfl
    have o1 := HO5.out.cell (k := 1) rfl
    have o2 := HO5.out.cell (k := 2) rfl
    have a0 := HA5.out.cell (k := 0) rfl
    have a1 := HA5.out.cell (k := 1) rfl
    have a2 := HA5.out.cell (k := 2) rfl
    have f0 := HA5.out.free 0
    have f1 := HA5.out.free 1
    have f2 := HA5.out.free 2
    go_wp2_with fail
    refine bodyPost_ret (results_blk rfl rfl (((HA5.out.set 0 _).set 1 _).set 2 _) Try.underlying25 rfl (by kernel_rfl)) rfl ?_
    exact ⟨(z1, z2), T, H, _, rfl, by omega, by omega, by omega, rd_cell (rd_cell (rd_cell HR5.out hlt _ _) hlt _ _) hlt _ _, only_cell (only_cell (only_cell HG5.out (Nat.le_refl _) _ _) (Nat.le_refl _) _ _) (Nat.le_refl _) _ _⟩
end Go.Proofs.Ytpbppgaohfgpbaa
/- What the draw functions of chapter 11 draw. -/
namespace Go.Proofs.Ytpbppgaohfgpbaa
set_option maxRecDepth 20000
open Go.ChangeShapes Go.WideShapes Go.ChangeAt Go.RowKit
set_option linter.unusedVariables false
set_option linter.unusedSimpArgs false
attribute [local go_sem] run_store_fl run_store_cx

def DrewS1 (w : World) (e : Ending) (w' : World) : Prop := ∃ (a : Pn) (t h : Int), e = .returned (sW a t h) ∧ Below w.heap.size w w'
def DrewS2 (w : World) (e : Ending) (w' : World) : Prop := ∃ (a : Pn) (t h n : Int), e = .returned (.tuple #[sW a t h, .int .i64 n]) ∧ -1000 ≤ n ∧ n ≤ 1000 ∧ Below w.heap.size w w'
theorem results_blk_tmp2 {P : Program} {fn : Func} {p q : Tmp} {ty : TypeId} {tmps : Array Value} {w : World} {g : Nat} {T : TypeId} {cs : Array Value} {d : TypeDesc} (h : fn.results = #[.cell p ty, .tmp q]) (hp : tmps.getD p undef = .pointer (some ⟨g, 0, none⟩)) (hg : BlkAt w g T cs) (hu : P.underlying ty = some d)
    (hd : (match d with | .struct _ | .array _ _ => true | _ => false) = true) (hi : (P.info? ty).map (·.size) = some cs.size) : (results fn tmps).run P w = .ok (.tuple #[.agg cs, tmps.getD q undef]) w := results_blk_tmp h hp hg hu hd hi
theorem drawSwingValid (v : Value) (w : World) (hc : CodeAt w v) : Calls Try.prog 11 #[v] w (DrewS1 w) := by
  have hv := hc.alloc (.cells #[.complex .f32 0 0, .int .i64 0, .int .i64 0] 25)
  have hA : BlkAt (w.alloc (.cells #[.complex .f32 0 0, .int .i64 0, .int .i64 0] 25)) w.heap.size 25 #[.complex .f32 0 0, .int .i64 0, .int .i64 0] := BlkAt.newAt rfl rfl
  have hL := bel1 w (.cells #[.complex .f32 0 0, .int .i64 0, .int .i64 0] 25)
  go_enter Try.func11, Try.ntmps11
  go_upto_region 1 with fail
  show Code.wp _ _ _ _ (w.alloc (.cells #[.complex .f32 0 0, .int .i64 0, .int .i64 0] 25))
  generalize (w.alloc (.cells #[.complex .f32 0 0, .int .i64 0, .int .i64 0] 25)) = W at *
  have O := Lib.hid (open_any v W hv)
  have HA := Lib.hid hA
  have HL := Lib.hid hL
  clear hc hv hA hL
  go_wp2_with fail
  refine O.out.mono ?_; rintro e w1 ⟨rfl, hr, hb⟩
  have D := Lib.hid (swing_drawn _ _ w1 hr (by omega))
  have HA1 := Lib.hid (HA.out.below hb)
  have HL1 := Lib.hid (belT HL.out hb)
  have hlt := HA.out.lt
  clear O hr hb HA HL
  go_wp2_with fail
  refine D.out.mono ?_; rintro e w2 ⟨a, t, h, q, rfl, ht, hh, hq, hr2, hg2⟩
  have HA2 := Lib.hid (HA1.out.grown hg2 (by omega))
  have HL2 := Lib.hid (below_only HL1.out hg2 HL1.out.size (Nat.le_of_lt hlt))
  have a0 := HA2.out.cell (k := 0) rfl
  have a1 := HA2.out.cell (k := 1) rfl
  have a2 := HA2.out.cell (k := 2) rfl
  have f0 := HA2.out.free 0
  have f1 := HA2.out.free 1
  have f2 := HA2.out.free 2
  clear D hr2 hg2 HA1 HL1
  go_wp2_with fail
  refine bodyPost_ret (results_blk rfl rfl (((HA2.out.set 0 _).set 1 _).set 2 _) Try.underlying25 rfl (by kernel_rfl)) rfl ?_
  exact ⟨a, t, h, rfl, ((HL2.out.setCell (Nat.le_refl _) _).setCell (Nat.le_refl _) _).setCell (Nat.le_refl _) _⟩
theorem drawSwingRest (v : Value) (w : World) (hc : CodeAt w v) : Calls Try.prog 23 #[v] w (DrewS1 w) := by
  have hv := hc.alloc (.cells #[.complex .f32 0 0, .int .i64 0, .int .i64 0] 25)
  have hA : BlkAt (w.alloc (.cells #[.complex .f32 0 0, .int .i64 0, .int .i64 0] 25)) w.heap.size 25 #[.complex .f32 0 0, .int .i64 0, .int .i64 0] := BlkAt.newAt rfl rfl
  have hL := bel1 w (.cells #[.complex .f32 0 0, .int .i64 0, .int .i64 0] 25)
  go_enter Try.func23, Try.ntmps23
  go_upto_region 1 with fail
  show Code.wp _ _ _ _ (w.alloc (.cells #[.complex .f32 0 0, .int .i64 0, .int .i64 0] 25))
  generalize (w.alloc (.cells #[.complex .f32 0 0, .int .i64 0, .int .i64 0] 25)) = W at *
  have O := Lib.hid (open_any v W hv)
  have HA := Lib.hid hA
  have HL := Lib.hid hL
  clear hc hv hA hL
  go_wp2_with fail
  refine O.out.mono ?_; rintro e w1 ⟨rfl, hr, hb⟩
  have D := Lib.hid (swing_drawn _ _ w1 hr (by omega))
  have HA1 := Lib.hid (HA.out.below hb)
  have HL1 := Lib.hid (belT HL.out hb)
  have hlt := HA.out.lt
  clear O hr hb HA HL
  go_wp2_with fail
  refine D.out.mono ?_; rintro e w2 ⟨a, t, h, q, rfl, ht, hh, hq, hr2, hg2⟩
  have HA2 := Lib.hid (HA1.out.grown hg2 (by omega))
  have HL2 := Lib.hid (below_only HL1.out hg2 HL1.out.size (Nat.le_of_lt hlt))
  have a0 := HA2.out.cell (k := 0) rfl
  have a1 := HA2.out.cell (k := 1) rfl
  have a2 := HA2.out.cell (k := 2) rfl
  have f0 := HA2.out.free 0
  have f1 := HA2.out.free 1
  have f2 := HA2.out.free 2
  clear D hr2 hg2 HA1 HL1
  go_wp2_with fail
  refine bodyPost_ret (results_blk rfl rfl (((HA2.out.set 0 _).set 1 _).set 2 _) Try.underlying25 rfl (by kernel_rfl)) rfl ?_
  exact ⟨a, t, h, rfl, ((HL2.out.setCell (Nat.le_refl _) _).setCell (Nat.le_refl _) _).setCell (Nat.le_refl _) _⟩
theorem drawSwingSmall (v : Value) (w : World) (hc : CodeAt w v) : Calls Try.prog 26 #[v] w (DrewS1 w) := by
  have hv := hc.alloc (.cells #[.complex .f32 0 0, .int .i64 0, .int .i64 0] 25)
  have hA : BlkAt (w.alloc (.cells #[.complex .f32 0 0, .int .i64 0, .int .i64 0] 25)) w.heap.size 25 #[.complex .f32 0 0, .int .i64 0, .int .i64 0] := BlkAt.newAt rfl rfl
  have hL := bel1 w (.cells #[.complex .f32 0 0, .int .i64 0, .int .i64 0] 25)
  go_enter Try.func26, Try.ntmps26
  go_upto_region 1 with fail
  show Code.wp _ _ _ _ (w.alloc (.cells #[.complex .f32 0 0, .int .i64 0, .int .i64 0] 25))
  generalize (w.alloc (.cells #[.complex .f32 0 0, .int .i64 0, .int .i64 0] 25)) = W at *
  have O := Lib.hid (open_any v W hv)
  have HA := Lib.hid hA
  have HL := Lib.hid hL
  clear hc hv hA hL
  go_wp2_with fail
  refine O.out.mono ?_; rintro e w1 ⟨rfl, hr, hb⟩
  have D := Lib.hid (swing_drawn _ _ w1 hr (by omega))
  have HA1 := Lib.hid (HA.out.below hb)
  have HL1 := Lib.hid (belT HL.out hb)
  have hlt := HA.out.lt
  clear O hr hb HA HL
  go_wp2_with fail
  refine D.out.mono ?_; rintro e w2 ⟨a, t, h, q, rfl, ht, hh, hq, hr2, hg2⟩
  have HA2 := Lib.hid (HA1.out.grown hg2 (by omega))
  have HL2 := Lib.hid (below_only HL1.out hg2 HL1.out.size (Nat.le_of_lt hlt))
  have a0 := HA2.out.cell (k := 0) rfl
  have a1 := HA2.out.cell (k := 1) rfl
  have a2 := HA2.out.cell (k := 2) rfl
  have f0 := HA2.out.free 0
  have f1 := HA2.out.free 1
  have f2 := HA2.out.free 2
  clear D hr2 hg2 HA1 HL1
  go_wp2_with fail
  refine bodyPost_ret (results_blk rfl rfl (((HA2.out.set 0 _).set 1 _).set 2 _) Try.underlying25 rfl (by kernel_rfl)) rfl ?_
  exact ⟨a, t, h, rfl, ((HL2.out.setCell (Nat.le_refl _) _).setCell (Nat.le_refl _) _).setCell (Nat.le_refl _) _⟩
theorem drawSwingLost (v : Value) (w : World) (hc : CodeAt w v) : Calls Try.prog 29 #[v] w (DrewS1 w) := by
  have hv := hc.alloc (.cells #[.complex .f32 0 0, .int .i64 0, .int .i64 0] 25)
  have hA : BlkAt (w.alloc (.cells #[.complex .f32 0 0, .int .i64 0, .int .i64 0] 25)) w.heap.size 25 #[.complex .f32 0 0, .int .i64 0, .int .i64 0] := BlkAt.newAt rfl rfl
  have hL := bel1 w (.cells #[.complex .f32 0 0, .int .i64 0, .int .i64 0] 25)
  go_enter Try.func29, Try.ntmps29
  go_upto_region 1 with fail
  show Code.wp _ _ _ _ (w.alloc (.cells #[.complex .f32 0 0, .int .i64 0, .int .i64 0] 25))
  generalize (w.alloc (.cells #[.complex .f32 0 0, .int .i64 0, .int .i64 0] 25)) = W at *
  have O := Lib.hid (open_any v W hv)
  have HA := Lib.hid hA
  have HL := Lib.hid hL
  clear hc hv hA hL
  go_wp2_with fail
  refine O.out.mono ?_; rintro e w1 ⟨rfl, hr, hb⟩
  have D := Lib.hid (swing_drawn _ _ w1 hr (by omega))
  have HA1 := Lib.hid (HA.out.below hb)
  have HL1 := Lib.hid (belT HL.out hb)
  have hlt := HA.out.lt
  clear O hr hb HA HL
  go_wp2_with fail
  refine D.out.mono ?_; rintro e w2 ⟨a, t, h, q, rfl, ht, hh, hq, hr2, hg2⟩
  have HA2 := Lib.hid (HA1.out.grown hg2 (by omega))
  have HL2 := Lib.hid (below_only HL1.out hg2 HL1.out.size (Nat.le_of_lt hlt))
  have a0 := HA2.out.cell (k := 0) rfl
  have a1 := HA2.out.cell (k := 1) rfl
  have a2 := HA2.out.cell (k := 2) rfl
  have f0 := HA2.out.free 0
  have f1 := HA2.out.free 1
  have f2 := HA2.out.free 2
  clear D hr2 hg2 HA1 HL1
  go_wp2_with fail
  refine bodyPost_ret (results_blk rfl rfl (((HA2.out.set 0 _).set 1 _).set 2 _) Try.underlying25 rfl (by kernel_rfl)) rfl ?_
  exact ⟨a, t, h, rfl, ((HL2.out.setCell (Nat.le_refl _) _).setCell (Nat.le_refl _) _).setCell (Nat.le_refl _) _⟩
set_option maxHeartbeats 2000000 in
theorem steps_drawn (v : Value) (w : World) (hc : CodeAt w v) : Calls Try.prog 45 #[v] w (DrewS2 w) := by
  have hv := hc.alloc (.cells #[.complex .f32 0 0, .int .i64 0, .int .i64 0] 25)
  have hA : BlkAt (w.alloc (.cells #[.complex .f32 0 0, .int .i64 0, .int .i64 0] 25)) w.heap.size 25 #[.complex .f32 0 0, .int .i64 0, .int .i64 0] := BlkAt.newAt rfl rfl
  have hL := bel1 w (.cells #[.complex .f32 0 0, .int .i64 0, .int .i64 0] 25)
  go_enter Try.func45, Try.ntmps45
  go_upto_region 1 with fail
  show Code.wp _ _ _ _ (w.alloc (.cells #[.complex .f32 0 0, .int .i64 0, .int .i64 0] 25))
  generalize (w.alloc (.cells #[.complex .f32 0 0, .int .i64 0, .int .i64 0] 25)) = W at *
  have O := Lib.hid (open_any v W hv)
  have HA := Lib.hid hA
  have HL := Lib.hid hL
  clear hc hv hA hL
  go_wp2_with fail
  refine O.out.mono ?_; rintro e w1 ⟨rfl, hr, hb⟩
  have D := Lib.hid (swing_drawn _ _ w1 hr (by omega))
  have HA1 := Lib.hid (HA.out.below hb)
  have HL1 := Lib.hid (belT HL.out hb)
  have hlt := HA.out.lt
  clear O hr hb HA HL
  go_wp2_with fail
  refine D.out.mono ?_; rintro e w2 ⟨a, t, h, q, rfl, ht, hh, hq, hr2, hg2⟩
  have hRl := hr2.lt
  have hA3 := (HA1.out.grown hg2 (by omega)).alloc (.cells #[.complex .f32 a.1 a.2, .int .i64 t, .int .i64 h] 25)
  have hS3 : BlkAt (w2.alloc (.cells #[.complex .f32 a.1 a.2, .int .i64 t, .int .i64 h] 25)) w2.heap.size 25 #[.complex .f32 a.1 a.2, .int .i64 t, .int .i64 h] := BlkAt.newAt rfl rfl
  have hL3 := belA (below_only HL1.out hg2 HL1.out.size (Nat.le_of_lt hlt)) (.cells #[.complex .f32 a.1 a.2, .int .i64 t, .int .i64 h] 25)
  have hr3 := hr2.alloc (.cells #[.complex .f32 a.1 a.2, .int .i64 t, .int .i64 h] 25)
  have hA2 := (HA1.out.grown hg2 (by omega)).lt
  have HA3 := Lib.hid hA3
  have HS3 := Lib.hid hS3
  have HL3 := Lib.hid hL3
  have HR3 := Lib.hid hr3
  clear D hr2 hg2 HA1 HL1 hA3 hS3 hL3 hr3
  go_upto_region 3 with fail
  generalize hgs : w2.heap.size = gs at *
  generalize hR : W.heap.size = R at *
  generalize hw3 : w2.alloc (.cells #[.complex .f32 a.1 a.2, .int .i64 t, .int .i64 h] 25) = w3 at *
  clear hgs hR hw3
  have hA := HA3.out
  have hS := HS3.out
  have hL := HL3.out
  have hr := HR3.out
  clear HA3 HS3 HL3 HR3
  refine wp_region_held_drew (S := fun w' => BlkAt w' gs 25 #[.complex .f32 a.1 a.2, .int .i64 t, .int .i64 h]) (by kernel_rfl) (hS.drewN 1) (fun hHeld => ?_)
  replace hA := hA.drewN 1
  replace hL := hL.drew
  replace hr := hr.drew
  clear hS
  have hq2 : q ≤ 20 := by omega
  change BlkAt w3.drew _ _ _ at hA
  generalize w3.drew = w4 at *
  refine wpAnyH_take (i := 0) (oi := _) (v := sW a (t : Int) (h : Int)) rfl (by kernel_rfl) (by kernel_rfl) (by kernel_rfl) (fun _ _ _ h => h) (yieldsIf_load_mid (by rfl) _ _ rfl _ _ rfl [.complex .f32 a.1 a.2, .int .i64 (t : Int), .int .i64 (h : Int)] _ (fun w h => BlkAt.range h) Try.underlying25 rfl (by kernel_rfl)) hHeld ?_
  try simp only [Act.put, List.setIfInBounds_toArray, List.set_cons_zero, List.set_cons_succ, List.getElem_toArray, List.getElem_cons_succ, List.getElem_cons_zero]
  refine wpAnyH_take (i := 1) (oi := _) (v := .pointer (some ⟨R, 0, none⟩)) rfl (by kernel_rfl) (by kernel_rfl) (by kernel_rfl) (fun _ _ _ h => h) (Or.inl ⟨by rfl, fun w h => by go_simp⟩) hHeld ?_
  try simp only [Act.put, List.setIfInBounds_toArray, List.set_cons_zero, List.set_cons_succ, List.getElem_toArray, List.getElem_cons_succ, List.getElem_cons_zero]
  refine wpAnyH_take (i := 3) (oi := _) (v := .pointer (some ⟨R, 0, none⟩)) rfl (by kernel_rfl) (by kernel_rfl) (by kernel_rfl) (fun _ _ _ h => h) (Or.inl ⟨by rfl, fun w h => by go_simp⟩) hHeld ?_
  try simp only [Act.put, List.setIfInBounds_toArray, List.set_cons_zero, List.set_cons_succ, List.getElem_toArray, List.getElem_cons_succ, List.getElem_cons_zero]
  refine wpAnyH_take (i := 8) (oi := _) (v := .pointer (some ⟨R, 0, none⟩)) rfl (by kernel_rfl) (by kernel_rfl) (by kernel_rfl) (fun _ _ _ h => h) (Or.inl ⟨by rfl, fun w h => by go_simp⟩) hHeld ?_
  try simp only [Act.put, List.setIfInBounds_toArray, List.set_cons_zero, List.set_cons_succ, List.getElem_toArray, List.getElem_cons_succ, List.getElem_cons_zero]
  refine wpAnyH_ready (rs := [2]) (by kernel_rfl) (by simp) ?_
  refine AllReadyH.cons (o := _) rfl (fun K hK => ?_) AllReadyH.nil
  have P := pick_any R q 200 _ hr (by omega) (by omega)
  go_simp
  refine P.mono ?_; rintro e w5 ⟨k1, rfl, k10, k11, hr5, hg5⟩
  clear P
  go_wp2_with fail
  refine hK.out _ _ (BlkAt.grown hHeld hg5 (by omega)) (fun hHeld => ?_)
  replace hA := hA.grown hg5 (by omega)
  replace hL := below_only hL hg5 hL.size (by omega)
  replace hr := hr5
  clear hK K hr5 hg5
  try simp only [Act.put, List.setIfInBounds_toArray, List.set_cons_zero, List.set_cons_succ, List.getElem_toArray, List.getElem_cons_succ, List.getElem_cons_zero]
  refine wpAnyH_ready (rs := [4]) (by kernel_rfl) (by simp) ?_
  refine AllReadyH.cons (o := _) rfl (fun K hK => ?_) AllReadyH.nil
  have P := pick_any R (q + 1) 20 _ hr (by omega) (by omega)
  go_simp
  refine P.mono ?_; rintro e w5 ⟨k2, rfl, k20, k21, hr5, hg5⟩
  clear P
  go_wp2_with fail
  refine hK.out _ _ (BlkAt.grown hHeld hg5 (by omega)) (fun hHeld => ?_)
  replace hA := hA.grown hg5 (by omega)
  replace hL := below_only hL hg5 hL.size (by omega)
  replace hr := hr5
  clear hK K hr5 hg5
  try simp only [Act.put, List.setIfInBounds_toArray, List.set_cons_zero, List.set_cons_succ, List.getElem_toArray, List.getElem_cons_succ, List.getElem_cons_zero]
  obtain ⟨x1, hx1⟩ : ∃ x : Int, k2 / 19 = x := ⟨_, rfl⟩
  have hx1a : 0 ≤ x1 ∧ x1 ≤ 1 := by omega
  obtain ⟨x2, hx2⟩ : ∃ x : Int, x1 * 201 = x := ⟨_, rfl⟩
  obtain ⟨x3, hx3⟩ : ∃ x : Int, k1 - x2 = x := ⟨_, rfl⟩
  have r1 : k2.tdiv 19 = x1 := by rw [Int.tdiv_eq_ediv_of_nonneg (by omega)]; exact hx1
  have r1w : IntKind.i64.wrap x1 = x1 := by rw [IntKind.wrap_i64]; omega
  have r2w : IntKind.i64.wrap x2 = x2 := by rw [IntKind.wrap_i64]; omega
  have r3w : IntKind.i64.wrap x3 = x3 := by rw [IntKind.wrap_i64]; omega
  have hx1b := hx1a
  have hx3a : -300 ≤ x3 ∧ x3 ≤ 300 := by omega
  clear hx1
  refine wpAnyH_take (i := 5) (oi := _) (v := .int .i64 x1) rfl (by kernel_rfl) (by kernel_rfl) (by kernel_rfl) (fun _ _ _ h => h) (Or.inl ⟨by rfl, fun w h => by go_simp⟩) hHeld ?_
  try simp only [Act.put, List.setIfInBounds_toArray, List.set_cons_zero, List.set_cons_succ, List.getElem_toArray, List.getElem_cons_succ, List.getElem_cons_zero]
  refine wpAnyH_take (i := 6) (oi := _) (v := .int .i64 x2) rfl (by kernel_rfl) (by kernel_rfl) (by kernel_rfl) (fun _ _ _ h => h) (Or.inl ⟨by rfl, fun w h => by go_simp⟩) hHeld ?_
  try simp only [Act.put, List.setIfInBounds_toArray, List.set_cons_zero, List.set_cons_succ, List.getElem_toArray, List.getElem_cons_succ, List.getElem_cons_zero]
  refine wpAnyH_take (i := 7) (oi := _) (v := .int .i64 x3) rfl (by kernel_rfl) (by kernel_rfl) (by kernel_rfl) (fun _ _ _ h => h) (Or.inl ⟨by rfl, fun w h => by go_simp⟩) hHeld ?_
  try simp only [Act.put, List.setIfInBounds_toArray, List.set_cons_zero, List.set_cons_succ, List.getElem_toArray, List.getElem_cons_succ, List.getElem_cons_zero]
  clear r1 r1w r2w r3w hx2 hx3
  refine wpAnyH_ready (rs := [9]) (by kernel_rfl) (by simp) ?_
  refine AllReadyH.cons (o := _) rfl (fun K hK => ?_) AllReadyH.nil
  have P := pick_any R (q + 1 + 1) 20 _ hr (by omega) (by omega)
  go_simp
  refine P.mono ?_; rintro e w5 ⟨k3, rfl, k30, k31, hr5, hg5⟩
  clear P
  go_wp2_with fail
  refine hK.out _ _ (BlkAt.grown hHeld hg5 (by omega)) (fun hHeld => ?_)
  replace hA := hA.grown hg5 (by omega)
  replace hL := below_only hL hg5 hL.size (by omega)
  replace hr := hr5
  clear hK K hr5 hg5
  try simp only [Act.put, List.setIfInBounds_toArray, List.set_cons_zero, List.set_cons_succ, List.getElem_toArray, List.getElem_cons_succ, List.getElem_cons_zero]
  obtain ⟨y1, hy1⟩ : ∃ x : Int, k3 / 19 = x := ⟨_, rfl⟩
  have hy1a : 0 ≤ y1 ∧ y1 ≤ 1 := by omega
  obtain ⟨y2, hy2⟩ : ∃ x : Int, y1 * 400 = x := ⟨_, rfl⟩
  obtain ⟨y3, hy3⟩ : ∃ x : Int, x3 + y2 = x := ⟨_, rfl⟩
  have r1 : k3.tdiv 19 = y1 := by rw [Int.tdiv_eq_ediv_of_nonneg (by omega)]; exact hy1
  have r1w : IntKind.i64.wrap y1 = y1 := by rw [IntKind.wrap_i64]; omega
  have r2w : IntKind.i64.wrap y2 = y2 := by rw [IntKind.wrap_i64]; omega
  have r3w : IntKind.i64.wrap y3 = y3 := by rw [IntKind.wrap_i64]; omega
  have hy3a : -1000 ≤ y3 ∧ y3 ≤ 1000 := by omega
  clear hy1
  refine wpAnyH_take (i := 10) (oi := _) (v := .int .i64 y1) rfl (by kernel_rfl) (by kernel_rfl) (by kernel_rfl) (fun _ _ _ h => h) (Or.inl ⟨by rfl, fun w h => by go_simp⟩) hHeld ?_
  try simp only [Act.put, List.setIfInBounds_toArray, List.set_cons_zero, List.set_cons_succ, List.getElem_toArray, List.getElem_cons_succ, List.getElem_cons_zero]
  refine wpAnyH_take (i := 11) (oi := _) (v := .int .i64 y2) rfl (by kernel_rfl) (by kernel_rfl) (by kernel_rfl) (fun _ _ _ h => h) (Or.inl ⟨by rfl, fun w h => by go_simp⟩) hHeld ?_
  try simp only [Act.put, List.setIfInBounds_toArray, List.set_cons_zero, List.set_cons_succ, List.getElem_toArray, List.getElem_cons_succ, List.getElem_cons_zero]
  refine wpAnyH_take (i := 12) (oi := _) (v := .int .i64 y3) rfl (by kernel_rfl) (by kernel_rfl) (by kernel_rfl) (fun _ _ _ h => h) (Or.inl ⟨by rfl, fun w h => by go_simp⟩) hHeld ?_
  try simp only [Act.put, List.setIfInBounds_toArray, List.set_cons_zero, List.set_cons_succ, List.getElem_toArray, List.getElem_cons_succ, List.getElem_cons_zero]
  clear r1 r1w r2w r3w hy2 hy3
  refine wpAnyH_ready (rs := [13]) (by kernel_rfl) (by simp) ?_
  refine AllReadyH.cons (o := _) rfl (fun K hK => ?_) AllReadyH.nil
  rw [if_pos (by rfl)]
  refine store_blk_step rfl rfl rfl hA (by kernel_rfl) rfl (by simp [Value.oneCell']) ?_
  replace hA := hA.setRow (cs' := #[.complex .f32 a.1 a.2, .int .i64 (t : Int), .int .i64 (h : Int)])
  replace hL := below_setRow hL (Nat.le_refl _) #[.complex .f32 a.1 a.2, .int .i64 (t : Int), .int .i64 (h : Int)]
  refine hK.out _ _ (BlkAt.rowOther hHeld _ _ (by omega)) (fun hHeld => ?_)
  clear hK K
  try simp only [Act.put, List.setIfInBounds_toArray, List.set_cons_zero, List.set_cons_succ, List.getElem_toArray, List.getElem_cons_succ, List.getElem_cons_zero]
  refine wpAnyH_take (i := 14) (oi := _) (v := .int .i64 y3) rfl (by kernel_rfl) (by kernel_rfl) (by kernel_rfl) (fun _ _ _ h => h) (Or.inl ⟨by rfl, fun w h => by go_simp⟩) hHeld ?_
  try simp only [Act.put, List.setIfInBounds_toArray, List.set_cons_zero, List.set_cons_succ, List.getElem_toArray, List.getElem_cons_succ, List.getElem_cons_zero]
  refine wpAnyH_done (by kernel_rfl) ?_ _
  have HA := Lib.hid hA
  have HL := Lib.hid hL
  clear hHeld hA hL hr
  go_wp2_with fail
  refine bodyPost_ret (results_blk_tmp rfl rfl HA.out Try.underlying25 rfl (by kernel_rfl)) rfl ?_
  exact ⟨a, t, h, y3, rfl, by omega, by omega, HL.out⟩
set_option maxHeartbeats 2000000 in
theorem drawSwingPath (v : Value) (w : World) (hc : CodeAt w v) : Calls Try.prog 31 #[v] w (DrewS2 w) := by
  have hv := hc.alloc (.cells #[.complex .f32 0 0, .int .i64 0, .int .i64 0] 25)
  have hA : BlkAt (w.alloc (.cells #[.complex .f32 0 0, .int .i64 0, .int .i64 0] 25)) w.heap.size 25 #[.complex .f32 0 0, .int .i64 0, .int .i64 0] := BlkAt.newAt rfl rfl
  have hL := bel1 w (.cells #[.complex .f32 0 0, .int .i64 0, .int .i64 0] 25)
  go_enter Try.func31, Try.ntmps31
  go_upto_region 1 with fail
  show Code.wp _ _ _ _ (w.alloc (.cells #[.complex .f32 0 0, .int .i64 0, .int .i64 0] 25))
  generalize (w.alloc (.cells #[.complex .f32 0 0, .int .i64 0, .int .i64 0] 25)) = W at *
  have O := Lib.hid (open_any v W hv)
  have HA := Lib.hid hA
  have HL := Lib.hid hL
  clear hc hv hA hL
  go_wp2_with fail
  refine O.out.mono ?_; rintro e w1 ⟨rfl, hr, hb⟩
  have D := Lib.hid (swing_drawn _ _ w1 hr (by omega))
  have HA1 := Lib.hid (HA.out.below hb)
  have HL1 := Lib.hid (belT HL.out hb)
  have hlt := HA.out.lt
  clear O hr hb HA HL
  go_wp2_with fail
  refine D.out.mono ?_; rintro e w2 ⟨a, t, h, q, rfl, ht, hh, hq, hr2, hg2⟩
  have hRl := hr2.lt
  have hA3 := (HA1.out.grown hg2 (by omega)).alloc (.cells #[.complex .f32 a.1 a.2, .int .i64 t, .int .i64 h] 25)
  have hS3 : BlkAt (w2.alloc (.cells #[.complex .f32 a.1 a.2, .int .i64 t, .int .i64 h] 25)) w2.heap.size 25 #[.complex .f32 a.1 a.2, .int .i64 t, .int .i64 h] := BlkAt.newAt rfl rfl
  have hL3 := belA (below_only HL1.out hg2 HL1.out.size (Nat.le_of_lt hlt)) (.cells #[.complex .f32 a.1 a.2, .int .i64 t, .int .i64 h] 25)
  have hr3 := hr2.alloc (.cells #[.complex .f32 a.1 a.2, .int .i64 t, .int .i64 h] 25)
  have hA2 := (HA1.out.grown hg2 (by omega)).lt
  have HA3 := Lib.hid hA3
  have HS3 := Lib.hid hS3
  have HL3 := Lib.hid hL3
  have HR3 := Lib.hid hr3
  clear D hr2 hg2 HA1 HL1 hA3 hS3 hL3 hr3
  go_upto_region 3 with fail
  generalize hgs : w2.heap.size = gs at *
  generalize hR : W.heap.size = R at *
  generalize hw3 : w2.alloc (.cells #[.complex .f32 a.1 a.2, .int .i64 t, .int .i64 h] 25) = w3 at *
  clear hgs hR hw3
  have hA := HA3.out
  have hS := HS3.out
  have hL := HL3.out
  have hr := HR3.out
  clear HA3 HS3 HL3 HR3
  refine wp_region_held_drew (S := fun w' => BlkAt w' gs 25 #[.complex .f32 a.1 a.2, .int .i64 t, .int .i64 h]) (by kernel_rfl) (hS.drewN 1) (fun hHeld => ?_)
  replace hA := hA.drewN 1
  replace hL := hL.drew
  replace hr := hr.drew
  clear hS
  have hq2 : q ≤ 20 := by omega
  change BlkAt w3.drew _ _ _ at hA
  generalize w3.drew = w4 at *
  refine wpAnyH_take (i := 0) (oi := _) (v := sW a (t : Int) (h : Int)) rfl (by kernel_rfl) (by kernel_rfl) (by kernel_rfl) (fun _ _ _ h => h) (yieldsIf_load_mid (by rfl) _ _ rfl _ _ rfl [.complex .f32 a.1 a.2, .int .i64 (t : Int), .int .i64 (h : Int)] _ (fun w h => BlkAt.range h) Try.underlying25 rfl (by kernel_rfl)) hHeld ?_
  try simp only [Act.put, List.setIfInBounds_toArray, List.set_cons_zero, List.set_cons_succ, List.getElem_toArray, List.getElem_cons_succ, List.getElem_cons_zero]
  refine wpAnyH_take (i := 1) (oi := _) (v := .pointer (some ⟨R, 0, none⟩)) rfl (by kernel_rfl) (by kernel_rfl) (by kernel_rfl) (fun _ _ _ h => h) (Or.inl ⟨by rfl, fun w h => by go_simp⟩) hHeld ?_
  try simp only [Act.put, List.setIfInBounds_toArray, List.set_cons_zero, List.set_cons_succ, List.getElem_toArray, List.getElem_cons_succ, List.getElem_cons_zero]
  refine wpAnyH_take (i := 3) (oi := _) (v := .pointer (some ⟨R, 0, none⟩)) rfl (by kernel_rfl) (by kernel_rfl) (by kernel_rfl) (fun _ _ _ h => h) (Or.inl ⟨by rfl, fun w h => by go_simp⟩) hHeld ?_
  try simp only [Act.put, List.setIfInBounds_toArray, List.set_cons_zero, List.set_cons_succ, List.getElem_toArray, List.getElem_cons_succ, List.getElem_cons_zero]
  refine wpAnyH_ready (rs := [2]) (by kernel_rfl) (by simp) ?_
  refine AllReadyH.cons (o := _) rfl (fun K hK => ?_) AllReadyH.nil
  have P := pick_any R q 20 _ hr (by omega) (by omega)
  go_simp
  refine P.mono ?_; rintro e w5 ⟨k1, rfl, k10, k11, hr5, hg5⟩
  clear P
  go_wp2_with fail
  refine hK.out _ _ (BlkAt.grown hHeld hg5 (by omega)) (fun hHeld => ?_)
  replace hA := hA.grown hg5 (by omega)
  replace hL := below_only hL hg5 hL.size (by omega)
  replace hr := hr5
  clear hK K hr5 hg5
  try simp only [Act.put, List.setIfInBounds_toArray, List.set_cons_zero, List.set_cons_succ, List.getElem_toArray, List.getElem_cons_succ, List.getElem_cons_zero]
  refine wpAnyH_ready (rs := [4]) (by kernel_rfl) (by simp) ?_
  refine AllReadyH.cons (o := _) rfl (fun K hK => ?_) AllReadyH.nil
  have P := pick_any R (q + 1) 20 _ hr (by omega) (by omega)
  go_simp
  refine P.mono ?_; rintro e w5 ⟨k2, rfl, k20, k21, hr5, hg5⟩
  clear P
  go_wp2_with fail
  refine hK.out _ _ (BlkAt.grown hHeld hg5 (by omega)) (fun hHeld => ?_)
  replace hA := hA.grown hg5 (by omega)
  replace hL := below_only hL hg5 hL.size (by omega)
  replace hr := hr5
  clear hK K hr5 hg5
  try simp only [Act.put, List.setIfInBounds_toArray, List.set_cons_zero, List.set_cons_succ, List.getElem_toArray, List.getElem_cons_succ, List.getElem_cons_zero]
  obtain ⟨x1, hx1⟩ : ∃ x : Int, k2 / 19 = x := ⟨_, rfl⟩
  have hx1a : 0 ≤ x1 ∧ x1 ≤ 1 := by omega
  obtain ⟨x2, hx2⟩ : ∃ x : Int, x1 * 90 = x := ⟨_, rfl⟩
  obtain ⟨x3, hx3⟩ : ∃ x : Int, k1 + x2 = x := ⟨_, rfl⟩
  have r1 : k2.tdiv 19 = x1 := by rw [Int.tdiv_eq_ediv_of_nonneg (by omega)]; exact hx1
  have r1w : IntKind.i64.wrap x1 = x1 := by rw [IntKind.wrap_i64]; omega
  have r2w : IntKind.i64.wrap x2 = x2 := by rw [IntKind.wrap_i64]; omega
  have r3w : IntKind.i64.wrap x3 = x3 := by rw [IntKind.wrap_i64]; omega
  have hx1b := hx1a
  have hx3a : -300 ≤ x3 ∧ x3 ≤ 300 := by omega
  clear hx1
  refine wpAnyH_take (i := 5) (oi := _) (v := .int .i64 x1) rfl (by kernel_rfl) (by kernel_rfl) (by kernel_rfl) (fun _ _ _ h => h) (Or.inl ⟨by rfl, fun w h => by go_simp⟩) hHeld ?_
  try simp only [Act.put, List.setIfInBounds_toArray, List.set_cons_zero, List.set_cons_succ, List.getElem_toArray, List.getElem_cons_succ, List.getElem_cons_zero]
  refine wpAnyH_take (i := 6) (oi := _) (v := .int .i64 x2) rfl (by kernel_rfl) (by kernel_rfl) (by kernel_rfl) (fun _ _ _ h => h) (Or.inl ⟨by rfl, fun w h => by go_simp⟩) hHeld ?_
  try simp only [Act.put, List.setIfInBounds_toArray, List.set_cons_zero, List.set_cons_succ, List.getElem_toArray, List.getElem_cons_succ, List.getElem_cons_zero]
  refine wpAnyH_take (i := 7) (oi := _) (v := .int .i64 x3) rfl (by kernel_rfl) (by kernel_rfl) (by kernel_rfl) (fun _ _ _ h => h) (Or.inl ⟨by rfl, fun w h => by go_simp⟩) hHeld ?_
  try simp only [Act.put, List.setIfInBounds_toArray, List.set_cons_zero, List.set_cons_succ, List.getElem_toArray, List.getElem_cons_succ, List.getElem_cons_zero]
  clear r1 r1w r2w r3w hx2 hx3
  refine wpAnyH_ready (rs := [8]) (by kernel_rfl) (by simp) ?_
  refine AllReadyH.cons (o := _) rfl (fun K hK => ?_) AllReadyH.nil
  rw [if_pos (by rfl)]
  refine store_blk_step rfl rfl rfl hA (by kernel_rfl) rfl (by simp [Value.oneCell']) ?_
  replace hA := hA.setRow (cs' := #[.complex .f32 a.1 a.2, .int .i64 (t : Int), .int .i64 (h : Int)])
  replace hL := below_setRow hL (Nat.le_refl _) #[.complex .f32 a.1 a.2, .int .i64 (t : Int), .int .i64 (h : Int)]
  refine hK.out _ _ (BlkAt.rowOther hHeld _ _ (by omega)) (fun hHeld => ?_)
  clear hK K
  try simp only [Act.put, List.setIfInBounds_toArray, List.set_cons_zero, List.set_cons_succ, List.getElem_toArray, List.getElem_cons_succ, List.getElem_cons_zero]
  refine wpAnyH_take (i := 9) (oi := _) (v := .int .i64 x3) rfl (by kernel_rfl) (by kernel_rfl) (by kernel_rfl) (fun _ _ _ h => h) (Or.inl ⟨by rfl, fun w h => by go_simp⟩) hHeld ?_
  try simp only [Act.put, List.setIfInBounds_toArray, List.set_cons_zero, List.set_cons_succ, List.getElem_toArray, List.getElem_cons_succ, List.getElem_cons_zero]
  refine wpAnyH_done (by kernel_rfl) ?_ _
  have HA := Lib.hid hA
  have HL := Lib.hid hL
  clear hHeld hA hL hr
  go_wp2_with fail
  refine bodyPost_ret (results_blk_tmp rfl rfl HA.out Try.underlying25 rfl (by kernel_rfl)) rfl ?_
  exact ⟨a, t, h, x3, rfl, by omega, by omega, HL.out⟩
theorem drawSwingAt (v : Value) (w : World) (hc : CodeAt w v) : Calls Try.prog 16 #[v] w (DrewS2 w) := by
  have hv := hc.alloc (.cells #[.complex .f32 0 0, .int .i64 0, .int .i64 0] 25)
  have hA : BlkAt (w.alloc (.cells #[.complex .f32 0 0, .int .i64 0, .int .i64 0] 25)) w.heap.size 25 #[.complex .f32 0 0, .int .i64 0, .int .i64 0] := BlkAt.newAt rfl rfl
  have hL := bel1 w (.cells #[.complex .f32 0 0, .int .i64 0, .int .i64 0] 25)
  go_enter Try.func16, Try.ntmps16
  go_upto_region 1 with fail
  show Code.wp _ _ _ _ (w.alloc (.cells #[.complex .f32 0 0, .int .i64 0, .int .i64 0] 25))
  generalize (w.alloc (.cells #[.complex .f32 0 0, .int .i64 0, .int .i64 0] 25)) = W at *
  have D := Lib.hid (steps_drawn v W hv)
  have HA := Lib.hid hA
  have HL := Lib.hid hL
  clear hc hv hA hL
  go_wp2_with fail
  refine D.out.mono ?_; rintro e w2 ⟨a, t, h, n, rfl, n1, n2, hb⟩
  have HA2 := Lib.hid (HA.out.below hb)
  have HL2 := Lib.hid (belT HL.out hb)
  have a0 := HA2.out.cell (k := 0) rfl
  have a1 := HA2.out.cell (k := 1) rfl
  have a2 := HA2.out.cell (k := 2) rfl
  have f0 := HA2.out.free 0
  have f1 := HA2.out.free 1
  have f2 := HA2.out.free 2
  clear D hb HA HL
  go_wp2_with fail
  refine bodyPost_ret (results_blk_tmp rfl rfl (((HA2.out.set 0 _).set 1 _).set 2 _) Try.underlying25 rfl (by kernel_rfl)) rfl ?_
  exact ⟨a, t, h, n, rfl, n1, n2, ((HL2.out.setCell (Nat.le_refl _) _).setCell (Nat.le_refl _) _).setCell (Nat.le_refl _) _⟩
theorem drawSwingWide (v : Value) (w : World) (hc : CodeAt w v) : Calls Try.prog 18 #[v] w (DrewS2 w) := by
  have hv := hc.alloc (.cells #[.complex .f32 0 0, .int .i64 0, .int .i64 0] 25)
  have hA : BlkAt (w.alloc (.cells #[.complex .f32 0 0, .int .i64 0, .int .i64 0] 25)) w.heap.size 25 #[.complex .f32 0 0, .int .i64 0, .int .i64 0] := BlkAt.newAt rfl rfl
  have hL := bel1 w (.cells #[.complex .f32 0 0, .int .i64 0, .int .i64 0] 25)
  go_enter Try.func18, Try.ntmps18
  go_upto_region 1 with fail
  show Code.wp _ _ _ _ (w.alloc (.cells #[.complex .f32 0 0, .int .i64 0, .int .i64 0] 25))
  generalize (w.alloc (.cells #[.complex .f32 0 0, .int .i64 0, .int .i64 0] 25)) = W at *
  have D := Lib.hid (steps_drawn v W hv)
  have HA := Lib.hid hA
  have HL := Lib.hid hL
  clear hc hv hA hL
  go_wp2_with fail
  refine D.out.mono ?_; rintro e w2 ⟨a, t, h, n, rfl, n1, n2, hb⟩
  have HA2 := Lib.hid (HA.out.below hb)
  have HL2 := Lib.hid (belT HL.out hb)
  have a0 := HA2.out.cell (k := 0) rfl
  have a1 := HA2.out.cell (k := 1) rfl
  have a2 := HA2.out.cell (k := 2) rfl
  have f0 := HA2.out.free 0
  have f1 := HA2.out.free 1
  have f2 := HA2.out.free 2
  clear D hb HA HL
  go_wp2_with fail
  refine bodyPost_ret (results_blk_tmp rfl rfl (((HA2.out.set 0 _).set 1 _).set 2 _) Try.underlying25 rfl (by kernel_rfl)) rfl ?_
  exact ⟨a, t, h, n, rfl, n1, n2, ((HL2.out.setCell (Nat.le_refl _) _).setCell (Nat.le_refl _) _).setCell (Nat.le_refl _) _⟩
theorem drawSwingSum (v : Value) (w : World) (hc : CodeAt w v) : Calls Try.prog 35 #[v] w (DrewS2 w) := by
  have hv := hc.alloc (.cells #[.complex .f32 0 0, .int .i64 0, .int .i64 0] 25)
  have hA : BlkAt (w.alloc (.cells #[.complex .f32 0 0, .int .i64 0, .int .i64 0] 25)) w.heap.size 25 #[.complex .f32 0 0, .int .i64 0, .int .i64 0] := BlkAt.newAt rfl rfl
  have hL := bel1 w (.cells #[.complex .f32 0 0, .int .i64 0, .int .i64 0] 25)
  go_enter Try.func35, Try.ntmps35
  go_upto_region 1 with fail
  show Code.wp _ _ _ _ (w.alloc (.cells #[.complex .f32 0 0, .int .i64 0, .int .i64 0] 25))
  generalize (w.alloc (.cells #[.complex .f32 0 0, .int .i64 0, .int .i64 0] 25)) = W at *
  have D := Lib.hid (steps_drawn v W hv)
  have HA := Lib.hid hA
  have HL := Lib.hid hL
  clear hc hv hA hL
  go_wp2_with fail
  refine D.out.mono ?_; rintro e w2 ⟨a, t, h, n, rfl, n1, n2, hb⟩
  have HA2 := Lib.hid (HA.out.below hb)
  have HL2 := Lib.hid (belT HL.out hb)
  have a0 := HA2.out.cell (k := 0) rfl
  have a1 := HA2.out.cell (k := 1) rfl
  have a2 := HA2.out.cell (k := 2) rfl
  have f0 := HA2.out.free 0
  have f1 := HA2.out.free 1
  have f2 := HA2.out.free 2
  clear D hb HA HL
  go_wp2_with fail
  refine bodyPost_ret (results_blk_tmp rfl rfl (((HA2.out.set 0 _).set 1 _).set 2 _) Try.underlying25 rfl (by kernel_rfl)) rfl ?_
  exact ⟨a, t, h, n, rfl, n1, n2, ((HL2.out.setCell (Nat.le_refl _) _).setCell (Nat.le_refl _) _).setCell (Nat.le_refl _) _⟩
end Go.Proofs.Ytpbppgaohfgpbaa
/- What the walks of the laws of swings share. -/
namespace Go.Proofs.Ytpbppgaohfgpbaa
set_option maxRecDepth 20000
open Go.ChangeShapes Go.WideShapes Go.ChangeAt Go.RowKit
set_option linter.unusedVariables false
set_option linter.unusedSimpArgs false
attribute [local go_sem] run_store_fl run_store_cx

theorem alike_nas (a : Pn) (h : NaS a) (w : World) : Calls Try.prog 15 #[cs a.1 a.2, cs a.1 a.2] w fun e w' => e = .returned (.bool true) ∧ w' = w := by
  obtain ⟨h1, n1⟩ := wd_ns h.1
  obtain ⟨h2, n2⟩ := wd_ns h.2
  exact singleAlike_same h1 h2 n1 n2 w
theorem run_csame {x a : Pn} {u v : Int} (hx : At x u v) (ha : At a u v) (t : TypeId) (w : World) : (binOp .eql t (.complex .f32 x.1 x.2) (.complex .f32 a.1 a.2)).run Try.prog w = .ok (.bool true) w := by
  obtain ⟨s, V, s', V', h1, h2, e1, e2⟩ := hx
  obtain ⟨t1, U, t2, U', g1, g2, f1, f2⟩ := ha
  have o1 := fs_order h1 g1
  have o2 := fs_order h2 g2
  rw [← e1, ← f1, Int.compare_eq_eq.2 rfl] at o1
  rw [← e2, ← f2, Int.compare_eq_eq.2 rfl] at o2
  exact run_ceqSw o1 o2 t w
theorem swS_nas (a : Pn) (t h n : Int) : NaS (swS a t h n) := by
  unfold swS
  split
  · rename_i h1
    exact nas_fin (rnS_fin _ (okW_parts (mkW_parts h1).1).1)
  · exact nas_nil
theorem swS_yes {a : Pn} {t h n : Int} (h1 : mkW' a t h n = true) : swS a t h n = rnS t.toNat h.toNat n.toNat a := by unfold swS; rw [if_pos h1]
theorem sumS_nas (a : Pn) (t h n : Int) : NaS (sumSw a t h n) := by
  unfold sumSw
  split
  · rename_i h1
    exact smP_nas (fun y hy => nums_mem (okW_parts (mkW_parts h1).1).1 hy)
  · exact nas_nil
theorem mkW_yes {a : Pn} {t h n : Int} (h1 : okW a t h = true) (h2 : 0 ≤ n) (h3 : n ≤ 400) : mkW' a t h n = true := by unfold mkW'; rw [h1]; simp; omega
theorem okW_still {a : Pn} {t h : Int} (v : okW a t h = true) : okW a t 0 = true := by
  obtain ⟨ha, ht, -⟩ := okW_parts v
  unfold okW
  rw [finS_pt.1 ha]; simp; omega
theorem okW_next {a b : Pn} {t h : Int} (v : okW a t h = true) (hb : FinS b) : okW b t h = true := by
  obtain ⟨ha, ht, hh⟩ := okW_parts v
  unfold okW
  rw [finS_pt.1 hb]; simp; omega
theorem code_draws {w : World} (o : Obj) : Below w.heap.size w (w.alloc o) := bel1 w o
end Go.Proofs.Ytpbppgaohfgpbaa
