/-
  Contracts of impl's signs of radicals, and how surds become radicals.
-/
import Derived.Test.YtdgbpdeimckbfaaM24
import Derived.Test.YtdgbpdeimckbfaaM01
import Derived.Deep.DeepCutAuto
/- Contracts of impl's signs of radicals, and how surds become radicals. -/
namespace Go.Proofs.Ytdgbpdeimckbfaa
set_option maxRecDepth 20000
open Go.ChangeShapes Go.WideShapes Go.ChangeAt Go.RowKit
set_option linter.unusedVariables false
set_option linter.unusedSimpArgs false

def Gives (F : FuncId) (args : Array Value) (v : Value) : Prop := ∀ w, Calls Try.prog F args w fun e w' => e = .returned v ∧ Below w.heap.size w w'
theorem Gives.same {F : FuncId} {args : Array Value} {v : Value} (h : ∀ w, Calls Try.prog F args w fun e w' => e = .returned v ∧ w = w') : Gives F args v := fun w => (h w).mono fun _ _ ⟨he, hw⟩ => ⟨he, hw ▸ Below.refl _ _⟩
abbrev h2 (a b : Int) : Value := .agg (vec 2 (f2 a b))
theorem rsign_zero (w : World) : Calls Try.prog 109 #[sv 0 0 0 0] w fun e w' => e = .returned (.int .i64 0) ∧ Below w.heap.size w w' := by
  unfold sv
  go_enter Try.func109, Try.ntmps109
  go_wp2
  go_ret
  exact ⟨rfl, below_one _ _⟩
theorem eq_four (T : TypeId) (hT : T = 43 ∨ T = 108) (a b c d x y z u : Int) (w : World) :
    (Op.equalIn 10000 T (.agg #[.int .i64 a, .int .i64 b, .int .i64 c, .int .i64 d]) (.agg #[.int .i64 x, .int .i64 y, .int .i64 z, .int .i64 u])).run Try.prog w = .ok (a == x && b == y && c == z && d == u) w := by
  by_cases ha : a = x
  · by_cases hb : b = y
    · by_cases hc : c = z
      · by_cases hd : d = u
        · subst ha; subst hb; subst hc; subst hd
          rcases hT with rfl | rfl <;> go_simp
        · have hd' : (d == u) = false := by simpa using hd
          subst ha; subst hb; subst hc
          rcases hT with rfl | rfl <;> go_simp
      · have hc' : (c == z) = false := by simpa using hc
        subst ha; subst hb
        rcases hT with rfl | rfl <;> go_simp
    · have hb' : (b == y) = false := by simpa using hb
      subst ha
      rcases hT with rfl | rfl <;> go_simp
  · have ha' : (a == x) = false := by simpa using ha
    rcases hT with rfl | rfl <;> go_simp
theorem rows_fresh (w : World) (o : Obj) (f g : Nat → Int) (T : TypeId) :
    RowAt (((w.alloc o).alloc (.cells (vec 2 f) T)).alloc (.cells (vec 2 g) T)).drew (w.heap.size + 1) 2 T f ∧ RowAt (((w.alloc o).alloc (.cells (vec 2 f) T)).alloc (.cells (vec 2 g) T)).drew (w.heap.size + 1 + 1) 2 T g ∧
      Below w.heap.size w (((w.alloc o).alloc (.cells (vec 2 f) T)).alloc (.cells (vec 2 g) T)).drew := by
  have h1 : RowAt ((w.alloc o).alloc (.cells (vec 2 f) T)) (w.heap.size + 1) 2 T f := RowAt.newAt rfl (by simp)
  have h2 : RowAt (((w.alloc o).alloc (.cells (vec 2 f) T)).alloc (.cells (vec 2 g) T)) (w.heap.size + 1 + 1) 2 T g := RowAt.newAt rfl (by simp)
  exact ⟨(h1.alloc _).drew1, h2.drew1, (below_three _ _ _ _).drew⟩
theorem rsign_parts (a b c d : Int) (ha : -100000000 ≤ a ∧ a ≤ 100000000) (hb : -100000000 ≤ b ∧ b ≤ 100000000) (hc : -100000000 ≤ c ∧ c ≤ 100000000) (hd : -100000000 ≤ d ∧ d ≤ 100000000) :
    ∃ s t u v x y n m p q r : Int, Gives 145 #[h2 a b] (h2 s t) ∧ Gives 145 #[h2 c d] (h2 u v) ∧ Gives 147 #[h2 u v, .int .i64 3] (h2 x y) ∧ Gives 146 #[h2 s t, h2 x y] (h2 n m) ∧
      Gives 149 #[h2 a b] (.int .i64 p) ∧ Gives 149 #[h2 c d] (.int .i64 q) ∧ Gives 149 #[h2 n m] (.int .i64 r) ∧ Gives 148 #[.int .i64 p, .int .i64 q, .int .i64 r] (.int .i64 (sg4 a b c d)) := by
  have b1 := mul_in 100000000 100000000 ha ha
  have b2 := mul_in 200000000 100000000 (x := 2 * b) (by omega) hb
  have b3 := mul_in 200000000 100000000 (x := 2 * a) (by omega) hb
  have c1 := mul_in 100000000 100000000 hc hc
  have c2 := mul_in 200000000 100000000 (x := 2 * d) (by omega) hd
  have c3 := mul_in 200000000 100000000 (x := 2 * c) (by omega) hd
  simp only [Nat.reduceMul] at b1 b2 b3 c1 c2 c3
  refine ⟨a * a + 2 * b * b, 2 * a * b, c * c + 2 * d * d, 2 * c * d, 3 * (c * c + 2 * d * d), 3 * (2 * c * d), a * a + 2 * b * b - 3 * (c * c + 2 * d * d), 2 * a * b - 3 * (2 * c * d), sg2 a b, sg2 c d, sg2 (a * a + 2 * b * b - 3 * (c * c + 2 * d * d)) (2 * a * b - 3 * (2 * c * d)), hsquare_any a b ha hb, hsquare_any c d hc hd, hscaled_any (c * c + 2 * d * d) (2 * c * d) (by omega) (by omega), hless_any (a * a + 2 * b * b) (2 * a * b) (3 * (c * c + 2 * d * d)) (3 * (2 * c * d)) (by omega) (by omega) (by omega) (by omega),
    hsign_any a b (by omega) (by omega), hsign_any c d (by omega) (by omega), hsign_any (a * a + 2 * b * b - 3 * (c * c + 2 * d * d)) (2 * a * b - 3 * (2 * c * d)) (by omega) (by omega), ?_⟩
  have h := Gives.same fun w => signOfSum_any (sg2 a b) (sg2 c d) (sg2 (a * a + 2 * b * b - 3 * (c * c + 2 * d * d)) (2 * a * b - 3 * (2 * c * d))) (sg2_in _ _) (sg2_in _ _) (sg2_in _ _) w
  rwa [← sg4_joined] at h
set_option maxHeartbeats 2000000 in
theorem rsign_some (a b c d : Int) (ha : -100000000 ≤ a ∧ a ≤ 100000000) (hb : -100000000 ≤ b ∧ b ≤ 100000000) (hc : -100000000 ≤ c ∧ c ≤ 100000000) (hd : -100000000 ≤ d ∧ d ≤ 100000000)
    (hn : (a == 0 && b == 0 && c == 0 && d == 0) = false) (w : World) : Calls Try.prog 109 #[sv a b c d] w fun e w' => e = .returned (.int .i64 (sg4 a b c d)) ∧ Below w.heap.size w w' := by
  obtain ⟨s, t, u, v, x, y, n, m, p, q, r, C1, C2, C3, C4, D1, D2, D3, D4⟩ := rsign_parts a b c d ha hb hc hd
  have E := fun w => eq_four 108 (.inr rfl) a b c d 0 0 0 0 w
  rw [hn] at E
  clear hn
  generalize sg4 a b c d = z at *
  unfold sv
  go_enter Try.func109, Try.ntmps109
  go_upto_region 3 with fail
  go_cut [3, 4] (fun s3 s4 wx => ∃ g h : Nat, s3 = .pointer (some ⟨g, 0, none⟩) ∧ s4 = .pointer (some ⟨h, 0, none⟩) ∧ RowAt wx g 2 164 (f2 a b) ∧ RowAt wx h 2 164 (f2 c d) ∧ Below w.heap.size w wx)
  case first =>
    go_region
    all_goals (go_wp2_with fail; go_meet)
    all_goals first
      | exact ⟨w.heap.size + 1, w.heap.size + 1 + 1, rfl, rfl, (rows_fresh w _ (f2 a b) (f2 c d) 164).1, (rows_fresh w _ (f2 a b) (f2 c d) 164).2.1, (rows_fresh w _ (f2 a b) (f2 c d) 164).2.2⟩
      | exact ⟨w.heap.size + 1 + 1, w.heap.size + 1, rfl, rfl, (rows_fresh w _ (f2 c d) (f2 a b) 164).2.1, (rows_fresh w _ (f2 c d) (f2 a b) 164).1, (rows_fresh w _ (f2 c d) (f2 a b) 164).2.2⟩
  case rest =>
    obtain ⟨g, h, rfl, rfl, hA, hB, hL⟩ := hcut
    go_upto_region 4 with fail
    go_cut [5] (fun s5 wx => ∃ k : Nat, s5 = .pointer (some ⟨k, 0, none⟩) ∧ RowAt wx g 2 164 (f2 a b) ∧ RowAt wx h 2 164 (f2 c d) ∧ RowAt wx k 2 164 (f2 n m) ∧ Below w.heap.size w wx)
    case first =>
      refine wp_region_held_drew (S := fun w' => RowAt w' (g) 2 164 (f2 a b) ∧ RowAt w' (h) 2 164 (f2 c d) ∧ Below w.heap.size w w') (by kernel_rfl) ⟨hA.drew1, hB.drew1, hL.drew⟩ (fun hHeld => ?_)
      clear hA hB hL
      refine wpAnyH_take (i := 0) (oi := _) (v := .agg (vec 2 (f2 a b))) rfl (by kernel_rfl) (by kernel_rfl) (by kernel_rfl) (fun _ _ _ h => h) (yieldsIf_load_mid (by rfl) _ _ rfl _ _ rfl _ _ (fun w h => h.1.range) Try.underlying164 rfl (size_half (f2 a b))) hHeld ?_
      try simp only [Act.put, List.setIfInBounds_toArray, List.set_cons_zero, List.set_cons_succ, List.getElem_toArray, List.getElem_cons_succ, List.getElem_cons_zero]
      refine wpAnyH_take (i := 2) (oi := _) (v := .agg (vec 2 (f2 c d))) rfl (by kernel_rfl) (by kernel_rfl) (by kernel_rfl) (fun _ _ _ h => h) (yieldsIf_load_mid (by rfl) _ _ rfl _ _ rfl _ _ (fun w h => h.2.1.range) Try.underlying164 rfl (size_half (f2 c d))) hHeld ?_
      try simp only [Act.put, List.setIfInBounds_toArray, List.set_cons_zero, List.set_cons_succ, List.getElem_toArray, List.getElem_cons_succ, List.getElem_cons_zero]
      refine wpAnyH_ready (rs := [1, 6]) (by kernel_rfl) (by simp) ?_
      refine AllReadyH.cons (o := _) rfl (fun K hK => ?_) (AllReadyH.cons (o := _) rfl (fun K hK => ?_) AllReadyH.nil)
      · go_simp
        refine (C1 _).mono ?_; rintro e w1 ⟨rfl, hb1⟩
        go_wp2_with fail
        obtain ⟨h0, h1, hL⟩ := hHeld
        refine hK.out _ _ ⟨h0.below hb1, h1.below hb1, below_next hL hb1⟩ (fun hHeld => ?_)
        clear hK K hb1 hL h0 h1
        try simp only [Act.put, List.setIfInBounds_toArray, List.set_cons_zero, List.set_cons_succ, List.getElem_toArray, List.getElem_cons_succ, List.getElem_cons_zero]
        refine wpAnyH_ready (rs := [3, 6]) (by kernel_rfl) (by simp) ?_
        refine AllReadyH.cons (o := _) rfl (fun K hK => ?_) (AllReadyH.cons (o := _) rfl (fun K hK => ?_) AllReadyH.nil)
        · go_simp
          refine (C2 _).mono ?_; rintro e w2 ⟨rfl, hb2⟩
          go_wp2_with fail
          obtain ⟨h0, h1, hL⟩ := hHeld
          refine hK.out _ _ ⟨h0.below hb2, h1.below hb2, below_next hL hb2⟩ (fun hHeld => ?_)
          clear hK K hb2 hL h0 h1
          try simp only [Act.put, List.setIfInBounds_toArray, List.set_cons_zero, List.set_cons_succ, List.getElem_toArray, List.getElem_cons_succ, List.getElem_cons_zero]
          refine wpAnyH_ready (rs := [4, 6]) (by kernel_rfl) (by simp) ?_
          refine AllReadyH.cons (o := _) rfl (fun K hK => ?_) (AllReadyH.cons (o := _) rfl (fun K hK => ?_) AllReadyH.nil)
          · go_simp
            refine (C3 _).mono ?_; rintro e w3 ⟨rfl, hb3⟩
            go_wp2_with fail
            obtain ⟨h0, h1, hL⟩ := hHeld
            refine hK.out _ _ ⟨h0.below hb3, h1.below hb3, below_next hL hb3⟩ (fun hHeld => ?_)
            clear hK K hb3 hL h0 h1
            try simp only [Act.put, List.setIfInBounds_toArray, List.set_cons_zero, List.set_cons_succ, List.getElem_toArray, List.getElem_cons_succ, List.getElem_cons_zero]
            refine wpAnyH_ready (rs := [5, 6]) (by kernel_rfl) (by simp) ?_
            refine AllReadyH.cons (o := _) rfl (fun K hK => ?_) (AllReadyH.cons (o := _) rfl (fun K hK => ?_) AllReadyH.nil)
            · go_simp
              refine (C4 _).mono ?_; rintro e w4 ⟨rfl, hb4⟩
              go_wp2_with fail
              obtain ⟨h0, h1, hL⟩ := hHeld
              refine hK.out _ _ ⟨h0.below hb4, h1.below hb4, below_next hL hb4⟩ (fun hHeld => ?_)
              clear hK K hb4 hL h0 h1
              try simp only [Act.put, List.setIfInBounds_toArray, List.set_cons_zero, List.set_cons_succ, List.getElem_toArray, List.getElem_cons_succ, List.getElem_cons_zero]
              refine wpAnyH_ready (rs := [6]) (by kernel_rfl) (by simp) ?_
              refine AllReadyH.cons (o := _) rfl (fun K hK => ?_) AllReadyH.nil
              rw [if_pos (by rfl)]
              go_simp
              obtain ⟨h0, h1, hL⟩ := hHeld
              have l0 := h0.lt
              have l1 := h1.lt
              have hz := hL.size
              have hG : RowAt ((w4).alloc (.cells (vec 2 (f2 0 0)) 164)) w4.heap.size 2 164 (f2 0 0) := RowAt.newAt rfl rfl
              refine hK.out _ _ ⟨h0.alloc _, h1.alloc _, hL.alloc hz _⟩ (fun hHeld => ?_)
              clear hK K hL h0 h1
              try simp only [Act.put, List.setIfInBounds_toArray, List.set_cons_zero, List.set_cons_succ, List.getElem_toArray, List.getElem_cons_succ, List.getElem_cons_zero]
              refine wpAnyH_ready (rs := [7]) (by kernel_rfl) (by simp) ?_
              refine AllReadyH.cons (o := _) rfl (fun K hK => ?_) AllReadyH.nil
              rw [if_pos (by rfl)]
              refine store_step (f' := (f2 n m)) rfl rfl rfl hG info_half ?_
              obtain ⟨h0, h1, hL⟩ := hHeld
              have hG2 := hG.setRow (f' := (f2 n m))
              refine hK.out _ _ ⟨h0.rowOther _ _ (by omega), h1.rowOther _ _ (by omega), below_setRow hL hz _⟩ (fun hHeld => ?_)
              clear hK K hL h0 h1
              try simp only [Act.put, List.setIfInBounds_toArray, List.set_cons_zero, List.set_cons_succ, List.getElem_toArray, List.getElem_cons_succ, List.getElem_cons_zero]
              refine wpAnyH_done (by kernel_rfl) ?_ _
              go_wp2_with fail
              obtain ⟨h0, h1, hL⟩ := hHeld
              go_meet
              exact ⟨_, rfl, h0, h1, hG2, hL⟩
            · rw [if_pos (by rfl)]
              go_simp
              obtain ⟨h0, h1, hL⟩ := hHeld
              have l0 := h0.lt
              have l1 := h1.lt
              have hz := hL.size
              have hG : RowAt ((w3).alloc (.cells (vec 2 (f2 0 0)) 164)) w3.heap.size 2 164 (f2 0 0) := RowAt.newAt rfl rfl
              refine hK.out _ _ ⟨h0.alloc _, h1.alloc _, hL.alloc hz _⟩ (fun hHeld => ?_)
              clear hK K hL h0 h1
              try simp only [Act.put, List.setIfInBounds_toArray, List.set_cons_zero, List.set_cons_succ, List.getElem_toArray, List.getElem_cons_succ, List.getElem_cons_zero]
              refine wpAnyH_ready (rs := [5]) (by kernel_rfl) (by simp) ?_
              refine AllReadyH.cons (o := _) rfl (fun K hK => ?_) AllReadyH.nil
              go_simp
              refine (C4 _).mono ?_; rintro e w5 ⟨rfl, hb5⟩
              go_wp2_with fail
              obtain ⟨h0, h1, hL⟩ := hHeld
              have hG := hG.below hb5
              refine hK.out _ _ ⟨h0.below hb5, h1.below hb5, below_next hL hb5⟩ (fun hHeld => ?_)
              clear hK K hb5 hL h0 h1
              try simp only [Act.put, List.setIfInBounds_toArray, List.set_cons_zero, List.set_cons_succ, List.getElem_toArray, List.getElem_cons_succ, List.getElem_cons_zero]
              refine wpAnyH_ready (rs := [7]) (by kernel_rfl) (by simp) ?_
              refine AllReadyH.cons (o := _) rfl (fun K hK => ?_) AllReadyH.nil
              rw [if_pos (by rfl)]
              refine store_step (f' := (f2 n m)) rfl rfl rfl hG info_half ?_
              obtain ⟨h0, h1, hL⟩ := hHeld
              have hG2 := hG.setRow (f' := (f2 n m))
              refine hK.out _ _ ⟨h0.rowOther _ _ (by omega), h1.rowOther _ _ (by omega), below_setRow hL hz _⟩ (fun hHeld => ?_)
              clear hK K hL h0 h1
              try simp only [Act.put, List.setIfInBounds_toArray, List.set_cons_zero, List.set_cons_succ, List.getElem_toArray, List.getElem_cons_succ, List.getElem_cons_zero]
              refine wpAnyH_done (by kernel_rfl) ?_ _
              go_wp2_with fail
              obtain ⟨h0, h1, hL⟩ := hHeld
              go_meet
              exact ⟨_, rfl, h0, h1, hG2, hL⟩
          · rw [if_pos (by rfl)]
            go_simp
            obtain ⟨h0, h1, hL⟩ := hHeld
            have l0 := h0.lt
            have l1 := h1.lt
            have hz := hL.size
            have hG : RowAt ((w2).alloc (.cells (vec 2 (f2 0 0)) 164)) w2.heap.size 2 164 (f2 0 0) := RowAt.newAt rfl rfl
            refine hK.out _ _ ⟨h0.alloc _, h1.alloc _, hL.alloc hz _⟩ (fun hHeld => ?_)
            clear hK K hL h0 h1
            try simp only [Act.put, List.setIfInBounds_toArray, List.set_cons_zero, List.set_cons_succ, List.getElem_toArray, List.getElem_cons_succ, List.getElem_cons_zero]
            refine wpAnyH_ready (rs := [4]) (by kernel_rfl) (by simp) ?_
            refine AllReadyH.cons (o := _) rfl (fun K hK => ?_) AllReadyH.nil
            go_simp
            refine (C3 _).mono ?_; rintro e w6 ⟨rfl, hb6⟩
            go_wp2_with fail
            obtain ⟨h0, h1, hL⟩ := hHeld
            have hG := hG.below hb6
            refine hK.out _ _ ⟨h0.below hb6, h1.below hb6, below_next hL hb6⟩ (fun hHeld => ?_)
            clear hK K hb6 hL h0 h1
            try simp only [Act.put, List.setIfInBounds_toArray, List.set_cons_zero, List.set_cons_succ, List.getElem_toArray, List.getElem_cons_succ, List.getElem_cons_zero]
            refine wpAnyH_ready (rs := [5]) (by kernel_rfl) (by simp) ?_
            refine AllReadyH.cons (o := _) rfl (fun K hK => ?_) AllReadyH.nil
            go_simp
            refine (C4 _).mono ?_; rintro e w7 ⟨rfl, hb7⟩
            go_wp2_with fail
            obtain ⟨h0, h1, hL⟩ := hHeld
            have hG := hG.below hb7
            refine hK.out _ _ ⟨h0.below hb7, h1.below hb7, below_next hL hb7⟩ (fun hHeld => ?_)
            clear hK K hb7 hL h0 h1
            try simp only [Act.put, List.setIfInBounds_toArray, List.set_cons_zero, List.set_cons_succ, List.getElem_toArray, List.getElem_cons_succ, List.getElem_cons_zero]
            refine wpAnyH_ready (rs := [7]) (by kernel_rfl) (by simp) ?_
            refine AllReadyH.cons (o := _) rfl (fun K hK => ?_) AllReadyH.nil
            rw [if_pos (by rfl)]
            refine store_step (f' := (f2 n m)) rfl rfl rfl hG info_half ?_
            obtain ⟨h0, h1, hL⟩ := hHeld
            have hG2 := hG.setRow (f' := (f2 n m))
            refine hK.out _ _ ⟨h0.rowOther _ _ (by omega), h1.rowOther _ _ (by omega), below_setRow hL hz _⟩ (fun hHeld => ?_)
            clear hK K hL h0 h1
            try simp only [Act.put, List.setIfInBounds_toArray, List.set_cons_zero, List.set_cons_succ, List.getElem_toArray, List.getElem_cons_succ, List.getElem_cons_zero]
            refine wpAnyH_done (by kernel_rfl) ?_ _
            go_wp2_with fail
            obtain ⟨h0, h1, hL⟩ := hHeld
            go_meet
            exact ⟨_, rfl, h0, h1, hG2, hL⟩
        · rw [if_pos (by rfl)]
          go_simp
          obtain ⟨h0, h1, hL⟩ := hHeld
          have l0 := h0.lt
          have l1 := h1.lt
          have hz := hL.size
          have hG : RowAt ((w1).alloc (.cells (vec 2 (f2 0 0)) 164)) w1.heap.size 2 164 (f2 0 0) := RowAt.newAt rfl rfl
          refine hK.out _ _ ⟨h0.alloc _, h1.alloc _, hL.alloc hz _⟩ (fun hHeld => ?_)
          clear hK K hL h0 h1
          try simp only [Act.put, List.setIfInBounds_toArray, List.set_cons_zero, List.set_cons_succ, List.getElem_toArray, List.getElem_cons_succ, List.getElem_cons_zero]
          refine wpAnyH_ready (rs := [3]) (by kernel_rfl) (by simp) ?_
          refine AllReadyH.cons (o := _) rfl (fun K hK => ?_) AllReadyH.nil
          go_simp
          refine (C2 _).mono ?_; rintro e w8 ⟨rfl, hb8⟩
          go_wp2_with fail
          obtain ⟨h0, h1, hL⟩ := hHeld
          have hG := hG.below hb8
          refine hK.out _ _ ⟨h0.below hb8, h1.below hb8, below_next hL hb8⟩ (fun hHeld => ?_)
          clear hK K hb8 hL h0 h1
          try simp only [Act.put, List.setIfInBounds_toArray, List.set_cons_zero, List.set_cons_succ, List.getElem_toArray, List.getElem_cons_succ, List.getElem_cons_zero]
          refine wpAnyH_ready (rs := [4]) (by kernel_rfl) (by simp) ?_
          refine AllReadyH.cons (o := _) rfl (fun K hK => ?_) AllReadyH.nil
          go_simp
          refine (C3 _).mono ?_; rintro e w9 ⟨rfl, hb9⟩
          go_wp2_with fail
          obtain ⟨h0, h1, hL⟩ := hHeld
          have hG := hG.below hb9
          refine hK.out _ _ ⟨h0.below hb9, h1.below hb9, below_next hL hb9⟩ (fun hHeld => ?_)
          clear hK K hb9 hL h0 h1
          try simp only [Act.put, List.setIfInBounds_toArray, List.set_cons_zero, List.set_cons_succ, List.getElem_toArray, List.getElem_cons_succ, List.getElem_cons_zero]
          refine wpAnyH_ready (rs := [5]) (by kernel_rfl) (by simp) ?_
          refine AllReadyH.cons (o := _) rfl (fun K hK => ?_) AllReadyH.nil
          go_simp
          refine (C4 _).mono ?_; rintro e w10 ⟨rfl, hb10⟩
          go_wp2_with fail
          obtain ⟨h0, h1, hL⟩ := hHeld
          have hG := hG.below hb10
          refine hK.out _ _ ⟨h0.below hb10, h1.below hb10, below_next hL hb10⟩ (fun hHeld => ?_)
          clear hK K hb10 hL h0 h1
          try simp only [Act.put, List.setIfInBounds_toArray, List.set_cons_zero, List.set_cons_succ, List.getElem_toArray, List.getElem_cons_succ, List.getElem_cons_zero]
          refine wpAnyH_ready (rs := [7]) (by kernel_rfl) (by simp) ?_
          refine AllReadyH.cons (o := _) rfl (fun K hK => ?_) AllReadyH.nil
          rw [if_pos (by rfl)]
          refine store_step (f' := (f2 n m)) rfl rfl rfl hG info_half ?_
          obtain ⟨h0, h1, hL⟩ := hHeld
          have hG2 := hG.setRow (f' := (f2 n m))
          refine hK.out _ _ ⟨h0.rowOther _ _ (by omega), h1.rowOther _ _ (by omega), below_setRow hL hz _⟩ (fun hHeld => ?_)
          clear hK K hL h0 h1
          try simp only [Act.put, List.setIfInBounds_toArray, List.set_cons_zero, List.set_cons_succ, List.getElem_toArray, List.getElem_cons_succ, List.getElem_cons_zero]
          refine wpAnyH_done (by kernel_rfl) ?_ _
          go_wp2_with fail
          obtain ⟨h0, h1, hL⟩ := hHeld
          go_meet
          exact ⟨_, rfl, h0, h1, hG2, hL⟩
      · rw [if_pos (by rfl)]
        go_simp
        obtain ⟨h0, h1, hL⟩ := hHeld
        have l0 := h0.lt
        have l1 := h1.lt
        have hz := hL.size
        have hG : RowAt ((wc.drew).alloc (.cells (vec 2 (f2 0 0)) 164)) wc.heap.size 2 164 (f2 0 0) := RowAt.newAt rfl rfl
        refine hK.out _ _ ⟨h0.alloc _, h1.alloc _, hL.alloc hz _⟩ (fun hHeld => ?_)
        clear hK K hL h0 h1
        try simp only [Act.put, List.setIfInBounds_toArray, List.set_cons_zero, List.set_cons_succ, List.getElem_toArray, List.getElem_cons_succ, List.getElem_cons_zero]
        change _ ≤ wc.heap.size at hz
        change _ < wc.heap.size at l0
        change _ < wc.heap.size at l1
        refine wpAnyH_ready (rs := [1]) (by kernel_rfl) (by simp) ?_
        refine AllReadyH.cons (o := _) rfl (fun K hK => ?_) AllReadyH.nil
        go_simp
        refine (C1 _).mono ?_; rintro e w11 ⟨rfl, hb11⟩
        go_wp2_with fail
        obtain ⟨h0, h1, hL⟩ := hHeld
        have hG := hG.below hb11
        refine hK.out _ _ ⟨h0.below hb11, h1.below hb11, below_next hL hb11⟩ (fun hHeld => ?_)
        clear hK K hb11 hL h0 h1
        try simp only [Act.put, List.setIfInBounds_toArray, List.set_cons_zero, List.set_cons_succ, List.getElem_toArray, List.getElem_cons_succ, List.getElem_cons_zero]
        refine wpAnyH_ready (rs := [3]) (by kernel_rfl) (by simp) ?_
        refine AllReadyH.cons (o := _) rfl (fun K hK => ?_) AllReadyH.nil
        go_simp
        refine (C2 _).mono ?_; rintro e w12 ⟨rfl, hb12⟩
        go_wp2_with fail
        obtain ⟨h0, h1, hL⟩ := hHeld
        have hG := hG.below hb12
        refine hK.out _ _ ⟨h0.below hb12, h1.below hb12, below_next hL hb12⟩ (fun hHeld => ?_)
        clear hK K hb12 hL h0 h1
        try simp only [Act.put, List.setIfInBounds_toArray, List.set_cons_zero, List.set_cons_succ, List.getElem_toArray, List.getElem_cons_succ, List.getElem_cons_zero]
        refine wpAnyH_ready (rs := [4]) (by kernel_rfl) (by simp) ?_
        refine AllReadyH.cons (o := _) rfl (fun K hK => ?_) AllReadyH.nil
        go_simp
        refine (C3 _).mono ?_; rintro e w13 ⟨rfl, hb13⟩
        go_wp2_with fail
        obtain ⟨h0, h1, hL⟩ := hHeld
        have hG := hG.below hb13
        refine hK.out _ _ ⟨h0.below hb13, h1.below hb13, below_next hL hb13⟩ (fun hHeld => ?_)
        clear hK K hb13 hL h0 h1
        try simp only [Act.put, List.setIfInBounds_toArray, List.set_cons_zero, List.set_cons_succ, List.getElem_toArray, List.getElem_cons_succ, List.getElem_cons_zero]
        refine wpAnyH_ready (rs := [5]) (by kernel_rfl) (by simp) ?_
        refine AllReadyH.cons (o := _) rfl (fun K hK => ?_) AllReadyH.nil
        go_simp
        refine (C4 _).mono ?_; rintro e w14 ⟨rfl, hb14⟩
        go_wp2_with fail
        obtain ⟨h0, h1, hL⟩ := hHeld
        have hG := hG.below hb14
        refine hK.out _ _ ⟨h0.below hb14, h1.below hb14, below_next hL hb14⟩ (fun hHeld => ?_)
        clear hK K hb14 hL h0 h1
        try simp only [Act.put, List.setIfInBounds_toArray, List.set_cons_zero, List.set_cons_succ, List.getElem_toArray, List.getElem_cons_succ, List.getElem_cons_zero]
        refine wpAnyH_ready (rs := [7]) (by kernel_rfl) (by simp) ?_
        refine AllReadyH.cons (o := _) rfl (fun K hK => ?_) AllReadyH.nil
        rw [if_pos (by rfl)]
        refine store_step (f' := (f2 n m)) rfl rfl rfl hG info_half ?_
        obtain ⟨h0, h1, hL⟩ := hHeld
        have hG2 := hG.setRow (f' := (f2 n m))
        refine hK.out _ _ ⟨h0.rowOther _ _ (by omega), h1.rowOther _ _ (by omega), below_setRow hL hz _⟩ (fun hHeld => ?_)
        clear hK K hL h0 h1
        try simp only [Act.put, List.setIfInBounds_toArray, List.set_cons_zero, List.set_cons_succ, List.getElem_toArray, List.getElem_cons_succ, List.getElem_cons_zero]
        refine wpAnyH_done (by kernel_rfl) ?_ _
        go_wp2_with fail
        obtain ⟨h0, h1, hL⟩ := hHeld
        go_meet
        exact ⟨_, rfl, h0, h1, hG2, hL⟩
    case rest =>
      obtain ⟨k, rfl, hA, hB, hC, hL⟩ := hcut
      go_upto_region 5 with fail
      refine wp_region_held_drew (S := fun w' => RowAt w' (g) 2 164 (f2 a b) ∧ RowAt w' (h) 2 164 (f2 c d) ∧ RowAt w' (k) 2 164 (f2 n m) ∧ Below w.heap.size w w') (by kernel_rfl) ⟨hA.drew1, hB.drew1, hC.drew1, hL.drew⟩ (fun hHeld => ?_)
      clear hA hB hC hL
      refine wpAnyH_take (i := 0) (oi := _) (v := .agg (vec 2 (f2 a b))) rfl (by kernel_rfl) (by kernel_rfl) (by kernel_rfl) (fun _ _ _ h => h) (yieldsIf_load_mid (by rfl) _ _ rfl _ _ rfl _ _ (fun w h => h.1.range) Try.underlying164 rfl (size_half (f2 a b))) hHeld ?_
      try simp only [Act.put, List.setIfInBounds_toArray, List.set_cons_zero, List.set_cons_succ, List.getElem_toArray, List.getElem_cons_succ, List.getElem_cons_zero]
      refine wpAnyH_take (i := 2) (oi := _) (v := .agg (vec 2 (f2 c d))) rfl (by kernel_rfl) (by kernel_rfl) (by kernel_rfl) (fun _ _ _ h => h) (yieldsIf_load_mid (by rfl) _ _ rfl _ _ rfl _ _ (fun w h => h.2.1.range) Try.underlying164 rfl (size_half (f2 c d))) hHeld ?_
      try simp only [Act.put, List.setIfInBounds_toArray, List.set_cons_zero, List.set_cons_succ, List.getElem_toArray, List.getElem_cons_succ, List.getElem_cons_zero]
      refine wpAnyH_take (i := 4) (oi := _) (v := .agg (vec 2 (f2 n m))) rfl (by kernel_rfl) (by kernel_rfl) (by kernel_rfl) (fun _ _ _ h => h) (yieldsIf_load_mid (by rfl) _ _ rfl _ _ rfl _ _ (fun w h => h.2.2.1.range) Try.underlying164 rfl (size_half (f2 n m))) hHeld ?_
      try simp only [Act.put, List.setIfInBounds_toArray, List.set_cons_zero, List.set_cons_succ, List.getElem_toArray, List.getElem_cons_succ, List.getElem_cons_zero]
      refine wpAnyH_ready (rs := [1]) (by kernel_rfl) (by simp) ?_
      refine AllReadyH.cons (o := _) rfl (fun K hK => ?_) AllReadyH.nil
      go_simp
      refine (D1 _).mono ?_; rintro e w1 ⟨rfl, hb1⟩
      go_wp2_with fail
      obtain ⟨h0, h1, h2, hL⟩ := hHeld
      refine hK.out _ _ ⟨h0.below hb1, h1.below hb1, h2.below hb1, below_next hL hb1⟩ (fun hHeld => ?_)
      clear hK K hb1 hL h0 h1 h2
      try simp only [Act.put, List.setIfInBounds_toArray, List.set_cons_zero, List.set_cons_succ, List.getElem_toArray, List.getElem_cons_succ, List.getElem_cons_zero]
      refine wpAnyH_ready (rs := [3]) (by kernel_rfl) (by simp) ?_
      refine AllReadyH.cons (o := _) rfl (fun K hK => ?_) AllReadyH.nil
      go_simp
      refine (D2 _).mono ?_; rintro e w2 ⟨rfl, hb2⟩
      go_wp2_with fail
      obtain ⟨h0, h1, h2, hL⟩ := hHeld
      refine hK.out _ _ ⟨h0.below hb2, h1.below hb2, h2.below hb2, below_next hL hb2⟩ (fun hHeld => ?_)
      clear hK K hb2 hL h0 h1 h2
      try simp only [Act.put, List.setIfInBounds_toArray, List.set_cons_zero, List.set_cons_succ, List.getElem_toArray, List.getElem_cons_succ, List.getElem_cons_zero]
      refine wpAnyH_ready (rs := [5]) (by kernel_rfl) (by simp) ?_
      refine AllReadyH.cons (o := _) rfl (fun K hK => ?_) AllReadyH.nil
      go_simp
      refine (D3 _).mono ?_; rintro e w3 ⟨rfl, hb3⟩
      go_wp2_with fail
      obtain ⟨h0, h1, h2, hL⟩ := hHeld
      refine hK.out _ _ ⟨h0.below hb3, h1.below hb3, h2.below hb3, below_next hL hb3⟩ (fun hHeld => ?_)
      clear hK K hb3 hL h0 h1 h2
      try simp only [Act.put, List.setIfInBounds_toArray, List.set_cons_zero, List.set_cons_succ, List.getElem_toArray, List.getElem_cons_succ, List.getElem_cons_zero]
      refine wpAnyH_ready (rs := [6]) (by kernel_rfl) (by simp) ?_
      refine AllReadyH.cons (o := _) rfl (fun K hK => ?_) AllReadyH.nil
      go_simp
      refine (D4 _).mono ?_; rintro e w4 ⟨rfl, hb4⟩
      go_wp2_with fail
      obtain ⟨h0, h1, h2, hL⟩ := hHeld
      refine hK.out _ _ ⟨h0.below hb4, h1.below hb4, h2.below hb4, below_next hL hb4⟩ (fun hHeld => ?_)
      clear hK K hb4 hL h0 h1 h2
      try simp only [Act.put, List.setIfInBounds_toArray, List.set_cons_zero, List.set_cons_succ, List.getElem_toArray, List.getElem_cons_succ, List.getElem_cons_zero]
      refine wpAnyH_take (i := 7) (oi := _) (v := .int .i64 z) rfl (by kernel_rfl) (by kernel_rfl) (by kernel_rfl) (fun _ _ _ h => h) (Or.inl ⟨by rfl, fun w h => by go_simp⟩) hHeld ?_
      try simp only [Act.put, List.setIfInBounds_toArray, List.set_cons_zero, List.set_cons_succ, List.getElem_toArray, List.getElem_cons_succ, List.getElem_cons_zero]
      refine wpAnyH_done (by kernel_rfl) ?_ _
      go_wp2_with fail
      obtain ⟨h0, h1, h2, hL⟩ := hHeld
      go_ret
      exact ⟨rfl, hL⟩
theorem rsign_any (a b c d : Int) (ha : -100000000 ≤ a ∧ a ≤ 100000000) (hb : -100000000 ≤ b ∧ b ≤ 100000000) (hc : -100000000 ≤ c ∧ c ≤ 100000000) (hd : -100000000 ≤ d ∧ d ≤ 100000000) (w : World) :
    Calls Try.prog 109 #[sv a b c d] w fun e w' => e = .returned (.int .i64 (sg4 a b c d)) ∧ Below w.heap.size w w' := by
  cases hn : (a == 0 && b == 0 && c == 0 && d == 0)
  · exact rsign_some a b c d ha hb hc hd hn w
  · simp only [Bool.and_eq_true, beq_iff_eq] at hn
    obtain ⟨⟨⟨rfl, rfl⟩, rfl⟩, rfl⟩ := hn
    exact rsign_zero w
end Go.Proofs.Ytdgbpdeimckbfaa
