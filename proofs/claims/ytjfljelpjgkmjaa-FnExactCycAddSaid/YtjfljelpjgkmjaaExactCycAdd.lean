/-
  Two exact points: both sides answer alike, for every argument (CycAdd).
-/
import Derived.Test.YtjfljelpjgkmjaaCycZ
namespace Go.Proofs.Ytjfljelpjgkmjaa
set_option maxRecDepth 20000
open Go.ChangeShapes Go.WideShapes Go.ChangeAt Go.RowKit
set_option linter.unusedVariables false
set_option linter.unusedSimpArgs false

set_option maxHeartbeats 2000000 in
theorem exactCycAdd_walk (a b : Nat → Int) (w : World) : Calls Try.prog 16 #[pt a, pt b] w (Fine w) := by
  have sa := vec_size 8 a
  have sb := vec_size 8 b
  obtain ⟨c, v, SP, IM⟩ := both_CycAdd a b
  have P := fun w => toCyc_any a w
  have P2 := fun w => toCyc_any b w
  unfold pt at *
  go_enter Try.func16, Try.ntmps16
  go_upto_region 1 with fail
  show Code.wp _ _ _ _ (boxAB w a b 42)
  obtain ⟨hA, hB, hL, -⟩ := boxAB_facts w a b 42
  generalize boxAB w a b 42 = W at *
  go_cut [5, 6] (fun s5 s6 wx => ∃ g : Nat, s5 = .pointer (some ⟨g, 0, none⟩) ∧ s6 = .bool v ∧ RowAt wx w.heap.size 8 42 a ∧ RowAt wx (w.heap.size + 1) 8 42 b ∧ RowAt wx g 8 25 c ∧ Below w.heap.size w wx)
  case first =>
    refine wp_region_held_drew (S := fun w' => RowAt w' (w.heap.size) 8 42 a ∧ RowAt w' (w.heap.size + 1) 8 42 b ∧ Below w.heap.size w w') (by kernel_rfl) ⟨hA.drew1, hB.drew1, hL.drew⟩ (fun hHeld => ?_)
    clear hA hB hL
    refine wpAnyH_take (i := 0) (oi := _) (v := .agg (vec 8 a)) rfl (by kernel_rfl) (by kernel_rfl) (by kernel_rfl) (fun _ _ _ h => h) (yieldsIf_load_mid (by rfl) _ _ rfl _ _ rfl _ _ (fun w h => h.1.range) Try.underlying42 rfl (size_law a)) hHeld ?_
    try simp only [Act.put, List.setIfInBounds_toArray, List.set_cons_zero, List.set_cons_succ, List.getElem_toArray, List.getElem_cons_succ, List.getElem_cons_zero]
    refine wpAnyH_take (i := 2) (oi := _) (v := .agg (vec 8 b)) rfl (by kernel_rfl) (by kernel_rfl) (by kernel_rfl) (fun _ _ _ h => h) (yieldsIf_load_mid (by rfl) _ _ rfl _ _ rfl _ _ (fun w h => h.2.1.range) Try.underlying42 rfl (size_law b)) hHeld ?_
    try simp only [Act.put, List.setIfInBounds_toArray, List.set_cons_zero, List.set_cons_succ, List.getElem_toArray, List.getElem_cons_succ, List.getElem_cons_zero]
    refine wpAnyH_ready (rs := [1, 8]) (by kernel_rfl) (by simp) ?_
    refine AllReadyH.cons (o := _) rfl (fun K hK => ?_) (AllReadyH.cons (o := _) rfl (fun K hK => ?_) AllReadyH.nil)
    · go_simp
      refine (P _).mono ?_; rintro e w1 ⟨rfl, hb1⟩
      go_wp2_with fail
      obtain ⟨h0, h1, hL⟩ := hHeld
      refine hK.out _ _ ⟨h0.below hb1, h1.below hb1, below_next hL hb1⟩ (fun hHeld => ?_)
      clear hK K hb1 hL h0 h1
      try simp only [Act.put, List.setIfInBounds_toArray, List.set_cons_zero, List.set_cons_succ, List.getElem_toArray, List.getElem_cons_succ, List.getElem_cons_zero]
      refine wpAnyH_ready (rs := [3, 8]) (by kernel_rfl) (by simp) ?_
      refine AllReadyH.cons (o := _) rfl (fun K hK => ?_) (AllReadyH.cons (o := _) rfl (fun K hK => ?_) AllReadyH.nil)
      · go_simp
        refine (P2 _).mono ?_; rintro e w2 ⟨rfl, hb2⟩
        go_wp2_with fail
        obtain ⟨h0, h1, hL⟩ := hHeld
        refine hK.out _ _ ⟨h0.below hb2, h1.below hb2, below_next hL hb2⟩ (fun hHeld => ?_)
        clear hK K hb2 hL h0 h1
        try simp only [Act.put, List.setIfInBounds_toArray, List.set_cons_zero, List.set_cons_succ, List.getElem_toArray, List.getElem_cons_succ, List.getElem_cons_zero]
        refine wpAnyH_ready (rs := [4, 8]) (by kernel_rfl) (by simp) ?_
        refine AllReadyH.cons (o := _) rfl (fun K hK => ?_) (AllReadyH.cons (o := _) rfl (fun K hK => ?_) AllReadyH.nil)
        · go_simp
          refine (SP _).mono ?_; rintro e w3 ⟨rfl, hb3⟩
          go_wp2_with fail
          obtain ⟨h0, h1, hL⟩ := hHeld
          refine hK.out _ _ ⟨h0.below hb3, h1.below hb3, below_next hL hb3⟩ (fun hHeld => ?_)
          clear hK K hb3 hL h0 h1
          try simp only [Act.put, List.setIfInBounds_toArray, List.set_cons_zero, List.set_cons_succ, List.getElem_toArray, List.getElem_cons_succ, List.getElem_cons_zero]
          refine wpAnyH_take (i := 5) (oi := _) (v := .tuple #[.agg (vec 8 c), .bool v]) rfl (by kernel_rfl) (by kernel_rfl) (by kernel_rfl) (fun _ _ _ h => h) (Or.inl ⟨by rfl, fun w h => by go_simp⟩) hHeld ?_
          try simp only [Act.put, List.setIfInBounds_toArray, List.set_cons_zero, List.set_cons_succ, List.getElem_toArray, List.getElem_cons_succ, List.getElem_cons_zero]
          refine wpAnyH_take (i := 6) (oi := _) (v := .agg (vec 8 c)) rfl (by kernel_rfl) (by kernel_rfl) (by kernel_rfl) (fun _ _ _ h => h) (Or.inl ⟨by rfl, fun w h => by go_simp⟩) hHeld ?_
          try simp only [Act.put, List.setIfInBounds_toArray, List.set_cons_zero, List.set_cons_succ, List.getElem_toArray, List.getElem_cons_succ, List.getElem_cons_zero]
          refine wpAnyH_ready (rs := [7, 8]) (by kernel_rfl) (by simp) ?_
          refine AllReadyH.cons (o := _) rfl (fun K hK => ?_) (AllReadyH.cons (o := _) rfl (fun K hK => ?_) AllReadyH.nil)
          · go_simp
            refine hK.out _ _ hHeld (fun hHeld => ?_)
            clear hK K
            try simp only [Act.put, List.setIfInBounds_toArray, List.set_cons_zero, List.set_cons_succ, List.getElem_toArray, List.getElem_cons_succ, List.getElem_cons_zero]
            refine wpAnyH_ready (rs := [8]) (by kernel_rfl) (by simp) ?_
            refine AllReadyH.cons (o := _) rfl (fun K hK => ?_) AllReadyH.nil
            rw [if_pos (by rfl)]
            go_simp
            obtain ⟨h0, h1, hL⟩ := hHeld
            have l0 := h0.lt
            have l1 := h1.lt
            have hz := hL.size
            have hG : RowAt ((w3).alloc (.cells (vec 8 nul) 25)) w3.heap.size 8 25 nul := RowAt.newAt rfl rfl
            refine hK.out _ _ ⟨h0.alloc _, h1.alloc _, hL.alloc hz _⟩ (fun hHeld => ?_)
            clear hK K hL h0 h1
            try simp only [Act.put, List.setIfInBounds_toArray, List.set_cons_zero, List.set_cons_succ, List.getElem_toArray, List.getElem_cons_succ, List.getElem_cons_zero]
            refine wpAnyH_ready (rs := [9]) (by kernel_rfl) (by simp) ?_
            refine AllReadyH.cons (o := _) rfl (fun K hK => ?_) AllReadyH.nil
            rw [if_pos (by rfl)]
            refine store_step rfl rfl rfl hG info_cyc ?_
            obtain ⟨h0, h1, hL⟩ := hHeld
            have hG2 := hG.setRow (f' := c)
            refine hK.out _ _ ⟨h0.rowOther _ _ (by omega), h1.rowOther _ _ (by omega), below_setRow hL hz _⟩ (fun hHeld => ?_)
            clear hK K hL h0 h1
            try simp only [Act.put, List.setIfInBounds_toArray, List.set_cons_zero, List.set_cons_succ, List.getElem_toArray, List.getElem_cons_succ, List.getElem_cons_zero]
            refine wpAnyH_take (i := 10) (oi := _) (v := .bool v) rfl (by kernel_rfl) (by kernel_rfl) (by kernel_rfl) (fun _ _ _ h => h) (Or.inl ⟨by rfl, fun w h => by go_simp⟩) hHeld ?_
            try simp only [Act.put, List.setIfInBounds_toArray, List.set_cons_zero, List.set_cons_succ, List.getElem_toArray, List.getElem_cons_succ, List.getElem_cons_zero]
            refine wpAnyH_done (by kernel_rfl) ?_ _
            go_wp2_with fail
            go_meet
            obtain ⟨h0, h1, hL⟩ := hHeld
            exact ⟨w3.heap.size, rfl, rfl, h0, h1, hG2, hL⟩
          · rw [if_pos (by rfl)]
            go_simp
            obtain ⟨h0, h1, hL⟩ := hHeld
            have l0 := h0.lt
            have l1 := h1.lt
            have hz := hL.size
            have hG : RowAt ((w3).alloc (.cells (vec 8 nul) 25)) w3.heap.size 8 25 nul := RowAt.newAt rfl rfl
            refine hK.out _ _ ⟨h0.alloc _, h1.alloc _, hL.alloc hz _⟩ (fun hHeld => ?_)
            clear hK K hL h0 h1
            try simp only [Act.put, List.setIfInBounds_toArray, List.set_cons_zero, List.set_cons_succ, List.getElem_toArray, List.getElem_cons_succ, List.getElem_cons_zero]
            refine wpAnyH_take (i := 7) (oi := _) (v := .bool v) rfl (by kernel_rfl) (by kernel_rfl) (by kernel_rfl) (fun _ _ _ h => h) (Or.inl ⟨by rfl, fun w h => by go_simp⟩) hHeld ?_
            try simp only [Act.put, List.setIfInBounds_toArray, List.set_cons_zero, List.set_cons_succ, List.getElem_toArray, List.getElem_cons_succ, List.getElem_cons_zero]
            refine wpAnyH_ready (rs := [9]) (by kernel_rfl) (by simp) ?_
            refine AllReadyH.cons (o := _) rfl (fun K hK => ?_) AllReadyH.nil
            rw [if_pos (by rfl)]
            refine store_step rfl rfl rfl hG info_cyc ?_
            obtain ⟨h0, h1, hL⟩ := hHeld
            have hG2 := hG.setRow (f' := c)
            refine hK.out _ _ ⟨h0.rowOther _ _ (by omega), h1.rowOther _ _ (by omega), below_setRow hL hz _⟩ (fun hHeld => ?_)
            clear hK K hL h0 h1
            try simp only [Act.put, List.setIfInBounds_toArray, List.set_cons_zero, List.set_cons_succ, List.getElem_toArray, List.getElem_cons_succ, List.getElem_cons_zero]
            refine wpAnyH_take (i := 10) (oi := _) (v := .bool v) rfl (by kernel_rfl) (by kernel_rfl) (by kernel_rfl) (fun _ _ _ h => h) (Or.inl ⟨by rfl, fun w h => by go_simp⟩) hHeld ?_
            try simp only [Act.put, List.setIfInBounds_toArray, List.set_cons_zero, List.set_cons_succ, List.getElem_toArray, List.getElem_cons_succ, List.getElem_cons_zero]
            refine wpAnyH_done (by kernel_rfl) ?_ _
            go_wp2_with fail
            go_meet
            obtain ⟨h0, h1, hL⟩ := hHeld
            exact ⟨w3.heap.size, rfl, rfl, h0, h1, hG2, hL⟩
        · rw [if_pos (by rfl)]
          go_simp
          obtain ⟨h0, h1, hL⟩ := hHeld
          have l0 := h0.lt
          have l1 := h1.lt
          have hz := hL.size
          have hG : RowAt ((w2).alloc (.cells (vec 8 nul) 25)) w2.heap.size 8 25 nul := RowAt.newAt rfl rfl
          refine hK.out _ _ ⟨h0.alloc _, h1.alloc _, hL.alloc hz _⟩ (fun hHeld => ?_)
          clear hK K hL h0 h1
          try simp only [Act.put, List.setIfInBounds_toArray, List.set_cons_zero, List.set_cons_succ, List.getElem_toArray, List.getElem_cons_succ, List.getElem_cons_zero]
          refine wpAnyH_ready (rs := [4]) (by kernel_rfl) (by simp) ?_
          refine AllReadyH.cons (o := _) rfl (fun K hK => ?_) AllReadyH.nil
          go_simp
          refine (SP _).mono ?_; rintro e w4 ⟨rfl, hb4⟩
          go_wp2_with fail
          obtain ⟨h0, h1, hL⟩ := hHeld
          have hG := hG.below hb4
          refine hK.out _ _ ⟨h0.below hb4, h1.below hb4, below_next hL hb4⟩ (fun hHeld => ?_)
          clear hK K hb4 hL h0 h1
          try simp only [Act.put, List.setIfInBounds_toArray, List.set_cons_zero, List.set_cons_succ, List.getElem_toArray, List.getElem_cons_succ, List.getElem_cons_zero]
          refine wpAnyH_take (i := 5) (oi := _) (v := .tuple #[.agg (vec 8 c), .bool v]) rfl (by kernel_rfl) (by kernel_rfl) (by kernel_rfl) (fun _ _ _ h => h) (Or.inl ⟨by rfl, fun w h => by go_simp⟩) hHeld ?_
          try simp only [Act.put, List.setIfInBounds_toArray, List.set_cons_zero, List.set_cons_succ, List.getElem_toArray, List.getElem_cons_succ, List.getElem_cons_zero]
          refine wpAnyH_take (i := 6) (oi := _) (v := .agg (vec 8 c)) rfl (by kernel_rfl) (by kernel_rfl) (by kernel_rfl) (fun _ _ _ h => h) (Or.inl ⟨by rfl, fun w h => by go_simp⟩) hHeld ?_
          try simp only [Act.put, List.setIfInBounds_toArray, List.set_cons_zero, List.set_cons_succ, List.getElem_toArray, List.getElem_cons_succ, List.getElem_cons_zero]
          refine wpAnyH_take (i := 7) (oi := _) (v := .bool v) rfl (by kernel_rfl) (by kernel_rfl) (by kernel_rfl) (fun _ _ _ h => h) (Or.inl ⟨by rfl, fun w h => by go_simp⟩) hHeld ?_
          try simp only [Act.put, List.setIfInBounds_toArray, List.set_cons_zero, List.set_cons_succ, List.getElem_toArray, List.getElem_cons_succ, List.getElem_cons_zero]
          refine wpAnyH_ready (rs := [9]) (by kernel_rfl) (by simp) ?_
          refine AllReadyH.cons (o := _) rfl (fun K hK => ?_) AllReadyH.nil
          rw [if_pos (by rfl)]
          refine store_step rfl rfl rfl hG info_cyc ?_
          obtain ⟨h0, h1, hL⟩ := hHeld
          have hG2 := hG.setRow (f' := c)
          refine hK.out _ _ ⟨h0.rowOther _ _ (by omega), h1.rowOther _ _ (by omega), below_setRow hL hz _⟩ (fun hHeld => ?_)
          clear hK K hL h0 h1
          try simp only [Act.put, List.setIfInBounds_toArray, List.set_cons_zero, List.set_cons_succ, List.getElem_toArray, List.getElem_cons_succ, List.getElem_cons_zero]
          refine wpAnyH_take (i := 10) (oi := _) (v := .bool v) rfl (by kernel_rfl) (by kernel_rfl) (by kernel_rfl) (fun _ _ _ h => h) (Or.inl ⟨by rfl, fun w h => by go_simp⟩) hHeld ?_
          try simp only [Act.put, List.setIfInBounds_toArray, List.set_cons_zero, List.set_cons_succ, List.getElem_toArray, List.getElem_cons_succ, List.getElem_cons_zero]
          refine wpAnyH_done (by kernel_rfl) ?_ _
          go_wp2_with fail
          go_meet
          obtain ⟨h0, h1, hL⟩ := hHeld
          exact ⟨w2.heap.size, rfl, rfl, h0, h1, hG2, hL⟩
      · rw [if_pos (by rfl)]
        go_simp
        obtain ⟨h0, h1, hL⟩ := hHeld
        have l0 := h0.lt
        have l1 := h1.lt
        have hz := hL.size
        have hG : RowAt ((w1).alloc (.cells (vec 8 nul) 25)) w1.heap.size 8 25 nul := RowAt.newAt rfl rfl
        refine hK.out _ _ ⟨h0.alloc _, h1.alloc _, hL.alloc hz _⟩ (fun hHeld => ?_)
        clear hK K hL h0 h1
        try simp only [Act.put, List.setIfInBounds_toArray, List.set_cons_zero, List.set_cons_succ, List.getElem_toArray, List.getElem_cons_succ, List.getElem_cons_zero]
        refine wpAnyH_ready (rs := [3]) (by kernel_rfl) (by simp) ?_
        refine AllReadyH.cons (o := _) rfl (fun K hK => ?_) AllReadyH.nil
        go_simp
        refine (P2 _).mono ?_; rintro e w5 ⟨rfl, hb5⟩
        go_wp2_with fail
        obtain ⟨h0, h1, hL⟩ := hHeld
        have hG := hG.below hb5
        refine hK.out _ _ ⟨h0.below hb5, h1.below hb5, below_next hL hb5⟩ (fun hHeld => ?_)
        clear hK K hb5 hL h0 h1
        try simp only [Act.put, List.setIfInBounds_toArray, List.set_cons_zero, List.set_cons_succ, List.getElem_toArray, List.getElem_cons_succ, List.getElem_cons_zero]
        refine wpAnyH_ready (rs := [4]) (by kernel_rfl) (by simp) ?_
        refine AllReadyH.cons (o := _) rfl (fun K hK => ?_) AllReadyH.nil
        go_simp
        refine (SP _).mono ?_; rintro e w6 ⟨rfl, hb6⟩
        go_wp2_with fail
        obtain ⟨h0, h1, hL⟩ := hHeld
        have hG := hG.below hb6
        refine hK.out _ _ ⟨h0.below hb6, h1.below hb6, below_next hL hb6⟩ (fun hHeld => ?_)
        clear hK K hb6 hL h0 h1
        try simp only [Act.put, List.setIfInBounds_toArray, List.set_cons_zero, List.set_cons_succ, List.getElem_toArray, List.getElem_cons_succ, List.getElem_cons_zero]
        refine wpAnyH_take (i := 5) (oi := _) (v := .tuple #[.agg (vec 8 c), .bool v]) rfl (by kernel_rfl) (by kernel_rfl) (by kernel_rfl) (fun _ _ _ h => h) (Or.inl ⟨by rfl, fun w h => by go_simp⟩) hHeld ?_
        try simp only [Act.put, List.setIfInBounds_toArray, List.set_cons_zero, List.set_cons_succ, List.getElem_toArray, List.getElem_cons_succ, List.getElem_cons_zero]
        refine wpAnyH_take (i := 6) (oi := _) (v := .agg (vec 8 c)) rfl (by kernel_rfl) (by kernel_rfl) (by kernel_rfl) (fun _ _ _ h => h) (Or.inl ⟨by rfl, fun w h => by go_simp⟩) hHeld ?_
        try simp only [Act.put, List.setIfInBounds_toArray, List.set_cons_zero, List.set_cons_succ, List.getElem_toArray, List.getElem_cons_succ, List.getElem_cons_zero]
        refine wpAnyH_take (i := 7) (oi := _) (v := .bool v) rfl (by kernel_rfl) (by kernel_rfl) (by kernel_rfl) (fun _ _ _ h => h) (Or.inl ⟨by rfl, fun w h => by go_simp⟩) hHeld ?_
        try simp only [Act.put, List.setIfInBounds_toArray, List.set_cons_zero, List.set_cons_succ, List.getElem_toArray, List.getElem_cons_succ, List.getElem_cons_zero]
        refine wpAnyH_ready (rs := [9]) (by kernel_rfl) (by simp) ?_
        refine AllReadyH.cons (o := _) rfl (fun K hK => ?_) AllReadyH.nil
        rw [if_pos (by rfl)]
        refine store_step rfl rfl rfl hG info_cyc ?_
        obtain ⟨h0, h1, hL⟩ := hHeld
        have hG2 := hG.setRow (f' := c)
        refine hK.out _ _ ⟨h0.rowOther _ _ (by omega), h1.rowOther _ _ (by omega), below_setRow hL hz _⟩ (fun hHeld => ?_)
        clear hK K hL h0 h1
        try simp only [Act.put, List.setIfInBounds_toArray, List.set_cons_zero, List.set_cons_succ, List.getElem_toArray, List.getElem_cons_succ, List.getElem_cons_zero]
        refine wpAnyH_take (i := 10) (oi := _) (v := .bool v) rfl (by kernel_rfl) (by kernel_rfl) (by kernel_rfl) (fun _ _ _ h => h) (Or.inl ⟨by rfl, fun w h => by go_simp⟩) hHeld ?_
        try simp only [Act.put, List.setIfInBounds_toArray, List.set_cons_zero, List.set_cons_succ, List.getElem_toArray, List.getElem_cons_succ, List.getElem_cons_zero]
        refine wpAnyH_done (by kernel_rfl) ?_ _
        go_wp2_with fail
        go_meet
        obtain ⟨h0, h1, hL⟩ := hHeld
        exact ⟨w1.heap.size, rfl, rfl, h0, h1, hG2, hL⟩
    · rw [if_pos (by rfl)]
      go_simp
      obtain ⟨h0, h1, hL⟩ := hHeld
      have l0 := h0.lt
      have l1 := h1.lt
      have hz := hL.size
      have hG : RowAt ((W.drew).alloc (.cells (vec 8 nul) 25)) W.heap.size 8 25 nul := RowAt.newAt rfl rfl
      refine hK.out _ _ ⟨h0.alloc _, h1.alloc _, hL.alloc hz _⟩ (fun hHeld => ?_)
      clear hK K hL h0 h1
      try simp only [Act.put, List.setIfInBounds_toArray, List.set_cons_zero, List.set_cons_succ, List.getElem_toArray, List.getElem_cons_succ, List.getElem_cons_zero]
      change _ ≤ W.heap.size at hz
      change _ < W.heap.size at l0
      change _ < W.heap.size at l1
      refine wpAnyH_ready (rs := [1]) (by kernel_rfl) (by simp) ?_
      refine AllReadyH.cons (o := _) rfl (fun K hK => ?_) AllReadyH.nil
      go_simp
      refine (P _).mono ?_; rintro e w7 ⟨rfl, hb7⟩
      go_wp2_with fail
      obtain ⟨h0, h1, hL⟩ := hHeld
      have hG := hG.below hb7
      refine hK.out _ _ ⟨h0.below hb7, h1.below hb7, below_next hL hb7⟩ (fun hHeld => ?_)
      clear hK K hb7 hL h0 h1
      try simp only [Act.put, List.setIfInBounds_toArray, List.set_cons_zero, List.set_cons_succ, List.getElem_toArray, List.getElem_cons_succ, List.getElem_cons_zero]
      refine wpAnyH_ready (rs := [3]) (by kernel_rfl) (by simp) ?_
      refine AllReadyH.cons (o := _) rfl (fun K hK => ?_) AllReadyH.nil
      go_simp
      refine (P2 _).mono ?_; rintro e w8 ⟨rfl, hb8⟩
      go_wp2_with fail
      obtain ⟨h0, h1, hL⟩ := hHeld
      have hG := hG.below hb8
      refine hK.out _ _ ⟨h0.below hb8, h1.below hb8, below_next hL hb8⟩ (fun hHeld => ?_)
      clear hK K hb8 hL h0 h1
      try simp only [Act.put, List.setIfInBounds_toArray, List.set_cons_zero, List.set_cons_succ, List.getElem_toArray, List.getElem_cons_succ, List.getElem_cons_zero]
      refine wpAnyH_ready (rs := [4]) (by kernel_rfl) (by simp) ?_
      refine AllReadyH.cons (o := _) rfl (fun K hK => ?_) AllReadyH.nil
      go_simp
      refine (SP _).mono ?_; rintro e w9 ⟨rfl, hb9⟩
      go_wp2_with fail
      obtain ⟨h0, h1, hL⟩ := hHeld
      have hG := hG.below hb9
      refine hK.out _ _ ⟨h0.below hb9, h1.below hb9, below_next hL hb9⟩ (fun hHeld => ?_)
      clear hK K hb9 hL h0 h1
      try simp only [Act.put, List.setIfInBounds_toArray, List.set_cons_zero, List.set_cons_succ, List.getElem_toArray, List.getElem_cons_succ, List.getElem_cons_zero]
      refine wpAnyH_take (i := 5) (oi := _) (v := .tuple #[.agg (vec 8 c), .bool v]) rfl (by kernel_rfl) (by kernel_rfl) (by kernel_rfl) (fun _ _ _ h => h) (Or.inl ⟨by rfl, fun w h => by go_simp⟩) hHeld ?_
      try simp only [Act.put, List.setIfInBounds_toArray, List.set_cons_zero, List.set_cons_succ, List.getElem_toArray, List.getElem_cons_succ, List.getElem_cons_zero]
      refine wpAnyH_take (i := 6) (oi := _) (v := .agg (vec 8 c)) rfl (by kernel_rfl) (by kernel_rfl) (by kernel_rfl) (fun _ _ _ h => h) (Or.inl ⟨by rfl, fun w h => by go_simp⟩) hHeld ?_
      try simp only [Act.put, List.setIfInBounds_toArray, List.set_cons_zero, List.set_cons_succ, List.getElem_toArray, List.getElem_cons_succ, List.getElem_cons_zero]
      refine wpAnyH_take (i := 7) (oi := _) (v := .bool v) rfl (by kernel_rfl) (by kernel_rfl) (by kernel_rfl) (fun _ _ _ h => h) (Or.inl ⟨by rfl, fun w h => by go_simp⟩) hHeld ?_
      try simp only [Act.put, List.setIfInBounds_toArray, List.set_cons_zero, List.set_cons_succ, List.getElem_toArray, List.getElem_cons_succ, List.getElem_cons_zero]
      refine wpAnyH_ready (rs := [9]) (by kernel_rfl) (by simp) ?_
      refine AllReadyH.cons (o := _) rfl (fun K hK => ?_) AllReadyH.nil
      rw [if_pos (by rfl)]
      refine store_step rfl rfl rfl hG info_cyc ?_
      obtain ⟨h0, h1, hL⟩ := hHeld
      have hG2 := hG.setRow (f' := c)
      refine hK.out _ _ ⟨h0.rowOther _ _ (by omega), h1.rowOther _ _ (by omega), below_setRow hL hz _⟩ (fun hHeld => ?_)
      clear hK K hL h0 h1
      try simp only [Act.put, List.setIfInBounds_toArray, List.set_cons_zero, List.set_cons_succ, List.getElem_toArray, List.getElem_cons_succ, List.getElem_cons_zero]
      refine wpAnyH_take (i := 10) (oi := _) (v := .bool v) rfl (by kernel_rfl) (by kernel_rfl) (by kernel_rfl) (fun _ _ _ h => h) (Or.inl ⟨by rfl, fun w h => by go_simp⟩) hHeld ?_
      try simp only [Act.put, List.setIfInBounds_toArray, List.set_cons_zero, List.set_cons_succ, List.getElem_toArray, List.getElem_cons_succ, List.getElem_cons_zero]
      refine wpAnyH_done (by kernel_rfl) ?_ _
      go_wp2_with fail
      go_meet
      obtain ⟨h0, h1, hL⟩ := hHeld
      exact ⟨W.heap.size, rfl, rfl, h0, h1, hG2, hL⟩
  case rest =>
  clear hA hB hL SP
  obtain ⟨g, rfl, rfl, hA, hB, hW, hL⟩ := hcut
  go_upto_region 2 with fail
  go_cut [7, 8] (fun s7 s8 wx => ∃ g' : Nat, s7 = .pointer (some ⟨g', 0, none⟩) ∧ s8 = .bool v ∧ RowAt wx g 8 25 c ∧ RowAt wx g' 8 25 c ∧ Below w.heap.size w wx)
  case first =>
    refine wp_region_held_drew (S := fun w' => RowAt w' (w.heap.size) 8 42 a ∧ RowAt w' (w.heap.size + 1) 8 42 b ∧ RowAt w' (g) 8 25 c ∧ Below w.heap.size w w') (by kernel_rfl) ⟨hA.drew1, hB.drew1, hW.drew1, hL.drew⟩ (fun hHeld => ?_)
    clear hA hB hW hL
    refine wpAnyH_take (i := 0) (oi := _) (v := .agg (vec 8 a)) rfl (by kernel_rfl) (by kernel_rfl) (by kernel_rfl) (fun _ _ _ h => h) (yieldsIf_load_mid (by rfl) _ _ rfl _ _ rfl _ _ (fun w h => h.1.range) Try.underlying42 rfl (size_law a)) hHeld ?_
    try simp only [Act.put, List.setIfInBounds_toArray, List.set_cons_zero, List.set_cons_succ, List.getElem_toArray, List.getElem_cons_succ, List.getElem_cons_zero]
    refine wpAnyH_take (i := 2) (oi := _) (v := .agg (vec 8 b)) rfl (by kernel_rfl) (by kernel_rfl) (by kernel_rfl) (fun _ _ _ h => h) (yieldsIf_load_mid (by rfl) _ _ rfl _ _ rfl _ _ (fun w h => h.2.1.range) Try.underlying42 rfl (size_law b)) hHeld ?_
    try simp only [Act.put, List.setIfInBounds_toArray, List.set_cons_zero, List.set_cons_succ, List.getElem_toArray, List.getElem_cons_succ, List.getElem_cons_zero]
    refine wpAnyH_ready (rs := [1, 8]) (by kernel_rfl) (by simp) ?_
    refine AllReadyH.cons (o := _) rfl (fun K hK => ?_) (AllReadyH.cons (o := _) rfl (fun K hK => ?_) AllReadyH.nil)
    · go_simp
      refine (P _).mono ?_; rintro e w1 ⟨rfl, hb1⟩
      go_wp2_with fail
      obtain ⟨h0, h1, h2, hL⟩ := hHeld
      refine hK.out _ _ ⟨h0.below hb1, h1.below hb1, h2.below hb1, below_next hL hb1⟩ (fun hHeld => ?_)
      clear hK K hb1 hL h0 h1 h2
      try simp only [Act.put, List.setIfInBounds_toArray, List.set_cons_zero, List.set_cons_succ, List.getElem_toArray, List.getElem_cons_succ, List.getElem_cons_zero]
      refine wpAnyH_ready (rs := [3, 8]) (by kernel_rfl) (by simp) ?_
      refine AllReadyH.cons (o := _) rfl (fun K hK => ?_) (AllReadyH.cons (o := _) rfl (fun K hK => ?_) AllReadyH.nil)
      · go_simp
        refine (P2 _).mono ?_; rintro e w2 ⟨rfl, hb2⟩
        go_wp2_with fail
        obtain ⟨h0, h1, h2, hL⟩ := hHeld
        refine hK.out _ _ ⟨h0.below hb2, h1.below hb2, h2.below hb2, below_next hL hb2⟩ (fun hHeld => ?_)
        clear hK K hb2 hL h0 h1 h2
        try simp only [Act.put, List.setIfInBounds_toArray, List.set_cons_zero, List.set_cons_succ, List.getElem_toArray, List.getElem_cons_succ, List.getElem_cons_zero]
        refine wpAnyH_ready (rs := [4, 8]) (by kernel_rfl) (by simp) ?_
        refine AllReadyH.cons (o := _) rfl (fun K hK => ?_) (AllReadyH.cons (o := _) rfl (fun K hK => ?_) AllReadyH.nil)
        · go_simp
          refine (IM _).mono ?_; rintro e w3 ⟨rfl, hb3⟩
          go_wp2_with fail
          obtain ⟨h0, h1, h2, hL⟩ := hHeld
          refine hK.out _ _ ⟨h0.below hb3, h1.below hb3, h2.below hb3, below_next hL hb3⟩ (fun hHeld => ?_)
          clear hK K hb3 hL h0 h1 h2
          try simp only [Act.put, List.setIfInBounds_toArray, List.set_cons_zero, List.set_cons_succ, List.getElem_toArray, List.getElem_cons_succ, List.getElem_cons_zero]
          refine wpAnyH_take (i := 5) (oi := _) (v := .tuple #[.agg (vec 8 c), .bool v]) rfl (by kernel_rfl) (by kernel_rfl) (by kernel_rfl) (fun _ _ _ h => h) (Or.inl ⟨by rfl, fun w h => by go_simp⟩) hHeld ?_
          try simp only [Act.put, List.setIfInBounds_toArray, List.set_cons_zero, List.set_cons_succ, List.getElem_toArray, List.getElem_cons_succ, List.getElem_cons_zero]
          refine wpAnyH_take (i := 6) (oi := _) (v := .agg (vec 8 c)) rfl (by kernel_rfl) (by kernel_rfl) (by kernel_rfl) (fun _ _ _ h => h) (Or.inl ⟨by rfl, fun w h => by go_simp⟩) hHeld ?_
          try simp only [Act.put, List.setIfInBounds_toArray, List.set_cons_zero, List.set_cons_succ, List.getElem_toArray, List.getElem_cons_succ, List.getElem_cons_zero]
          refine wpAnyH_ready (rs := [7, 8]) (by kernel_rfl) (by simp) ?_
          refine AllReadyH.cons (o := _) rfl (fun K hK => ?_) (AllReadyH.cons (o := _) rfl (fun K hK => ?_) AllReadyH.nil)
          · go_simp
            refine hK.out _ _ hHeld (fun hHeld => ?_)
            clear hK K
            try simp only [Act.put, List.setIfInBounds_toArray, List.set_cons_zero, List.set_cons_succ, List.getElem_toArray, List.getElem_cons_succ, List.getElem_cons_zero]
            refine wpAnyH_ready (rs := [8]) (by kernel_rfl) (by simp) ?_
            refine AllReadyH.cons (o := _) rfl (fun K hK => ?_) AllReadyH.nil
            rw [if_pos (by rfl)]
            go_simp
            obtain ⟨h0, h1, h2, hL⟩ := hHeld
            have l0 := h0.lt
            have l1 := h1.lt
            have l2 := h2.lt
            have hz := hL.size
            have hG : RowAt ((w3).alloc (.cells (vec 8 nul) 25)) w3.heap.size 8 25 nul := RowAt.newAt rfl rfl
            refine hK.out _ _ ⟨h0.alloc _, h1.alloc _, h2.alloc _, hL.alloc hz _⟩ (fun hHeld => ?_)
            clear hK K hL h0 h1 h2
            try simp only [Act.put, List.setIfInBounds_toArray, List.set_cons_zero, List.set_cons_succ, List.getElem_toArray, List.getElem_cons_succ, List.getElem_cons_zero]
            refine wpAnyH_ready (rs := [9]) (by kernel_rfl) (by simp) ?_
            refine AllReadyH.cons (o := _) rfl (fun K hK => ?_) AllReadyH.nil
            rw [if_pos (by rfl)]
            refine store_step rfl rfl rfl hG info_cyc ?_
            obtain ⟨h0, h1, h2, hL⟩ := hHeld
            have hG2 := hG.setRow (f' := c)
            refine hK.out _ _ ⟨h0.rowOther _ _ (by omega), h1.rowOther _ _ (by omega), h2.rowOther _ _ (by omega), below_setRow hL hz _⟩ (fun hHeld => ?_)
            clear hK K hL h0 h1 h2
            try simp only [Act.put, List.setIfInBounds_toArray, List.set_cons_zero, List.set_cons_succ, List.getElem_toArray, List.getElem_cons_succ, List.getElem_cons_zero]
            refine wpAnyH_take (i := 10) (oi := _) (v := .bool v) rfl (by kernel_rfl) (by kernel_rfl) (by kernel_rfl) (fun _ _ _ h => h) (Or.inl ⟨by rfl, fun w h => by go_simp⟩) hHeld ?_
            try simp only [Act.put, List.setIfInBounds_toArray, List.set_cons_zero, List.set_cons_succ, List.getElem_toArray, List.getElem_cons_succ, List.getElem_cons_zero]
            refine wpAnyH_done (by kernel_rfl) ?_ _
            go_wp2_with fail
            go_meet
            obtain ⟨h0, h1, h2, hL⟩ := hHeld
            exact ⟨w3.heap.size, rfl, rfl, h2, hG2, hL⟩
          · rw [if_pos (by rfl)]
            go_simp
            obtain ⟨h0, h1, h2, hL⟩ := hHeld
            have l0 := h0.lt
            have l1 := h1.lt
            have l2 := h2.lt
            have hz := hL.size
            have hG : RowAt ((w3).alloc (.cells (vec 8 nul) 25)) w3.heap.size 8 25 nul := RowAt.newAt rfl rfl
            refine hK.out _ _ ⟨h0.alloc _, h1.alloc _, h2.alloc _, hL.alloc hz _⟩ (fun hHeld => ?_)
            clear hK K hL h0 h1 h2
            try simp only [Act.put, List.setIfInBounds_toArray, List.set_cons_zero, List.set_cons_succ, List.getElem_toArray, List.getElem_cons_succ, List.getElem_cons_zero]
            refine wpAnyH_take (i := 7) (oi := _) (v := .bool v) rfl (by kernel_rfl) (by kernel_rfl) (by kernel_rfl) (fun _ _ _ h => h) (Or.inl ⟨by rfl, fun w h => by go_simp⟩) hHeld ?_
            try simp only [Act.put, List.setIfInBounds_toArray, List.set_cons_zero, List.set_cons_succ, List.getElem_toArray, List.getElem_cons_succ, List.getElem_cons_zero]
            refine wpAnyH_ready (rs := [9]) (by kernel_rfl) (by simp) ?_
            refine AllReadyH.cons (o := _) rfl (fun K hK => ?_) AllReadyH.nil
            rw [if_pos (by rfl)]
            refine store_step rfl rfl rfl hG info_cyc ?_
            obtain ⟨h0, h1, h2, hL⟩ := hHeld
            have hG2 := hG.setRow (f' := c)
            refine hK.out _ _ ⟨h0.rowOther _ _ (by omega), h1.rowOther _ _ (by omega), h2.rowOther _ _ (by omega), below_setRow hL hz _⟩ (fun hHeld => ?_)
            clear hK K hL h0 h1 h2
            try simp only [Act.put, List.setIfInBounds_toArray, List.set_cons_zero, List.set_cons_succ, List.getElem_toArray, List.getElem_cons_succ, List.getElem_cons_zero]
            refine wpAnyH_take (i := 10) (oi := _) (v := .bool v) rfl (by kernel_rfl) (by kernel_rfl) (by kernel_rfl) (fun _ _ _ h => h) (Or.inl ⟨by rfl, fun w h => by go_simp⟩) hHeld ?_
            try simp only [Act.put, List.setIfInBounds_toArray, List.set_cons_zero, List.set_cons_succ, List.getElem_toArray, List.getElem_cons_succ, List.getElem_cons_zero]
            refine wpAnyH_done (by kernel_rfl) ?_ _
            go_wp2_with fail
            go_meet
            obtain ⟨h0, h1, h2, hL⟩ := hHeld
            exact ⟨w3.heap.size, rfl, rfl, h2, hG2, hL⟩
        · rw [if_pos (by rfl)]
          go_simp
          obtain ⟨h0, h1, h2, hL⟩ := hHeld
          have l0 := h0.lt
          have l1 := h1.lt
          have l2 := h2.lt
          have hz := hL.size
          have hG : RowAt ((w2).alloc (.cells (vec 8 nul) 25)) w2.heap.size 8 25 nul := RowAt.newAt rfl rfl
          refine hK.out _ _ ⟨h0.alloc _, h1.alloc _, h2.alloc _, hL.alloc hz _⟩ (fun hHeld => ?_)
          clear hK K hL h0 h1 h2
          try simp only [Act.put, List.setIfInBounds_toArray, List.set_cons_zero, List.set_cons_succ, List.getElem_toArray, List.getElem_cons_succ, List.getElem_cons_zero]
          refine wpAnyH_ready (rs := [4]) (by kernel_rfl) (by simp) ?_
          refine AllReadyH.cons (o := _) rfl (fun K hK => ?_) AllReadyH.nil
          go_simp
          refine (IM _).mono ?_; rintro e w4 ⟨rfl, hb4⟩
          go_wp2_with fail
          obtain ⟨h0, h1, h2, hL⟩ := hHeld
          have hG := hG.below hb4
          refine hK.out _ _ ⟨h0.below hb4, h1.below hb4, h2.below hb4, below_next hL hb4⟩ (fun hHeld => ?_)
          clear hK K hb4 hL h0 h1 h2
          try simp only [Act.put, List.setIfInBounds_toArray, List.set_cons_zero, List.set_cons_succ, List.getElem_toArray, List.getElem_cons_succ, List.getElem_cons_zero]
          refine wpAnyH_take (i := 5) (oi := _) (v := .tuple #[.agg (vec 8 c), .bool v]) rfl (by kernel_rfl) (by kernel_rfl) (by kernel_rfl) (fun _ _ _ h => h) (Or.inl ⟨by rfl, fun w h => by go_simp⟩) hHeld ?_
          try simp only [Act.put, List.setIfInBounds_toArray, List.set_cons_zero, List.set_cons_succ, List.getElem_toArray, List.getElem_cons_succ, List.getElem_cons_zero]
          refine wpAnyH_take (i := 6) (oi := _) (v := .agg (vec 8 c)) rfl (by kernel_rfl) (by kernel_rfl) (by kernel_rfl) (fun _ _ _ h => h) (Or.inl ⟨by rfl, fun w h => by go_simp⟩) hHeld ?_
          try simp only [Act.put, List.setIfInBounds_toArray, List.set_cons_zero, List.set_cons_succ, List.getElem_toArray, List.getElem_cons_succ, List.getElem_cons_zero]
          refine wpAnyH_take (i := 7) (oi := _) (v := .bool v) rfl (by kernel_rfl) (by kernel_rfl) (by kernel_rfl) (fun _ _ _ h => h) (Or.inl ⟨by rfl, fun w h => by go_simp⟩) hHeld ?_
          try simp only [Act.put, List.setIfInBounds_toArray, List.set_cons_zero, List.set_cons_succ, List.getElem_toArray, List.getElem_cons_succ, List.getElem_cons_zero]
          refine wpAnyH_ready (rs := [9]) (by kernel_rfl) (by simp) ?_
          refine AllReadyH.cons (o := _) rfl (fun K hK => ?_) AllReadyH.nil
          rw [if_pos (by rfl)]
          refine store_step rfl rfl rfl hG info_cyc ?_
          obtain ⟨h0, h1, h2, hL⟩ := hHeld
          have hG2 := hG.setRow (f' := c)
          refine hK.out _ _ ⟨h0.rowOther _ _ (by omega), h1.rowOther _ _ (by omega), h2.rowOther _ _ (by omega), below_setRow hL hz _⟩ (fun hHeld => ?_)
          clear hK K hL h0 h1 h2
          try simp only [Act.put, List.setIfInBounds_toArray, List.set_cons_zero, List.set_cons_succ, List.getElem_toArray, List.getElem_cons_succ, List.getElem_cons_zero]
          refine wpAnyH_take (i := 10) (oi := _) (v := .bool v) rfl (by kernel_rfl) (by kernel_rfl) (by kernel_rfl) (fun _ _ _ h => h) (Or.inl ⟨by rfl, fun w h => by go_simp⟩) hHeld ?_
          try simp only [Act.put, List.setIfInBounds_toArray, List.set_cons_zero, List.set_cons_succ, List.getElem_toArray, List.getElem_cons_succ, List.getElem_cons_zero]
          refine wpAnyH_done (by kernel_rfl) ?_ _
          go_wp2_with fail
          go_meet
          obtain ⟨h0, h1, h2, hL⟩ := hHeld
          exact ⟨w2.heap.size, rfl, rfl, h2, hG2, hL⟩
      · rw [if_pos (by rfl)]
        go_simp
        obtain ⟨h0, h1, h2, hL⟩ := hHeld
        have l0 := h0.lt
        have l1 := h1.lt
        have l2 := h2.lt
        have hz := hL.size
        have hG : RowAt ((w1).alloc (.cells (vec 8 nul) 25)) w1.heap.size 8 25 nul := RowAt.newAt rfl rfl
        refine hK.out _ _ ⟨h0.alloc _, h1.alloc _, h2.alloc _, hL.alloc hz _⟩ (fun hHeld => ?_)
        clear hK K hL h0 h1 h2
        try simp only [Act.put, List.setIfInBounds_toArray, List.set_cons_zero, List.set_cons_succ, List.getElem_toArray, List.getElem_cons_succ, List.getElem_cons_zero]
        refine wpAnyH_ready (rs := [3]) (by kernel_rfl) (by simp) ?_
        refine AllReadyH.cons (o := _) rfl (fun K hK => ?_) AllReadyH.nil
        go_simp
        refine (P2 _).mono ?_; rintro e w5 ⟨rfl, hb5⟩
        go_wp2_with fail
        obtain ⟨h0, h1, h2, hL⟩ := hHeld
        have hG := hG.below hb5
        refine hK.out _ _ ⟨h0.below hb5, h1.below hb5, h2.below hb5, below_next hL hb5⟩ (fun hHeld => ?_)
        clear hK K hb5 hL h0 h1 h2
        try simp only [Act.put, List.setIfInBounds_toArray, List.set_cons_zero, List.set_cons_succ, List.getElem_toArray, List.getElem_cons_succ, List.getElem_cons_zero]
        refine wpAnyH_ready (rs := [4]) (by kernel_rfl) (by simp) ?_
        refine AllReadyH.cons (o := _) rfl (fun K hK => ?_) AllReadyH.nil
        go_simp
        refine (IM _).mono ?_; rintro e w6 ⟨rfl, hb6⟩
        go_wp2_with fail
        obtain ⟨h0, h1, h2, hL⟩ := hHeld
        have hG := hG.below hb6
        refine hK.out _ _ ⟨h0.below hb6, h1.below hb6, h2.below hb6, below_next hL hb6⟩ (fun hHeld => ?_)
        clear hK K hb6 hL h0 h1 h2
        try simp only [Act.put, List.setIfInBounds_toArray, List.set_cons_zero, List.set_cons_succ, List.getElem_toArray, List.getElem_cons_succ, List.getElem_cons_zero]
        refine wpAnyH_take (i := 5) (oi := _) (v := .tuple #[.agg (vec 8 c), .bool v]) rfl (by kernel_rfl) (by kernel_rfl) (by kernel_rfl) (fun _ _ _ h => h) (Or.inl ⟨by rfl, fun w h => by go_simp⟩) hHeld ?_
        try simp only [Act.put, List.setIfInBounds_toArray, List.set_cons_zero, List.set_cons_succ, List.getElem_toArray, List.getElem_cons_succ, List.getElem_cons_zero]
        refine wpAnyH_take (i := 6) (oi := _) (v := .agg (vec 8 c)) rfl (by kernel_rfl) (by kernel_rfl) (by kernel_rfl) (fun _ _ _ h => h) (Or.inl ⟨by rfl, fun w h => by go_simp⟩) hHeld ?_
        try simp only [Act.put, List.setIfInBounds_toArray, List.set_cons_zero, List.set_cons_succ, List.getElem_toArray, List.getElem_cons_succ, List.getElem_cons_zero]
        refine wpAnyH_take (i := 7) (oi := _) (v := .bool v) rfl (by kernel_rfl) (by kernel_rfl) (by kernel_rfl) (fun _ _ _ h => h) (Or.inl ⟨by rfl, fun w h => by go_simp⟩) hHeld ?_
        try simp only [Act.put, List.setIfInBounds_toArray, List.set_cons_zero, List.set_cons_succ, List.getElem_toArray, List.getElem_cons_succ, List.getElem_cons_zero]
        refine wpAnyH_ready (rs := [9]) (by kernel_rfl) (by simp) ?_
        refine AllReadyH.cons (o := _) rfl (fun K hK => ?_) AllReadyH.nil
        rw [if_pos (by rfl)]
        refine store_step rfl rfl rfl hG info_cyc ?_
        obtain ⟨h0, h1, h2, hL⟩ := hHeld
        have hG2 := hG.setRow (f' := c)
        refine hK.out _ _ ⟨h0.rowOther _ _ (by omega), h1.rowOther _ _ (by omega), h2.rowOther _ _ (by omega), below_setRow hL hz _⟩ (fun hHeld => ?_)
        clear hK K hL h0 h1 h2
        try simp only [Act.put, List.setIfInBounds_toArray, List.set_cons_zero, List.set_cons_succ, List.getElem_toArray, List.getElem_cons_succ, List.getElem_cons_zero]
        refine wpAnyH_take (i := 10) (oi := _) (v := .bool v) rfl (by kernel_rfl) (by kernel_rfl) (by kernel_rfl) (fun _ _ _ h => h) (Or.inl ⟨by rfl, fun w h => by go_simp⟩) hHeld ?_
        try simp only [Act.put, List.setIfInBounds_toArray, List.set_cons_zero, List.set_cons_succ, List.getElem_toArray, List.getElem_cons_succ, List.getElem_cons_zero]
        refine wpAnyH_done (by kernel_rfl) ?_ _
        go_wp2_with fail
        go_meet
        obtain ⟨h0, h1, h2, hL⟩ := hHeld
        exact ⟨w1.heap.size, rfl, rfl, h2, hG2, hL⟩
    · rw [if_pos (by rfl)]
      go_simp
      obtain ⟨h0, h1, h2, hL⟩ := hHeld
      have l0 := h0.lt
      have l1 := h1.lt
      have l2 := h2.lt
      have hz := hL.size
      have hG : RowAt ((wc.drew).alloc (.cells (vec 8 nul) 25)) wc.heap.size 8 25 nul := RowAt.newAt rfl rfl
      refine hK.out _ _ ⟨h0.alloc _, h1.alloc _, h2.alloc _, hL.alloc hz _⟩ (fun hHeld => ?_)
      clear hK K hL h0 h1 h2
      try simp only [Act.put, List.setIfInBounds_toArray, List.set_cons_zero, List.set_cons_succ, List.getElem_toArray, List.getElem_cons_succ, List.getElem_cons_zero]
      change _ ≤ wc.heap.size at hz
      change _ < wc.heap.size at l0
      change _ < wc.heap.size at l1
      change _ < wc.heap.size at l2
      refine wpAnyH_ready (rs := [1]) (by kernel_rfl) (by simp) ?_
      refine AllReadyH.cons (o := _) rfl (fun K hK => ?_) AllReadyH.nil
      go_simp
      refine (P _).mono ?_; rintro e w7 ⟨rfl, hb7⟩
      go_wp2_with fail
      obtain ⟨h0, h1, h2, hL⟩ := hHeld
      have hG := hG.below hb7
      refine hK.out _ _ ⟨h0.below hb7, h1.below hb7, h2.below hb7, below_next hL hb7⟩ (fun hHeld => ?_)
      clear hK K hb7 hL h0 h1 h2
      try simp only [Act.put, List.setIfInBounds_toArray, List.set_cons_zero, List.set_cons_succ, List.getElem_toArray, List.getElem_cons_succ, List.getElem_cons_zero]
      refine wpAnyH_ready (rs := [3]) (by kernel_rfl) (by simp) ?_
      refine AllReadyH.cons (o := _) rfl (fun K hK => ?_) AllReadyH.nil
      go_simp
      refine (P2 _).mono ?_; rintro e w8 ⟨rfl, hb8⟩
      go_wp2_with fail
      obtain ⟨h0, h1, h2, hL⟩ := hHeld
      have hG := hG.below hb8
      refine hK.out _ _ ⟨h0.below hb8, h1.below hb8, h2.below hb8, below_next hL hb8⟩ (fun hHeld => ?_)
      clear hK K hb8 hL h0 h1 h2
      try simp only [Act.put, List.setIfInBounds_toArray, List.set_cons_zero, List.set_cons_succ, List.getElem_toArray, List.getElem_cons_succ, List.getElem_cons_zero]
      refine wpAnyH_ready (rs := [4]) (by kernel_rfl) (by simp) ?_
      refine AllReadyH.cons (o := _) rfl (fun K hK => ?_) AllReadyH.nil
      go_simp
      refine (IM _).mono ?_; rintro e w9 ⟨rfl, hb9⟩
      go_wp2_with fail
      obtain ⟨h0, h1, h2, hL⟩ := hHeld
      have hG := hG.below hb9
      refine hK.out _ _ ⟨h0.below hb9, h1.below hb9, h2.below hb9, below_next hL hb9⟩ (fun hHeld => ?_)
      clear hK K hb9 hL h0 h1 h2
      try simp only [Act.put, List.setIfInBounds_toArray, List.set_cons_zero, List.set_cons_succ, List.getElem_toArray, List.getElem_cons_succ, List.getElem_cons_zero]
      refine wpAnyH_take (i := 5) (oi := _) (v := .tuple #[.agg (vec 8 c), .bool v]) rfl (by kernel_rfl) (by kernel_rfl) (by kernel_rfl) (fun _ _ _ h => h) (Or.inl ⟨by rfl, fun w h => by go_simp⟩) hHeld ?_
      try simp only [Act.put, List.setIfInBounds_toArray, List.set_cons_zero, List.set_cons_succ, List.getElem_toArray, List.getElem_cons_succ, List.getElem_cons_zero]
      refine wpAnyH_take (i := 6) (oi := _) (v := .agg (vec 8 c)) rfl (by kernel_rfl) (by kernel_rfl) (by kernel_rfl) (fun _ _ _ h => h) (Or.inl ⟨by rfl, fun w h => by go_simp⟩) hHeld ?_
      try simp only [Act.put, List.setIfInBounds_toArray, List.set_cons_zero, List.set_cons_succ, List.getElem_toArray, List.getElem_cons_succ, List.getElem_cons_zero]
      refine wpAnyH_take (i := 7) (oi := _) (v := .bool v) rfl (by kernel_rfl) (by kernel_rfl) (by kernel_rfl) (fun _ _ _ h => h) (Or.inl ⟨by rfl, fun w h => by go_simp⟩) hHeld ?_
      try simp only [Act.put, List.setIfInBounds_toArray, List.set_cons_zero, List.set_cons_succ, List.getElem_toArray, List.getElem_cons_succ, List.getElem_cons_zero]
      refine wpAnyH_ready (rs := [9]) (by kernel_rfl) (by simp) ?_
      refine AllReadyH.cons (o := _) rfl (fun K hK => ?_) AllReadyH.nil
      rw [if_pos (by rfl)]
      refine store_step rfl rfl rfl hG info_cyc ?_
      obtain ⟨h0, h1, h2, hL⟩ := hHeld
      have hG2 := hG.setRow (f' := c)
      refine hK.out _ _ ⟨h0.rowOther _ _ (by omega), h1.rowOther _ _ (by omega), h2.rowOther _ _ (by omega), below_setRow hL hz _⟩ (fun hHeld => ?_)
      clear hK K hL h0 h1 h2
      try simp only [Act.put, List.setIfInBounds_toArray, List.set_cons_zero, List.set_cons_succ, List.getElem_toArray, List.getElem_cons_succ, List.getElem_cons_zero]
      refine wpAnyH_take (i := 10) (oi := _) (v := .bool v) rfl (by kernel_rfl) (by kernel_rfl) (by kernel_rfl) (fun _ _ _ h => h) (Or.inl ⟨by rfl, fun w h => by go_simp⟩) hHeld ?_
      try simp only [Act.put, List.setIfInBounds_toArray, List.set_cons_zero, List.set_cons_succ, List.getElem_toArray, List.getElem_cons_succ, List.getElem_cons_zero]
      refine wpAnyH_done (by kernel_rfl) ?_ _
      go_wp2_with fail
      go_meet
      obtain ⟨h0, h1, h2, hL⟩ := hHeld
      exact ⟨wc.heap.size, rfl, rfl, h2, hG2, hL⟩
  case rest =>
  clear hA hB hW hL IM P P2
  obtain ⟨g', rfl, rfl, hW0, hI0, hL0⟩ := hcut
  have Q := fun w => eqCyc_yes c w
  have hne : (v != v) = false := by cases v <;> rfl
  have heq : (v == v) = true := by cases v <;> rfl
  unfold pt at *
  go_wp2_with (first | (refine load_row rfl rfl rfl hI0 Try.underlying25 rfl info_cyc ?_) | (refine load_row rfl rfl rfl hW0 Try.underlying25 rfl info_cyc ?_))
  refine (Q _).mono ?_; rintro e w9 ⟨rfl, hb9⟩
  have hL9 := below_next hL0 hb9
  clear hI0 hW0 hL0 hb9 Q
  go_wp2_with fail
  go_ret
  exact ⟨rfl, hL9⟩
end Go.Proofs.Ytjfljelpjgkmjaa
