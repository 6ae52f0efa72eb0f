/-
  How spec draws the arguments of points in both widths: indices, exact points.
-/
import Derived.Test.YtmbhbocfnpklpaaDrawCyc
namespace Go.Proofs.Ytmbhbocfnpklpaa
set_option maxRecDepth 20000
open Go.ChangeShapes Go.WideShapes Go.ChangeAt Go.RowKit
set_option linter.unusedVariables false
set_option linter.unusedSimpArgs false

theorem drawWidePoint (v : Value) (w : World) (hc : CodeAt w v) : Calls Try.prog 26 #[v] w (DrewOne w) := by
  have hO : RowAt (w.alloc (.cells (vec 8 nul) 30)) w.heap.size 8 30 nul := RowAt.newAt rfl rfl
  have hz : w.heap.size < (w.alloc (.cells (vec 8 nul) 30)).heap.size := by simp
  have hL : Below w.heap.size w (w.alloc (.cells (vec 8 nul) 30)) := (Below.refl _ _).alloc (Nat.le_refl _) _
  have hv := hc.alloc (.cells (vec 8 nul) 30)
  go_enter Try.func26, Try.ntmps26
  go_upto_region 1 with fail
  show Code.wp _ _ _ _ (w.alloc (.cells (vec 8 nul) 30))
  generalize w.alloc (.cells (vec 8 nul) 30) = W at *
  have O := Lib.hid (open_any v W hv)
  clear hc hv
  go_wp2_with fail
  refine O.out.mono ?_; rintro e w1 ⟨rfl, hr, hb⟩
  have hO := hO.below hb
  have hL := below_next hL hb
  have z0 := hL.size
  have zb := hb.size
  have D := Lib.hid (cyc_drawn _ _ w1 hr (by omega))
  clear O hr
  go_wp2_with fail
  refine D.out.mono ?_; rintro e w2 ⟨a, q, rfl, hq, hr2, hg2⟩
  have hO := hO.only hg2 (by omega)
  have hL := below_only hL hg2 z0 (by omega)
  clear D
  go_wp2_with (refine store_row rfl rfl rfl rfl hO info_cyc ?_)
  refine bodyPost_ret (results_row rfl rfl hO.setRow Try.underlying30 rfl info_cyc) rfl ?_
  exact ⟨_, rfl, below_setRow hL (Nat.le_refl _) _⟩
theorem drawSinglePoint (v : Value) (w : World) (hc : CodeAt w v) : Calls Try.prog 31 #[v] w (DrewOne w) := by
  have hO : RowAt (w.alloc (.cells (vec 8 nul) 30)) w.heap.size 8 30 nul := RowAt.newAt rfl rfl
  have hz : w.heap.size < (w.alloc (.cells (vec 8 nul) 30)).heap.size := by simp
  have hL : Below w.heap.size w (w.alloc (.cells (vec 8 nul) 30)) := (Below.refl _ _).alloc (Nat.le_refl _) _
  have hv := hc.alloc (.cells (vec 8 nul) 30)
  go_enter Try.func31, Try.ntmps31
  go_upto_region 1 with fail
  show Code.wp _ _ _ _ (w.alloc (.cells (vec 8 nul) 30))
  generalize w.alloc (.cells (vec 8 nul) 30) = W at *
  have O := Lib.hid (open_any v W hv)
  clear hc hv
  go_wp2_with fail
  refine O.out.mono ?_; rintro e w1 ⟨rfl, hr, hb⟩
  have hO := hO.below hb
  have hL := below_next hL hb
  have z0 := hL.size
  have zb := hb.size
  have D := Lib.hid (cyc_drawn _ _ w1 hr (by omega))
  clear O hr
  go_wp2_with fail
  refine D.out.mono ?_; rintro e w2 ⟨a, q, rfl, hq, hr2, hg2⟩
  have hO := hO.only hg2 (by omega)
  have hL := below_only hL hg2 z0 (by omega)
  clear D
  go_wp2_with (refine store_row rfl rfl rfl rfl hO info_cyc ?_)
  refine bodyPost_ret (results_row rfl rfl hO.setRow Try.underlying30 rfl info_cyc) rfl ?_
  exact ⟨_, rfl, below_setRow hL (Nat.le_refl _) _⟩
theorem drawPointsFit (v : Value) (w : World) (hc : CodeAt w v) : Calls Try.prog 39 #[v] w (DrewOne w) := by
  have hO : RowAt (w.alloc (.cells (vec 8 nul) 30)) w.heap.size 8 30 nul := RowAt.newAt rfl rfl
  have hz : w.heap.size < (w.alloc (.cells (vec 8 nul) 30)).heap.size := by simp
  have hL : Below w.heap.size w (w.alloc (.cells (vec 8 nul) 30)) := (Below.refl _ _).alloc (Nat.le_refl _) _
  have hv := hc.alloc (.cells (vec 8 nul) 30)
  go_enter Try.func39, Try.ntmps39
  go_upto_region 1 with fail
  show Code.wp _ _ _ _ (w.alloc (.cells (vec 8 nul) 30))
  generalize w.alloc (.cells (vec 8 nul) 30) = W at *
  have O := Lib.hid (open_any v W hv)
  clear hc hv
  go_wp2_with fail
  refine O.out.mono ?_; rintro e w1 ⟨rfl, hr, hb⟩
  have hO := hO.below hb
  have hL := below_next hL hb
  have z0 := hL.size
  have zb := hb.size
  have D := Lib.hid (cyc_drawn _ _ w1 hr (by omega))
  clear O hr
  go_wp2_with fail
  refine D.out.mono ?_; rintro e w2 ⟨a, q, rfl, hq, hr2, hg2⟩
  have hO := hO.only hg2 (by omega)
  have hL := below_only hL hg2 z0 (by omega)
  clear D
  go_wp2_with (refine store_row rfl rfl rfl rfl hO info_cyc ?_)
  refine bodyPost_ret (results_row rfl rfl hO.setRow Try.underlying30 rfl info_cyc) rfl ?_
  exact ⟨_, rfl, below_setRow hL (Nat.le_refl _) _⟩
theorem drawWideRoot (v : Value) (w : World) (h : CodeAt w v) : Calls Try.prog 15 #[v] w (Drew1 w (-1) 8) := by
  have O := Lib.hid (open_any v w h)
  clear h
  go_enter Try.func15, Try.ntmps15
  go_wp2_with fail
  refine O.out.mono ?_; rintro e w1 ⟨rfl, hr, hb⟩
  have z1 := hr.lt
  have T1 := Lib.hid (pick_any _ _ 10 w1 hr (by omega) (by omega))
  clear hr O
  go_wp2_with fail
  refine T1.out.mono ?_; rintro e w2 ⟨k, rfl, k0, k1, hr2, hg2⟩
  clear T1
  go_wp2_with fail
  go_ret
  refine ⟨_, rfl, ?_, ?_, below_only hb hg2 (by omega) (Nat.le_refl _)⟩
  · omega
  · omega
theorem drawSingleRoot (v : Value) (w : World) (h : CodeAt w v) : Calls Try.prog 22 #[v] w (Drew1 w (-1) 8) := by
  have D := Lib.hid (drawWideRoot v w h)
  clear h
  go_enter Try.func22, Try.ntmps22
  go_wp2_with fail
  refine D.out.mono ?_; rintro e w2 ⟨k, rfl, k0, k1, hb⟩
  clear D
  go_wp2_with fail
  go_ret
  exact ⟨_, rfl, k0, k1, hb⟩
end Go.Proofs.Ytmbhbocfnpklpaa
