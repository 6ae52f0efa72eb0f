/-
  Contracts of spec's mirrored points and of the functions of exact points that it gives.
-/
import Derived.Test.YtmbhbocfnpklpaaCycT
namespace Go.Proofs.Ytmbhbocfnpklpaa
set_option maxRecDepth 20000
open Go.ChangeShapes Go.WideShapes Go.ChangeAt Go.RowKit
set_option linter.unusedVariables false
set_option linter.unusedSimpArgs false

theorem specGaussIn_any (re im : Int) (w : World) :
    Calls Try.prog 75 #[.int .i64 re, .int .i64 im] w fun e w' => e = .returned (pt (gau re im)) ∧ Below w.heap.size w w' := by
  have hO := pair_first w 30
  have hE : RowAt ((w.alloc (.cells (vec 8 nul) 30)).alloc (.cells (vec 8 nul) 30)) (w.heap.size + 1) 8 30 nul := RowAt.newAt rfl (by simp)
  have hL : Below w.heap.size w ((w.alloc (.cells (vec 8 nul) 30)).alloc (.cells (vec 8 nul) 30)) := ((Below.refl _ _).alloc (Nat.le_refl _) _).alloc (by simp) _
  go_enter Try.func75, Try.ntmps75
  go_upto_region 2 with fail
  show Code.wp _ _ _ _ ((w.alloc (.cells (vec 8 nul) 30)).alloc (.cells (vec 8 nul) 30))
  generalize (w.alloc (.cells (vec 8 nul) 30)).alloc (.cells (vec 8 nul) 30) = W3 at *
  have c0 := hE.cell (k := 0) (by omega)
  have f0 := hE.free 0
  have c6 := (hE.set (k := 0) (by omega) re).cell (k := 6) (by omega)
  have f6 := (hE.set (k := 0) (by omega) re).free 6
  have hE3 : RowAt ((W3.setCell ⟨w.heap.size + 1, 0, none⟩ (.int .i64 re)).setCell ⟨w.heap.size + 1, 6, none⟩ (.int .i64 im)) (w.heap.size + 1) 8 30 (gau re im) :=
    ((hE.set (k := 0) (by omega) re).set (k := 6) (by omega) im).same (fun j _ => by simp only [upd, gau, nul]; split <;> split <;> first | rfl | omega)
  have hO3 := (hO.other ⟨w.heap.size + 1, 0, none⟩ (.int .i64 re) (by simp)).other ⟨w.heap.size + 1, 6, none⟩ (.int .i64 im) (by simp)
  have hL3 := (hL.setCell (p := ⟨w.heap.size + 1, 0, none⟩) (by simp) (.int .i64 re)).setCell (p := ⟨w.heap.size + 1, 6, none⟩) (by simp) (.int .i64 im)
  have HE := Lib.hid hE3
  have HO := Lib.hid hO3
  have HL := Lib.hid hL3
  clear hO hE hL hE3 hO3 hL3
  go_upto_region 4 with fail
  go_wp2_with (first | (refine load_row rfl rfl rfl HE.out Try.underlying30 rfl info_cyc ?_) | (refine store_row rfl rfl rfl rfl HO.out info_cyc ?_))
  refine bodyPost_ret (results_row rfl rfl HO.out.setRow Try.underlying30 rfl info_cyc) rfl ?_
  exact ⟨rfl, below_setRow HL.out (by omega) _⟩

theorem specGauss_any (re im : Int) (w : World) :
    Calls Try.prog 66 #[.int .i64 re, .int .i64 im] w fun e w' => e = .returned (ans true (gau re im)) ∧ Below w.heap.size w w' := by
  obtain ⟨c', v', T, eT⟩ := done_some (gau re im)
  rw [eT]
  have M := fun w => specGaussIn_any re im w
  have hO : RowAt (w.alloc (.cells (vec 8 nul) 30)) w.heap.size 8 30 nul := RowAt.newAt rfl rfl
  have hL : Below w.heap.size w (w.alloc (.cells (vec 8 nul) 30)) := (Below.refl _ _).alloc (Nat.le_refl _) _
  unfold pt at *
  go_enter Try.func66, Try.ntmps66
  go_upto_region 1 with fail
  show Code.wp _ _ _ _ (w.alloc (.cells (vec 8 nul) 30))
  generalize w.alloc (.cells (vec 8 nul) 30) = W3 at *
  go_wp2_with fail
  refine (M _).mono ?_; rintro e w4 ⟨rfl, hb4⟩
  have hO4 := hO.below hb4
  have hL4 := below_next hL hb4
  clear hO hL hb4 M
  go_wp2_with fail
  refine (T _).mono ?_; rintro e w5 ⟨rfl, hb5⟩
  have hO5 := hO4.below hb5
  have hL5 := below_next hL4 hb5
  clear hO4 hL4 hb5
  go_wp2_with (refine store_row rfl rfl rfl rfl hO5 info_cyc ?_)
  refine bodyPost_ret (results_row_tmp rfl rfl hO5.setRow Try.underlying30 rfl info_cyc) rfl ?_
  exact ⟨rfl, below_setRow hL5 (by omega) _⟩
end Go.Proofs.Ytmbhbocfnpklpaa
