/-
  Contracts of spec's calculations with exact points, second part: turns, sums, products, mirrored points.
-/
import Derived.Test.YtmbhbocfnpklpaaCycS
namespace Go.Proofs.Ytmbhbocfnpklpaa
set_option maxRecDepth 20000
open Go.ChangeShapes Go.WideShapes Go.ChangeAt Go.RowKit
set_option linter.unusedVariables false
set_option linter.unusedSimpArgs false

theorem size_cyc (a : Nat → Int) : (Try.prog.info? 30).map (·.size) = some (lst 8 a).length := by rw [lst_length]; exact info_cyc
theorem done_some (c : Nat → Int) : ∃ c' v', (∀ w, Calls Try.prog 83 #[.agg (vec 8 c)] w fun e w' => e = .returned (.tuple #[.agg (vec 8 c'), .bool v']) ∧ Below w.heap.size w w') ∧ ans true c = .tuple #[.agg (vec 8 c'), .bool v'] :=
  ⟨if okc c then c else nul, okc c, fun w => specDone_any c w, rfl⟩

theorem specTurned_any (a : Nat → Int) (n : Nat) (hn : n ≤ 23) (ha : InR a) (w : World) :
    Calls Try.prog 85 #[pt a, .int .i64 n] w fun e w' => e = .returned (pt (trn a n)) ∧ Below w.heap.size w w' := by
  have sa := vec_size 8 a
  have SB := fun k hk => stps_in ha k hk
  have er : pt (stps n a) = pt (trn a n) := pt_same (trn_steps a n hn)
  rw [← er]
  clear er
  unfold pt at *
  go_enter Try.func85, Try.ntmps85
  go_upto_region 1 with fail
  show Code.wp _ _ _ _ (box1 w a 30 30)
  obtain ⟨hA, hO, hL⟩ := box1_facts w a 30 30
  generalize box1 w a 30 30 = W at *
  go_wp2_with fail
  go_loopw [5] (fun i wr => ∃ k : Nat, k ≤ n ∧ i = .int .i64 k ∧ RowAt wr w.heap.size 8 30 (stps k a) ∧ RowAt wr (w.heap.size + 1) 8 30 nul ∧ Below w.heap.size w wr) (fun i _ => n - (intOf i).toNat)
  case atStart => exact ⟨0, Nat.zero_le _, rfl, hA, hO, hL⟩
  case round =>
    clear hA hO hL
    obtain ⟨k, hk, rfl, hA, hO, hL⟩ := hrel
    by_cases hlt : k < n
    · have hlt' : (k : Int) < (n : Int) := by omega
      have S := fun w => specStep_any (stps k a) (fun j hj => by have := SB k (by omega) j hj; omega) w
      have HS := Lib.hid SB
      clear SB
      go_wp2_with (refine load_row rfl rfl rfl hA Try.underlying30 rfl info_cyc ?_)
      refine (S _).mono ?_; rintro e w2 ⟨rfl, hb2⟩
      have hA2 := hA.below hb2
      have hO2 := hO.below hb2
      have hL2 := below_next hL hb2
      clear S hA hO hL hb2
      have HA : Hid (RowAt _ _ _ _ (stps (k + 1) a)) := Lib.hid (hA2.setRow (f' := stp (stps k a)))
      have HO := Lib.hid (hO2.rowOther w.heap.size (vec 8 (stp (stps k a))) (by omega))
      have HL := Lib.hid (below_setRow hL2 (Nat.le_refl _) (vec 8 (stp (stps k a))))
      clear hO2 hL2
      go_wp2_with (refine store_row rfl rfl rfl rfl hA2 info_cyc ?_)
      go_roundw
      case rel => exact ⟨k + 1, by omega, by go_num, HA.out, HO.out, HL.out⟩
      case measure => simp [intOf]; omega
    · obtain rfl : k = n := by omega
      have HA := Lib.hid hA; have HO := Lib.hid hO; have HL := Lib.hid hL
      clear hA hO hL SB
      go_wp2_with (first | (refine load_row rfl rfl rfl HA.out Try.underlying30 rfl info_cyc ?_) | (refine store_row rfl rfl rfl rfl HO.out info_cyc ?_))
      refine bodyPost_ret (results_row rfl rfl HO.out.setRow Try.underlying30 rfl info_cyc) rfl ?_
      exact ⟨rfl, below_setRow HL.out (by omega) _⟩

theorem specRoot_no (t : Int) (ht : t < 0 ∨ 23 < t) (w : World) :
    Calls Try.prog 74 #[.int .i64 t] w fun e w' => e = .returned (ans false nul) ∧ Below w.heap.size w w' := by
  rw [ans_no]
  have G := fun w => is_no t ht w
  go_enter Try.func74, Try.ntmps74
  go_wp2_with fail
  refine (G _).mono ?_; rintro e w' ⟨rfl, rfl⟩
  go_wp2_with (refine store_row rfl rfl rfl (show _ = Value.agg (vec 8 nul) from rfl) (RowAt.newAt zero8 rfl) info_cyc ?_)
  refine bodyPost_ret (results_row_tmp rfl rfl (RowAt.newAt zero8 rfl).setRow Try.underlying30 rfl info_cyc) rfl ?_
  exact ⟨rfl, below_setRow ((Below.refl _ _).alloc (Nat.le_refl _) _) (Nat.le_refl _) _⟩
theorem specRoot_yes (t : Nat) (ht : t ≤ 23) (w : World) :
    Calls Try.prog 74 #[.int .i64 t] w fun e w' => e = .returned (.tuple #[pt (trn one t), .bool true]) ∧ Below w.heap.size w w' := by
  have G := fun w => is_yes (t : Int) (by omega) (by omega) w
  have M := fun w => specTurned_any one t ht (fun j hj => by simp only [one]; split <;> omega) w
  unfold pt at *
  go_enter Try.func74, Try.ntmps74
  go_wp2_with fail
  refine (G _).mono ?_; rintro e w' ⟨rfl, rfl⟩
  go_upto_region 4 with fail
  show Code.wp _ _ _ _ ((w.alloc (.cells (vec 8 nul) 30)).alloc (.cells (vec 8 nul) 30))
  have hO := pair_first w 30
  have hE : RowAt ((w.alloc (.cells (vec 8 nul) 30)).alloc (.cells (vec 8 nul) 30)) (w.heap.size + 1) 8 30 nul := RowAt.newAt rfl (by simp)
  have hL : Below w.heap.size w ((w.alloc (.cells (vec 8 nul) 30)).alloc (.cells (vec 8 nul) 30)) := ((Below.refl _ _).alloc (Nat.le_refl _) _).alloc (by simp) _
  generalize (w.alloc (.cells (vec 8 nul) 30)).alloc (.cells (vec 8 nul) 30) = W3 at *
  have c0 := hE.cell (k := 0) (by omega)
  have f0 := hE.free 0
  have hE3 := (hE.set (k := 0) (by omega) 1).same (f' := one) (fun j _ => by simp only [upd, one, nul])
  have HE := Lib.hid hE3
  have HO := Lib.hid (hO.other ⟨w.heap.size + 1, 0, none⟩ (.int .i64 1) (by simp))
  have HL := Lib.hid (hL.setCell (p := ⟨w.heap.size + 1, 0, none⟩) (by simp) (.int .i64 1))
  clear hO hE hL hE3
  go_upto_region 5 with fail
  have hE4 := HE.out
  have hO4 := HO.out
  have hL4 := HL.out
  clear HE HO HL c0 f0 G
  generalize W3.setCell ⟨w.heap.size + 1, 0, none⟩ (.int .i64 1) = W4 at *
  go_wp2_with (refine load_row rfl rfl rfl hE4 Try.underlying30 rfl info_cyc ?_)
  refine (M _).mono ?_; rintro e w4 ⟨rfl, hb4⟩
  have hO5 := hO4.below hb4
  have hL5 := below_next hL4 hb4
  clear hE4 hO4 hL4 hb4 M
  go_wp2_with (refine store_row rfl rfl rfl rfl hO5 info_cyc ?_)
  refine bodyPost_ret (results_row_tmp rfl rfl hO5.setRow Try.underlying30 rfl info_cyc) rfl ?_
  exact ⟨rfl, below_setRow hL5 (by omega) _⟩

end Go.Proofs.Ytmbhbocfnpklpaa
