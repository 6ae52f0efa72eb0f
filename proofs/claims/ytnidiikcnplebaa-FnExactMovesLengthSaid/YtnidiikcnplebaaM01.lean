/-
  Exact points as a law's arguments: what their cells are.
  Contracts of the functions of turns (chapter 1): what each call of impl's and of spec's functions gives, for every argument.
  Contracts of impl's calculations with exact points.
  Contracts of spec's calculations with exact points.
-/
import Derived.Test.YtnidiikcnplebaaM00
import Derived.Lib.SmallJoins
import Derived.Deep.DeepHandedRow
import Derived.Test.YtnidiikcnplebaaRows
import Derived.WalkKit
import Derived.ProofKit
import Derived.OpenShut
import Derived.LoopTactic
import Derived.Deep.QuietTactic
import Derived.BigQuiet
import Derived.Lib.Hide
import Derived.Deep.WholeRow
import Derived.Deep.RegionWith
import Derived.StillTailTactics
import Derived.Deep.Cut
import Derived.Deep.RegionHeld3
import Derived.Deep.DeepCutAuto
/- Exact points as a law's arguments: what their cells are. -/
namespace Go.Proofs.Ytnidiikcnplebaa
open Go.Joins Go.ChangeShapes Go.WideShapes Go.RowKit Go.Deep
set_option maxRecDepth 20000
set_option linter.unusedVariables false
set_option linter.unusedSimpArgs false

section
variable {H : Type} {enc : TypeId × Value → H} {P : Program} {w : World} {base : Nat} {spare : Nat → Bool} {held : Bool}
/-- The cells of an array of whole numbers are numbers. -/
theorem cells_of_array {fuel : Nat} {t e : TypeId} {n : Nat} {cs : List Value} {x : DataW H × List MemPlace} (ht : P.underlying t = some (.array n e)) (he : P.underlying e = some (.int .i64)) (hce : P.cellsOf e = 1) (hct : P.cellsOf t = n)
    (h : DataW.trod enc P w base spare held fuel t cs = some x) (hl : cs.length = n) : ∃ f, cs = lst n f := by
  cases fuel with
  | zero => simp [DataW.trod] at h
  | succ fuel =>
    simp only [DataW.trod, ht, hce, hct, Nat.mul_one, hl, if_true] at h
    · obtain ⟨xs, hm, hx⟩ := Option.map_eq_some_iff.1 h
      have key : ∀ i, i < n → ∃ z, cs[i]? = some (.int .i64 z) := by
        intro i hi
        have hxl : xs.length = n := by simpa using Lib.mapM_length hm
        obtain ⟨b, hb, hf⟩ := Lib.mapM_at hm i i (by simp [hi])
        obtain ⟨z, hc, _, _⟩ := DataW.trod_int he hf
        refine ⟨z, ?_⟩
        have := congrArg (·[0]?) hc
        simpa [List.getElem?_take, List.getElem?_drop] using this
      refine ⟨fun i => match cs[i]? with | some (.int _ z) => z | _ => 0, ?_⟩
      apply List.ext_getElem?
      intro i
      by_cases hi : i < n
      · obtain ⟨z, hz⟩ := key i hi
        simp [lst, hi, hz]
      · rw [List.getElem?_eq_none (by omega), List.getElem?_eq_none (by rw [lst_length]; omega)]
theorem open_one {r : Reach} {b0 : Nat} {t u e : TypeId} {n : Nat} {f0 : Field} {v : Value} {d : DataW H} {p : List MemPlace} (hs : P.underlying t = some (.struct #[f0])) (hft : f0.type = u) (hfo : f0.offset = 0)
    (hu : P.underlying u = some (.array n e)) (he : P.underlying e = some (.int .i64)) (hce : P.cellsOf e = 1) (hcu : P.cellsOf u = n) (hC : P.cellsOf t = n)
    (hv : Value.okWide P w r b0 t v) (h : DataW.Trod enc P w base spare held t v d p) : ∃ f, v = .agg (vec n f) := by
  obtain ⟨cs, rfl, hsz⟩ := okWide_struct hs hv
  obtain ⟨l⟩ := cs
  obtain ⟨fuel, hf⟩ := h
  obtain ⟨xs, m, _, hx, _, hlen, hg⟩ := DataW.trod_struct hs hf
  have h0 := hg 0 f0 rfl
  have hl : l.length = n := by rw [← hC, ← hsz]; simp
  rw [hft, hfo, hcu] at h0
  have e1 : ((Value.agg ⟨l⟩).cells.toList.drop 0).take n = l := by simp [Value.cells, ← hl]
  rw [e1] at h0
  obtain ⟨y, hy⟩ : ∃ y, xs[0]? = some y := ⟨_, List.getElem?_eq_getElem (by rw [hlen]; simp)⟩
  rw [hy] at h0
  obtain ⟨f, hfe⟩ := cells_of_array hu he hce hcu h0 hl
  exact ⟨f, by rw [hfe]; rfl⟩
end
theorem cells_int' : Try.prog.cellsOf 3 = 1 := by kernel_rfl
theorem cells_arr8' : Try.prog.cellsOf 38 = 8 := by kernel_rfl
theorem cells_law : Try.prog.cellsOf 123 = 8 := by kernel_rfl
section
variable {H : Type} {enc : TypeId × Value → H} {fn : Func}
theorem law_cyc {w : World} {base b0 : Nat} {spare : Nat → Bool} {held : Bool} {r : Reach} {v : Value} {d : DataW H} {p : List MemPlace} (hv : Value.okWide Try.prog w r b0 123 v) (h : DataW.Trod enc Try.prog w base spare held 123 v d p) : ∃ f, v = pt f :=
  open_one Try.underlying123 rfl rfl Try.underlying38 Try.underlying3 cells_int' cells_arr8' cells_law hv h
/-- What the one point of a law is. -/
theorem cyc_open {W : World} {args : Array Value} {ds gs : List (DataW H)} {before : List MemPlace} {base : Nat} {vars : List String} (hpar : fn.params = #[123])
    (hval : ∀ (j : Nat) t v, fn.params[j]? = some t → args[j]? = some v → Value.okWide Try.prog W .any base t v)
    (hW : DataW.Whole enc Try.prog fn.params.toList vars false W args.toList ds gs before) : ∃ a d, args = #[pt a] ∧ ds = [d] := by
  obtain ⟨p, q, hA, hV, rfl, hfz, hnd⟩ := hW
  rw [hpar] at hA hval
  obtain ⟨v0, d0, rfl, rfl, h0⟩ := trodAll_one hA
  obtain ⟨f, rfl⟩ := law_cyc (hval 0 123 v0 rfl rfl) h0
  exact ⟨f, _, rfl, rfl⟩
/-- What the two points of a law are. -/
theorem cyc2_open {W : World} {args : Array Value} {ds gs : List (DataW H)} {before : List MemPlace} {base : Nat} {vars : List String} (hpar : fn.params = #[123, 123])
    (hval : ∀ (j : Nat) t v, fn.params[j]? = some t → args[j]? = some v → Value.okWide Try.prog W .any base t v)
    (hW : DataW.Whole enc Try.prog fn.params.toList vars false W args.toList ds gs before) : ∃ a b d d', args = #[pt a, pt b] ∧ ds = [d, d'] := by
  obtain ⟨p, q, hA, hV, rfl, hfz, hnd⟩ := hW
  rw [hpar] at hA hval
  obtain ⟨v0, v1, d0, d1, p0, p1, rfl, rfl, rfl, h0, h1⟩ := trodAll_two hA
  obtain ⟨f, rfl⟩ := law_cyc (hval 0 123 v0 rfl rfl) h0
  obtain ⟨g, rfl⟩ := law_cyc (hval 1 123 v1 rfl rfl) h1
  exact ⟨f, g, _, _, rfl, rfl⟩
/-- What the point and the number of a law are. -/
theorem cycint_open {W : World} {args : Array Value} {ds gs : List (DataW H)} {before : List MemPlace} {base : Nat} {vars : List String} (hpar : fn.params = #[123, 3])
    (hval : ∀ (j : Nat) t v, fn.params[j]? = some t → args[j]? = some v → Value.okWide Try.prog W .any base t v)
    (hW : DataW.Whole enc Try.prog fn.params.toList vars false W args.toList ds gs before) : ∃ a n d d', args = #[pt a, .int .i64 n] ∧ ds = [d, d'] := by
  obtain ⟨p, q, hA, hV, rfl, hfz, hnd⟩ := hW
  rw [hpar] at hA hval
  obtain ⟨v0, v1, d0, d1, p0, p1, rfl, rfl, rfl, h0, h1⟩ := trodAll_two hA
  obtain ⟨f, rfl⟩ := law_cyc (hval 0 123 v0 rfl rfl) h0
  obtain ⟨a1, rfl, rfl, rfl, w1⟩ := open_int Try.underlying3 (hval 1 3 v1 rfl rfl) h1
  exact ⟨f, a1, _, _, rfl, rfl⟩
end
end Go.Proofs.Ytnidiikcnplebaa
/- Contracts of the functions of turns (chapter 1): what each call of impl's and of spec's functions gives, for every argument. -/
namespace Go.Proofs.Ytnidiikcnplebaa
set_option maxRecDepth 20000
open Go.ChangeShapes Go.WideShapes Go.ChangeAt Go.RowKit
set_option linter.unusedVariables false
set_option linter.unusedSimpArgs false

theorem ret_bool {a b : Bool} (h : a = b) : Ending.returned (.bool a) = .returned (.bool b) := by rw [h]
theorem ret_ib {a b : Int} {x y : Bool} (h : a = b) (hx : x = y) : Ending.returned (.tuple #[.int .i64 a, .bool x]) = .returned (.tuple #[.int .i64 b, .bool y]) := by rw [h, hx]
theorem tmod24 (n : Int) : n.tmod 24 = if 0 ≤ n then n % 24 else -((-n) % 24) := by
  split
  · next h => exact Int.tmod_eq_emod_of_nonneg h
  · rw [show n = -(-n) by omega, Int.neg_tmod, Int.tmod_eq_emod_of_nonneg (by omega)]; simp
theorem ret_int {k : IntKind} {a b : Int} (h : a = b) : Ending.returned (.int k a) = .returned (.int k b) := by rw [h]

theorem in_yes (n a b : Int) (h0 : a ≤ n) (h1 : n ≤ b) (w : World) :
    Calls Try.prog 66 #[.int .i64 n, .int .i64 a, .int .i64 b] w fun e w' => e = .returned (.bool true) ∧ w = w' := by
  go_enter Try.func66, Try.ntmps66
  go_wp2
  go_ret
  exact ⟨rfl, rfl⟩
theorem in_no (n a b : Int) (h : n < a ∨ b < n) (w : World) :
    Calls Try.prog 66 #[.int .i64 n, .int .i64 a, .int .i64 b] w fun e w' => e = .returned (.bool false) ∧ w = w' := by
  by_cases h0 : a ≤ n
  · have h1 : b < n := by omega
    go_enter Try.func66, Try.ntmps66
    go_wp2
    go_ret
    exact ⟨ret_bool (decide_eq_false (by omega)), rfl⟩
  · clear h
    go_enter Try.func66, Try.ntmps66
    go_wp2
    go_ret
    exact ⟨rfl, rfl⟩
theorem mod_any (n : Int) (h0 : -4611686018427387904 ≤ n) (h1 : n ≤ 4611686018427387904) (w : World) :
    Calls Try.prog 153 #[.int .i64 n] w fun e w' => e = .returned (.int .i64 (n % 24)) ∧ w = w' := by
  have T := tmod24 n
  have hb : -24 < n.tmod 24 ∧ n.tmod 24 < 24 ∧ n % 24 = if n.tmod 24 < 0 then n.tmod 24 + 24 else n.tmod 24 := by
    rw [T]; split <;> split <;> omega
  obtain ⟨hb0, hb1, e⟩ := hb
  clear T
  have E := Lib.hid e; clear e
  by_cases h : n.tmod 24 < 0
  · go_enter Try.func153, Try.ntmps153
    go_wp2
    go_ret
    exact ⟨ret_int (by rw [E.out, if_pos h]), rfl⟩
  · go_enter Try.func153, Try.ntmps153
    go_wp2
    go_ret
    exact ⟨ret_int (by rw [E.out, if_neg (by omega)]), rfl⟩
theorem is_yes (t : Int) (h0 : 0 ≤ t) (h1 : t ≤ 23) (w : World) :
    Calls Try.prog 138 #[.int .i64 t] w fun e w' => e = .returned (.bool true) ∧ w = w' := by
  go_enter Try.func138, Try.ntmps138
  go_wp2_with (go_at_call 66; refine (in_yes _ _ _ h0 h1 _).mono ?_; rintro e w' ⟨rfl, rfl⟩)
  go_ret
  exact ⟨rfl, rfl⟩
theorem is_no (t : Int) (h : t < 0 ∨ 23 < t) (w : World) :
    Calls Try.prog 138 #[.int .i64 t] w fun e w' => e = .returned (.bool false) ∧ w = w' := by
  go_enter Try.func138, Try.ntmps138
  go_wp2_with (go_at_call 66; refine (in_no _ _ _ h _).mono ?_; rintro e w' ⟨rfl, rfl⟩)
  go_ret
  exact ⟨rfl, rfl⟩
/-- Euclid, the quiet way: numbers from 0 on. -/
theorem gcd_any (a b : Nat) (ha : a ≤ 1000000) (hb : b ≤ 1000000) (w : World) :
    Calls Try.prog 137 #[.int .i64 a, .int .i64 b] w fun e w' => e = .returned (.int .i64 (Nat.gcd a b)) ∧ ∃ m, w' = w.drewN m := by
  go_enter Try.func137, Try.ntmps137
  go_wp2
  go_loopw [0, 1] (fun x y wr => ∃ p q m : Nat, x = .int .i64 p ∧ y = .int .i64 q ∧ p ≤ 1000000 ∧ q ≤ 1000000 ∧ Nat.gcd p q = Nat.gcd a b ∧ wr = w.drewN m) (fun _ y _ => (intOf y).toNat)
  case atStart => exact ⟨a, b, 0, rfl, rfl, ha, hb, rfl, rfl⟩
  case round =>
    obtain ⟨p, q, m, rfl, rfl, hp, hq, hg, rfl⟩ := hrel
    have G := Lib.hid hg; clear hg
    by_cases h : q = 0
    · subst h
      go_wp2
      go_ret
      exact ⟨ret_int (by have := G.out; simp at this; omega), m, rfl⟩
    · have hq0 : ((q : Int) != 0) = true := by simpa using h
      have hq1 : (0 : Int) < q := by omega
      have hq2 : ((q : Int) == 0) = false := by simpa using h
      go_wp2
      go_quiet (fail)
      go_wp2
      go_roundw
      case rel => exact ⟨q, p % q, _, rfl, by go_num, hq, by have := Nat.mod_lt p (Nat.pos_of_ne_zero h); omega, by rw [← G.out, Nat.gcd_comm p q, Nat.gcd_rec q p, Nat.gcd_comm], World.drewN_drewN _ _ _⟩
      case measure => have := Nat.mod_lt p (Nat.pos_of_ne_zero h); simp [intOf]; omega
end Go.Proofs.Ytnidiikcnplebaa
/- Contracts of impl's calculations with exact points. -/
namespace Go.Proofs.Ytnidiikcnplebaa
set_option maxRecDepth 20000
open Go.ChangeShapes Go.WideShapes Go.ChangeAt Go.RowKit
set_option linter.unusedVariables false
set_option linter.unusedSimpArgs false

theorem info_exact : (Try.prog.info? 97).map (·.size) = some 8 := by kernel_rfl
theorem zero8 : (#[.int .i64 0, .int .i64 0, .int .i64 0, .int .i64 0, .int .i64 0, .int .i64 0, .int .i64 0, .int .i64 0] : Array Value) = vec 8 (fun _ => 0) := rfl

theorem info_cyc : (Try.prog.info? 40).map (·.size) = some 8 := by kernel_rfl
theorem info_arr8 : (Try.prog.info? 38).map (·.size) = some 8 := by kernel_rfl
theorem zero24 : (#[.int .i64 0, .int .i64 0, .int .i64 0, .int .i64 0, .int .i64 0, .int .i64 0, .int .i64 0, .int .i64 0, .int .i64 0, .int .i64 0, .int .i64 0, .int .i64 0, .int .i64 0, .int .i64 0, .int .i64 0, .int .i64 0, .int .i64 0, .int .i64 0, .int .i64 0, .int .i64 0, .int .i64 0, .int .i64 0, .int .i64 0, .int .i64 0] : Array Value) = vec 24 nul := rfl
theorem key_i64 : Try.prog.plainKey 2 = true := by kernel_rfl
theorem key_int : Try.prog.plainKey 3 = true := by kernel_rfl
theorem cells_i64 : Try.prog.cellsOf 2 = 1 := by kernel_rfl
theorem cells_int : Try.prog.cellsOf 3 = 1 := by kernel_rfl
theorem some_i64 : (Try.prog.info? 2).isSome = true := by kernel_rfl
theorem some_int : (Try.prog.info? 3).isSome = true := by kernel_rfl
theorem some_arr8 : (Try.prog.info? 38).isSome = true := by kernel_rfl
theorem cells_arr8 : Try.prog.cellsOf 38 = 8 := by kernel_rfl
theorem index_exact {k : Nat} (a : Nat → Int) (hk : k < 8) (w : World) : (Instr.index 97 (.agg (vec 8 a)) (.int .i64 k)).run Try.prog w = .ok (.int .i64 (a k)) w := by
  obtain ⟨i, hi⟩ := Option.isSome_iff_exists.1 some_i64
  exact run_index_vec Try.underlying97 hi cells_i64 key_i64 hk w
theorem index_arr8 {k : Nat} (a : Nat → Int) (hk : k < 8) (w : World) : (Instr.index 38 (.agg (vec 8 a)) (.int .i64 k)).run Try.prog w = .ok (.int .i64 (a k)) w := by
  obtain ⟨i, hi⟩ := Option.isSome_iff_exists.1 some_int
  exact run_index_vec Try.underlying38 hi cells_int key_int hk w
theorem equal_exact (a b : Nat → Int) (w : World) : (Op.equalIn 10000 97 (.agg (vec 8 a)) (.agg (vec 8 b))).run Try.prog w = .ok (eqv 8 a b) w := by
  obtain ⟨i, hi⟩ := Option.isSome_iff_exists.1 some_i64
  exact equal_vec (d := 9998) Try.underlying97 hi cells_i64 Try.underlying2 key_i64 w
theorem equal_cyc (a b : Nat → Int) (w : World) : (Op.equalIn 10000 40 (.agg (vec 8 a)) (.agg (vec 8 b))).run Try.prog w = .ok (eqv 8 a b) w := by
  obtain ⟨i, hi⟩ := Option.isSome_iff_exists.1 some_int
  obtain ⟨j, hj⟩ := Option.isSome_iff_exists.1 some_arr8
  exact equal_one (d := 9997) Try.underlying40 (by kernel_rfl) (fun d xs ys => by unfold Op.eqFields; exact if_pos (by decide)) rfl rfl Try.underlying38 hj cells_arr8 hi cells_int Try.underlying3 key_int w

theorem coefIn_yes (c : Int) (h0 : -1000000 ≤ c) (h1 : c ≤ 1000000) (w : World) :
    Calls Try.prog 109 #[.int .i64 c] w fun e w' => e = .returned (.bool true) ∧ w = w' := by
  go_enter Try.func109, Try.ntmps109
  go_wp2
  go_ret
  exact ⟨by first | rfl | exact ret_bool (decide_eq_true (by omega)), rfl⟩
theorem coefIn_no (c : Int) (h : ¬ (-1000000 ≤ c ∧ c ≤ 1000000)) (w : World) :
    Calls Try.prog 109 #[.int .i64 c] w fun e w' => e = .returned (.bool false) ∧ w = w' := by
  by_cases h0 : -1000000 ≤ c
  · have h1 : ¬ c ≤ 1000000 := fun h' => h ⟨h0, h'⟩
    clear h
    go_enter Try.func109, Try.ntmps109
    go_wp2
    go_ret
    exact ⟨by first | rfl | exact ret_bool (decide_eq_false (by omega)), rfl⟩
  · clear h
    go_enter Try.func109, Try.ntmps109
    go_wp2
    go_ret
    exact ⟨rfl, rfl⟩

set_option maxHeartbeats 400000 in
theorem exactOf_any (a : Nat → Int) (w : World) :
    Calls Try.prog 74 #[pt a] w fun e w' => e = .returned (ans true a) ∧ Below w.heap.size w w' := by
  have sa := vec_size 8 a
  unfold pt
  go_enter Try.func74, Try.ntmps74
  go_wp2_with (refine load_row rfl rfl rfl (((RowAt.newAt rfl rfl).alloc _).alloc _) Try.underlying38 rfl info_arr8 ?_)
  go_loopw [5, 6, 9] (fun _ _ i wr => ∃ k : Nat, k ≤ 8 ∧ i = .int .i64 k ∧ (∀ j, j < k → -1000000 ≤ a j ∧ a j ≤ 1000000) ∧ RowAt wr (w.heap.size + 1) 8 97 nul ∧ RowAt wr (w.heap.size + 1 + 1) 8 97 (mix k a nul) ∧ Below w.heap.size w wr) (fun _ _ i _ => 8 - (intOf i).toNat)
  case atStart => exact ⟨0, Nat.zero_le _, rfl, fun j hj => absurd hj (by omega), (RowAt.newAt zero8 (by simp)).alloc _, by rw [mix_zero]; exact RowAt.newAt zero8 (by simp), (((Below.refl _ _).alloc (Nat.le_refl _) _).alloc (by simp) _).alloc (by simp; omega) _⟩
  case round =>
    obtain ⟨k, hk, rfl, hin, hO, hA, hbel⟩ := hrel
    by_cases hlt : k < 8
    · have ix := fun w => index_arr8 a hlt w
      have hlt' : (k : Int) < 8 := by omega
      have hk0 : (0 : Int) ≤ (k : Int) := by omega
      have hA2 := hA.set hlt (a k)
      rw [mix_step] at hA2
      have cA := hA.cell hlt
      have fA := hA.free k
      have HA := Lib.hid hA2
      have HO' := Lib.hid (hO.other ⟨w.heap.size + 1 + 1, k, none⟩ (.int .i64 (a k)) (by simp))
      have HO := Lib.hid hO
      have HL' := Lib.hid ((hbel.setCell (p := ⟨w.heap.size + 1 + 1, k, none⟩) (by simp; omega) (.int .i64 (a k))))
      have HL := Lib.hid hbel
      have HI := Lib.hid hin
      clear hA hA2 hO hbel hin
      by_cases hc : -1000000 ≤ a k ∧ a k ≤ 1000000
      · have C := fun w => coefIn_yes (a k) hc.1 hc.2 w
        go_wp2_with fail
        refine (C _).mono ?_; rintro e w' ⟨rfl, rfl⟩
        clear C
        go_wp2_with fail
        go_roundw
        case rel => exact ⟨k + 1, by omega, by go_num, upto_succ HI.out hc, HO'.out, HA.out, HL'.out⟩
        case measure => simp [intOf]; omega
      · have C := fun w => coefIn_no (a k) hc w
        go_wp2_with fail
        refine (C _).mono ?_; rintro e w' ⟨rfl, rfl⟩
        clear C
        go_wp2_with (refine store_row rfl rfl rfl (show _ = Value.agg (vec 8 nul) from rfl) HO.out info_exact ?_)
        refine bodyPost_ret (results_row_tmp rfl rfl HO.out.setRow Try.underlying97 rfl info_exact) rfl ?_
        exact ⟨by rw [ans_bad (okc_not hlt hc)]; rfl, below_setRow HL.out (by omega) _⟩
    · obtain rfl : k = 8 := by omega
      have HA := Lib.hid hA; have HO := Lib.hid hO; have HL := Lib.hid hbel; have HI := Lib.hid hin
      clear hA hO hbel hin
      go_wp2_with (first | (refine load_row rfl rfl rfl HA.out Try.underlying97 rfl info_exact ?_) | (refine store_row rfl rfl rfl rfl HO.out info_exact ?_))
      refine bodyPost_ret (results_row_tmp rfl rfl HO.out.setRow Try.underlying97 rfl info_exact) rfl ?_
      exact ⟨by rw [vec_mix, ans_yes (inR_okc HI.out)]; rfl, below_setRow HL.out (by omega) _⟩

end Go.Proofs.Ytnidiikcnplebaa
/- Contracts of spec's calculations with exact points. -/
namespace Go.Proofs.Ytnidiikcnplebaa
set_option maxRecDepth 20000
open Go.ChangeShapes Go.WideShapes Go.ChangeAt Go.RowKit
set_option linter.unusedVariables false
set_option linter.unusedSimpArgs false

theorem specValid_any (a : Nat → Int) (w : World) :
    Calls Try.prog 106 #[pt a] w fun e w' => e = .returned (.bool (okc a)) ∧ Below w.heap.size w w' := by
  have sa := vec_size 8 a
  unfold pt
  go_enter Try.func106, Try.ntmps106
  go_upto_region 1 with fail
  show Code.wp _ _ _ _ (box0 w a 40)
  obtain ⟨hA, hL⟩ := box0_facts w a 40
  generalize box0 w a 40 = W at *
  go_wp2_with fail
  go_loopw [3] (fun i wr => ∃ k : Nat, k ≤ 8 ∧ i = .int .i64 k ∧ (∀ j, j < k → -1000000 ≤ a j ∧ a j ≤ 1000000) ∧ RowAt wr w.heap.size 8 40 a ∧ Below w.heap.size w wr) (fun i _ => 8 - (intOf i).toNat)
  case atStart => exact ⟨0, Nat.zero_le _, rfl, fun j hj => absurd hj (by omega), hA, hL⟩
  case round =>
    clear hA hL
    obtain ⟨k, hk, rfl, hin, hA, hL⟩ := hrel
    by_cases hlt : k < 8
    · have hlt' : (k : Int) < 8 := by omega
      have hk0 : (0 : Int) ≤ (k : Int) := by omega
      have cA := hA.cell hlt
      have HA := Lib.hid hA
      have HL := Lib.hid hL
      have HI := Lib.hid hin
      clear hA hL hin
      by_cases hc : -1000000 ≤ a k ∧ a k ≤ 1000000
      · have G := fun w => in_yes (a k) (-1000000) 1000000 hc.1 hc.2 w
        go_wp2_with fail
        refine (G _).mono ?_; rintro e w' ⟨rfl, rfl⟩
        clear G
        go_wp2_with fail
        go_roundw
        case rel => exact ⟨k + 1, by omega, by go_num, upto_succ HI.out hc, HA.out, HL.out⟩
        case measure => simp [intOf]; omega
      · have G := fun w => in_no (a k) (-1000000) 1000000 (by omega) w
        go_wp2_with fail
        refine (G _).mono ?_; rintro e w' ⟨rfl, rfl⟩
        clear G
        go_wp2_with fail
        go_ret
        exact ⟨ret_bool (okc_not hlt hc).symm, HL.out⟩
    · obtain rfl : k = 8 := by omega
      have HL := Lib.hid hL; have HI := Lib.hid hin
      clear hA hL hin
      go_wp2_with fail
      go_ret
      exact ⟨ret_bool (inR_okc HI.out).symm, HL.out⟩

theorem specDone_any (a : Nat → Int) (w : World) :
    Calls Try.prog 139 #[pt a] w fun e w' => e = .returned (ans true a) ∧ Below w.heap.size w w' := by
  have sa := vec_size 8 a
  have V := fun w => specValid_any a w
  cases hv : okc a
  · rw [ans_bad hv]
    rw [hv] at V
    unfold pt at *
    go_enter Try.func139, Try.ntmps139
    go_upto_region 1 with fail
    show Code.wp _ _ _ _ (box1 w a 40 40)
    obtain ⟨hA, hO, hL⟩ := box1_facts w a 40 40
    generalize box1 w a 40 40 = W at *
    go_wp2_with (refine load_row rfl rfl rfl hA Try.underlying40 rfl info_cyc ?_)
    refine (V _).mono ?_; rintro e w2 ⟨rfl, hb2⟩
    have hO3 := hO.below hb2
    have hL3 := below_next hL hb2
    clear hA hO hL hb2 V
    go_wp2_with (refine store_row rfl rfl rfl (show _ = Value.agg (vec 8 nul) from rfl) hO3 info_cyc ?_)
    refine bodyPost_ret (results_row_tmp rfl rfl hO3.setRow Try.underlying40 rfl info_cyc) rfl ?_
    exact ⟨rfl, below_setRow hL3 (by omega) _⟩
  · rw [ans_yes hv]
    rw [hv] at V
    unfold pt at *
    go_enter Try.func139, Try.ntmps139
    go_upto_region 1 with fail
    show Code.wp _ _ _ _ (box1 w a 40 40)
    obtain ⟨hA, hO, hL⟩ := box1_facts w a 40 40
    generalize box1 w a 40 40 = W at *
    go_wp2_with (refine load_row rfl rfl rfl hA Try.underlying40 rfl info_cyc ?_)
    refine (V _).mono ?_; rintro e w2 ⟨rfl, hb2⟩
    have hA3 := hA.below hb2
    have hO3 := hO.below hb2
    have hL3 := below_next hL hb2
    clear hA hO hL hb2 V
    go_wp2_with (first | (refine load_row rfl rfl rfl hA3 Try.underlying40 rfl info_cyc ?_) | (refine store_row rfl rfl rfl rfl hO3 info_cyc ?_))
    refine bodyPost_ret (results_row_tmp rfl rfl hO3.setRow Try.underlying40 rfl info_cyc) rfl ?_
    exact ⟨rfl, below_setRow hL3 (by omega) _⟩

/-- The first k numbers one place on. -/
def shf (a : Nat → Int) (k : Nat) : Nat → Int := fun j => if j = 0 then 0 else if j ≤ k then a (j - 1) else 0
theorem shf_zero (a : Nat → Int) (j : Nat) : nul j = shf a 0 j := by
  simp only [nul, shf]
  by_cases h : j = 0
  · rw [if_pos h]
  · rw [if_neg h, if_neg (by omega)]
theorem shf_step (a : Nat → Int) (k j : Nat) : upd (shf a k) (k + 1) (a k) j = shf a (k + 1) j := by
  simp only [upd, shf]
  by_cases h1 : j = k + 1
  · subst h1; simp
  · rw [if_neg h1]
    by_cases h2 : j = 0
    · rw [if_pos h2, if_pos h2]
    · rw [if_neg h2, if_neg h2]
      by_cases h3 : j ≤ k
      · rw [if_pos h3, if_pos (by omega)]
      · rw [if_neg h3, if_neg (by omega)]
theorem shf_stp (a : Nat → Int) : ∀ j, j < 8 → upd (upd (shf a 7) 4 (a 3 + a 7)) 0 (-a 7) j = stp a j := by
  intro j hj
  simp only [upd, stp, shf]
  by_cases h1 : j = 0
  · rw [if_pos h1, if_pos h1]
  · rw [if_neg h1, if_neg h1, if_neg h1]
    by_cases h2 : j = 4
    · rw [if_pos h2, if_pos h2]
    · rw [if_neg h2, if_neg h2, if_pos (by omega)]

set_option maxHeartbeats 800000 in
theorem specStep_any (a : Nat → Int) (ha : ∀ j, j < 8 → -4000000000000000000 ≤ a j ∧ a j ≤ 4000000000000000000) (w : World) :
    Calls Try.prog 160 #[pt a] w fun e w' => e = .returned (pt (stp a)) ∧ Below w.heap.size w w' := by
  have sa := vec_size 8 a
  unfold pt at *
  go_enter Try.func160, Try.ntmps160
  go_upto_region 2 with fail
  show Code.wp _ _ _ _ ((box1 w a 40 40).alloc (.cells (vec 8 nul) 40))
  obtain ⟨hA, hO, hL⟩ := box1_facts w a 40 40
  have zE := hO.lt
  have hsz : (box1 w a 40 40).heap.size = w.heap.size + 1 + 1 := by simp [box1]
  have hA := hA.alloc (.cells (vec 8 nul) 40)
  have hO := hO.alloc (.cells (vec 8 nul) 40)
  have hL := hL.alloc (by omega) (.cells (vec 8 nul) 40)
  have hE : RowAt ((box1 w a 40 40).alloc (.cells (vec 8 nul) 40)) (w.heap.size + 1 + 1) 8 40 nul := RowAt.newAt rfl hsz
  clear zE hsz
  generalize (box1 w a 40 40).alloc (.cells (vec 8 nul) 40) = W at *
  go_wp2_with fail
  go_loopw [4] (fun i wr => ∃ k : Nat, k ≤ 7 ∧ i = .int .i64 (k + 1) ∧ RowAt wr w.heap.size 8 40 a ∧ RowAt wr (w.heap.size + 1) 8 40 nul ∧ RowAt wr (w.heap.size + 1 + 1) 8 40 (shf a k) ∧ Below w.heap.size w wr) (fun i _ => 8 - (intOf i).toNat)
  case atStart => exact ⟨0, Nat.zero_le _, rfl, hA, hO, hE.same (fun j _ => shf_zero a j), hL⟩
  case round =>
    clear hA hO hE hL
    obtain ⟨k, hk, rfl, hA, hO, hE, hL⟩ := hrel
    by_cases hlt : k < 7
    · have hlt' : (k : Int) + 1 < 8 := by omega
      have hk0 : (0 : Int) ≤ (k : Int) := by omega
      have hk8 : (k : Int) < 8 := by omega
      have hk1 : (0 : Int) ≤ (k : Int) + 1 := by omega
      have t1 : ((k : Int) + 1).toNat = k + 1 := by omega
      have v0 : IntKind.i64.wrap ((k : Int) + 1 - 1) = (k : Int) := by rw [IntKind.wrap_i64]; omega
      have v1 : IntKind.i64.wrap (k : Int) = (k : Int) := by rw [IntKind.wrap_i64]; omega
      have cA := hA.cell (k := k) (by omega)
      have cE := hE.cell (k := k + 1) (by omega)
      have fE := hE.free (k + 1)
      have hE3 := (hE.set (k := k + 1) (by omega) (a k)).same (fun j _ => shf_step a k j)
      have HE := Lib.hid hE3
      have HA := Lib.hid (hA.other ⟨w.heap.size + 1 + 1, k + 1, none⟩ (.int .i64 (a k)) (by simp; try omega))
      have HO := Lib.hid (hO.other ⟨w.heap.size + 1 + 1, k + 1, none⟩ (.int .i64 (a k)) (by simp; try omega))
      have HL := Lib.hid (hL.setCell (p := ⟨w.heap.size + 1 + 1, k + 1, none⟩) (by simp; omega) (.int .i64 (a k)))
      clear hA hO hE hL hE3
      generalize shf a k (k + 1) = y at cE
      go_wp2_with fail
      go_roundw
      case rel => exact ⟨k + 1, by omega, by go_num, HA.out, HO.out, HE.out, HL.out⟩
      case measure => simp [intOf]; omega
    · obtain rfl : k = 7 := by omega
      have b3 := ha 3 (by omega)
      have b7 := ha 7 (by omega)
      have cA := hA.cell (k := 7) (by omega)
      have c4 : _ = some (Value.int .i64 (a 3)) := hE.cell (k := 4) (by omega)
      have f4 := hE.free 4
      have hE4 := hE.set (k := 4) (by omega) (a 3 + a 7)
      have c0 : _ = some (Value.int .i64 0) := hE4.cell (k := 0) (by omega)
      have f0 := hE4.free 0
      have hE5 := (hE4.set (k := 0) (by omega) (-a 7)).same (shf_stp a)
      have hO5 := (hO.other ⟨w.heap.size + 1 + 1, 4, none⟩ (.int .i64 (a 3 + a 7)) (by simp)).other ⟨w.heap.size + 1 + 1, 0, none⟩ (.int .i64 (-a 7)) (by simp)
      have hA4 := hA.other ⟨w.heap.size + 1 + 1, 4, none⟩ (.int .i64 (a 3 + a 7)) (by simp; try omega)
      have cA4 := hA4.cell (k := 7) (by omega)
      have hL5 := (hL.setCell (p := ⟨w.heap.size + 1 + 1, 4, none⟩) (by simp; omega) (.int .i64 (a 3 + a 7))).setCell (p := ⟨w.heap.size + 1 + 1, 0, none⟩) (by simp; omega) (.int .i64 (-a 7))
      have HE := Lib.hid hE5
      have HO := Lib.hid hO5
      have HL := Lib.hid hL5
      clear hA hO hE hL hE4 hE5 hO5 hA4 hL5 ha
      generalize a 3 = x3 at *
      generalize a 7 = x7 at *
      go_upto_region 8 with fail
      go_wp2_with (first | (refine load_row (ty := 40) rfl rfl rfl HE.out Try.underlying40 rfl info_cyc ?_) | (refine store_row (ty := 40) rfl rfl rfl rfl HO.out info_cyc ?_))
      refine bodyPost_ret (results_row rfl rfl HO.out.setRow Try.underlying40 rfl info_cyc) rfl ?_
      exact ⟨rfl, below_setRow HL.out (by omega) _⟩
end Go.Proofs.Ytnidiikcnplebaa
