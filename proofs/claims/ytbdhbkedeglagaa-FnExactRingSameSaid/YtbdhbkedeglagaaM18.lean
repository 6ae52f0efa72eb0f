/-
  Lists of numbers in memory.
  impl: the speeds of a design, its fold and its period; its centre.
-/
import Derived.Test.YtbdhbkedeglagaaM17
import Derived.Test.YtbdhbkedeglagaaM16
import Derived.Test.YtbdhbkedeglagaaM05
/- Lists of numbers in memory. -/
namespace Go.Proofs.Ytbdhbkedeglagaa
set_option maxRecDepth 20000
open Go.ChangeShapes Go.WideShapes Go.ChangeAt Go.RowKit
set_option linter.unusedVariables false
set_option linter.unusedSimpArgs false

/-! Lists of numbers. -/
def encI (n : Int) : List Value := [.int .i64 n]
theorem encI_ok : Enc encI 1 := ⟨fun a => rfl, fun a v h => by rw [encI, List.mem_singleton] at h; subst h; rfl, by omega⟩
theorem tyI : TyL Try.prog 80 3 1 := tyL_of (z := .int .i64 0) (b := 8) Try.underlying80 (by kernel_rfl) (by omega) rfl
theorem flt_ints : ∀ xs : List Int, flt encI xs = xs.map (Value.int .i64)
  | [] => rfl
  | x :: xs => by rw [flt_cons, flt_ints xs]; rfl
theorem own_ints {w : World} {B T : Nat} {v : Value} {xs : List Int} (h : OwnL encI 1 w B T v xs) : w.ownsRow B T 1 v xs.length (xs.map (Value.int .i64)) := by
  rw [← flt_ints]; exact h
theorem lit1 (w : World) (x : Int) (T : Nat) : ReadsL encI (w.alloc (.cells #[.int .i64 x] T)) (.slice (some ⟨w.heap.size, 0, none⟩) 1 1) [x] := litL_reads (en := encI) w x T
theorem int_cell {w : World} {g o k : Nat} {xs : List Int} {x : Int} (h : w.rangeAt g o (flt encI xs)) (hx : xs[k]? = some x) : w.cell? ⟨g, o + k, none⟩ = some (.int .i64 x) := by
  have := cells_part encI_ok h hx 0 (.int .i64 x) rfl
  rwa [Nat.mul_one, Nat.add_zero] at this
def ToldI (w : World) (o : Option (List Int)) (e : Ending) (w' : World) : Prop :=
  Below w.heap.size w w' ∧ ∃ v', e = .returned (.tuple #[v', .bool o.isSome]) ∧ OwnL encI 1 w' w.heap.size 3 v' (o.getD [])
end Go.Proofs.Ytbdhbkedeglagaa
/- impl: the speeds of a design, its fold and its period; its centre. -/
namespace Go.Proofs.Ytbdhbkedeglagaa
set_option maxRecDepth 20000
open Go.ChangeShapes Go.WideShapes Go.ChangeAt Go.RowKit
set_option linter.unusedVariables false
set_option linter.unusedSimpArgs false

def spL (R : List Wh) : List Int := R.map (·.s)
def spO (ws : List Wh) : Option (List Int) := (tid ws).map spL
theorem spL_len (R : List Wh) : (spL R).length = R.length := by simp [spL]
theorem spL_at {R : List Wh} {k : Nat} {c : Wh} (h : R[k]? = some c) : (spL R)[k]? = some c.s := by simp [spL, h]
theorem spL_next {R : List Wh} {k : Nat} {c : Wh} (h : R[k]? = some c) : spL (R.take (k + 1)) = spL (R.take k) ++ [c.s] := by rw [take_next h]; simp [spL]

theorem tidyOf_any (v : Value) (ws : List Wh) (w : World) (hv : Reads w v ws) : Calls Try.prog 73 #[v] w (Told w (tid ws)) := DesignTidy_any v ws w hv

set_option maxHeartbeats 1000000 in
theorem DesignSpeeds_any (v : Value) (ws : List Wh) (w : World) (hv : Reads w v ws) : Calls Try.prog 49 #[v] w (ToldI w (spO ws)) := by
  have T := tidyOf_any v ws w hv
  clear hv
  unfold spO
  cases hx : tid ws with
  | none =>
    rw [hx] at T
    have T := Lib.hid T
    clear hx
    go_enter Try.func49, Try.ntmps49
    go_wp2_with fail
    refine T.out.mono ?_; rintro e w1 ⟨hb1, v1, rfl, -⟩
    have HB := Lib.hid hb1
    clear T hb1
    go_wp2
    go_ret2
    exact ⟨HB.out, _, rfl, World.ownsRow_nil _ _ _ _⟩
  | some R =>
    rw [hx] at T
    have HN := Lib.hid (valid_len (tid_in hx).2.1.ok)
    have T := Lib.hid T
    clear hx
    go_enter Try.func49, Try.ntmps49
    go_wp2_with fail
    refine T.out.mono ?_; rintro e w1 ⟨hb1, v1, rfl, ho1⟩
    rw [got_some] at ho1
    obtain ⟨p, cap, rfl, hc1, hc2, hp0, hp⟩ := own_reads ho1
    have hn := HN.out
    have hm : R.length ≤ maxLen := by omega
    simp only [maxLen] at hm hc2
    have HP := Lib.hid hp
    have HB1 := Lib.hid hb1
    clear T hb1 ho1 hp
    go_wp2_with (refine makeL (en := encI) tyI rfl rfl R.length rfl rfl (by omega) (Below.refl _ w1) (Nat.le_refl _) ?_; intro w2 ho2 hb2 hB2)
    go_loopw [6, 8, 21] (fun v' _ i wr => ∃ k : Nat, k ≤ R.length ∧ i = .int .i64 k ∧ OwnL encI 1 wr w1.heap.size 3 v' (spL (R.take k)) ∧ Below w1.heap.size w1 wr ∧ w1.heap.size ≤ wr.heap.size) (fun _ _ i _ => R.length - (intOf i).toNat)
    case atStart => exact ⟨0, Nat.zero_le _, rfl, ho2, hb2, hB2⟩
    case round =>
      clear ho2 hb2 hB2
      obtain ⟨k, hk, rfl, hO, hbel, hB⟩ := hrel
      by_cases hlt : k < R.length
      · have hkz : (k : Int) < (R.length : Int) := by omega
        have hk0 : (0 : Int) ≤ (k : Int) := by omega
        obtain ⟨c, hc⟩ : ∃ c, R[k]? = some c := ⟨_, List.getElem?_eq_getElem hlt⟩
        obtain ⟨g, o, rfl, hg, hr⟩ := HP.out (by rintro rfl; have := hp0 rfl; omega)
        have HE := Lib.hid (range_part (range_below hr hg hbel) hc)
        have c0 := row_speed (RowAt.new wr 9 67 (wf c))
        have HO := Lib.hid hO
        have HL := Lib.hid hbel
        have HB := Lib.hid hB
        have HC := Lib.hid hc
        have hsl : (spL (R.take k)).length ≤ 12 := by rw [spL_len, List.length_take]; omega
        have HO2 : Aside (OwnL encI 1 (wr.alloc (.cells (vec 9 (wf c)) 67)) w1.heap.size 3 u6 (spL (R.take k))) := (show OwnL _ _ _ _ _ _ _ from World.ownsRow.alloc HO.out _)
        have HL2 := Lib.hid (HL.out.alloc HB.out (.cells (vec 9 (wf c)) 67))
        have HB2 : Aside (w1.heap.size ≤ (wr.alloc (.cells (vec 9 (wf c)) 67)).heap.size) := (show _ ≤ _ from by have := HB.out; simp; omega)
        clear hr hO hbel hB hc hg
        go_upto_region 8 with (first | (refine load_wheel (T := 67) rfl rfl rfl HE.out Try.underlying67 rfl info_wheel ?_) | (refine store_new (ty := 67) rfl rfl rfl rfl zero9 info_wheel ?_))
        show Code.wp _ _ _ _ (wr.alloc (.cells (vec 9 (wf c)) 67))
        generalize wr.alloc (.cells (vec 9 (wf c)) 67) = W at *
        generalize wr.heap.size = gw at *
        go_wp2_with (at_builtin; refine appendL tyI encI_ok rfl rfl rfl rfl (xs := spL (R.take k)) (World.ownsRow.alloc HO2.out _) (lit1 _ _ _) (by simp; omega) (HL2.out.alloc HB2.out _) (by simp; have := HB2.out; omega) ?_; intro v2 w4 ho4 hb4 hB4 hgr4)
        go_roundw
        case rel => exact ⟨k + 1, by omega, by go_num, by rw [spL_next HC.out]; exact ho4, hb4, hB4⟩
        case measure => simp [intOf]; omega
      · obtain rfl : k = R.length := by omega
        have HO := Lib.hid hO
        have HL := Lib.hid hbel
        clear hO hbel hB
        go_wp2
        go_ret2
        have ho := HO.out
        rw [List.take_length] at ho
        exact ⟨below_next HB1.out HL.out, _, rfl, rows_mono ho HB1.out.size⟩

/-! Folds and periods. -/
theorem foldW_head (R : List Wh) : foldW R = gcdL (gapW (headS R)) R := by cases R <;> rfl
def foldO (ws : List Wh) : Int := match tid ws with
  | none => -1
  | some R => foldW R
def perO (ws : List Wh) : Int := match tid ws with
  | none => -1
  | some R => perW R
theorem headS_at {R : List Wh} (h : 0 < R.length) : (spL R)[0]? = some (headS R) := by
  cases R with
  | nil => simp at h
  | cons c R => rfl
theorem headS_mem {R : List Wh} (h : 0 < R.length) : ∃ d ∈ R, d.s = headS R := by
  cases R with
  | nil => simp at h
  | cons c R => exact ⟨c, by simp, rfl⟩
theorem headS_least {R : List Wh} (ha : Asc R) {c : Wh} (hc : c ∈ R) : headS R ≤ c.s := by
  cases R with
  | nil => cases hc
  | cons d R =>
    rcases List.mem_cons.1 hc with rfl | hc
    · exact Int.le_refl _
    · exact Int.le_of_lt ((List.pairwise_cons.1 ha).1 c hc)

set_option maxHeartbeats 1000000 in
theorem DesignFold_any (v : Value) (ws : List Wh) (w : World) (hv : Reads w v ws) : Calls Try.prog 23 #[v] w fun e w' => e = .returned (.int .i64 (foldO ws)) ∧ Below w.heap.size w w' := by
  have T := DesignSpeeds_any v ws w hv
  clear hv
  unfold spO at T
  unfold foldO
  cases hx : tid ws with
  | none =>
    rw [hx] at T
    have T := Lib.hid T
    clear hx
    go_enter Try.func23, Try.ntmps23
    go_wp2_with fail
    refine T.out.mono ?_; rintro e w1 ⟨hb1, v1, rfl, -⟩
    have HB := Lib.hid hb1
    clear T hb1
    go_wp2
    go_ret
    exact ⟨rfl, HB.out⟩
  | some R =>
    rw [hx] at T
    have hT := (tid_in hx).2.1
    have HN := Lib.hid (valid_len hT.ok)
    have HT := Lib.hid hT
    have T := Lib.hid T
    clear hx hT
    go_enter Try.func23, Try.ntmps23
    go_wp2_with fail
    refine T.out.mono ?_; rintro e w1 ⟨hb1, v1, rfl, ho1⟩
    rw [Option.map_some, Option.getD_some] at ho1
    obtain ⟨p, cap, rfl, hc1, hc2, hp0, hp⟩ := ownL_reads ho1
    rw [spL_len] at hc1
    have hn := HN.out
    simp only [maxLen] at hc2
    have HP := Lib.hid hp
    have HB1 := Lib.hid hb1
    have hsl := spL_len R
    clear T hb1 ho1 hp
    simp only [Option.map_some, Option.isSome_some, hsl]
    go_wp2_with fail
    go_loopw [5, 7, 17] (fun f _ i wr => ∃ (k m : Nat), k ≤ R.length ∧ i = .int .i64 k ∧ f = .int .i64 (gcdL (gapW (headS R)) (R.take k)) ∧ wr = w1.drewN m) (fun _ _ i _ => R.length - (intOf i).toNat)
    case atStart => exact ⟨0, 0, Nat.zero_le _, rfl, rfl, rfl⟩
    case round =>
      obtain ⟨k, m, hk, rfl, rfl, rfl⟩ := hrel
      by_cases hlt : k < R.length
      · have hkz : (k : Int) < (R.length : Int) := by omega
        have hkz2 : (0 : Int) < (R.length : Int) := by omega
        have hk0 : (0 : Int) ≤ (k : Int) := by omega
        obtain ⟨c, hc⟩ : ∃ c, R[k]? = some c := ⟨_, List.getElem?_eq_getElem hlt⟩
        obtain ⟨g, o, rfl, hg, hr⟩ := HP.out (by rintro rfl; have := hp0 rfl; omega)
        have hcm := List.mem_of_getElem? hc
        obtain ⟨d, hdm, hds⟩ := headS_mem (R := R) (by omega)
        have hle := headS_least HT.out.asc hcm
        have c1 := int_cell hr (spL_at hc)
        have c2 := int_cell hr (headS_at (R := R) (by omega))
        rw [Nat.add_zero] at c2
        have b1 := tidy_speed HT.out hcm
        have b2 := tidy_speed HT.out hdm
        rw [hds] at b2
        have G := Lib.hid (gcd_any (gcdL (gapW (headS R)) (R.take k)) (gapW (headS R) c) (by have := fold_most HT.out hdm k; rw [hds] at this; omega) (by have := gapW_most HT.out hdm hcm; rw [hds] at this; omega))
        have hf : ((gapW (headS R) c : Nat) : Int) = c.s - headS R := by unfold gapW; omega
        have HNX := Lib.hid (gcdL_next (gapW (headS R)) hc)
        have w5 : IntKind.i64.wrap (c.s - headS R) = c.s - headS R := by rw [IntKind.wrap_i64]; omega
        rw [hf] at G
        clear hc hr hg hcm hdm hds hle hf d
        generalize gcdL (gapW (headS R)) (R.take k) = a at *
        generalize headS R = s0 at *
        go_wp2_with fail
        refine (G.out _).mono ?_; rintro e w2 ⟨rfl, m2, rfl⟩
        clear G c1 c2
        go_wp2_with fail
        go_roundw
        case rel => exact ⟨k + 1, _, by omega, by go_num, by rw [HNX.out], rfl⟩
        case measure => simp [intOf]; omega
      · obtain rfl : k = R.length := by omega
        rw [List.take_length, ← foldW_head]
        go_wp2
        go_ret
        exact ⟨rfl, below_drewN HB1.out m⟩

end Go.Proofs.Ytbdhbkedeglagaa
