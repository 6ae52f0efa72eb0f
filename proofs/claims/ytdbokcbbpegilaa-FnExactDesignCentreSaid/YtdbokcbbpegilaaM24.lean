/-
  impl: rows made of lists of points, and told.
  impl: rows told; sums of points asked on the way.
  impl: rows of designs.
-/
import Derived.Test.YtdbokcbbpegilaaM20
import Derived.Test.YtdbokcbbpegilaaM08
import Derived.Test.YtdbokcbbpegilaaM17
import Derived.Handy
import Derived.Test.YtdbokcbbpegilaaM13
/- impl: rows made of lists of points, and told. -/
namespace Go.Proofs.Ytdbokcbbpegilaa
set_option maxRecDepth 20000
open Go.ChangeShapes Go.WideShapes Go.ChangeAt Go.RowKit
set_option linter.unusedVariables false
set_option linter.unusedSimpArgs false

theorem tyY : TyL Try.prog 86 41 8 := tyL_of (z := .agg (vec 8 nul)) (b := 64) Try.underlying86 (by kernel_rfl) (by omega) rfl
section
variable {P : Program} {t e : TypeId} {ops : Array Oper} {rest : List Oper} {o : Oper} {a : Act} {Q : Exit → Act → World → Prop} {w0 w : World} {B : Nat}
theorem fill_8 (g : Nat → Value) (f : Nat → Int) : Instr.fill (fun i => some (i * 8, 8)) ((Array.range (1 * 8)).map g) [(0, .agg (vec 8 f))] = some (vec 8 f) := by
  have h1 : (Array.range (1 * 8)).map g = #[g 0, g 1, g 2, g 3, g 4, g 5, g 6, g 7] := by
    refine Array.ext (by simp) fun i h1 h2 => ?_
    simp only [Nat.one_mul, Array.size_map, Array.size_range] at h1
    have : i = 0 ∨ i = 1 ∨ i = 2 ∨ i = 3 ∨ i = 4 ∨ i = 5 ∨ i = 6 ∨ i = 7 := by omega
    rcases this with rfl | rfl | rfl | rfl | rfl | rfl | rfl | rfl <;> simp
  have h2 : vec 8 f = #[.int .i64 (f 0), .int .i64 (f 1), .int .i64 (f 2), .int .i64 (f 3), .int .i64 (f 4), .int .i64 (f 5), .int .i64 (f 6), .int .i64 (f 7)] := rfl
  rw [h1, h2]
  simp [Instr.fill, Value.cells]
theorem run_one8 (ty : TyL P t e 8) (f : Nat → Int) (w : World) : (Instr.buildSlice t 1 #[(0, .agg (vec 8 f))]).run P w = .ok (.slice (some ⟨w.heap.size, 0, none⟩) 1 1) (w.alloc (.cells (vec 8 f) e)) := by
  obtain ⟨i, z, hi, hz, hs, hby, hzs⟩ := ty.inf
  have hf := fill_8 (fun x => z.cells[x % z.cells.size]!) f
  simp [Instr.buildSlice, run_underlying ty.sl, sizeOf, typeInfo, zeroValue, hi, hz, hs, Sem.run_bind]
  rw [Nat.one_mul] at hf
  simp [hf, newRow]
/-- A list of one point, made on the spot. -/
theorem one8 (ty : TyL P t e 8) {x : Operand} {f : Nat → Int} (hgd : o.guard = none) (ho : o.op = .buildSlice t 1 #[(0, x)]) (hx : a.eval x = .agg (vec 8 f))
    (h : wpList P ops Q rest (a.put o.dst (.slice (some ⟨w.heap.size, 0, none⟩) 1 1)) (w.alloc (.cells (vec 8 f) e))) : wpList P ops Q (o :: rest) a w := by
  refine wpList_plain hgd fun K hK => ?_
  unfold Oper.wp execOp
  simp [ho, hx, Sem.run_bind, run_one8 ty f w, Result.andThen]
  exact hK _ _ h
end
theorem lit8 (w : World) (x : V) (T : Nat) : ReadsL encV (w.alloc (.cells (vec 8 x.up) T)) (.slice (some ⟨w.heap.size, 0, none⟩) 1 1) [x] := litL_reads (en := encV) w x T
theorem ownL_none (w : World) (B T : Nat) : OwnL encV 8 w B T (.slice none 0 0) ([] : List V) := World.ownsRow_nil w B T 8
theorem take_nextV {xs : List V} {k : Nat} {c : V} (hc : xs[k]? = some c) : xs.take (k + 1) = xs.take k ++ [c] := by rw [List.take_add_one, hc]; rfl
theorem okAll_take {xs : List V} {k : Nat} {c : V} (h : (xs.take k).all okv = true) (hc : xs[k]? = some c) (hk : okv c = true) : (xs.take (k + 1)).all okv = true := by
  rw [take_nextV hc, List.all_append, h]; simp [hk]
theorem rowOk_bad {xs : List V} {k : Nat} {c : V} (hc : xs[k]? = some c) (hk : okv c = false) : rowOk xs = false := by
  unfold rowOk
  rw [List.all_eq_false.2 ⟨c, List.mem_of_getElem? hc, by rw [hk]; decide⟩, Bool.and_false]
theorem rowOk_no {xs : List V} (h : rowLen xs.length = false) : rowOk xs = false := by unfold rowOk; rw [h]; rfl

/-- What is told of a list of points: the list and true, or none and false. -/
def gotL (o : Option (List V)) : List V := o.getD []
def ToldL (T : Nat) (w : World) (o : Option (List V)) (e : Ending) (w' : World) : Prop :=
  Below w.heap.size w w' ∧ ∃ v', e = .returned (.tuple #[v', .bool o.isSome]) ∧ OwnL encV 8 w' w.heap.size T v' (gotL o)
/-- A row out of a list, where it is one. -/
def rowO (xs : List V) : Option (List V) := if rowOk xs then some xs else none
theorem rowO_no {xs : List V} (h : rowOk xs = false) : rowO xs = none := by unfold rowO; rw [h]; rfl
theorem rowO_yes {xs : List V} (h : rowOk xs = true) : rowO xs = some xs := by unfold rowO; rw [h]; rfl

/-- A row's length. -/
def rowZ (n : Int) : Bool := decide (1 ≤ n) && rowLen n.toNat
theorem rowZ_nat (n : Nat) : rowZ n = rowLen n := by
  unfold rowZ rowLen
  simp only [Int.toNat_natCast]
  by_cases h : 1 ≤ n
  · rw [decide_eq_true (by omega : (1 : Int) ≤ (n : Int)), Bool.true_and]
  · rw [decide_eq_false (by omega : ¬ (1 : Int) ≤ (n : Int)), decide_eq_false h]; rfl
theorem isRowLength_any (n : Int) (w : World) : Calls Try.prog 78 #[.int .i64 n] w fun e w' => e = .returned (.bool (rowZ n)) ∧ w = w' := by
  by_cases h1 : 1 ≤ n
  · obtain ⟨m, rfl⟩ : ∃ m : Nat, n = m := ⟨n.toNat, by omega⟩
    rw [rowZ_nat]
    have h0 : ¬ (m : Int) = 0 := by omega
    have h00 : ((m : Int) == 0) = false := by simpa using h0
    obtain ⟨q, hq⟩ : ∃ q, 24 % m = q := ⟨_, rfl⟩
    have hle : q ≤ 24 := by rw [← hq]; exact Nat.mod_le 24 m
    have e : Int.tmod 24 (m : Int) = (q : Int) := by
      rw [Int.tmod_eq_emod_of_nonneg (by decide), ← hq]; simp
    have er : rowLen m = ((q : Int) == 0) := by
      unfold rowLen
      rw [decide_eq_true (by omega : 1 ≤ m), Bool.true_and, hq]
      by_cases h : q = 0
      · subst h; rfl
      · rw [decide_eq_false h]; symm; simpa using h
    rw [er]
    clear er hq
    have e2 : (24 : Int).tmod (m : Int) = (q : Int) := e
    have q1 : IntKind.i64.wrap (q : Int) = (q : Int) := by rw [IntKind.wrap_i64]; omega
    go_enter Try.func78, Try.ntmps78
    go_wp2
    go_ret
    exact ⟨rfl, rfl⟩
  · have e : rowZ n = false := by unfold rowZ; rw [decide_eq_false h1]; rfl
    rw [e]
    go_enter Try.func78, Try.ntmps78
    go_wp2
    go_ret
    exact ⟨rfl, rfl⟩
theorem isRowLength_nat (n : Nat) (w : World) : Calls Try.prog 78 #[.int .i64 (n : Int)] w fun e w' => e = .returned (.bool (rowLen n)) ∧ w = w' := by
  rw [← rowZ_nat]; exact isRowLength_any n w

end Go.Proofs.Ytdbokcbbpegilaa
/- impl: rows told; sums of points asked on the way. -/
namespace Go.Proofs.Ytdbokcbbpegilaa
set_option maxRecDepth 20000
open Go.ChangeShapes Go.WideShapes Go.ChangeAt Go.RowKit
set_option linter.unusedVariables false
set_option linter.unusedSimpArgs false

/-- A list of points, where all are valid. -/
def allO (xs : List V) : Option (List V) := if xs.all okv then some xs else none
theorem allO_no {xs : List V} {k : Nat} {c : V} (hc : xs[k]? = some c) (hk : okv c = false) : allO xs = none := by
  unfold allO
  rw [List.all_eq_false.2 ⟨c, List.mem_of_getElem? hc, by rw [hk]; decide⟩]; rfl
theorem allO_yes {xs : List V} (h : xs.all okv = true) : allO xs = some xs := by unfold allO; rw [h]; rfl
theorem validOf (r : V) (w : World) : Calls Try.prog 121 #[pt r.up] w fun e w' => e = .returned (.bool (okv r)) ∧ Below w.heap.size w w' := valid_any r.up w

/-- A point and true, or 0 and false. -/
def pointO (o : Option V) : Value := .tuple #[pt (o.getD V.zero).up, .bool o.isSome]
theorem pointO_none : pointO none = .tuple #[.agg (vec 8 nul), .bool false] := by unfold pointO; rw [show ((none : Option V).getD V.zero).up = nul from zero_up]; rfl
theorem pointO_some (a : V) : pointO (some a) = .tuple #[.agg (vec 8 a.up), .bool true] := rfl
theorem row_setBelow {w w' : World} {g n : Nat} {T : TypeId} {f : Nat → Int} {B : Nat} (h : RowAt w g n T f) (hg : g < B) (hb : Below B w w') : RowAt w' g n T f := (hb.block g hg).trans h
end Go.Proofs.Ytdbokcbbpegilaa
/- impl: rows of designs. -/
namespace Go.Proofs.Ytdbokcbbpegilaa
set_option maxRecDepth 20000
open Go.ChangeShapes Go.WideShapes Go.ChangeAt Go.RowKit
set_option linter.unusedVariables false
set_option linter.unusedSimpArgs false

theorem pointOf_some (a : V) : pointOf (some a) = .tuple #[.agg (vec 8 a.up), .bool true] := rfl
theorem rdO_no {ws : List Wh} {n : Int} (h : rowZ n = false) : rdO ws n = none := by
  unfold rdO; unfold rowZ at h; rw [h]; rfl
theorem rdO_nat {ws : List Wh} {n : Nat} (h : rowLen n = true) : rdO ws n = coll (fun k => atD ws (((k * (24 / n) : Nat)) : Int)) n := by
  have h' := rowZ_nat n
  rw [h] at h'
  unfold rowZ at h'
  unfold rdO
  rw [if_pos h']; rfl
set_option maxHeartbeats 2000000 in
theorem RowOf_any (v : Value) (n : Int) (ws : List Wh) (w : World) (hv : Reads w v ws) : Calls Try.prog 79 #[v, .int .i64 n] w (ToldL 41 w (rdO ws n)) := by
  have LN := fun w => isRowLength_any n w
  have HV := Lib.hid hv
  clear hv
  cases hl : rowZ n
  · rw [hl] at LN
    rw [rdO_no hl]
    clear hl
    go_enter Try.func79, Try.ntmps79
    go_wp2_with fail
    refine (LN _).mono ?_; rintro e w1 ⟨rfl, rfl⟩
    clear LN
    go_wp2
    go_ret2
    exact ⟨Below.refl _ _, _, rfl, ownL_none _ _ _⟩
  · rw [hl] at LN
    have h1 : 1 ≤ n := by unfold rowZ at hl; simp at hl; exact hl.1
    obtain ⟨m, rfl⟩ : ∃ m : Nat, n = m := ⟨n.toNat, by omega⟩
    rw [rowZ_nat] at hl
    rw [rdO_nat hl]
    have h24 := (rowLen_in hl).2.2
    clear hl
    generalize hres : coll (fun k => atD ws (((k * (24 / m) : Nat)) : Int)) m = res
    have HRES := Lib.hid hres
    obtain ⟨q, hq⟩ : ∃ q, 24 / m = q := ⟨_, rfl⟩
    have hq24 : q ≤ 24 := by rw [← hq]; exact Nat.div_le_self 24 m
    rw [hq] at HRES
    have q4 : (24 : Int).tdiv (m : Int) = (q : Int) := by
      rw [Int.tdiv_eq_ediv_of_nonneg (by decide), ← hq]; simp
    have q5 : IntKind.i64.wrap (q : Int) = (q : Int) := by rw [IntKind.wrap_i64]; omega
    have q6 : ¬ (m : Int) = 0 := by omega
    clear hres hq
    go_enter Try.func79, Try.ntmps79
    go_wp2_with fail
    refine (LN _).mono ?_; rintro e w1 ⟨rfl, rfl⟩
    clear LN
    go_wp2_with (refine makeL (en := encV) tyY rfl rfl m rfl rfl (by omega) (Below.refl _ w) (Nat.le_refl _) ?_; intro w2 ho1 hb1 hB1)
    go_loopw [6, 7, 8, 9, 16] (fun s6 _ _ _ i wr => ∃ (k : Nat) (l : List V), k ≤ m ∧ i = .int .i64 k ∧ coll (fun k => atD ws (((k * q : Nat)) : Int)) k = some l ∧ OwnL encV 8 wr w.heap.size 41 s6 l ∧ Below w.heap.size w wr ∧ w.heap.size ≤ wr.heap.size) (fun _ _ _ _ i _ => m - (intOf i).toNat)
    case atStart => exact ⟨0, [], Nat.zero_le _, rfl, rfl, ho1, hb1, hB1⟩
    case round =>
      clear ho1 hb1 hB1
      obtain ⟨k, l, hk, rfl, hl, hO, hbel, hB⟩ := hrel
      have HL := Lib.hid hl
      have HO := Lib.hid hO
      have HB := Lib.hid hbel
      have HZ := Lib.hid hB
      have hlk := coll_len hl
      clear hl hO hbel hB
      by_cases hlt : k < m
      · have hkz : (k : Int) < (m : Int) := by omega
        have hk0 : (0 : Int) ≤ (k : Int) := by omega
        have hkq : k * q ≤ 24 * 24 := Nat.mul_le_mul (by omega) hq24
        have q7 : (k : Int) * (q : Int) = ((k * q : Nat) : Int) := by simp
        have q8 : IntKind.i64.wrap ((k : Int) * (q : Int)) = ((k * q : Nat) : Int) := by rw [q7, IntKind.wrap_i64]; omega
        have D := DesignAt_any v ws ((k * q : Nat) : Int) wr (HV.out.below (HB.out.mono (Nat.le_refl _)))
        have HSTEP := Lib.hid (coll_step HL.out)
        have HNO : Aside (atD ws ((k * q : Nat) : Int) = none → res = none) := (show _ → _ from fun h => by rw [← HRES.out]; exact coll_none (f := fun k => atD ws (((k * q : Nat)) : Int)) h hlt)
        clear q7 hkq
        generalize ((k * q : Nat) : Int) = kq at *
        cases hs : atD ws kq
        · rw [hs, pointOf_none] at D
          have HF : Aside (res = none) := (show res = none from HNO.out hs)
          have D := Lib.hid D
          clear hs HSTEP HNO
          go_wp2_with fail
          refine D.out.mono ?_; rintro e w3 ⟨rfl, hb3⟩
          have hb4 := HB.out.trans (hb3.mono HZ.out)
          have HB4 := Lib.hid (hb4.alloc (by have := hb4.size; omega) (.cells (vec 8 nul) 41))
          clear D hb3 hb4
          go_wp2_with (refine store_new (ty := 41) rfl rfl rfl rfl zero8 info_cyc ?_)
          go_ret2
          rw [HF.out]
          exact ⟨HB4.out, _, rfl, ownL_none _ _ _⟩
        · rename_i a
          rw [hs, pointOf_some] at D
          rw [hs] at HSTEP
          have D := Lib.hid D
          have HC2 : Aside (coll (fun k => atD ws (((k * q : Nat)) : Int)) (k + 1) = some (l ++ [a])) := (show _ = _ from by rw [HSTEP.out]; rfl)
          clear hs HSTEP HNO
          go_wp2_with fail
          refine D.out.mono ?_; rintro e w3 ⟨rfl, hb3⟩
          have HO3 := Lib.hid (World.ownsRow.alloc (rows_below HO.out hb3) (.cells (vec 8 a.up) 41))
          have hb4 := HB.out.trans (hb3.mono HZ.out)
          have hz4 : w.heap.size ≤ w3.heap.size := hb4.size
          have HB4 := Lib.hid (hb4.alloc hz4 (.cells (vec 8 a.up) 41))
          have HX4 := Lib.hid (RowAt.new w3 8 41 a.up)
          have hz5 : w.heap.size ≤ (w3.alloc (.cells (vec 8 a.up) 41)).heap.size := by simp; omega
          clear D hb3 hb4 HO HB HZ
          go_upto_region 8 with (refine store_new (ty := 41) (f' := a.up) rfl rfl rfl rfl zero8 info_cyc ?_)
          show Code.wp _ _ _ _ (w3.alloc (.cells (vec 8 a.up) 41))
          generalize w3.alloc (.cells (vec 8 a.up) 41) = W3 at *
          generalize w3.heap.size = g3 at *
          go_wp2_with (first | (refine load_row (ty := 41) (g := g3) rfl rfl rfl HX4.out Try.underlying41 rfl info_cyc ?_; clear HX4) | (refine one8 tyY rfl rfl rfl ?_) |
            (refine appendL tyY encV_ok rfl rfl rfl rfl (xs := l) (World.ownsRow.alloc HO3.out _) (lit8 _ _ _) (by simp; omega) (HB4.out.alloc hz5 _) (by simp; omega) ?_; intro v2 w4 ho4 hb4 hB4 hgr4))
          go_roundw
          case rel => exact ⟨k + 1, l ++ [a], by omega, by go_num, HC2.out, ho4, hb4, hB4⟩
          case measure => simp [intOf]; omega
      · obtain rfl : k = m := by omega
        have HF : Aside (res = some l) := (show res = some l from by rw [← HRES.out]; exact HL.out)
        go_wp2
        go_ret2
        rw [HF.out]
        exact ⟨HB.out, _, rfl, HO.out⟩

/-! The wheels of a row. -/
def whs (n : Nat) (xs : List V) (k : Nat) : List Wh := (List.range k).map fun j => ⟨spd n j, at' xs j⟩

end Go.Proofs.Ytdbokcbbpegilaa
