/-
  Out of the text KRowSay2: what the draws of polygons need.
  Out of the text KRowS: what the draws of polygons need.
  Out of the text KRowH: what the draws of polygons need.
  Out of the text KRowX: what the draws of polygons need.
-/
import Derived.Test.YtdpakhggpgdgbaaGreatM15
import Derived.Test.YtdpakhggpgdgbaaGreatM13
import Derived.Test.YtdpakhggpgdgbaaGreatM03
import Derived.Handy
import Derived.Test.YtdpakhggpgdgbaaGreatM12
import Derived.Laws.CopyRow
import Derived.Lib.AppendZeros
import Derived.Test.YtdpakhggpgdgbaaGreatM02
import Derived.Test.YtdpakhggpgdgbaaGreatM07
import Derived.Test.YtdpakhggpgdgbaaGreatM11
/- Out of the text KRowSay2: what the draws of polygons need. -/
namespace Go.Proofs.YtdpakhggpgdgbaaGreat
set_option maxRecDepth 20000
set_option linter.unusedVariables false
set_option linter.unusedSimpArgs false
def rdO (ws : List Wh) (n : Int) : Option (List V) := if decide (1 ≤ n) && rowLen n.toNat then coll (fun k => atD ws (((k * (24 / n.toNat) : Nat)) : Int)) n.toNat else none
end Go.Proofs.YtdpakhggpgdgbaaGreat
/- Out of the text KRowS: what the draws of polygons need. -/
namespace Go.Proofs.YtdpakhggpgdgbaaGreat
set_option maxRecDepth 20000
open Go.ChangeShapes Go.WideShapes Go.ChangeAt Go.RowKit
set_option linter.unusedVariables false
set_option linter.unusedSimpArgs false
theorem ownL_nilB (w : World) (B : Nat) (T : Nat) (hB : B ≤ w.heap.size) : (w.alloc (.cells #[] T)).ownsRow B T 8 (.slice (some ⟨w.heap.size, 0, none⟩) 0 0) 0 [] := World.ownsRow_made w #[] 0 hB (by simp [maxLen]) (by simp)
end Go.Proofs.YtdpakhggpgdgbaaGreat
/- Out of the text KRowH: what the draws of polygons need. -/
namespace Go.Proofs.YtdpakhggpgdgbaaGreat
set_option maxRecDepth 20000
open Go.ChangeShapes Go.WideShapes Go.ChangeAt Go.RowKit
set_option linter.unusedVariables false
set_option linter.unusedSimpArgs false
theorem pointOf_some (a : V) : pointOf (some a) = .tuple #[.agg (vec 8 a.up), .bool true] := rfl
theorem rdO_no {ws : List Wh} {n : Int} (h : rowZ n = false) : rdO ws n = none := by
  unfold rdO; unfold rowZ at h; rw [h]; rfl
theorem rdO_nat {ws : List Wh} {n : Nat} (h : rowLen n = true) : rdO ws n = coll (fun k => atD ws (((k * (24 / n) : Nat)) : Int)) n := by
  have h' := rowZ_nat n
  rw [h] at h'
  unfold rowZ at h'
  unfold rdO
  rw [if_pos h']; rfl
end Go.Proofs.YtdpakhggpgdgbaaGreat
/- Out of the text KRowX: what the draws of polygons need. -/
namespace Go.Proofs.YtdpakhggpgdgbaaGreat
set_option maxRecDepth 20000
open Go.ChangeShapes Go.WideShapes Go.ChangeAt Go.RowKit
set_option linter.unusedVariables false
set_option linter.unusedSimpArgs false
theorem ownL_nilD (w : World) (B : Nat) (T : Nat) (g : Nat) (hg : w.heap.size = g) (hB : B ≤ w.heap.size) : (w.alloc (.cells #[] T)).ownsRow B T 8 (.slice (some ⟨g, 0, none⟩) 0 0) 0 [] := by subst hg; exact ownL_nilB w B T hB
theorem rdO_bad {ws : List Wh} {n : Nat} (h : rowLen n = true) (hv : valid ws = false) : rdO ws n = none := by
  rw [rdO_nat h]
  refine coll_none (k := 0) ?_ (rowLen_in h).1
  unfold atD
  rw [hv]; rfl
set_option maxHeartbeats 3000000 in
theorem specRowOf_any (v : Value) (n : Int) (ws : List Wh) (w : World) (hv : Reads w v ws) : Calls Tryz.prog 44 #[v, .int .i64 n] w (ToldL 40 w (rdO ws n)) := by
  have hz : Below w.heap.size w (w.alloc (.cells #[] 40)) := (Below.refl _ _).alloc (Nat.le_refl _) _
  have LN := fun w => specLength_any n w
  have DV := specDesignValid_any v ws (w.alloc (.cells #[] 40)) (hv.below hz)
  have HV := Lib.hid hv
  have HO0 := Lib.hid (ownL_nilB w w.heap.size 40 (Nat.le_refl _))
  have HL0 := Lib.hid hz
  clear hz hv
  cases hl : rowZ n
  · rw [hl] at LN
    rw [rdO_no hl]
    clear hl
    go_enter Tryz.func44, Tryz.ntmps44
    go_wp2_with fail
    refine (LN _).mono ?_; rintro e w1 ⟨rfl, rfl⟩
    clear LN
    go_wp2
    go_ret2
    exact ⟨HL0.out, _, rfl, HO0.out⟩
  · rw [hl] at LN
    have h1 : 1 ≤ n := by unfold rowZ at hl; simp at hl; exact hl.1
    obtain ⟨m, rfl⟩ : ∃ m : Nat, n = m := ⟨n.toNat, by omega⟩
    rw [rowZ_nat] at hl
    cases hvd : valid ws
    · rw [rdO_bad hl hvd]
      rw [hvd] at DV
      have DV := Lib.hid DV
      clear hl hvd
      go_enter Tryz.func44, Tryz.ntmps44
      go_wp2_with fail
      refine (LN _).mono ?_; rintro e w1 ⟨rfl, rfl⟩
      clear LN
      go_wp2_with fail
      refine DV.out.mono ?_; rintro e w2 ⟨rfl, hb2⟩
      have HL1 := Lib.hid (below_next HL0.out hb2)
      have HO1 := Lib.hid (rows_below HO0.out hb2)
      clear DV hb2 HL0 HO0
      go_wp2
      go_ret2
      exact ⟨HL1.out, _, rfl, HO1.out⟩
    · rw [hvd] at DV
      have DV := Lib.hid DV
      rw [rdO_nat hl]
      have h24 := (rowLen_in hl).2.2
      clear hl hvd
      generalize hres : coll (fun k => atD ws (((k * (24 / m) : Nat)) : Int)) m = res
      have HRES := Lib.hid hres
      obtain ⟨q, hq⟩ : ∃ q, 24 / m = q := ⟨_, rfl⟩
      have hq24 : q ≤ 24 := by rw [← hq]; exact Nat.div_le_self 24 m
      rw [hq] at HRES
      have q4 : (24 : Int).tdiv (m : Int) = (q : Int) := by
        rw [Int.tdiv_eq_ediv_of_nonneg (by decide), ← hq]; simp
      have q5 : IntKind.i64.wrap (q : Int) = (q : Int) := by rw [IntKind.wrap_i64]; omega
      have q6 : ¬ (m : Int) = 0 := by omega
      clear hres hq
      go_enter Tryz.func44, Tryz.ntmps44
      go_wp2_with fail
      refine (LN _).mono ?_; rintro e w1 ⟨rfl, rfl⟩
      clear LN
      go_wp2_with fail
      refine DV.out.mono ?_; rintro e w2 ⟨rfl, hb2⟩
      have HL1 := Lib.hid (below_next HL0.out hb2)
      have HO1 := Lib.hid (rows_below HO0.out hb2)
      clear DV hb2 HL0 HO0
      go_wp2
      generalize hb : w.heap.size = b at *
      go_loopw [6, 7, 8, 9] (fun s6 i _ _ wr => ∃ (k : Nat) (l : List V), k ≤ m ∧ i = .int .i64 k ∧ coll (fun k => atD ws (((k * q : Nat)) : Int)) k = some l ∧ OwnL encV 8 wr b 40 s6 l ∧ Below b w wr) (fun _ i _ _ _ => m - (intOf i).toNat)
      case atStart => exact ⟨0, [], Nat.zero_le _, rfl, rfl, HO1.out, HL1.out⟩
      case round =>
        clear HO1 HL1
        obtain ⟨k, l, hk, rfl, hl, hO, hbel⟩ := hrel
        have HL := Lib.hid hl
        have HO := Lib.hid hO
        have HB := Lib.hid hbel
        have hZ : b ≤ wr.heap.size := by have := hbel.size; omega
        have hlk := coll_len hl
        clear hl hO hbel
        by_cases hlt : k < m
        · have hkz : (k : Int) < (m : Int) := by omega
          have hk0 : (0 : Int) ≤ (k : Int) := by omega
          have hkq : k * q ≤ 24 * 24 := Nat.mul_le_mul (by omega) hq24
          have q7 : (k : Int) * (q : Int) = ((k * q : Nat) : Int) := by simp
          have q8 : IntKind.i64.wrap ((k : Int) * (q : Int)) = ((k * q : Nat) : Int) := by rw [q7, IntKind.wrap_i64]; omega
          have D := specDesignAt_any v ws ((k * q : Nat) : Int) wr (HV.out.below (HB.out.mono (by omega)))
          have HSTEP := Lib.hid (coll_step HL.out)
          have HNO : Aside (atD ws ((k * q : Nat) : Int) = none → res = none) := (show _ → _ from fun h => by rw [← HRES.out]; exact coll_none (f := fun k => atD ws (((k * q : Nat)) : Int)) h hlt)
          clear q7 hkq
          generalize ((k * q : Nat) : Int) = kq at *
          cases hs : atD ws kq
          · rw [hs, pointOf_none] at D
            have HF : Aside (res = none) := (show res = none from HNO.out hs)
            have D := Lib.hid D
            clear hs HSTEP HNO
            go_wp2_with fail
            refine D.out.mono ?_; rintro e w3 ⟨rfl, hb3⟩
            have hb4 := HB.out.trans (hb3.mono hZ)
            have HB4 := Lib.hid (hb4.alloc (by have := hb4.size; omega) (.cells (vec 8 nul) 40))
            clear D hb3 hb4
            go_wp2_with (refine store_new (ty := 40) rfl rfl rfl rfl zero8 info_cyc ?_)
            go_ret2
            rw [HF.out]
            exact ⟨by rw [hb]; exact HB4.out.alloc (by have := HB4.out.size; omega) _, _, rfl, by rw [hb]; exact ownL_nilD _ _ _ _ (by simp) (by have := HB4.out.size; omega)⟩
          · rename_i a
            rw [hs, pointOf_some] at D
            rw [hs] at HSTEP
            have D := Lib.hid D
            have HC2 : Aside (coll (fun k => atD ws (((k * q : Nat)) : Int)) (k + 1) = some (l ++ [a])) := (show _ = _ from by rw [HSTEP.out]; rfl)
            clear hs HSTEP HNO
            go_wp2_with fail
            refine D.out.mono ?_; rintro e w3 ⟨rfl, hb3⟩
            have HO3 := Lib.hid (World.ownsRow.alloc (rows_below HO.out hb3) (.cells (vec 8 a.up) 40))
            have hb4 := HB.out.trans (hb3.mono hZ)
            have hz4 : b ≤ w3.heap.size := by have := hb4.size; omega
            have HB4 := Lib.hid (hb4.alloc hz4 (.cells (vec 8 a.up) 40))
            have HX4 := Lib.hid (RowAt.new w3 8 40 a.up)
            have hz5 : b ≤ (w3.alloc (.cells (vec 8 a.up) 40)).heap.size := by simp; omega
            clear D hb3 hb4 HO HB
            go_upto_region 8 with (refine store_new (ty := 40) (f' := a.up) rfl rfl rfl rfl zero8 info_cyc ?_)
            show Code.wp _ _ _ _ (w3.alloc (.cells (vec 8 a.up) 40))
            generalize w3.alloc (.cells (vec 8 a.up) 40) = W3 at *
            generalize w3.heap.size = g3 at *
            go_wp2_with (first | (refine load_row (ty := 40) (g := g3) rfl rfl rfl HX4.out Tryz.underlying40 rfl info_cyc ?_; clear HX4) | (refine one8 tyY rfl rfl rfl ?_) |
              (refine appendL tyY encV_ok rfl rfl rfl rfl (xs := l) (World.ownsRow.alloc HO3.out _) (lit8 _ _ _) (by simp; omega) (HB4.out.alloc hz5 _) (by simp; omega) ?_; intro v2 w4 ho4 hb4 hB4 hgr4))
            go_roundw
            case rel => exact ⟨k + 1, l ++ [a], by omega, by go_num, HC2.out, ho4, hb4⟩
            case measure => simp [intOf]; omega
        · obtain rfl : k = m := by omega
          have HF : Aside (res = some l) := (show res = some l from by rw [← HRES.out]; exact HL.out)
          go_wp2
          go_ret2
          rw [HF.out]
          exact ⟨by rw [hb]; exact HB.out, _, rfl, by rw [hb]; exact HO.out⟩

end Go.Proofs.YtdpakhggpgdgbaaGreat
