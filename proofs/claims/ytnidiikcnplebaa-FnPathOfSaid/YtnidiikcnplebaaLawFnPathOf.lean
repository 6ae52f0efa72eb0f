/-
  The walk of the law FnPathOf.
-/
import Derived.Test.YtnidiikcnplebaaM31
import Derived.Test.YtnidiikcnplebaaM29
import Derived.Test.YtnidiikcnplebaaM08
namespace Go.Proofs.Ytnidiikcnplebaa
set_option maxRecDepth 20000
open Go.ChangeShapes Go.WideShapes Go.ChangeAt Go.RowKit
set_option linter.unusedVariables false
set_option linter.unusedSimpArgs false

set_option maxHeartbeats 4000000 in
theorem lawFnPathOf_walk (v : Value) (w : World) (h : CodeAt w v) : Calls Try.prog 4 #[v] w (Fine w) := by
  have D := Lib.hid (drawPathOf v w h)
  obtain ⟨pa, pn, pc, rfl, hpn⟩ := code_length h
  clear h
  by_cases hbig : 1048576 < pn
  · have hb : (1048576 : Int) < (pn : Int) := by omega
    go_enter Try.func4, Try.ntmps4
    go_wp2_with fail
    go_ret
    exact fine_same ⟨rfl, rfl⟩
  have hb : ¬ (1048576 : Int) < (pn : Int) := by omega
  go_enter Try.func4, Try.ntmps4
  go_wp2_with fail
  refine D.out.mono ?_; rintro e w1 ⟨v2, xs, rfl, hR, hL⟩
  clear D
  have T1 := PathOf_any v2 xs w1 hR
  have T2 := fun w h => specPathOf_any v2 xs w h
  have hF := pathO_fin xs
  have hS := pathO_short xs
  have HO := Lib.hid (show ∀ L, pathO xs = some L → L = xs.map spV ∧ ∀ a ∈ xs, okc a.up = true from fun L hL => by
    unfold pathO at hL
    split at hL
    · next hh =>
      rw [Bool.and_eq_true] at hh
      cases hL
      exact ⟨rfl, rowO_all hh.1⟩
    · cases hL)
  cases ho : pathO xs with
  | none =>
    rw [ho] at T1 T2 hF hS
    clear ho HO
    go_wp2_with fail
    refine (T1).mono ?_; rintro e w2 ⟨hb, v3, rfl, ho3⟩
    replace hR := hR.below hb
    replace hL := below_next hL hb
    clear hb
    have HR := Lib.hid hR
    have H3 := Lib.hid ho3
    clear hR ho3
    go_wp2_with fail
    refine (T2 _ HR.out).mono ?_; rintro e w3 ⟨hb, v4, rfl, ho4⟩
    replace hL := below_next hL hb
    have H3 := Lib.hid (rows_below H3.out hb)
    have H4 := Lib.hid ho4
    have S := fun w a b => samePoints_yes v3 v4 _ w a b hF (by omega)
    have HFS := Lib.hid S
    clear hb hF hS S ho4 T1 T2
    go_wp2_with fail
    refine (HFS.out _ (ownL_reads H3.out) (ownL_reads H4.out)).mono ?_; rintro e w4 ⟨rfl, hb⟩
    replace hL := below_next hL hb
    have H3 := Lib.hid (rows_below H3.out hb)
    have H4 := Lib.hid (rows_below H4.out hb)
    clear hb
    go_wp2_with fail
    refine (HFS.out _ (ownL_reads H3.out) (ownL_reads H4.out)).mono ?_; rintro e w5 ⟨rfl, hb⟩
    replace hL := below_next hL hb
    clear hb
    go_wp2
    go_ret
    exact ⟨rfl, hL⟩
  | some L =>
    obtain ⟨rfl, hok⟩ := HO.out L ho
    rw [ho] at T1 T2 hF hS
    simp only [Option.getD_some] at hF hS
    have hlm : (xs.map spV).length = xs.length := List.length_map ..
    have HOK := Lib.hid hok
    have HLM := Lib.hid hlm
    have HF := Lib.hid hF
    have HS := Lib.hid hS
    have hx100 : xs.length ≤ 100 := by omega
    clear ho HO hok hlm hS hF
    go_wp2_with fail
    refine (T1).mono ?_; rintro e w2 ⟨hb, v3, rfl, ho3⟩
    replace hL := below_next hL hb
    have HR := Lib.hid (hR.below hb)
    have H3 := Lib.hid (show OwnL encC 1 w2 _ _ v3 (xs.map spV) from ho3)
    clear hR ho3 hb T1
    go_wp2_with fail
    refine (T2 _ HR.out).mono ?_; rintro e w3 ⟨hb, v4, rfl, ho4⟩
    replace hL := below_next hL hb
    have HR := Lib.hid (HR.out.below hb)
    have H3 := Lib.hid (rows_below H3.out hb)
    have H4 := Lib.hid (show OwnL encC 1 w3 _ _ v4 (xs.map spV) from ho4)
    clear hb ho4 T2
    go_wp2_with fail
    refine (samePoints_yes v3 v4 _ _ (ownL_reads (en := encC) (xs := xs.map spV) H3.out) (ownL_reads H4.out) HF.out (by have := HS.out; omega)).mono ?_; rintro e w4 ⟨rfl, hb⟩
    replace hL := below_next hL hb
    have HR := Lib.hid (HR.out.below hb)
    have H3 := Lib.hid (ownL_reads (en := encC) (xs := xs.map spV) (rows_below H3.out hb))
    clear hb H4
    obtain ⟨p, cap, rfl, hc1, hc2, hp0, hp⟩ := HR.out
    obtain ⟨p3, cap3, rfl, hd1, hd2, hq0, hq⟩ := H3.out
    rw [HLM.out] at hd1 ⊢
    simp only [maxLen] at hc2 hd2
    have HP := Lib.hid hp
    have HQ := Lib.hid hq
    clear hp hq
    go_wp2_with fail
    go_loopw [8] (fun i wr => ∃ k : Nat, k ≤ xs.length ∧ i = .int .i64 k ∧ Below w.heap.size w wr ∧ Below w4.heap.size w4 wr) (fun i _ => xs.length - (intOf i).toNat)
    case atStart => exact ⟨0, Nat.zero_le _, rfl, hL, Below.refl _ _⟩
    case round =>
      clear hL
      obtain ⟨k, hk, rfl, hL, hB⟩ := hrel
      by_cases hlt : k < xs.length
      · have hkz : (k : Int) < (xs.length : Int) := by omega
        have hk0 : (0 : Int) ≤ (k : Int) := by omega
        obtain ⟨c, hc⟩ : ∃ c, xs[k]? = some c := ⟨_, List.getElem?_eq_getElem hlt⟩
        obtain ⟨g, o, rfl, hg, hr⟩ := HP.out (by rintro rfl; have := hp0 rfl; omega)
        obtain ⟨g2, o2, rfl, hg2, hr2⟩ := HQ.out (by rintro rfl; have := hq0 rfl; omega)
        have hm : (xs.map spV)[k]? = some (spV c) := by rw [List.getElem?_map, hc]; rfl
        have HE := Lib.hid (cells_part encV_ok (cells_below hr hg hB) hc)
        have HM := Lib.hid (fun (w' : World) (hb : Below wr.heap.size wr w') => pt_cell (cells_below hr2 hg2 (below_next hB hb)) hm)
        have fc := ptF_parts (HF.out _ (List.mem_of_getElem? hm))
        obtain ⟨h1, n1⟩ := wd_fin fc.1
        obtain ⟨h2, n2⟩ := wd_fin fc.2
        have C := fun w => swap_eq (singleAlike_same h1 h2 n1 n2 w)
        have S1 := fun w => SinglePoint_yes c.up (HOK.out c (List.mem_of_getElem? hc)) w
        have HL := Lib.hid hL
        have HB := Lib.hid hB
        have es : cs (spr c.up 8) (spi c.up 8) = cs (spV c).1 (spV c).2 := rfl
        rw [es] at S1
        clear hr hr2 hc hg hg2 hm fc h1 h2 n1 n2 hL hB es
        generalize spV c = z at *
        obtain ⟨x, y⟩ := z
        simp only at C S1 HM
        unfold cs at *
        go_wp2_with (first | (refine load_part (T := 40) (f := c.up) rfl rfl rfl HE.out Try.underlying40 rfl info_cyc ?_))
        refine (S1 _).mono ?_; rintro e w5 ⟨rfl, hb⟩
        have c5 := HM.out w5 hb
        have HL5 := Lib.hid (below_next HL.out hb)
        have HB5 := Lib.hid (below_next HB.out hb)
        clear hb S1 HM HE HL HB
        go_wp2_with fail
        refine (C _).mono ?_; rintro e w6 ⟨rfl, rfl⟩
        clear C c5
        go_wp2_with fail
        go_roundw
        case rel => exact ⟨k + 1, by omega, by go_num, HL5.out, HB5.out⟩
        case measure => simp [intOf]; omega
      · obtain rfl : k = xs.length := by omega
        have HL := Lib.hid hL
        have hq : ((xs.length : Int) == (xs.length : Int)) = true := by simp
        clear hL hB
        go_wp2_with fail
        go_ret
        exact ⟨ret_bool (by simp), HL.out⟩
end Go.Proofs.Ytnidiikcnplebaa
