/-
  impl: what is 0 left out of a list; equal speeds joined.
-/
import Derived.Test.YteicmnoafoekcaaWheelH
namespace Go.Proofs.Yteicmnoafoekcaa
set_option maxRecDepth 20000
open Go.ChangeShapes Go.WideShapes Go.ChangeAt Go.RowKit
set_option linter.unusedVariables false
set_option linter.unusedSimpArgs false

theorem firstZ_facts (ws : List Wh) : (∀ i c, i < firstZ ws → ws[i]? = some c → nz c = true) ∧ (firstZ ws < ws.length → ∃ c, ws[firstZ ws]? = some c ∧ nz c = false) := by
  induction ws with
  | nil => exact ⟨fun i c h => by simp [firstZ] at h, fun h => by simp [firstZ] at h⟩
  | cons c cs ih =>
    unfold firstZ
    by_cases h : nz c = true
    · rw [if_pos h]
      refine ⟨fun i d hi hd => ?_, fun hl => ?_⟩
      · cases i with
        | zero => simp only [List.getElem?_cons_zero, Option.some.injEq] at hd; rw [← hd]; exact h
        | succ i => exact ih.1 i d (by omega) (by simpa using hd)
      · obtain ⟨d, h1, h2⟩ := ih.2 (by simpa using hl)
        exact ⟨d, by simpa using h1, h2⟩
    · rw [if_neg h]
      exact ⟨fun i d hi => by omega, fun _ => ⟨c, by simp, by simpa using h⟩⟩
theorem filter_take_all {ws : List Wh} {k : Nat} (h : ∀ i c, i < k → ws[i]? = some c → nz c = true) : (ws.take k).filter nz = ws.take k := filter_all fun c hc => by
  obtain ⟨i, hi, e⟩ := List.mem_iff_getElem.1 hc
  simp only [List.length_take] at hi
  exact h i c (by omega) (by rw [← e, List.getElem_take]; exact List.getElem?_eq_getElem (by omega))
theorem range_own {w : World} {B T g cap : Nat} {ws : List Wh} {k : Nat} {c : Wh} (h : Own w B T (.slice (some ⟨g, 0, none⟩) ws.length cap) ws) (hc : ws[k]? = some c) : w.rangeAt g (k * 9) (enc c) := by
  obtain ⟨p, cap', e, _, _, _, h5⟩ := own_reads h
  simp only [Value.slice.injEq, true_and] at e
  obtain ⟨rfl, _⟩ := e
  obtain ⟨g', o, e, _, hr⟩ := h5 (by simp)
  simp only [Option.some.injEq, Addr.mk.injEq, and_true] at e
  obtain ⟨rfl, rfl⟩ := e
  have := range_part hr hc
  rwa [Nat.zero_add] at this

section
variable {P : Program} {ops : Array Oper} {rest : List Oper} {o : Oper} {a : Act} {Q : Exit → Act → World → Prop} {w : World}
theorem store_wheel {ty : TypeId} {g p : Nat} {c : Wh} (hgd : o.guard = none) {x y : Operand} (ho : o.op = .store ty x y) (hx : a.eval x = .pointer (some ⟨g, p, none⟩)) (hy : a.eval y = wh c)
    (ht : w.there g p 9) (hi : (P.info? ty).map (·.size) = some 9) (h : wpList P ops Q rest (a.put o.dst undef) (w.setCells g p (enc c))) : wpList P ops Q (o :: rest) a w :=
  wpList_store_mid hgd ty x y ho g p (vec 9 (wf c)) hx hy (by rw [vec_size]; exact ht) (by rw [vec_size]; exact hi) (vec_one 9 _) (show wpList P ops Q rest (a.put o.dst undef) (w.setCells g p (vec 9 (wf c)).toList) from h)
theorem store_part {ty : TypeId} {g p : Nat} {f : Nat → Int} (hgd : o.guard = none) {x y : Operand} (ho : o.op = .store ty x y) (hx : a.eval x = .pointer (some ⟨g, p, none⟩)) (hy : a.eval y = pt f)
    (ht : w.there g p 8) (hi : (P.info? ty).map (·.size) = some 8) (h : wpList P ops Q rest (a.put o.dst undef) (w.setCells g p (lst 8 f))) : wpList P ops Q (o :: rest) a w :=
  wpList_store_mid hgd ty x y ho g p (vec 8 f) hx hy (by rw [vec_size]; exact ht) (by rw [vec_size]; exact hi) (vec_one 8 _) (show wpList P ops Q rest (a.put o.dst undef) (w.setCells g p (vec 8 f).toList) from h)
end
theorem info_circle_full : ∃ i, Try.prog.info? 68 = some i ∧ i.zero = some (.agg (vec 9 nul)) := by
  have h : (Try.prog.info? 68).map (fun i => (i.zero, i.size, i.bytes)) = some (some (.agg (vec 9 nul)), 9, 72) := by kernel_rfl
  obtain ⟨i, hi, e1, _, _⟩ := info_parts h
  exact ⟨i, hi, e1⟩

set_option maxHeartbeats 1000000 in
theorem deleteZ_any (v : Value) (B : Nat) (ws : List Wh) (w : World) (ho : Own w B 68 v ws) (hn : ws.length ≤ 1000000) (hB : B ≤ w.heap.size) :
    Calls Try.prog 96 #[v, noV] w fun e w' => Below B w w' ∧ ∃ v', e = .returned v' ∧ Own w' B 68 v' (ws.filter nz) := by
  have I := Lib.hid (indexZ_any v ws w (own_reads ho))
  obtain ⟨fz, hfz⟩ : ∃ n, n = firstZ ws := ⟨_, rfl⟩
  have hfl : fz ≤ ws.length := by rw [hfz]; exact firstZ_le ws
  by_cases hall : firstZ ws = ws.length
  · have hz : idxZ ws = -1 := by unfold idxZ; rw [if_pos hall]
    rw [hz] at I
    have hfil : ws.filter nz = ws := by
      have := filter_take_all (firstZ_facts ws).1
      rwa [hall, List.take_length] at this
    rw [hfil]
    have HO := Lib.hid ho
    clear ho hz hall hfil hfz
    go_enter Try.func96, Try.ntmps96
    go_wp2_with fail
    refine I.out.mono ?_; rintro e w1 ⟨rfl, hb1⟩
    have HB := Lib.hid hb1
    clear I hb1
    go_wp2
    go_ret
    exact ⟨HB.out.mono hB, _, rfl, own_below HO.out HB.out⟩
  · have hflt : fz < ws.length := by omega
    have hz : idxZ ws = (fz : Int) := by unfold idxZ; rw [if_neg hall, hfz]
    rw [hz] at I
    rcases ho.2 with ⟨_, h0⟩ | ⟨g, cap, cur, rfl, hgB, hgg, hcap1, hcap2, _, _⟩
    · omega
    have hcz : (ws.length : Int) ≤ (cap : Int) := by omega
    simp only [maxLen] at hcap2
    have HF : Aside (fz = firstZ ws) := hfz
    have HO := Lib.hid ho
    have hgl := (Array.getElem?_eq_some_iff.1 hgg).1
    clear ho hz hall hgg hfz
    have eg := enters_isNothing
    go_enter Try.func96, Try.ntmps96
    go_wp2_with fail
    refine I.out.mono ?_; rintro e w1 ⟨rfl, hb1⟩
    have HO1 := Lib.hid (own_below HO.out hb1)
    have HB1 := Lib.hid (hb1.mono hB)
    have hs1 := Nat.le_trans hB hb1.size
    clear I HO hb1
    have n1 : ¬ ((fz : Nat) : Int) = -1 := by omega
    have n1b : (((fz : Nat) : Int) == -1) = false := by simp
    go_wp2_with fail
    go_loopw [5, 6, 7] (fun s5 s6 _ wr => ∃ (m k : Nat) (cs : List Wh), s5 = .int .i64 m ∧ s6 = .int .i64 k ∧ m < k ∧ k ≤ ws.length ∧ cs.length = ws.length ∧ Own wr B 68 (.slice (some ⟨g, 0, none⟩) cs.length cap) cs ∧
      cs.take m = (ws.take k).filter nz ∧ cs.drop k = ws.drop k ∧ Below B w wr ∧ B ≤ wr.heap.size) (fun _ s6 _ _ => ws.length - (intOf s6).toNat)
    case atStart =>
      refine ⟨fz, fz + 1, ws, rfl, by go_num, by omega, by omega, rfl, HO1.out, ?_, rfl, HB1.out, hs1⟩
      have h1 := firstZ_facts ws
      rw [← HF.out] at h1
      obtain ⟨c, hc, hcn⟩ := h1.2 hflt
      rw [take_next hc, List.filter_append, filter_take_all h1.1]
      simp [hcn]
    case round =>
      clear HO1 HB1 n1 n1b hs1
      obtain ⟨m, k, cs, rfl, rfl, hmk, hk, hcl, hO, htk, hdr, hbel, hB2⟩ := hrel
      by_cases hlt : k < ws.length
      · have hkz : (k : Int) < (ws.length : Int) := by omega
        have hk0 : (0 : Int) ≤ (k : Int) := by omega
        have hm0 : (0 : Int) ≤ (m : Int) := by omega
        have hmz : (m : Int) < (ws.length : Int) := by omega
        obtain ⟨c, hc⟩ : ∃ c, ws[k]? = some c := ⟨_, List.getElem?_eq_getElem hlt⟩
        have hcs : cs[k]? = some c := by
          have h1 : (cs.drop k)[0]? = (ws.drop k)[0]? := by rw [hdr]
          simpa [hc] using h1
        have HE := Lib.hid (range_own hO hcs)
        have HO := Lib.hid hO
        have HL := Lib.hid hbel
        have HT := Lib.hid htk
        have HD := Lib.hid hdr
        have HC := Lib.hid hc
        have hz2 := hB2
        clear hO hbel htk hdr hc hB2
        have HW := Lib.hid (RowAt.new wr 9 68 (wf c))
        have C := fun w => isNothing_below c w
        go_wp2_with (first | (refine load_wheel (T := 68) (g := g) rfl rfl rfl HE.out Try.underlying68 rfl info_circle ?_) | (refine store_new (ty := 68) rfl rfl rfl rfl zero9 info_circle ?_) | (refine load_row (ty := 68) (g := wr.heap.size) rfl rfl rfl HW.out Try.underlying68 rfl info_circle ?_))
        refine (C _).mono ?_; rintro e w3 ⟨rfl, hb3⟩
        have hb4 : Below wr.heap.size wr w3 := below_next ((Below.refl _ _).alloc (Nat.le_refl _) _) hb3
        have HO3 := Lib.hid (own_below HO.out hb4)
        have HBW := Lib.hid (HL.out.trans (hb4.mono hz2))
        have hz3 := Nat.le_trans hz2 hb4.size
        have HR3 := Lib.hid (HW.out.below hb3)
        clear C hb3 hb4 HE
        cases hz : nz c
        · go_wp2
          go_roundw
          case rel =>
            refine ⟨m, k + 1, cs, rfl, by go_num, by omega, by omega, hcl, HO3.out, ?_, ?_, HBW.out, hz3⟩
            · rw [take_next HC.out, List.filter_append, HT.out]; simp [hz]
            · have h1 : (cs.drop k).drop 1 = (ws.drop k).drop 1 := by rw [HD.out]
              simpa [List.drop_drop] using h1
          case measure => simp [intOf]; omega
        · obtain ⟨cm, hcm⟩ : ∃ d, cs[m]? = some d := ⟨_, List.getElem?_eq_getElem (by omega)⟩
          have HT3 := Lib.hid (own_there (k := m) (o := 0) (n := 9) HO3.out (by omega) (by omega))
          have HN := Lib.hid (own_wheel c HO3.out hcm)
          have HBN := Lib.hid (below_setCells (G := g) hgB (enc c) (m * 9) w3 HBW.out)
          have HSZ : Aside (B ≤ (w3.setCells g (m * 9) (enc c)).heap.size) := (show B ≤ (w3.setCells g (m * 9) (enc c)).heap.size from Nat.le_trans hB HBN.out.size)
          go_wp2_with (first | (refine load_row (ty := 68) (g := wr.heap.size) rfl rfl rfl HR3.out Try.underlying68 rfl info_circle ?_; clear HR3) | (refine store_wheel (ty := 68) (g := g) (c := c) rfl rfl rfl rfl HT3.out info_circle ?_; clear HT3))
          go_roundw
          case rel =>
            refine ⟨m + 1, k + 1, cs.set m c, by go_num, by go_num, by omega, by omega, by simpa using hcl, ?_, ?_, ?_, HBN.out, HSZ.out⟩
            · show (w3.setCells g (m * 9) (enc c)).ownsRow B 68 9 (.slice (some ⟨g, 0, none⟩) (cs.set m c).length cap) (cs.set m c).length (flat (cs.set m c))
              rw [List.length_set]; exact HN.out
            · rw [take_next HC.out, List.filter_append, ← HT.out]
              have h2 : (cs.set m c)[m]? = some c := List.getElem?_set_self (by omega)
              rw [take_next h2, List.take_set_of_le (Nat.le_refl _)]
              simp [hz]
            · rw [List.drop_set_of_lt (by omega)]
              have h1 : (cs.drop k).drop 1 = (ws.drop k).drop 1 := by rw [HD.out]
              simpa [List.drop_drop] using h1
          case measure => simp [intOf]; omega
      · obtain rfl : k = ws.length := by omega
        obtain ⟨i, hi, hiz⟩ := info_circle_full
        obtain ⟨w2, hrun, hgr, hown⟩ := run_clear_own (P := Try.prog) (m := m) Try.underlying57 hi hiz hO (by omega)
        rw [hcl] at hrun
        have hm0 : (0 : Int) ≤ (m : Int) := by omega
        have hmz : (m : Int) ≤ (ws.length : Int) := by omega
        have hmc : (m : Int) ≤ (cap : Int) := by omega
        have HN := Lib.hid hown
        have HB3 := Lib.hid (below_grown hbel hgr hB2 fun k hk => by simp only [Option.some.injEq] at hk; omega)
        have HT := Lib.hid htk
        clear hO hbel hgr hown htk hdr
        go_wp2
        go_ret
        have hl : (cs.take m).length = m := by rw [List.length_take]; omega
        have ht := HT.out
        rw [List.take_length] at ht
        have ho := HN.out
        rw [ht] at ho hl
        refine ⟨HB3.out, _, rfl, ?_⟩
        rw [← hl]
        exact ho

end Go.Proofs.Yteicmnoafoekcaa
