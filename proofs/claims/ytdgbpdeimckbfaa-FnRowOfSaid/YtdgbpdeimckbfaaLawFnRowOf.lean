/-
  The walk of the law FnRowOf.
-/
import Derived.Test.YtdgbpdeimckbfaaLawRowLoop
import Derived.Test.YtdgbpdeimckbfaaLawWheelBase
import Derived.Test.YtdgbpdeimckbfaaRowLater
import Derived.Test.YtdgbpdeimckbfaaM31
import Derived.Test.YtdgbpdeimckbfaaM32
import Derived.Test.YtdgbpdeimckbfaaM34
namespace Go.Proofs.Ytdgbpdeimckbfaa
set_option maxRecDepth 20000
open Go.ChangeShapes Go.WideShapes Go.ChangeAt Go.RowKit
set_option linter.unusedVariables false
set_option linter.unusedSimpArgs false

set_option maxHeartbeats 8000000 in
theorem lawFnRowOf_walk (v : Value) (w : World) (h : CodeAt w v) : Calls Try.prog 4 #[v] w (Fine w) := by
  have D := Lib.hid (drawRowOf v w h)
  obtain ⟨pa, pn, pc, rfl, hpn⟩ := code_length h
  clear h
  by_cases hbig : 1048576 < pn
  · have hb : (1048576 : Int) < (pn : Int) := by omega
    go_enter Try.func4, Try.ntmps4
    go_wp2_with fail
    go_ret
    exact fine_same ⟨rfl, rfl⟩
  have hb : ¬ (1048576 : Int) < (pn : Int) := by omega
  go_enter Try.func4, Try.ntmps4
  go_wp2_with fail
  refine D.out.mono ?_; rintro e w1 ⟨v2, ws, n, rfl, hn0, hn1, hR, hL⟩
  clear D hb
  have T1 := RowOf_any _ n ws w1 hR
  have T2 := fun w (h : Reads w v2 ws) => specRowOf_any _ n ws w h
  cases hx : rdO ws n with
  | none =>
    rw [hx] at T1 T2
    go_wp2_with fail
    refine (T1).mono ?_; rintro e w2 ⟨hb, vO, rfl, ho⟩
    replace hR := hR.below hb
    replace hL := below_next hL hb
    have hO : ReadsL encV w2 vO ([]) := ownL_reads ho
    clear hb ho
    go_wp2_with fail
    refine (T2 _ hR).mono ?_; rintro e w3 ⟨hb, vW, rfl, ho⟩
    replace hR := hR.below hb
    replace hO := hO.below hb
    replace hL := below_next hL hb
    have hW : ReadsL encV w3 vW ([]) := ownL_reads ho
    clear hb ho
    clear T1 T2
    go_wp2_with fail
    refine (sameC_self vO vW _ _ hO hW).mono ?_; rintro e w4 ⟨rfl, hb⟩
    replace hR := hR.below hb
    replace hO := hO.below hb
    replace hW := hW.below hb
    replace hL := below_next hL hb
    clear hb
    go_wp2_with fail
    refine (sameC_self vO vW _ _ hO hW).mono ?_; rintro e w5 ⟨rfl, hb⟩
    replace hR := hR.below hb
    replace hO := hO.below hb
    replace hW := hW.below hb
    replace hL := below_next hL hb
    clear hb
    go_wp2
    go_ret
    exact ⟨rfl, hL⟩
  | some R =>
    rw [hx] at T1 T2
    go_wp2_with fail
    refine (T1).mono ?_; rintro e w2 ⟨hb, vO, rfl, ho⟩
    replace hR := hR.below hb
    replace hL := below_next hL hb
    have hO : ReadsL encV w2 vO (R) := ownL_reads ho
    clear hb ho
    go_wp2_with fail
    refine (T2 _ hR).mono ?_; rintro e w3 ⟨hb, vW, rfl, ho⟩
    replace hR := hR.below hb
    replace hO := hO.below hb
    replace hL := below_next hL hb
    have hW : ReadsL encV w3 vW (R) := ownL_reads ho
    clear hb ho
    clear T1 T2
    go_wp2_with fail
    refine (sameC_self vO vW _ _ hO hW).mono ?_; rintro e w4 ⟨rfl, hb⟩
    replace hR := hR.below hb
    replace hO := hO.below hb
    replace hW := hW.below hb
    replace hL := below_next hL hb
    clear hb
    clear hW
    obtain ⟨m, rfl, hm, hlR, -, -, hat⟩ := rdO_some hx
    obtain ⟨h1, -, h24⟩ := rowLen_in hm
    obtain ⟨po, co, ev⟩ := readsL_form hO
    have hle : ((R.length : Int) == (m : Int)) = true := by rw [hlR]; simp
    have HX := Lib.hid hx
    have HAT : Aside (∀ k, k < m → atD ws ((k * (24 / m) : Nat) : Int) = some (at' R k)) := (show ∀ k, _ → _ from fun k hk => (hat k hk).1)
    have HLR := Lib.hid hlR
    obtain ⟨d, hd⟩ : ∃ z : Nat, z = 24 / m := ⟨_, rfl⟩
    have HD := Lib.hid hd
    have hdb : d ≤ 24 := by rw [hd]; exact Nat.div_le_self _ _
    have p3 : ¬ (m : Int) = 0 := by omega
    have p4 : (24 : Int).tdiv (m : Int) = (d : Int) := by rw [Int.tdiv_eq_ediv_of_nonneg (by decide), hd]; simp
    have p4w : IntKind.i64.wrap (d : Int) = (d : Int) := by rw [IntKind.wrap_i64]; omega
    have HR := Lib.hid hR
    have HO := Lib.hid hO
    have HLL := Lib.hid hL
    obtain ⟨pO, cO, eO, hO1, hO2, hO3, hO4⟩ := hO
    obtain ⟨gO, oO, rfl, hgO, hrO⟩ := hO4 (by rintro rfl; have := hO3 rfl; have := HLR.out; omega)
    subst eO
    have HRO := Lib.hid hrO
    simp only [maxLen] at hO2
    clear hx hat hlR hd hO3 hO4 hrO hR hL hn0 hn1 hm ev po co
    go_wp2_with fail
    go_loopw [9] (fun i wr => ∃ k : Nat, k ≤ m ∧ i = .int .i64 k ∧ Below w4.heap.size w4 wr) (fun i _ => m - (intOf i).toNat)
    case atStart => exact ⟨0, Nat.zero_le _, rfl, Below.refl _ _⟩
    case round =>
      obtain ⟨k, hk, rfl, hbel⟩ := hrel
      have HB := Lib.hid hbel
      clear hbel
      by_cases hlt : k < m
      · have hkz : (k : Int) < (m : Int) := by omega
        have hk0 : (0 : Int) ≤ (k : Int) := by omega
        have hkR : (k : Int) < (R.length : Int) := by have := HLR.out; omega
        have HE := Lib.hid (cells_part encV_ok (cells_below HRO.out hgO HB.out) (at_get (by have := HLR.out; omega : k < R.length)))
        have hzO : gO < wr.heap.size := by have := HB.out.size; omega
        obtain ⟨t, ht⟩ : ∃ z : Nat, z = k * d := ⟨_, rfl⟩
        have htb : t ≤ 24 * 24 := by rw [ht]; exact Nat.mul_le_mul (by omega) hdb
        have p5 : (k : Int) * (d : Int) = (t : Int) := by rw [ht]; simp
        have p5w : IntKind.i64.wrap (t : Int) = (t : Int) := by rw [IntKind.wrap_i64]; omega
        have eA : atD ws (t : Int) = some (at' R k) := by rw [ht, HD.out]; exact HAT.out k hlt
        have DA := DesignAt_any v2 ws (t : Int) wr (HR.out.below HB.out)
        rw [eA, pointOf_some] at DA
        have DA := Lib.hid DA
        clear eA ht htb
        generalize at' R k = a at *
        have EQ := equal_cyc a.up a.up
        rw [eqv_true (n := 8) (f := a.up) (g := a.up) fun _ _ => rfl] at EQ
        go_wp2_with fail
        refine DA.out.mono ?_; rintro e w5 ⟨rfl, hb5⟩
        have HB5 := Lib.hid (HB.out.trans (hb5.mono HB.out.size))
        have HE5 := Lib.hid (range_kept HE.out hzO hb5)
        have hzO5 : gO < w5.heap.size := by have := hb5.size; omega
        clear hb5 DA HE hzO
        go_upto_region 12 with (refine store_new (ty := 36) (f' := a.up) rfl rfl rfl rfl zero8 info_cyc ?_)
        show Code.wp _ _ _ _ (w5.alloc (.cells (vec 8 a.up) 36))
        have HG := Lib.hid (RowAt.new w5 8 36 a.up)
        have HB6 := Lib.hid (HB5.out.alloc HB5.out.size (.cells (vec 8 a.up) 36))
        have HE6 := Lib.hid (range_kept HE5.out hzO5 ((Below.refl w5.heap.size w5).alloc (Nat.le_refl _) (.cells (vec 8 a.up) 36)))
        clear HB5 HE5 hzO5
        generalize w5.heap.size = g9 at *
        generalize w5.alloc (.cells (vec 8 a.up) 36) = W6 at *
        refine wp_region_held_drew (S := fun w' => w' = W6.drew) (by kernel_rfl) rfl (fun hHeld => ?_)
        refine wpAnyH_take (i := 0) (oi := _) (v := .bool true) rfl (by kernel_rfl) (by kernel_rfl) (by kernel_rfl) (fun _ _ _ h => h) (Or.inl ⟨by rfl, fun w h => by go_simp⟩) hHeld ?_
        try simp only [Act.put, List.setIfInBounds_toArray, List.set_cons_zero, List.set_cons_succ, List.getElem_toArray, List.getElem_cons_succ, List.getElem_cons_zero]
        refine wpAnyH_take (i := 1) (oi := _) (v := .bool false) rfl (by kernel_rfl) (by kernel_rfl) (by kernel_rfl) (fun _ _ _ h => h) (Or.inl ⟨by rfl, fun w h => by go_simp⟩) hHeld ?_
        try simp only [Act.put, List.setIfInBounds_toArray, List.set_cons_zero, List.set_cons_succ, List.getElem_toArray, List.getElem_cons_succ, List.getElem_cons_zero]
        refine wpAnyH_take (i := 2) (oi := _) (v := .bool false) rfl (by kernel_rfl) (by kernel_rfl) (by kernel_rfl) (fun _ _ _ h => h) (Or.inl ⟨by rfl, fun w h => by go_simp⟩) hHeld ?_
        try simp only [Act.put, List.setIfInBounds_toArray, List.set_cons_zero, List.set_cons_succ, List.getElem_toArray, List.getElem_cons_succ, List.getElem_cons_zero]
        refine wpAnyH_take (i := 3) (oi := _) (v := .agg (vec 8 a.up)) rfl (by kernel_rfl) (by kernel_rfl) (by kernel_rfl) (fun _ _ _ h => h) (yieldsIf_load_mid (by rfl) _ _ rfl _ _ rfl _ _ ((fun w h => by rw [h]; exact HG.out.drew1.range)) Try.underlying36 rfl (size_cycL a)) hHeld ?_
        try simp only [Act.put, List.setIfInBounds_toArray, List.set_cons_zero, List.set_cons_succ, List.getElem_toArray, List.getElem_cons_succ, List.getElem_cons_zero]
        refine wpAnyH_take (i := 4) (oi := _) (v := .slice (some ⟨gO, oO, none⟩) R.length cO) rfl (by kernel_rfl) (by kernel_rfl) (by kernel_rfl) (fun _ _ _ h => h) (Or.inl ⟨by rfl, fun w h => by go_simp⟩) hHeld ?_
        try simp only [Act.put, List.setIfInBounds_toArray, List.set_cons_zero, List.set_cons_succ, List.getElem_toArray, List.getElem_cons_succ, List.getElem_cons_zero]
        refine wpAnyH_take (i := 5) (oi := _) (v := .int .i64 k) rfl (by kernel_rfl) (by kernel_rfl) (by kernel_rfl) (fun _ _ _ h => h) (Or.inl ⟨by rfl, fun w h => by go_simp⟩) hHeld ?_
        try simp only [Act.put, List.setIfInBounds_toArray, List.set_cons_zero, List.set_cons_succ, List.getElem_toArray, List.getElem_cons_succ, List.getElem_cons_zero]
        refine wpAnyH_take (i := 6) (oi := _) (v := .pointer (some ⟨gO, oO + k * 8, none⟩)) rfl (by kernel_rfl) (by kernel_rfl) (by kernel_rfl) (fun _ _ _ h => h) (Or.inl ⟨by rfl, fun w h => by go_simp⟩) hHeld ?_
        try simp only [Act.put, List.setIfInBounds_toArray, List.set_cons_zero, List.set_cons_succ, List.getElem_toArray, List.getElem_cons_succ, List.getElem_cons_zero]
        refine wpAnyH_take (i := 7) (oi := _) (v := .agg (vec 8 a.up)) rfl (by kernel_rfl) (by kernel_rfl) (by kernel_rfl) (fun _ _ _ h => h) (yieldsIf_load_mid (by rfl) _ _ rfl _ _ rfl _ _ ((fun w h => by rw [h]; exact HE6.out)) Try.underlying36 rfl (size_cycL a)) hHeld ?_
        try simp only [Act.put, List.setIfInBounds_toArray, List.set_cons_zero, List.set_cons_succ, List.getElem_toArray, List.getElem_cons_succ, List.getElem_cons_zero]
        refine wpAnyH_take (i := 8) (oi := _) (v := .bool (!true)) rfl (by kernel_rfl) (by kernel_rfl) (by kernel_rfl) (fun _ _ _ h => h) (Or.inl ⟨by rfl, fun w h => by go_simp⟩) hHeld ?_
        try simp only [Act.put, List.setIfInBounds_toArray, List.set_cons_zero, List.set_cons_succ, List.getElem_toArray, List.getElem_cons_succ, List.getElem_cons_zero]
        refine wpAnyH_take (i := 9) (oi := _) (v := .bool false) rfl (by kernel_rfl) (by kernel_rfl) (by kernel_rfl) (fun _ _ _ h => h) (Or.inl ⟨by rfl, fun w h => by go_simp⟩) hHeld ?_
        try simp only [Act.put, List.setIfInBounds_toArray, List.set_cons_zero, List.set_cons_succ, List.getElem_toArray, List.getElem_cons_succ, List.getElem_cons_zero]
        clear hHeld
        refine wpAnyH_done (by kernel_rfl) ?_ _
        go_wp2
        go_roundw
        case rel => exact ⟨k + 1, by omega, by go_num, HB6.out.drew⟩
        case measure => simp [intOf]; omega
      · obtain rfl : k = m := by omega
        obtain ⟨u, hu⟩ : ∃ z : Nat, z = d % 24 := ⟨_, rfl⟩
        have hu23 : u ≤ 23 := by omega
        have p6 : (d : Int).tmod 24 = (u : Int) := by rw [Int.tmod_eq_emod_of_nonneg (by omega), hu]; simp
        have hui : (u : Int) = 24 / (k : Int) % 24 := by rw [hu, HD.out]; simp
        have hR := HR.out.below HB.out
        have hO := HO.out.below HB.out
        have hL := HLL.out.trans (HB.out.mono HLL.out.size)
        have HUI := Lib.hid hui
        have HU := Lib.hid hu
        clear hu hui HR HO HLL HB HRO HAT hgO
        have T1 := DesignLater_yes v2 u hu23 ws wr hR
        generalize hl1 : dOf (laterW u) ws = o1 at T1
        go_wp2_with fail
        refine (T1).mono ?_; rintro e w8 ⟨hb, vLt, rfl, ho⟩
        replace hO := hO.below hb
        replace hL := below_next hL hb
        have hLt : Reads w8 vLt (got o1) := own_reads ho
        clear hb ho T1 hR p6
        have T2 := RowOf_any vLt (k : Int) (got o1) w8 hLt
        generalize hl2 : rdO (got o1) (k : Int) = o2 at T2
        go_wp2_with fail
        refine (T2).mono ?_; rintro e w9 ⟨hb, vX, rfl, ho⟩
        replace hO := hO.below hb
        replace hL := below_next hL hb
        have hX : ReadsL encV w9 vX (gotL o2) := ownL_reads ho
        clear hb ho T2 hLt
        have T3 := RowShift_any _ 1 R w9 hO
        generalize hl3 : shO 1 R = o3 at T3
        go_wp2_with fail
        refine (T3).mono ?_; rintro e w10 ⟨hb, vY, rfl, ho⟩
        replace hX := hX.below hb
        replace hL := below_next hL hb
        have hY : ReadsL encV w10 vY (gotL o3) := ownL_reads ho
        clear hb ho T3 hO
        cases o1 with
        | none => go_wp2; go_ret; exact ⟨rfl, hL⟩
        | some L =>
          cases o2 with
          | none => go_wp2; go_ret; exact ⟨rfl, hL⟩
          | some X =>
            cases o3 with
            | none => go_wp2; go_ret; exact ⟨rfl, hL⟩
            | some Y =>
              obtain rfl : X = Y := say_later (fun t => (dOf_some hl1).2.2.2 t) HUI.out HX.out hl2 hl3
              clear hl1 hl2 hl3
              go_wp2_with fail
              refine (sameC_self vX vY X _ hX hY).mono ?_; rintro e w11 ⟨rfl, hb⟩
              replace hL := below_next hL hb
              clear hb
              go_wp2
              go_ret
              exact ⟨rfl, hL⟩

end Go.Proofs.Ytdgbpdeimckbfaa
