/-
  The model's rows: squares, rows of designs, designs of rows.
  What the walks of the exact laws of rows share.
-/
import Derived.Test.YtdgbpdeimckbfaaM18
import Derived.Test.YtdgbpdeimckbfaaM29
import Derived.Test.YtdgbpdeimckbfaaM31
import Derived.Test.YtdgbpdeimckbfaaM33
import Derived.Test.YtdgbpdeimckbfaaM11
import Derived.Test.YtdgbpdeimckbfaaM13
import Derived.Test.YtdgbpdeimckbfaaM14
import Derived.Test.YtdgbpdeimckbfaaM17
import Derived.Test.YtdgbpdeimckbfaaM22
/- The model's rows: squares, rows of designs, designs of rows. -/
namespace Go.Proofs.Ytdgbpdeimckbfaa
set_option maxRecDepth 20000
open Go.ChangeShapes Go.WideShapes Go.ChangeAt Go.RowKit
set_option linter.unusedVariables false
set_option linter.unusedSimpArgs false

theorem ans_form (v : Bool) (c : Nat → Int) : ∃ d q, ans v c = .tuple #[.agg (vec 8 d), .bool q] ∧ (q = true → okc d = true ∧ d = c) := by
  cases h : (v && okc c)
  · exact ⟨nul, false, by unfold ans; rw [h]; rfl, fun h => by cases h⟩
  · exact ⟨c, true, by unfold ans; rw [h]; rfl, fun _ => ⟨by rw [Bool.and_eq_true] at h; exact h.2, rfl⟩⟩
theorem specNormV (a : V) (ha : okv a = true) (w : World) : Calls Try.prog 106 #[pt a.up] w fun e w' => e = .returned (normO a) ∧ Below w.heap.size w w' := by
  cases hm : okv (mV a)
  · have M : ∀ w, Calls Try.prog 140 #[.agg (vec 8 a.up)] w fun e w' => e = .returned (.tuple #[.agg (vec 8 nul), .bool false]) ∧ Below w.heap.size w w' := fun w => by
      have h := specCycMirror_yes a.up ha w
      have e : okc (mir a.up) = false := by rw [← okv_dn]; exact hm
      rw [ans_bad e] at h; exact h
    obtain ⟨d, q, hd, hq⟩ := ans_form (okc a.up && okc nul) (prd a.up nul)
    have T : ∀ w, Calls Try.prog 103 #[.agg (vec 8 a.up), .agg (vec 8 nul)] w fun e w' => e = .returned (.tuple #[.agg (vec 8 d), .bool q]) ∧ Below w.heap.size w w' := fun w => by
      have h := specProd_any a.up nul w
      rw [hd] at h; exact h
    obtain ⟨c', v', hS, -⟩ := specDone_some (rea d)
    have N := norm_spec a.up nul d c' false q v' M T (fun h => ⟨fun w => specRe_part d (okc_inR (hq h).1) w, fun w => hS w⟩) w
    have hn : nOk a = false := by unfold nOk; rw [hm]; rfl
    rw [normO_no hn]
    simpa using N
  · have hmm : pt (mir a.up) = pt (mV a).up := pt_same fun j hj => (up_dn _ j hj).symm
    have M : ∀ w, Calls Try.prog 140 #[.agg (vec 8 a.up)] w fun e w' => e = .returned (.tuple #[.agg (vec 8 (mV a).up), .bool true]) ∧ Below w.heap.size w w' := fun w => by
      have h := specCycMirror_yes a.up ha w
      have e : okc (mir a.up) = true := by rw [← okv_dn]; exact hm
      rw [ans_yes e, hmm] at h; exact h
    have T : ∀ w, Calls Try.prog 103 #[.agg (vec 8 a.up), .agg (vec 8 (mV a).up)] w fun e w' => e = .returned (.tuple #[.agg (vec 8 (if okv (prV a (mV a)) then prV a (mV a) else V.zero).up), .bool (okv (prV a (mV a)))]) ∧ Below w.heap.size w w' := fun w => specProdV a (mV a) ha hm w
    cases hp : okv (prV a (mV a))
    · rw [hp] at T
      obtain ⟨c', v', hS, -⟩ := specDone_some (rea (if false = true then prV a (mV a) else V.zero).up)
      have N := norm_spec a.up (mV a).up _ c' true false v' M T (fun h => by cases h) w
      have hn : nOk a = false := by unfold nOk; rw [hp, Bool.and_false]
      rw [normO_no hn]
      simpa using N
    · rw [hp, if_pos rfl] at T
      obtain ⟨c', v', hS, hE⟩ := specDone_some (rea (prV a (mV a)).up)
      have N := norm_spec a.up (mV a).up (prV a (mV a)).up c' true true v' M T (fun _ => ⟨fun w => specRe_part _ (okc_inR hp) w, fun w => hS w⟩) w
      have hn : nOk a = true := by unfold nOk; rw [hm, hp]; rfl
      rw [normO_yes hn, nrV_rea]
      rw [ans_yes4 (okf_rea hp)] at hE
      rw [hE]
      simpa using N
theorem tls_form (v : Bool) (f : Nat → Int) : ∃ c u, tls v f = .tuple #[.agg (vec 4 c), .bool u] := by
  unfold tls
  split
  · exact ⟨_, _, rfl⟩
  · exact ⟨_, _, rfl⟩
theorem sqR_all {xs : List V} (h : rowOk xs = true) (h2 : xs.all nOk = true) : sqR xs = sumS (fun k => nrV (at' xs k)) okf xs.length := by unfold sqR sqO; rw [h, h2]; rfl
theorem sqR_bad {xs : List V} {k : Nat} (hk : k < xs.length) (h : nOk (at' xs k) = false) : sqR xs = none := by
  refine sqR_no2 ?_
  rw [List.all_eq_false]
  exact ⟨_, List.mem_of_getElem? (at_get hk), by rw [h]; decide⟩
theorem sqR_over {xs : List V} {m : Nat} (hm : m ≤ xs.length) (h : sumS (fun k => nrV (at' xs k)) okf m = none) : sqR xs = none := by
  cases h1 : rowOk xs
  · exact sqR_no1 h1
  · cases h2 : xs.all nOk
    · exact sqR_no2 h2
    · rw [sqR_all h1 h2]; exact sumS_none h hm
theorem load_row4_on {P : Program} {ops : Array Oper} {rest : List Oper} {o : Oper} {a : Act} {Q : Exit → Act → World → Prop} {w : World} {T ty : TypeId} {d : TypeDesc} {g : Nat} {f : Nat → Int} (hgd : o.guard = none) {x : Operand} (ho : o.op = .load T x) (hx : a.eval x = .pointer (some ⟨g, 0, none⟩)) (hr : RowAt w g 4 ty f)
    (hu : P.underlying T = some d) (hd : d.isRow = true) (hi : (P.info? T).map (·.size) = some 4)
    (h : wpList P ops Q rest (a.put o.dst (p4 f)) w) : wpList P ops Q (o :: rest) a w := load_four hgd ho hx hr.range hu hd hi h
theorem surdO_none : surdO none = .tuple #[.agg (vec 4 nul), .bool false] := rfl
theorem surdO_some (s : Q4) : surdO (some s) = .tuple #[.agg (vec 4 s), .bool true] := rfl

set_option maxHeartbeats 3000000 in
theorem specRowSquares_any (v : Value) (xs : List V) (w : World) (hv : ReadsL encV w v xs) : Calls Try.prog 50 #[v] w fun e w' => e = .returned (surdO (sqR xs)) ∧ Below w.heap.size w w' := by
  have hL0 : Below w.heap.size w ((w.alloc (.cells (vec 4 nul) 43)).alloc (.cells (vec 4 nul) 43)) := below_two _ _ _
  have RV := specRowValid_any v xs _ (hv.below hL0)
  have HV := Lib.hid hv
  have HA := Lib.hid (show RowAt ((w.alloc (.cells (vec 4 nul) 43)).alloc (.cells (vec 4 nul) 43)) w.heap.size 4 43 nul from (RowAt.newAt rfl rfl).alloc _)
  have HS := Lib.hid (show RowAt ((w.alloc (.cells (vec 4 nul) 43)).alloc (.cells (vec 4 nul) 43)) (w.heap.size + 1) 4 43 nul from RowAt.newAt rfl (by simp))
  have HL := Lib.hid hL0
  clear hv hL0
  generalize hres : sqR xs = res
  have HRES := Lib.hid hres
  clear hres
  generalize hW : (w.alloc (.cells (vec 4 nul) 43)).alloc (.cells (vec 4 nul) 43) = W at *
  have HW := Lib.hid hW
  clear hW
  cases hr : rowOk xs
  · have HF : Aside (res = none) := (show res = none from by rw [← HRES.out]; exact sqR_no1 hr)
    rw [hr] at RV
    have RV := Lib.hid RV
    clear hr
    go_enter Try.func50, Try.ntmps50
    go_upto_region 2 with (refine store_new (ty := 43) (f' := nul) rfl rfl rfl rfl zero4 info_surd ?_)
    show Code.wp _ _ _ _ ((w.alloc (.cells (vec 4 nul) 43)).alloc (.cells (vec 4 nul) 43))
    rw [HW.out]
    go_wp2_with fail
    refine RV.out.mono ?_; rintro e w1 ⟨rfl, hb1⟩
    have HA1 := Lib.hid (HA.out.below hb1)
    have HS1 := Lib.hid (HS.out.below hb1)
    have HL1 := Lib.hid (below_next HL.out hb1)
    clear RV hb1 HA HS HL
    go_wp2_with (first | (refine load_row (ty := 43) (g := w.heap.size + 1) rfl rfl rfl HS1.out Try.underlying43 rfl info_surd ?_) | (refine store_row (ty := 43) (g := w.heap.size) rfl rfl rfl rfl HA1.out info_surd ?_))
    refine bodyPost_ret (results_row_tmp rfl rfl HA1.out.setRow Try.underlying43 rfl info_surd) rfl ?_
    rw [HF.out]
    exact ⟨rfl, below_setRow HL1.out (Nat.le_refl _) _⟩
  · rw [hr] at RV
    obtain ⟨hl1, hl24⟩ := rowOk_short hr
    have HR := Lib.hid hr
    obtain ⟨g0, o0, c0, rfl, hc0, hm0, hg0, hrg0⟩ : ∃ g o cap, v = .slice (some ⟨g, o, none⟩) xs.length cap ∧ xs.length ≤ cap ∧ cap ≤ maxLen ∧ g < w.heap.size ∧ w.rangeAt g o (flt encV xs) := by
      obtain ⟨q, cap, rfl, h1, h2, h3, h4⟩ := HV.out
      obtain ⟨g, o, rfl, hg, hr⟩ := h4 (by intro e; have := h3 e; omega)
      exact ⟨g, o, cap, rfl, h1, h2, hg, hr⟩
    have HR0 := Lib.hid hrg0
    simp only [maxLen] at hm0
    have RV := Lib.hid RV
    clear hr hrg0 HV
    go_enter Try.func50, Try.ntmps50
    go_upto_region 2 with (refine store_new (ty := 43) (f' := nul) rfl rfl rfl rfl zero4 info_surd ?_)
    show Code.wp _ _ _ _ ((w.alloc (.cells (vec 4 nul) 43)).alloc (.cells (vec 4 nul) 43))
    rw [HW.out]
    go_wp2_with fail
    refine RV.out.mono ?_; rintro e w1 ⟨rfl, hb1⟩
    have HA1 := Lib.hid (HA.out.below hb1)
    have HS1 := Lib.hid (HS.out.below hb1)
    have HL1 := Lib.hid (below_next HL.out hb1)
    clear RV hb1 HA HS HL HW
    generalize hb : w.heap.size = b at *
    go_wp2
    go_loopw [5, 6, 7, 8, 9] (fun i _ _ _ _ wr => ∃ (k : Nat) (s : Q4), k ≤ xs.length ∧ i = .int .i64 k ∧ sumS (fun k => nrV (at' xs k)) okf k = some s ∧ okf s = true ∧ (xs.take k).all nOk = true ∧ RowAt wr b 4 43 nul ∧ RowAt wr (b + 1) 4 43 s ∧ Below b w wr) (fun i _ _ _ _ _ => xs.length - (intOf i).toNat)
    case atStart => exact ⟨0, nul, Nat.zero_le _, rfl, rfl, okf_nul, rfl, HA1.out, HS1.out, HL1.out⟩
    case round =>
      clear HA1 HS1 HL1
      obtain ⟨k, s, hk, rfl, hs, hsok, hall, hA, hS, hbel⟩ := hrel
      have HA := Lib.hid hA
      have HS := Lib.hid hS
      have HB := Lib.hid hbel
      have HT := Lib.hid hs
      have HAL := Lib.hid hall
      have hZ : b ≤ wr.heap.size := by have := hbel.size; omega
      clear hA hS hbel hs hall
      by_cases hlt : k < xs.length
      · have hkz : (k : Int) < (xs.length : Int) := by omega
        have hk0 : (0 : Int) ≤ (k : Int) := by omega
        have HE := Lib.hid (cells_part encV_ok (cells_below HR0.out (by omega) HB.out) (at_get hlt))
        have N := fun w => specNormV (at' xs k) (rowOk_at HR.out hlt) w
        have HST := Lib.hid (sumS_step HT.out)
        cases hn : nOk (at' xs k)
        · have HF : Aside (res = none) := (show res = none from by rw [← HRES.out]; exact sqR_bad hlt hn)
          rw [normO_no hn] at N
          obtain ⟨c', u', htl⟩ := tls_form (okf s && okf nul) (add s nul)
          have AD := fun w => specAdd_at s nul w
          rw [htl] at AD
          clear HST hn htl
          generalize at' xs k = c at *
          go_wp2_with (first | (refine load_part (T := 36) (f := c.up) rfl rfl rfl HE.out Try.underlying36 rfl info_cyc ?_))
          refine (N _).mono ?_; rintro e w3 ⟨rfl, hb3⟩
          have HA3 := Lib.hid ((HA.out.below hb3).alloc (.cells (vec 4 nul) 43))
          have HS3 := Lib.hid ((HS.out.below hb3).alloc (.cells (vec 4 nul) 43))
          have HX3 := Lib.hid (RowAt.new w3 4 43 nul)
          have hb4 := HB.out.trans (hb3.mono hZ)
          have HB3 := Lib.hid (hb4.alloc (by have := hb4.size; omega) (.cells (vec 4 nul) 43))
          clear N hb3 hb4 HA HS HB HE
          go_upto_region 8 with (refine store_new (ty := 43) (f' := nul) rfl rfl rfl rfl zero4 info_surd ?_)
          show Code.wp _ _ _ _ (w3.alloc (.cells (vec 4 nul) 43))
          generalize w3.alloc (.cells (vec 4 nul) 43) = W3 at *
          generalize w3.heap.size = g3 at *
          go_wp2_with (first | (refine load_row (ty := 43) (g := b + 1) rfl rfl rfl HS3.out Try.underlying43 rfl info_surd ?_) | (refine load_row (ty := 43) (g := g3) rfl rfl rfl HX3.out Try.underlying43 rfl info_surd ?_))
          refine (AD _).mono ?_; rintro e w5 ⟨rfl, hb5⟩
          have HA5 := Lib.hid ((HA3.out.below hb5).alloc (.cells (vec 4 c') 43))
          have hb6 := HB3.out.trans (hb5.mono (by have := HB3.out.size; omega))
          have HB5 := Lib.hid (hb6.alloc (by have := hb6.size; omega) (.cells (vec 4 c') 43))
          clear AD hb5 hb6 HA3 HS3 HX3 HB3
          go_wp2_with (first | (refine store_new (ty := 43) (f' := c') rfl rfl rfl rfl zero4 info_surd ?_) | (refine store_row (ty := 43) (g := b) rfl rfl rfl (show _ = Value.agg (vec 4 nul) from rfl) HA5.out info_surd ?_))
          refine bodyPost_ret (results_row_tmp rfl rfl HA5.out.setRow Try.underlying43 rfl info_surd) rfl ?_
          rw [HF.out]
          exact ⟨rfl, by rw [hb]; exact below_setRow HB5.out (Nat.le_refl _) _⟩
        · rw [normO_yes hn] at N
          have AD := fun w => specAdd_at s (nrV (at' xs k)) w
          rw [hsok, okf_nrV hn] at AD
          have HALL : Aside ((xs.take (k + 1)).all nOk = true) := nAll_take HAL.out (at_get hlt) hn
          have HNO : Aside (okf (add s (nrV (at' xs k))) = false → res = none) := (show _ → _ from fun h => by
            rw [← HRES.out]
            exact sqR_over (m := k + 1) (by omega) (by rw [HST.out, h]; rfl))
          clear hn
          generalize nrV (at' xs k) = f at *
          generalize at' xs k = c at *
          go_wp2_with (first | (refine load_part (T := 36) (f := c.up) rfl rfl rfl HE.out Try.underlying36 rfl info_cyc ?_))
          refine (N _).mono ?_; rintro e w3 ⟨rfl, hb3⟩
          have HA3 := Lib.hid ((HA.out.below hb3).alloc (.cells (vec 4 f) 43))
          have HS3 := Lib.hid ((HS.out.below hb3).alloc (.cells (vec 4 f) 43))
          have HX3 := Lib.hid (RowAt.new w3 4 43 f)
          have hb4 := HB.out.trans (hb3.mono hZ)
          have HB3 := Lib.hid (hb4.alloc (by have := hb4.size; omega) (.cells (vec 4 f) 43))
          clear N hb3 hb4 HA HS HB HE
          go_upto_region 8 with (refine store_new (ty := 43) (f' := f) rfl rfl rfl rfl zero4 info_surd ?_)
          show Code.wp _ _ _ _ (w3.alloc (.cells (vec 4 f) 43))
          generalize w3.alloc (.cells (vec 4 f) 43) = W3 at *
          generalize w3.heap.size = g3 at *
          cases hok : okf (add s f)
          · have HF : Aside (res = none) := (show res = none from HNO.out hok)
            rw [show (true && true) = true from rfl, ans_bad4 hok] at AD
            clear HST HNO hok
            go_wp2_with (first | (refine load_row (ty := 43) (g := b + 1) rfl rfl rfl HS3.out Try.underlying43 rfl info_surd ?_) | (refine load_row (ty := 43) (g := g3) rfl rfl rfl HX3.out Try.underlying43 rfl info_surd ?_))
            refine (AD _).mono ?_; rintro e w5 ⟨rfl, hb5⟩
            have HA5 := Lib.hid ((HA3.out.below hb5).alloc (.cells (vec 4 nul) 43))
            have hb6 := HB3.out.trans (hb5.mono (by have := HB3.out.size; omega))
            have HB5 := Lib.hid (hb6.alloc (by have := hb6.size; omega) (.cells (vec 4 nul) 43))
            clear AD hb5 hb6 HA3 HS3 HX3 HB3
            go_wp2_with (first | (refine store_new (ty := 43) (f' := nul) rfl rfl rfl rfl zero4 info_surd ?_) | (refine store_row (ty := 43) (g := b) rfl rfl rfl (show _ = Value.agg (vec 4 nul) from rfl) HA5.out info_surd ?_))
            refine bodyPost_ret (results_row_tmp rfl rfl HA5.out.setRow Try.underlying43 rfl info_surd) rfl ?_
            rw [HF.out]
            exact ⟨rfl, by rw [hb]; exact below_setRow HB5.out (Nat.le_refl _) _⟩
          · rw [show (true && true) = true from rfl, ans_yes4 hok] at AD
            have HST2 : Aside (sumS (fun k => nrV (at' xs k)) okf (k + 1) = some (add s f)) := (show _ = _ from by rw [HST.out, hok]; rfl)
            have HOKF : Aside (okf (add s f) = true) := hok
            clear HST HNO hok
            generalize add s f = s2 at *
            go_wp2_with (first | (refine load_row (ty := 43) (g := b + 1) rfl rfl rfl HS3.out Try.underlying43 rfl info_surd ?_) | (refine load_row (ty := 43) (g := g3) rfl rfl rfl HX3.out Try.underlying43 rfl info_surd ?_))
            refine (AD _).mono ?_; rintro e w5 ⟨rfl, hb5⟩
            have HA5 := Lib.hid ((HA3.out.below hb5).alloc (.cells (vec 4 s2) 43))
            have HS5 := Lib.hid ((HS3.out.below hb5).alloc (.cells (vec 4 s2) 43))
            have HX5 := Lib.hid (RowAt.new w5 4 43 s2)
            have hb6 := HB3.out.trans (hb5.mono (by have := HB3.out.size; omega))
            have HB5 := Lib.hid (hb6.alloc (by have := hb6.size; omega) (.cells (vec 4 s2) 43))
            clear AD hb5 hb6 HA3 HS3 HX3 HB3
            go_upto_region 9 with (refine store_new (ty := 43) (f' := s2) rfl rfl rfl rfl zero4 info_surd ?_)
            show Code.wp _ _ _ _ (w5.alloc (.cells (vec 4 s2) 43))
            generalize w5.alloc (.cells (vec 4 s2) 43) = W5 at *
            generalize w5.heap.size = g5 at *
            have HA6 := Lib.hid (HA5.out.rowOther (b + 1) (vec 4 s2) (by omega))
            have HS6 := Lib.hid (HS5.out.setRow (f' := s2))
            have HB6 := Lib.hid (below_setRow HB5.out (by omega : b ≤ b + 1) (vec 4 s2))
            go_wp2_with (first | (refine load_row (ty := 43) (g := g5) rfl rfl rfl HX5.out Try.underlying43 rfl info_surd ?_) | (refine store_row (ty := 43) (g := b + 1) rfl rfl rfl rfl HS5.out info_surd ?_))
            go_roundw
            case rel => exact ⟨k + 1, s2, by omega, by go_num, HST2.out, HOKF.out, HALL.out, HA6.out, HS6.out, HB6.out⟩
            case measure => simp [intOf]; omega
      · obtain rfl : k = xs.length := by omega
        have HF : Aside (res = some s) := (show res = some s from by
          have ha := HAL.out
          rw [List.take_length] at ha
          rw [← HRES.out, sqR_all HR.out ha]; exact HT.out)
        go_wp2_with (first | (refine load_row (ty := 43) (g := b + 1) rfl rfl rfl HS.out Try.underlying43 rfl info_surd ?_) | (refine store_row (ty := 43) (g := b) rfl rfl rfl rfl HA.out info_surd ?_))
        refine bodyPost_ret (results_row_tmp rfl rfl HA.out.setRow Try.underlying43 rfl info_surd) rfl ?_
        rw [HF.out]
        exact ⟨rfl, by rw [hb]; exact below_setRow HB.out (Nat.le_refl _) _⟩
end Go.Proofs.Ytdgbpdeimckbfaa
/- What the walks of the exact laws of rows share. -/
namespace Go.Proofs.Ytdgbpdeimckbfaa
set_option maxRecDepth 20000
open Go.ChangeShapes Go.WideShapes Go.ChangeAt Go.RowKit
set_option linter.unusedVariables false
set_option linter.unusedSimpArgs false

def BitL (w : World) (o : Option (List V)) (bit : Bool) (e : Ending) (w' : World) : Prop :=
  Below w.heap.size w w' ∧ ∃ v', e = .returned (.tuple #[v', .bool bit]) ∧ OwnL encV 8 w' w.heap.size 36 v' (gotL o)
theorem toldL_bit {w w' : World} {o : Option (List V)} {bit : Bool} {e : Ending} (hb : o.isSome = bit) (h : ToldL 36 w o e w') : BitL w o bit e w' := by
  subst hb
  exact h
theorem markC_number (k n : Nat) : ∃ M : Int, Aside (((k + n * 8 : Nat) : Int) = M) ∧ ¬ M < 0 ∧ (M != M) = false := ⟨_, (show _ = _ from rfl), by omega, by simp⟩
theorem gotL_short {o : Option (List V)} (h : ∀ R, o = some R → R.length ≤ 24) : (gotL o).length ≤ 24 := by
  cases o with
  | none => simp [gotL]
  | some R => exact h R rfl
theorem trF_short (xs : List V) : (gotL (trF xs)).length ≤ 24 := gotL_short fun R h => (rowOk_short (trO_some h).2.2.1).2
theorem trB_short (xs : List V) : (gotL (trB xs)).length ≤ 24 := gotL_short fun R h => (rowOk_short (trO_some h).2.2.1).2
theorem shO_short (m : Int) (xs : List V) : (gotL (shO m xs)).length ≤ 24 := gotL_short fun R h => by
  obtain ⟨h1, n, -, -, rfl⟩ := shO_some h
  rw [shL_len]; exact (rowOk_short h1).2
theorem tmO_short (a b : List V) : (gotL (tmO a b)).length ≤ 24 := gotL_short fun R h => (rowOk_short (tmO_some h).2.2.1).2
theorem crO_short (a b : List V) : (gotL (crO a b)).length ≤ 24 := gotL_short fun R h => (rowOk_short (crO_some h).2.2.1).2
theorem rdO_short (ws : List Wh) (n : Int) : (gotL (rdO ws n)).length ≤ 24 := gotL_short fun R h => by
  unfold rdO at h
  split at h
  · rename_i hc
    rw [Bool.and_eq_true] at hc
    rw [coll_len h]; exact (rowLen_in hc.2).2.2
  · cases h
theorem rwO_short (xs : List V) : (got (rwO xs)).length ≤ 12 := got_short fun R h => by
  obtain ⟨T, -, h2⟩ := rwO_some h
  exact tidy_short R h2
theorem eqSurdR_yes (a : Nat → Int) (w : World) : Calls Try.prog 65 #[p4 a, p4 a] w fun e w' => e = .returned (.bool true) ∧ Below w.heap.size w w' := by
  change Calls Try.prog 65 #[.agg #[.int .i64 (a 0), .int .i64 (a 1), .int .i64 (a 2), .int .i64 (a 3)], .agg #[.int .i64 (a 0), .int .i64 (a 1), .int .i64 (a 2), .int .i64 (a 3)]] w fun e w' => e = .returned (.bool true) ∧ Below w.heap.size w w'
  go_enter Try.func65, Try.ntmps65
  go_wp2
  go_ret
  exact ⟨rfl, below_two _ _ _⟩

end Go.Proofs.Ytdgbpdeimckbfaa
