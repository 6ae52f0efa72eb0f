/-
  impl: what is 0 left out of a list; equal speeds joined.
  impl: circles of equal speeds joined.
  impl: tidy designs; designs changed.
  The model's designs: what is a design; one wheel more.
-/
import Derived.Test.YtbdhbkedeglagaaM08
import Derived.Test.YtbdhbkedeglagaaM01
import Derived.Test.YtbdhbkedeglagaaM02
/- impl: what is 0 left out of a list; equal speeds joined. -/
namespace Go.Proofs.Ytbdhbkedeglagaa
set_option maxRecDepth 20000
open Go.ChangeShapes Go.WideShapes Go.ChangeAt Go.RowKit
set_option linter.unusedVariables false
set_option linter.unusedSimpArgs false

theorem firstZ_facts (ws : List Wh) : (∀ i c, i < firstZ ws → ws[i]? = some c → nz c = true) ∧ (firstZ ws < ws.length → ∃ c, ws[firstZ ws]? = some c ∧ nz c = false) := by
  induction ws with
  | nil => exact ⟨fun i c h => by simp [firstZ] at h, fun h => by simp [firstZ] at h⟩
  | cons c cs ih =>
    unfold firstZ
    by_cases h : nz c = true
    · rw [if_pos h]
      refine ⟨fun i d hi hd => ?_, fun hl => ?_⟩
      · cases i with
        | zero => simp only [List.getElem?_cons_zero, Option.some.injEq] at hd; rw [← hd]; exact h
        | succ i => exact ih.1 i d (by omega) (by simpa using hd)
      · obtain ⟨d, h1, h2⟩ := ih.2 (by simpa using hl)
        exact ⟨d, by simpa using h1, h2⟩
    · rw [if_neg h]
      exact ⟨fun i d hi => by omega, fun _ => ⟨c, by simp, by simpa using h⟩⟩
theorem filter_take_all {ws : List Wh} {k : Nat} (h : ∀ i c, i < k → ws[i]? = some c → nz c = true) : (ws.take k).filter nz = ws.take k := filter_all fun c hc => by
  obtain ⟨i, hi, e⟩ := List.mem_iff_getElem.1 hc
  simp only [List.length_take] at hi
  exact h i c (by omega) (by rw [← e, List.getElem_take]; exact List.getElem?_eq_getElem (by omega))
theorem range_own {w : World} {B T g cap : Nat} {ws : List Wh} {k : Nat} {c : Wh} (h : Own w B T (.slice (some ⟨g, 0, none⟩) ws.length cap) ws) (hc : ws[k]? = some c) : w.rangeAt g (k * 9) (enc c) := by
  obtain ⟨p, cap', e, _, _, _, h5⟩ := own_reads h
  simp only [Value.slice.injEq, true_and] at e
  obtain ⟨rfl, _⟩ := e
  obtain ⟨g', o, e, _, hr⟩ := h5 (by simp)
  simp only [Option.some.injEq, Addr.mk.injEq, and_true] at e
  obtain ⟨rfl, rfl⟩ := e
  have := range_part hr hc
  rwa [Nat.zero_add] at this

section
variable {P : Program} {ops : Array Oper} {rest : List Oper} {o : Oper} {a : Act} {Q : Exit → Act → World → Prop} {w : World}
theorem store_wheel {ty : TypeId} {g p : Nat} {c : Wh} (hgd : o.guard = none) {x y : Operand} (ho : o.op = .store ty x y) (hx : a.eval x = .pointer (some ⟨g, p, none⟩)) (hy : a.eval y = wh c)
    (ht : w.there g p 9) (hi : (P.info? ty).map (·.size) = some 9) (h : wpList P ops Q rest (a.put o.dst undef) (w.setCells g p (enc c))) : wpList P ops Q (o :: rest) a w :=
  wpList_store_mid hgd ty x y ho g p (vec 9 (wf c)) hx hy (by rw [vec_size]; exact ht) (by rw [vec_size]; exact hi) (vec_one 9 _) (show wpList P ops Q rest (a.put o.dst undef) (w.setCells g p (vec 9 (wf c)).toList) from h)
theorem store_part {ty : TypeId} {g p : Nat} {f : Nat → Int} (hgd : o.guard = none) {x y : Operand} (ho : o.op = .store ty x y) (hx : a.eval x = .pointer (some ⟨g, p, none⟩)) (hy : a.eval y = pt f)
    (ht : w.there g p 8) (hi : (P.info? ty).map (·.size) = some 8) (h : wpList P ops Q rest (a.put o.dst undef) (w.setCells g p (lst 8 f))) : wpList P ops Q (o :: rest) a w :=
  wpList_store_mid hgd ty x y ho g p (vec 8 f) hx hy (by rw [vec_size]; exact ht) (by rw [vec_size]; exact hi) (vec_one 8 _) (show wpList P ops Q rest (a.put o.dst undef) (w.setCells g p (vec 8 f).toList) from h)
end
theorem info_circle_full : ∃ i, Try.prog.info? 76 = some i ∧ i.zero = some (.agg (vec 9 nul)) := by
  have h : (Try.prog.info? 76).map (fun i => (i.zero, i.size, i.bytes)) = some (some (.agg (vec 9 nul)), 9, 72) := by kernel_rfl
  obtain ⟨i, hi, e1, _, _⟩ := info_parts h
  exact ⟨i, hi, e1⟩

set_option maxHeartbeats 1000000 in
theorem deleteZ_any (v : Value) (B : Nat) (ws : List Wh) (w : World) (ho : Own w B 76 v ws) (hn : ws.length ≤ 1000000) (hB : B ≤ w.heap.size) :
    Calls Try.prog 62 #[v, noV] w fun e w' => Below B w w' ∧ ∃ v', e = .returned v' ∧ Own w' B 76 v' (ws.filter nz) := by
  have I := Lib.hid (indexZ_any v ws w (own_reads ho))
  obtain ⟨fz, hfz⟩ : ∃ n, n = firstZ ws := ⟨_, rfl⟩
  have hfl : fz ≤ ws.length := by rw [hfz]; exact firstZ_le ws
  by_cases hall : firstZ ws = ws.length
  · have hz : idxZ ws = -1 := by unfold idxZ; rw [if_pos hall]
    rw [hz] at I
    have hfil : ws.filter nz = ws := by
      have := filter_take_all (firstZ_facts ws).1
      rwa [hall, List.take_length] at this
    rw [hfil]
    have HO := Lib.hid ho
    clear ho hz hall hfil hfz
    go_enter Try.func62, Try.ntmps62
    go_wp2_with fail
    refine I.out.mono ?_; rintro e w1 ⟨rfl, hb1⟩
    have HB := Lib.hid hb1
    clear I hb1
    go_wp2
    go_ret
    exact ⟨HB.out.mono hB, _, rfl, own_below HO.out HB.out⟩
  · have hflt : fz < ws.length := by omega
    have hz : idxZ ws = (fz : Int) := by unfold idxZ; rw [if_neg hall, hfz]
    rw [hz] at I
    rcases ho.2 with ⟨_, h0⟩ | ⟨g, cap, cur, rfl, hgB, hgg, hcap1, hcap2, _, _⟩
    · omega
    have hcz : (ws.length : Int) ≤ (cap : Int) := by omega
    simp only [maxLen] at hcap2
    have HF : Aside (fz = firstZ ws) := hfz
    have HO := Lib.hid ho
    have hgl := (Array.getElem?_eq_some_iff.1 hgg).1
    clear ho hz hall hgg hfz
    have eg := enters_isNothing
    go_enter Try.func62, Try.ntmps62
    go_wp2_with fail
    refine I.out.mono ?_; rintro e w1 ⟨rfl, hb1⟩
    have HO1 := Lib.hid (own_below HO.out hb1)
    have HB1 := Lib.hid (hb1.mono hB)
    have hs1 := Nat.le_trans hB hb1.size
    clear I HO hb1
    have n1 : ¬ ((fz : Nat) : Int) = -1 := by omega
    have n1b : (((fz : Nat) : Int) == -1) = false := by simp
    go_wp2_with fail
    go_loopw [5, 6, 7] (fun s5 s6 _ wr => ∃ (m k : Nat) (cs : List Wh), s5 = .int .i64 m ∧ s6 = .int .i64 k ∧ m < k ∧ k ≤ ws.length ∧ cs.length = ws.length ∧ Own wr B 76 (.slice (some ⟨g, 0, none⟩) cs.length cap) cs ∧
      cs.take m = (ws.take k).filter nz ∧ cs.drop k = ws.drop k ∧ Below B w wr ∧ B ≤ wr.heap.size) (fun _ s6 _ _ => ws.length - (intOf s6).toNat)
    case atStart =>
      refine ⟨fz, fz + 1, ws, rfl, by go_num, by omega, by omega, rfl, HO1.out, ?_, rfl, HB1.out, hs1⟩
      have h1 := firstZ_facts ws
      rw [← HF.out] at h1
      obtain ⟨c, hc, hcn⟩ := h1.2 hflt
      rw [take_next hc, List.filter_append, filter_take_all h1.1]
      simp [hcn]
    case round =>
      clear HO1 HB1 n1 n1b hs1
      obtain ⟨m, k, cs, rfl, rfl, hmk, hk, hcl, hO, htk, hdr, hbel, hB2⟩ := hrel
      by_cases hlt : k < ws.length
      · have hkz : (k : Int) < (ws.length : Int) := by omega
        have hk0 : (0 : Int) ≤ (k : Int) := by omega
        have hm0 : (0 : Int) ≤ (m : Int) := by omega
        have hmz : (m : Int) < (ws.length : Int) := by omega
        obtain ⟨c, hc⟩ : ∃ c, ws[k]? = some c := ⟨_, List.getElem?_eq_getElem hlt⟩
        have hcs : cs[k]? = some c := by
          have h1 : (cs.drop k)[0]? = (ws.drop k)[0]? := by rw [hdr]
          simpa [hc] using h1
        have HE := Lib.hid (range_own hO hcs)
        have HO := Lib.hid hO
        have HL := Lib.hid hbel
        have HT := Lib.hid htk
        have HD := Lib.hid hdr
        have HC := Lib.hid hc
        have hz2 := hB2
        clear hO hbel htk hdr hc hB2
        have HW := Lib.hid (RowAt.new wr 9 76 (wf c))
        have C := fun w => isNothing_below c w
        go_wp2_with (first | (refine load_wheel (T := 76) (g := g) rfl rfl rfl HE.out Try.underlying76 rfl info_circle ?_) | (refine store_new (ty := 76) rfl rfl rfl rfl zero9 info_circle ?_) | (refine load_row (ty := 76) (g := wr.heap.size) rfl rfl rfl HW.out Try.underlying76 rfl info_circle ?_))
        refine (C _).mono ?_; rintro e w3 ⟨rfl, hb3⟩
        have hb4 : Below wr.heap.size wr w3 := below_next ((Below.refl _ _).alloc (Nat.le_refl _) _) hb3
        have HO3 := Lib.hid (own_below HO.out hb4)
        have HBW := Lib.hid (HL.out.trans (hb4.mono hz2))
        have hz3 := Nat.le_trans hz2 hb4.size
        have HR3 := Lib.hid (HW.out.below hb3)
        clear C hb3 hb4 HE
        cases hz : nz c
        · go_wp2
          go_roundw
          case rel =>
            refine ⟨m, k + 1, cs, rfl, by go_num, by omega, by omega, hcl, HO3.out, ?_, ?_, HBW.out, hz3⟩
            · rw [take_next HC.out, List.filter_append, HT.out]; simp [hz]
            · have h1 : (cs.drop k).drop 1 = (ws.drop k).drop 1 := by rw [HD.out]
              simpa [List.drop_drop] using h1
          case measure => simp [intOf]; omega
        · obtain ⟨cm, hcm⟩ : ∃ d, cs[m]? = some d := ⟨_, List.getElem?_eq_getElem (by omega)⟩
          have HT3 := Lib.hid (own_there (k := m) (o := 0) (n := 9) HO3.out (by omega) (by omega))
          have HN := Lib.hid (own_wheel c HO3.out hcm)
          have HBN := Lib.hid (below_setCells (G := g) hgB (enc c) (m * 9) w3 HBW.out)
          have HSZ : Aside (B ≤ (w3.setCells g (m * 9) (enc c)).heap.size) := (show B ≤ (w3.setCells g (m * 9) (enc c)).heap.size from Nat.le_trans hB HBN.out.size)
          go_wp2_with (first | (refine load_row (ty := 76) (g := wr.heap.size) rfl rfl rfl HR3.out Try.underlying76 rfl info_circle ?_; clear HR3) | (refine store_wheel (ty := 76) (g := g) (c := c) rfl rfl rfl rfl HT3.out info_circle ?_; clear HT3))
          go_roundw
          case rel =>
            refine ⟨m + 1, k + 1, cs.set m c, by go_num, by go_num, by omega, by omega, by simpa using hcl, ?_, ?_, ?_, HBN.out, HSZ.out⟩
            · show (w3.setCells g (m * 9) (enc c)).ownsRow B 76 9 (.slice (some ⟨g, 0, none⟩) (cs.set m c).length cap) (cs.set m c).length (flat (cs.set m c))
              rw [List.length_set]; exact HN.out
            · rw [take_next HC.out, List.filter_append, ← HT.out]
              have h2 : (cs.set m c)[m]? = some c := List.getElem?_set_self (by omega)
              rw [take_next h2, List.take_set_of_le (Nat.le_refl _)]
              simp [hz]
            · rw [List.drop_set_of_lt (by omega)]
              have h1 : (cs.drop k).drop 1 = (ws.drop k).drop 1 := by rw [HD.out]
              simpa [List.drop_drop] using h1
          case measure => simp [intOf]; omega
      · obtain rfl : k = ws.length := by omega
        obtain ⟨i, hi, hiz⟩ := info_circle_full
        obtain ⟨w2, hrun, hgr, hown⟩ := run_clear_own (P := Try.prog) (m := m) Try.underlying61 hi hiz hO (by omega)
        rw [hcl] at hrun
        have hm0 : (0 : Int) ≤ (m : Int) := by omega
        have hmz : (m : Int) ≤ (ws.length : Int) := by omega
        have hmc : (m : Int) ≤ (cap : Int) := by omega
        have HN := Lib.hid hown
        have HB3 := Lib.hid (below_grown hbel hgr hB2 fun k hk => by simp only [Option.some.injEq] at hk; omega)
        have HT := Lib.hid htk
        clear hO hbel hgr hown htk hdr
        go_wp2
        go_ret
        have hl : (cs.take m).length = m := by rw [List.length_take]; omega
        have ht := HT.out
        rw [List.take_length] at ht
        have ho := HN.out
        rw [ht] at ho hl
        refine ⟨HB3.out, _, rfl, ?_⟩
        rw [← hl]
        exact ho

end Go.Proofs.Ytbdhbkedeglagaa
/- impl: circles of equal speeds joined. -/
namespace Go.Proofs.Ytbdhbkedeglagaa
set_option maxRecDepth 20000
open Go.ChangeShapes Go.WideShapes Go.ChangeAt Go.RowKit
set_option linter.unusedVariables false
set_option linter.unusedSimpArgs false

theorem ins_end (c : Wh) : ∀ R : List Wh, (∀ d ∈ R, d.s < c.s) → ins R c = R ++ [c] ∧ insOk false R c = true
  | [], _ => ⟨rfl, rfl⟩
  | d :: R, h => by
    obtain ⟨h1, h2⟩ := ins_end c R fun e he => h e (by simp [he])
    unfold ins insOk
    rw [if_pos (h d (by simp)), if_pos (h d (by simp)), h1, h2]
    exact ⟨rfl, rfl⟩
theorem ins_eq (c l : Wh) (hl : l.s = c.s) : ∀ R : List Wh, (∀ d ∈ R, d.s < c.s) → ins (R ++ [l]) c = R ++ [⟨l.s, V.add l.r c.r⟩] ∧ insOk false (R ++ [l]) c = okv (V.add l.r c.r)
  | [], _ => by
    simp only [List.nil_append, ins, insOk]
    rw [if_neg (by omega), if_pos hl, if_neg (by omega), if_pos hl]
    exact ⟨rfl, rfl⟩
  | d :: R, h => by
    obtain ⟨h1, h2⟩ := ins_eq c l hl R fun e he => h e (by simp [he])
    rw [List.cons_append]
    unfold ins insOk
    rw [if_pos (h d (by simp)), if_pos (h d (by simp)), h1, h2]
    exact ⟨rfl, rfl⟩
def got (o : Option (List Wh)) : List Wh := o.getD []
theorem own_form {w : World} {B T : Nat} {v : Value} {ws : List Wh} (h : Own w B T v ws) : ∃ p cap, v = .slice p ws.length cap ∧ cap ≤ 9223372036854775807 ∧ ws.length ≤ cap ∧ (ws ≠ [] → ∃ g, p = some ⟨g, 0, none⟩ ∧ B ≤ g) := by
  rcases h.2 with ⟨rfl, h0⟩ | ⟨g, cap, cur, rfl, hg0, hg, h1, h2, h3, h4⟩
  · exact ⟨none, 0, by rw [h0], by omega, by omega, fun hn => absurd (List.length_eq_zero_iff.1 h0) hn⟩
  · exact ⟨_, cap, rfl, by simpa [maxLen] using h2, h1, fun _ => ⟨g, rfl, hg0⟩⟩

theorem validV (r : V) (w : World) : Calls Try.prog 72 #[pt r.up] w fun e w' => e = .returned (.bool (okv r)) ∧ Below w.heap.size w w' := valid_any r.up w
set_option maxHeartbeats 2000000 in
theorem joined_any (v : Value) (ws : List Wh) (w : World) (hv : Reads w v ws) (hn : ws.length ≤ 1000) (hs : ws.Pairwise fun a b => a.s ≤ b.s) (hbig : ∀ c ∈ ws, Big c.r 4000000) :
    Calls Try.prog 61 #[v] w fun e w' => Below w.heap.size w w' ∧ ∃ v', e = .returned (.tuple #[v', .bool (run false [] ws).isSome]) ∧ Own w' w.heap.size 76 v' (got (run false [] ws)) := by
  obtain ⟨p, cap, rfl, hc1, hc2, hp0, hp⟩ := hv
  simp only [maxLen] at hc2
  have HP := Lib.hid hp
  have HS := Lib.hid hs
  have HBG := Lib.hid hbig
  clear hp hs hbig
  generalize hrun : run false [] ws = res
  have HRES := Lib.hid hrun
  clear hrun
  go_enter Try.func61, Try.ntmps61
  go_wp2
  go_loopw [4, 6, 7, 8, 11] (fun s4 _ _ _ i wr => ∃ (k : Nat) (R : List Wh), k ≤ ws.length ∧ i = .int .i64 k ∧ R.length ≤ k ∧ Own wr w.heap.size 76 s4 R ∧
    (Asc R ∧ (∀ d ∈ R, ∀ c ∈ ws.drop k, d.s ≤ c.s) ∧ (∀ d ∈ R, Big d.r 4000000) ∧ run false R (ws.drop k) = res) ∧ Below w.heap.size w wr ∧ w.heap.size ≤ wr.heap.size) (fun _ _ _ _ i _ => ws.length - (intOf i).toNat)
  case atStart => exact ⟨0, [], Nat.zero_le _, rfl, Nat.zero_le _, own_nil _ _ _, ⟨List.Pairwise.nil, by simp, by simp, HRES.out⟩, Below.refl _ _, Nat.le_refl _⟩
  case round =>
    obtain ⟨k, R, hk, rfl, hRk, hO, hfacts, hbel, hB⟩ := hrel
    by_cases hlt : k < ws.length
    · have hkz : (k : Int) < (ws.length : Int) := by omega
      have hk0 : (0 : Int) ≤ (k : Int) := by omega
      obtain ⟨c, hc⟩ : ∃ c, ws[k]? = some c := ⟨_, List.getElem?_eq_getElem hlt⟩
      obtain ⟨g0, o0, rfl, hg0, hr0⟩ := HP.out (by rintro rfl; have := hp0 rfl; omega)
      have HE := Lib.hid (range_part (range_below hr0 hg0 hbel) hc)
      have hdrop : ws.drop k = c :: ws.drop (k + 1) := by
        rw [List.drop_eq_getElem_cons hlt]
        have := List.getElem?_eq_getElem hlt
        rw [hc] at this
        simp only [Option.some.injEq] at this
        rw [this]
      have HC := Lib.hid hc
      have HD := Lib.hid hdrop
      have HFA := Lib.hid hfacts
      have HCB : Aside (Big c.r 4000000) := HBG.out c (List.mem_of_getElem? hc)
      have HW : Aside (RowAt (wr.alloc (.cells (vec 9 (wf c)) 76)) wr.heap.size 9 76 (wf c)) := RowAt.new wr 9 _ _
      have HO : Aside (Own (wr.alloc (.cells (vec 9 (wf c)) 76)) w.heap.size 76 u4 R) := (show World.ownsRow _ _ _ _ _ _ _ from World.ownsRow.alloc hO _)
      have HL : Aside (Below w.heap.size w (wr.alloc (.cells (vec 9 (wf c)) 76))) := hbel.alloc hB _
      have HZ : Aside (w.heap.size ≤ (wr.alloc (.cells (vec 9 (wf c)) 76)).heap.size) := (show _ ≤ _ by simp; omega)
      have HZ2 : Aside (wr.heap.size < (wr.alloc (.cells (vec 9 (wf c)) 76)).heap.size) := (show _ < _ by simp)
      obtain ⟨pr, capr, rfl, hcapr, hcapr2, hne⟩ := own_form hO
      have HNE := Lib.hid hne
      clear hr0 hO hbel hc hdrop hfacts hne hB
      by_cases hR0 : R = []
      · subst hR0
        have q1 : IntKind.i64.wrap (-1) = -1 := by decide
        have HLT : Aside (∀ d ∈ ([] : List Wh), d.s < c.s) := (show ∀ d ∈ ([] : List Wh), d.s < c.s from by simp)
        generalize hRR : ([] : List Wh) = R at *
        have hR0 : R.length = 0 := by rw [← hRR]; rfl
        clear hRR
        go_upto_region 6 with (first | (refine load_wheel (T := 76) (g := g0) rfl rfl rfl HE.out Try.underlying76 rfl info_circle ?_; clear HE) | (refine store_new (ty := 76) rfl rfl rfl rfl zero9 info_circle ?_))
        show Code.wp _ _ _ _ (wr.alloc (.cells (vec 9 (wf c)) 76))
        generalize wr.alloc (.cells (vec 9 (wf c)) 76) = W at *
        generalize wr.heap.size = b at *
        refine wp_region_held_drew (S := fun w' => w' = W.drew) (by kernel_rfl) rfl (fun hHeld => ?_)
        refine wpAnyH_take (i := 0) (oi := _) (v := .int .i64 (-1)) rfl (by kernel_rfl) (by kernel_rfl) (by kernel_rfl) (fun _ _ _ h => h) (Or.inl ⟨by rfl, fun w h => by go_simp⟩) hHeld ?_
        try simp only [Act.put, List.setIfInBounds_toArray, List.set_cons_zero, List.set_cons_succ, List.getElem_toArray, List.getElem_cons_succ, List.getElem_cons_zero]
        refine wpAnyH_take (i := 1) (oi := _) (v := .bool true) rfl (by kernel_rfl) (by kernel_rfl) (by kernel_rfl) (fun _ _ _ h => h) (Or.inl ⟨by rfl, fun w h => by go_simp⟩) hHeld ?_
        try simp only [Act.put, List.setIfInBounds_toArray, List.set_cons_zero, List.set_cons_succ, List.getElem_toArray, List.getElem_cons_succ, List.getElem_cons_zero]
        refine wpAnyH_take (i := 2) (oi := _) (v := .bool true) rfl (by kernel_rfl) (by kernel_rfl) (by kernel_rfl) (fun _ _ _ h => h) (Or.inl ⟨by rfl, fun w h => by go_simp⟩) hHeld ?_
        try simp only [Act.put, List.setIfInBounds_toArray, List.set_cons_zero, List.set_cons_succ, List.getElem_toArray, List.getElem_cons_succ, List.getElem_cons_zero]
        refine wpAnyH_take (i := 3) (oi := _) (v := undef) rfl (by kernel_rfl) (by kernel_rfl) (by kernel_rfl) (fun _ _ _ h => h) (Or.inr ⟨by rfl, rfl⟩) hHeld ?_
        try simp only [Act.put, List.setIfInBounds_toArray, List.set_cons_zero, List.set_cons_succ, List.getElem_toArray, List.getElem_cons_succ, List.getElem_cons_zero]
        refine wpAnyH_take (i := 4) (oi := _) (v := undef) rfl (by kernel_rfl) (by kernel_rfl) (by kernel_rfl) (fun _ _ _ h => h) (Or.inr ⟨by rfl, rfl⟩) hHeld ?_
        try simp only [Act.put, List.setIfInBounds_toArray, List.set_cons_zero, List.set_cons_succ, List.getElem_toArray, List.getElem_cons_succ, List.getElem_cons_zero]
        refine wpAnyH_take (i := 5) (oi := _) (v := undef) rfl (by kernel_rfl) (by kernel_rfl) (by kernel_rfl) (fun _ _ _ h => h) (Or.inr ⟨by rfl, rfl⟩) hHeld ?_
        try simp only [Act.put, List.setIfInBounds_toArray, List.set_cons_zero, List.set_cons_succ, List.getElem_toArray, List.getElem_cons_succ, List.getElem_cons_zero]
        refine wpAnyH_take (i := 6) (oi := _) (v := undef) rfl (by kernel_rfl) (by kernel_rfl) (by kernel_rfl) (fun _ _ _ h => h) (Or.inr ⟨by rfl, rfl⟩) hHeld ?_
        try simp only [Act.put, List.setIfInBounds_toArray, List.set_cons_zero, List.set_cons_succ, List.getElem_toArray, List.getElem_cons_succ, List.getElem_cons_zero]
        refine wpAnyH_take (i := 7) (oi := _) (v := undef) rfl (by kernel_rfl) (by kernel_rfl) (by kernel_rfl) (fun _ _ _ h => h) (Or.inr ⟨by rfl, rfl⟩) hHeld ?_
        try simp only [Act.put, List.setIfInBounds_toArray, List.set_cons_zero, List.set_cons_succ, List.getElem_toArray, List.getElem_cons_succ, List.getElem_cons_zero]
        refine wpAnyH_take (i := 8) (oi := _) (v := undef) rfl (by kernel_rfl) (by kernel_rfl) (by kernel_rfl) (fun _ _ _ h => h) (Or.inr ⟨by rfl, rfl⟩) hHeld ?_
        try simp only [Act.put, List.setIfInBounds_toArray, List.set_cons_zero, List.set_cons_succ, List.getElem_toArray, List.getElem_cons_succ, List.getElem_cons_zero]
        refine wpAnyH_take (i := 9) (oi := _) (v := undef) rfl (by kernel_rfl) (by kernel_rfl) (by kernel_rfl) (fun _ _ _ h => h) (Or.inr ⟨by rfl, rfl⟩) hHeld ?_
        try simp only [Act.put, List.setIfInBounds_toArray, List.set_cons_zero, List.set_cons_succ, List.getElem_toArray, List.getElem_cons_succ, List.getElem_cons_zero]
        refine wpAnyH_take (i := 10) (oi := _) (v := undef) rfl (by kernel_rfl) (by kernel_rfl) (by kernel_rfl) (fun _ _ _ h => h) (Or.inr ⟨by rfl, rfl⟩) hHeld ?_
        try simp only [Act.put, List.setIfInBounds_toArray, List.set_cons_zero, List.set_cons_succ, List.getElem_toArray, List.getElem_cons_succ, List.getElem_cons_zero]
        refine wpAnyH_take (i := 11) (oi := _) (v := .bool true) rfl (by kernel_rfl) (by kernel_rfl) (by kernel_rfl) (fun _ _ _ h => h) (Or.inl ⟨by rfl, fun w h => by go_simp⟩) hHeld ?_
        try simp only [Act.put, List.setIfInBounds_toArray, List.set_cons_zero, List.set_cons_succ, List.getElem_toArray, List.getElem_cons_succ, List.getElem_cons_zero]
        clear hHeld
        refine wpAnyH_done (by kernel_rfl) ?_ _
        have HO3 : Aside (Own W.drew w.heap.size 76 (.slice pr 0 capr) R) := (show Own W _ _ _ _ from by
          have e : Value.slice pr R.length capr = Value.slice pr 0 capr := by rw [hR0]
          rw [← e]; exact HO.out)
        have HW3 : Aside (RowAt W.drew b 9 76 (wf c)) := HW.out.drew1
        have HL3 : Aside (Below w.heap.size w W.drew) := HL.out.drew
        have HZ3 : Aside (w.heap.size ≤ W.drew.heap.size) := HZ.out
        clear HW HL HZ HO
        generalize W.drew = W3 at *
        go_wp2_with (first | (refine load_row (ty := 76) (g := b) rfl rfl rfl HW3.out Try.underlying76 rfl info_circle ?_; clear HW3) | (refine one9 tyC rfl rfl rfl ?_) |
          (refine append9 tyC rfl rfl (v := .slice pr 0 capr) (xs := R) rfl rfl (HO3.out.alloc _) (reads_lit _ _ _) (by simp; omega) (HL3.out.alloc HZ3.out _) (by simp; have := HZ3.out; omega) ?_; intro v2 w4 ho4 hb4 hB4))
        go_roundw
        case rel =>
          refine ⟨k + 1, R ++ [c], by omega, by go_num, by simp; omega, ho4, ⟨?_, ?_, ?_, ?_⟩, hb4, hB4⟩
          · have ha := HFA.out.1
            refine List.pairwise_append.2 ⟨ha, by simp, fun a h1 b h2 => ?_⟩
            rw [List.mem_singleton.1 h2]; exact HLT.out a h1
          · have hpw := HS.out
            intro d hd e he
            rcases List.mem_append.1 hd with h | h
            · exact HFA.out.2.1 d h e (by rw [HD.out]; exact List.mem_cons_of_mem _ he)
            · rw [List.mem_singleton.1 h]
              have := hpw.drop (i := k)
              rw [HD.out] at this
              exact (List.pairwise_cons.1 this).1 e he
          · intro d hd
            rcases List.mem_append.1 hd with h | h
            · exact HFA.out.2.2.1 d h
            · rw [List.mem_singleton.1 h]; exact HCB.out
          · have h1 := HFA.out.2.2.2
            rw [HD.out] at h1
            unfold run at h1
            obtain ⟨e1, e2⟩ := ins_end c R HLT.out
            rw [e2, if_pos rfl, e1] at h1
            exact h1
        case measure => simp [intOf]; omega
      · obtain ⟨m, hm⟩ : ∃ m, R.length = m + 1 := ⟨R.length - 1, by have := List.length_pos_iff.2 hR0; omega⟩
        obtain ⟨l, hl⟩ : ∃ l, R[m]? = some l := ⟨_, List.getElem?_eq_getElem (by omega)⟩
        obtain ⟨g, rfl, hgB⟩ := HNE.out hR0
        have q1 : IntKind.i64.wrap ((m : Int) + 1 - 1) = (m : Int) := by rw [IntKind.wrap_i64]; omega
        have q2 : ¬ (m : Int) < 0 := by omega
        have q3 : (0 : Int) ≤ (m : Int) := by omega
        have q4 : (m : Int) < (m : Int) + 1 := by omega
        have HG : Aside ((wr.alloc (.cells (vec 9 (wf c)) 76)).rangeAt g (m * 9) (enc l)) := range_own HO.out hl
        have hgz : (m : Int) + 1 ≤ (capr : Int) := by omega
        have hRsplit : R = R.take m ++ [l] := by
          conv => lhs; rw [← List.take_length (l := R), hm, take_next hl]
        have hlc : l.s ≤ c.s := HFA.out.2.1 l (List.mem_of_getElem? hl) c (by rw [HD.out]; simp)
        have hbef : ∀ d ∈ R.take m, d.s < l.s := fun d hd => by
          have ha := HFA.out.1
          rw [hRsplit] at ha
          exact (List.pairwise_append.1 ha).2.2 d hd l (by simp)
        have HSP : Aside (R = R.take m ++ [l] ∧ R[m]? = some l ∧ ∀ d ∈ R.take m, d.s < l.s) := ⟨hRsplit, hl, hbef⟩
        clear hl HNE hR0 hRsplit hbef
        by_cases hls : l.s = c.s
        · have hls2 : (l.s == c.s) = true := by simpa using hls
          go_upto_region 6 with (first | (refine load_wheel (T := 76) (g := g0) rfl rfl rfl HE.out Try.underlying76 rfl info_circle ?_; clear HE) | (refine store_new (ty := 76) rfl rfl rfl rfl zero9 info_circle ?_))
          show Code.wp _ _ _ _ (wr.alloc (.cells (vec 9 (wf c)) 76))
          generalize wr.alloc (.cells (vec 9 (wf c)) 76) = W at *
          generalize wr.heap.size = b at *
          refine wp_region_held_drew (S := fun w' => w' = W.drew) (by kernel_rfl) rfl (fun hHeld => ?_)
          refine wpAnyH_take (i := 0) (oi := _) (v := .int .i64 m) rfl (by kernel_rfl) (by kernel_rfl) (by kernel_rfl) (fun _ _ _ h => h) (Or.inl ⟨by rfl, fun w h => by go_simp⟩) hHeld ?_
          try simp only [Act.put, List.setIfInBounds_toArray, List.set_cons_zero, List.set_cons_succ, List.getElem_toArray, List.getElem_cons_succ, List.getElem_cons_zero]
          refine wpAnyH_take (i := 1) (oi := _) (v := .bool false) rfl (by kernel_rfl) (by kernel_rfl) (by kernel_rfl) (fun _ _ _ h => h) (Or.inl ⟨by rfl, fun w h => by go_simp⟩) hHeld ?_
          try simp only [Act.put, List.setIfInBounds_toArray, List.set_cons_zero, List.set_cons_succ, List.getElem_toArray, List.getElem_cons_succ, List.getElem_cons_zero]
          refine wpAnyH_take (i := 2) (oi := _) (v := .bool false) rfl (by kernel_rfl) (by kernel_rfl) (by kernel_rfl) (fun _ _ _ h => h) (Or.inl ⟨by rfl, fun w h => by go_simp⟩) hHeld ?_
          try simp only [Act.put, List.setIfInBounds_toArray, List.set_cons_zero, List.set_cons_succ, List.getElem_toArray, List.getElem_cons_succ, List.getElem_cons_zero]
          refine wpAnyH_take (i := 3) (oi := _) (v := .slice (some ⟨g, 0, none⟩) (m + 1) capr) rfl (by kernel_rfl) (by kernel_rfl) (by kernel_rfl) (fun _ _ _ h => h) (Or.inl ⟨by rfl, fun w h => by go_simp⟩) hHeld ?_
          try simp only [Act.put, List.setIfInBounds_toArray, List.set_cons_zero, List.set_cons_succ, List.getElem_toArray, List.getElem_cons_succ, List.getElem_cons_zero]
          refine wpAnyH_take (i := 4) (oi := _) (v := .int .i64 m) rfl (by kernel_rfl) (by kernel_rfl) (by kernel_rfl) (fun _ _ _ h => h) (Or.inl ⟨by rfl, fun w h => by go_simp⟩) hHeld ?_
          try simp only [Act.put, List.setIfInBounds_toArray, List.set_cons_zero, List.set_cons_succ, List.getElem_toArray, List.getElem_cons_succ, List.getElem_cons_zero]
          refine wpAnyH_take (i := 5) (oi := _) (v := .pointer (some ⟨g, m * 9, none⟩)) rfl (by kernel_rfl) (by kernel_rfl) (by kernel_rfl) (fun _ _ _ h => h) (Or.inl ⟨by rfl, fun w h => by go_simp⟩) hHeld ?_
          try simp only [Act.put, List.setIfInBounds_toArray, List.set_cons_zero, List.set_cons_succ, List.getElem_toArray, List.getElem_cons_succ, List.getElem_cons_zero]
          refine wpAnyH_take (i := 6) (oi := _) (v := .pointer (some ⟨g, m * 9, none⟩)) rfl (by kernel_rfl) (by kernel_rfl) (by kernel_rfl) (fun _ _ _ h => h) (Or.inl ⟨by rfl, fun w h => by go_simp⟩) hHeld ?_
          try simp only [Act.put, List.setIfInBounds_toArray, List.set_cons_zero, List.set_cons_succ, List.getElem_toArray, List.getElem_cons_succ, List.getElem_cons_zero]
          refine wpAnyH_take (i := 7) (oi := _) (v := .int .i64 l.s) rfl (by kernel_rfl) (by kernel_rfl) (by kernel_rfl) (fun _ _ _ h => h) (Or.inl ⟨by rfl, fun w h => by have hcell := (show W.drew.cell? ⟨g, m * 9, none⟩ = some (.int .i64 l.s) from range_speed HG.out); go_simp⟩) hHeld ?_
          try simp only [Act.put, List.setIfInBounds_toArray, List.set_cons_zero, List.set_cons_succ, List.getElem_toArray, List.getElem_cons_succ, List.getElem_cons_zero]
          refine wpAnyH_take (i := 8) (oi := _) (v := .pointer (some ⟨b, 0, none⟩)) rfl (by kernel_rfl) (by kernel_rfl) (by kernel_rfl) (fun _ _ _ h => h) (Or.inl ⟨by rfl, fun w h => by go_simp⟩) hHeld ?_
          try simp only [Act.put, List.setIfInBounds_toArray, List.set_cons_zero, List.set_cons_succ, List.getElem_toArray, List.getElem_cons_succ, List.getElem_cons_zero]
          refine wpAnyH_take (i := 9) (oi := _) (v := .int .i64 c.s) rfl (by kernel_rfl) (by kernel_rfl) (by kernel_rfl) (fun _ _ _ h => h) (Or.inl ⟨by rfl, fun w h => by have hcell := (show W.drew.cell? ⟨b, 0, none⟩ = some (.int .i64 c.s) from row_speed HW.out); go_simp⟩) hHeld ?_
          try simp only [Act.put, List.setIfInBounds_toArray, List.set_cons_zero, List.set_cons_succ, List.getElem_toArray, List.getElem_cons_succ, List.getElem_cons_zero]
          refine wpAnyH_take (i := 10) (oi := _) (v := .bool false) rfl (by kernel_rfl) (by kernel_rfl) (by kernel_rfl) (fun _ _ _ h => h) (Or.inl ⟨by rfl, fun w h => by go_simp⟩) hHeld ?_
          try simp only [Act.put, List.setIfInBounds_toArray, List.set_cons_zero, List.set_cons_succ, List.getElem_toArray, List.getElem_cons_succ, List.getElem_cons_zero]
          refine wpAnyH_take (i := 11) (oi := _) (v := .bool false) rfl (by kernel_rfl) (by kernel_rfl) (by kernel_rfl) (fun _ _ _ h => h) (Or.inl ⟨by rfl, fun w h => by go_simp⟩) hHeld ?_
          try simp only [Act.put, List.setIfInBounds_toArray, List.set_cons_zero, List.set_cons_succ, List.getElem_toArray, List.getElem_cons_succ, List.getElem_cons_zero]
          clear hHeld
          refine wpAnyH_done (by kernel_rfl) ?_ _
          have HO3 : Aside (Own W.drew w.heap.size 76 (.slice (some ⟨g, 0, none⟩) (m + 1) capr) R) := (show Own W _ _ _ _ from by
            have e : Value.slice (some ⟨g, 0, none⟩) R.length capr = Value.slice (some ⟨g, 0, none⟩) (m + 1) capr := by rw [hm]
            rw [← e]; exact HO.out)
          have HW3 : Aside (RowAt W.drew b 9 76 (wf c)) := HW.out.drew1
          have HL3 : Aside (Below w.heap.size w W.drew) := HL.out.drew
          have HG3 : Aside (W.drew.rangeAt g (m * 9) (enc l)) := HG.out
          have HZ4 : Aside (g < W.drew.heap.size ∧ b < W.drew.heap.size) := ⟨by have := (own_block HO3.out g rfl); exact (HO3.out.lt g rfl).2, HZ2.out⟩
          clear HW HL HZ HO HG HZ2
          generalize W.drew = W3 at *
          have PL := fun w => plusV l.r c.r ((HFA.out.2.2.1 l (List.mem_of_getElem? HSP.out.2.1)).mono (by omega)) (HCB.out.mono (by omega)) w
          have TD := fun w => validV (V.add l.r c.r) w
          go_upto_region 8 with fail
          refine wp_region_held_drew (S := fun w' => Below W3.heap.size W3 w') (by kernel_rfl) (Below.refl _ _).drew (fun hHeld => ?_)
          refine wpAnyH_take (i := 0) (oi := _) (v := .slice (some ⟨g, 0, none⟩) (m + 1) capr) rfl (by kernel_rfl) (by kernel_rfl) (by kernel_rfl) (fun _ _ _ h => h) (Or.inl ⟨by rfl, fun w h => by go_simp⟩) hHeld ?_
          try simp only [Act.put, List.setIfInBounds_toArray, List.set_cons_zero, List.set_cons_succ, List.getElem_toArray, List.getElem_cons_succ, List.getElem_cons_zero]
          refine wpAnyH_take (i := 1) (oi := _) (v := .int .i64 m) rfl (by kernel_rfl) (by kernel_rfl) (by kernel_rfl) (fun _ _ _ h => h) (Or.inl ⟨by rfl, fun w h => by go_simp⟩) hHeld ?_
          try simp only [Act.put, List.setIfInBounds_toArray, List.set_cons_zero, List.set_cons_succ, List.getElem_toArray, List.getElem_cons_succ, List.getElem_cons_zero]
          refine wpAnyH_take (i := 2) (oi := _) (v := .pointer (some ⟨g, m * 9, none⟩)) rfl (by kernel_rfl) (by kernel_rfl) (by kernel_rfl) (fun _ _ _ h => h) (Or.inl ⟨by rfl, fun w h => by go_simp⟩) hHeld ?_
          try simp only [Act.put, List.setIfInBounds_toArray, List.set_cons_zero, List.set_cons_succ, List.getElem_toArray, List.getElem_cons_succ, List.getElem_cons_zero]
          refine wpAnyH_take (i := 3) (oi := _) (v := .pointer (some ⟨g, m * 9 + 1, none⟩)) rfl (by kernel_rfl) (by kernel_rfl) (by kernel_rfl) (fun _ _ _ h => h) (Or.inl ⟨by rfl, fun w h => by go_simp⟩) hHeld ?_
          try simp only [Act.put, List.setIfInBounds_toArray, List.set_cons_zero, List.set_cons_succ, List.getElem_toArray, List.getElem_cons_succ, List.getElem_cons_zero]
          refine wpAnyH_take (i := 4) (oi := _) (v := .agg (vec 8 l.r.up)) rfl (by kernel_rfl) (by kernel_rfl) (by kernel_rfl) (fun _ _ _ h => h) (yieldsIf_load_mid (by rfl) _ _ rfl _ _ rfl _ _ ((fun w h => range_below (range_radius HG3.out) HZ4.out.1 h)) Try.underlying74 rfl (size_exact8 _)) hHeld ?_
          try simp only [Act.put, List.setIfInBounds_toArray, List.set_cons_zero, List.set_cons_succ, List.getElem_toArray, List.getElem_cons_succ, List.getElem_cons_zero]
          refine wpAnyH_take (i := 5) (oi := _) (v := .pointer (some ⟨b, 1, none⟩)) rfl (by kernel_rfl) (by kernel_rfl) (by kernel_rfl) (fun _ _ _ h => h) (Or.inl ⟨by rfl, fun w h => by go_simp⟩) hHeld ?_
          try simp only [Act.put, List.setIfInBounds_toArray, List.set_cons_zero, List.set_cons_succ, List.getElem_toArray, List.getElem_cons_succ, List.getElem_cons_zero]
          refine wpAnyH_take (i := 6) (oi := _) (v := .agg (vec 8 c.r.up)) rfl (by kernel_rfl) (by kernel_rfl) (by kernel_rfl) (fun _ _ _ h => h) (yieldsIf_load_mid (by rfl) _ _ rfl _ _ rfl _ _ ((fun w h => range_below (row_radius HW3.out) HZ4.out.2 h)) Try.underlying74 rfl (size_exact8 _)) hHeld ?_
          try simp only [Act.put, List.setIfInBounds_toArray, List.set_cons_zero, List.set_cons_succ, List.getElem_toArray, List.getElem_cons_succ, List.getElem_cons_zero]
          refine wpAnyH_ready (rs := [7, 8]) (by kernel_rfl) (by simp) ?_
          refine AllReadyH.cons (o := _) rfl (fun K hK => ?_) (AllReadyH.cons (o := _) rfl (fun K hK => ?_) AllReadyH.nil)
          · go_simp
            refine (PL _).mono ?_; rintro e w5 ⟨rfl, hb5⟩
            go_wp2_with fail
            refine hK.out _ _ (below_next hHeld hb5) (fun hHeld => ?_)
            clear hK K
            try simp only [Act.put, List.setIfInBounds_toArray, List.set_cons_zero, List.set_cons_succ, List.getElem_toArray, List.getElem_cons_succ, List.getElem_cons_zero]
            clear hb5 PL
            refine wpAnyH_ready (rs := [8]) (by kernel_rfl) (by simp) ?_
            refine AllReadyH.cons (o := _) rfl (fun K hK => ?_) AllReadyH.nil
            rw [if_pos (by rfl)]
            go_simp
            have hG : RowAt (w5.alloc (.cells #[.int .i64 0, .int .i64 0, .int .i64 0, .int .i64 0, .int .i64 0, .int .i64 0, .int .i64 0, .int .i64 0] 74)) w5.heap.size 8 74 nul := RowAt.newAt zero8 rfl
            have hgz : W3.heap.size ≤ w5.heap.size := hHeld.size
            refine hK.out _ _ (hHeld.alloc hgz _) (fun hHeld => ?_)
            clear hK K
            try simp only [Act.put, List.setIfInBounds_toArray, List.set_cons_zero, List.set_cons_succ, List.getElem_toArray, List.getElem_cons_succ, List.getElem_cons_zero]
            refine wpAnyH_ready (rs := [9]) (by kernel_rfl) (by simp) ?_
            refine AllReadyH.cons (o := _) rfl (fun K hK => ?_) AllReadyH.nil
            rw [if_pos (by rfl)]
            refine store_step (f' := (V.add l.r c.r).up) rfl rfl rfl hG info_exact ?_
            have hG2 := hG.setRow (f' := (V.add l.r c.r).up)
            refine hK.out _ _ (below_setRow hHeld hgz _) (fun hHeld => ?_)
            clear hK K
            try simp only [Act.put, List.setIfInBounds_toArray, List.set_cons_zero, List.set_cons_succ, List.getElem_toArray, List.getElem_cons_succ, List.getElem_cons_zero]
            clear hG
            refine wpAnyH_done (by kernel_rfl) ?_ _
            have HG5 := Lib.hid hG2
            have HS5 := Lib.hid hHeld
            clear hG2 hHeld
            generalize (w5.alloc (.cells #[.int .i64 0, .int .i64 0, .int .i64 0, .int .i64 0, .int .i64 0, .int .i64 0, .int .i64 0, .int .i64 0] 74)).setRow w5.heap.size (vec 8 (V.add l.r c.r).up) = W6 at *
            cases hok : okv (V.add l.r c.r)
            · rw [hok] at TD
              go_wp2_with (first | (refine load_row (ty := 74) (g := w5.heap.size) rfl rfl rfl HG5.out Try.underlying74 rfl info_exact ?_; clear HG5))
              refine (TD _).mono ?_; rintro e w7 ⟨rfl, hb7⟩
              have HB7 := Lib.hid (below_next HL3.out (below_next HS5.out hb7))
              clear hb7 TD
              go_wp2
              go_ret2
              have h1 := HFA.out.2.2.2
              rw [HD.out] at h1
              unfold run at h1
              obtain ⟨e1, e2⟩ := ins_eq c l hls (R.take m) (fun d hd => by have := HSP.out.2.2 d hd; omega)
              rw [← HSP.out.1] at e1 e2
              rw [e2, hok] at h1
              simp only [Bool.false_eq_true, if_false] at h1
              rw [← h1]
              exact ⟨HB7.out, _, rfl, own_nil _ _ _⟩
            · rw [hok] at TD
              go_wp2_with (first | (refine load_row (ty := 74) (g := w5.heap.size) rfl rfl rfl HG5.out Try.underlying74 rfl info_exact ?_))
              refine (TD _).mono ?_; rintro e w7 ⟨rfl, hb7⟩
              have hb8 : Below W6.heap.size W6 w7 := hb7
              have HG8 : Aside (RowAt w7 (w5.heap.size) 8 74 (V.add l.r c.r).up) := HG5.out.below hb8
              have hb9 := below_next HS5.out hb8
              have hb10 := below_next HL3.out hb9
              have ho := own_below HO3.out hb9
              have ht := own_there (k := m) (o := 1) (n := 8) (ws := R) (cap := capr) (g := g) (by rw [hm]; exact ho) (by omega) (by omega)
              have HT8 := Lib.hid ht
              have hn := own_radius (V.add l.r c.r) (k := m) (c := l) (ws := R) (cap := capr) (g := g) (by rw [hm]; exact ho) HSP.out.2.1
              rw [hm] at hn
              have HN : Aside (Own (World.setCells _ g (m * 9 + 1) (lst 8 (V.add l.r c.r).up)) w.heap.size 76 (.slice (some ⟨g, 0, none⟩) (m + 1) capr) (R.set m ⟨l.s, V.add l.r c.r⟩)) := (show World.ownsRow _ _ _ _ _ (R.set m ⟨l.s, V.add l.r c.r⟩).length _ from by
                rw [show (R.set m ⟨l.s, V.add l.r c.r⟩).length = m + 1 from by rw [List.length_set, hm]]; exact hn)
              have HBN := Lib.hid (below_setCells (G := g) hgB (lst 8 (V.add l.r c.r).up) (m * 9 + 1) _ hb10)
              clear hb7 hb8 hb9 hb10 ho ht hn TD HG5
              go_wp2_with (first | (refine load_row (ty := 74) (g := w5.heap.size) rfl rfl rfl HG8.out Try.underlying74 rfl info_exact ?_; clear HG8) | (refine store_part (ty := 74) (g := g) (p := m * 9 + 1) (f := (V.add l.r c.r).up) rfl rfl rfl rfl HT8.out info_exact ?_; clear HT8))
              go_roundw
              case rel =>
                have hset : R.set m ⟨l.s, V.add l.r c.r⟩ = R.take m ++ [⟨l.s, V.add l.r c.r⟩] := by
                  conv => lhs; rw [HSP.out.1]
                  rw [List.set_append_right _ _ (by rw [List.length_take]; omega), List.length_take, Nat.min_eq_left (by omega), Nat.sub_self]
                  rfl
                have hRR := HSP.out.1
                refine ⟨k + 1, R.set m ⟨l.s, V.add l.r c.r⟩, by omega, by go_num, by rw [List.length_set]; omega, HN.out, ⟨?_, ?_, ?_, ?_⟩, HBN.out, Nat.le_trans (Nat.le_refl _) HBN.out.size⟩
                · rw [hset]
                  refine List.pairwise_append.2 ⟨?_, by simp, fun a h1 b h2 => ?_⟩
                  · have ha := HFA.out.1
                    rw [hRR] at ha
                    exact (List.pairwise_append.1 ha).1
                  · rw [List.mem_singleton.1 h2]; exact HSP.out.2.2 a h1
                · rw [hset]
                  intro d hd e he
                  rcases List.mem_append.1 hd with h | h
                  · exact HFA.out.2.1 d (by rw [hRR]; exact List.mem_append_left _ h) e (by rw [HD.out]; exact List.mem_cons_of_mem _ he)
                  · rw [List.mem_singleton.1 h]
                    exact HFA.out.2.1 l (by rw [hRR]; simp) e (by rw [HD.out]; exact List.mem_cons_of_mem _ he)
                · rw [hset]
                  intro d hd
                  rcases List.mem_append.1 hd with h | h
                  · exact HFA.out.2.2.1 d (by rw [hRR]; exact List.mem_append_left _ h)
                  · rw [List.mem_singleton.1 h]; exact (big_ok hok).mono (by omega)
                · have h1 := HFA.out.2.2.2
                  rw [HD.out] at h1
                  unfold run at h1
                  obtain ⟨e1, e2⟩ := ins_eq c l hls (R.take m) (fun d hd => by have := HSP.out.2.2 d hd; omega)
                  rw [← hRR] at e1 e2
                  rw [e2, hok, if_pos rfl, e1] at h1
                  rw [hset]; exact h1
              case measure => simp [intOf]; omega
          · rw [if_pos (by rfl)]
            go_simp
            have hgz : W3.heap.size ≤ W3.heap.size := Nat.le_refl _
            have hG : RowAt (W3.drew.alloc (.cells #[.int .i64 0, .int .i64 0, .int .i64 0, .int .i64 0, .int .i64 0, .int .i64 0, .int .i64 0, .int .i64 0] 74)) W3.heap.size 8 74 nul := RowAt.newAt zero8 rfl
            refine hK.out _ _ (hHeld.alloc hgz _) (fun hHeld => ?_)
            clear hK K
            try simp only [Act.put, List.setIfInBounds_toArray, List.set_cons_zero, List.set_cons_succ, List.getElem_toArray, List.getElem_cons_succ, List.getElem_cons_zero]
            refine wpAnyH_ready (rs := [7]) (by kernel_rfl) (by simp) ?_
            refine AllReadyH.cons (o := _) rfl (fun K hK => ?_) AllReadyH.nil
            go_simp
            refine (PL _).mono ?_; rintro e w5 ⟨rfl, hb5⟩
            go_wp2_with fail
            replace hG := hG.below hb5
            refine hK.out _ _ (below_next hHeld hb5) (fun hHeld => ?_)
            clear hK K
            try simp only [Act.put, List.setIfInBounds_toArray, List.set_cons_zero, List.set_cons_succ, List.getElem_toArray, List.getElem_cons_succ, List.getElem_cons_zero]
            clear hb5 PL
            refine wpAnyH_ready (rs := [9]) (by kernel_rfl) (by simp) ?_
            refine AllReadyH.cons (o := _) rfl (fun K hK => ?_) AllReadyH.nil
            rw [if_pos (by rfl)]
            refine store_step (f' := (V.add l.r c.r).up) rfl rfl rfl hG info_exact ?_
            have hG2 := hG.setRow (f' := (V.add l.r c.r).up)
            refine hK.out _ _ (below_setRow hHeld hgz _) (fun hHeld => ?_)
            clear hK K
            try simp only [Act.put, List.setIfInBounds_toArray, List.set_cons_zero, List.set_cons_succ, List.getElem_toArray, List.getElem_cons_succ, List.getElem_cons_zero]
            clear hG
            refine wpAnyH_done (by kernel_rfl) ?_ _
            have HG5 := Lib.hid hG2
            have HS5 := Lib.hid hHeld
            clear hG2 hHeld
            generalize w5.setRow W3.heap.size (vec 8 (V.add l.r c.r).up) = W6 at *
            cases hok : okv (V.add l.r c.r)
            · rw [hok] at TD
              go_wp2_with (first | (refine load_row (ty := 74) (g := W3.heap.size) rfl rfl rfl HG5.out Try.underlying74 rfl info_exact ?_; clear HG5))
              refine (TD _).mono ?_; rintro e w7 ⟨rfl, hb7⟩
              have HB7 := Lib.hid (below_next HL3.out (below_next HS5.out hb7))
              clear hb7 TD
              go_wp2
              go_ret2
              have h1 := HFA.out.2.2.2
              rw [HD.out] at h1
              unfold run at h1
              obtain ⟨e1, e2⟩ := ins_eq c l hls (R.take m) (fun d hd => by have := HSP.out.2.2 d hd; omega)
              rw [← HSP.out.1] at e1 e2
              rw [e2, hok] at h1
              simp only [Bool.false_eq_true, if_false] at h1
              rw [← h1]
              exact ⟨HB7.out, _, rfl, own_nil _ _ _⟩
            · rw [hok] at TD
              go_wp2_with (first | (refine load_row (ty := 74) (g := W3.heap.size) rfl rfl rfl HG5.out Try.underlying74 rfl info_exact ?_))
              refine (TD _).mono ?_; rintro e w7 ⟨rfl, hb7⟩
              have hb8 : Below W6.heap.size W6 w7 := hb7
              have HG8 : Aside (RowAt w7 (W3.heap.size) 8 74 (V.add l.r c.r).up) := HG5.out.below hb8
              have hb9 := below_next HS5.out hb8
              have hb10 := below_next HL3.out hb9
              have ho := own_below HO3.out hb9
              have ht := own_there (k := m) (o := 1) (n := 8) (ws := R) (cap := capr) (g := g) (by rw [hm]; exact ho) (by omega) (by omega)
              have HT8 := Lib.hid ht
              have hn := own_radius (V.add l.r c.r) (k := m) (c := l) (ws := R) (cap := capr) (g := g) (by rw [hm]; exact ho) HSP.out.2.1
              rw [hm] at hn
              have HN : Aside (Own (World.setCells _ g (m * 9 + 1) (lst 8 (V.add l.r c.r).up)) w.heap.size 76 (.slice (some ⟨g, 0, none⟩) (m + 1) capr) (R.set m ⟨l.s, V.add l.r c.r⟩)) := (show World.ownsRow _ _ _ _ _ (R.set m ⟨l.s, V.add l.r c.r⟩).length _ from by
                rw [show (R.set m ⟨l.s, V.add l.r c.r⟩).length = m + 1 from by rw [List.length_set, hm]]; exact hn)
              have HBN := Lib.hid (below_setCells (G := g) hgB (lst 8 (V.add l.r c.r).up) (m * 9 + 1) _ hb10)
              clear hb7 hb8 hb9 hb10 ho ht hn TD HG5
              go_wp2_with (first | (refine load_row (ty := 74) (g := W3.heap.size) rfl rfl rfl HG8.out Try.underlying74 rfl info_exact ?_; clear HG8) | (refine store_part (ty := 74) (g := g) (p := m * 9 + 1) (f := (V.add l.r c.r).up) rfl rfl rfl rfl HT8.out info_exact ?_; clear HT8))
              go_roundw
              case rel =>
                have hset : R.set m ⟨l.s, V.add l.r c.r⟩ = R.take m ++ [⟨l.s, V.add l.r c.r⟩] := by
                  conv => lhs; rw [HSP.out.1]
                  rw [List.set_append_right _ _ (by rw [List.length_take]; omega), List.length_take, Nat.min_eq_left (by omega), Nat.sub_self]
                  rfl
                have hRR := HSP.out.1
                refine ⟨k + 1, R.set m ⟨l.s, V.add l.r c.r⟩, by omega, by go_num, by rw [List.length_set]; omega, HN.out, ⟨?_, ?_, ?_, ?_⟩, HBN.out, Nat.le_trans (Nat.le_refl _) HBN.out.size⟩
                · rw [hset]
                  refine List.pairwise_append.2 ⟨?_, by simp, fun a h1 b h2 => ?_⟩
                  · have ha := HFA.out.1
                    rw [hRR] at ha
                    exact (List.pairwise_append.1 ha).1
                  · rw [List.mem_singleton.1 h2]; exact HSP.out.2.2 a h1
                · rw [hset]
                  intro d hd e he
                  rcases List.mem_append.1 hd with h | h
                  · exact HFA.out.2.1 d (by rw [hRR]; exact List.mem_append_left _ h) e (by rw [HD.out]; exact List.mem_cons_of_mem _ he)
                  · rw [List.mem_singleton.1 h]
                    exact HFA.out.2.1 l (by rw [hRR]; simp) e (by rw [HD.out]; exact List.mem_cons_of_mem _ he)
                · rw [hset]
                  intro d hd
                  rcases List.mem_append.1 hd with h | h
                  · exact HFA.out.2.2.1 d (by rw [hRR]; exact List.mem_append_left _ h)
                  · rw [List.mem_singleton.1 h]; exact (big_ok hok).mono (by omega)
                · have h1 := HFA.out.2.2.2
                  rw [HD.out] at h1
                  unfold run at h1
                  obtain ⟨e1, e2⟩ := ins_eq c l hls (R.take m) (fun d hd => by have := HSP.out.2.2 d hd; omega)
                  rw [← hRR] at e1 e2
                  rw [e2, hok, if_pos rfl, e1] at h1
                  rw [hset]; exact h1
              case measure => simp [intOf]; omega
        · have hls2 : (l.s == c.s) = false := by simpa using hls
          have HLT : Aside (∀ d ∈ R, d.s < c.s) := (show ∀ d ∈ R, d.s < c.s from fun d hd => by
            rw [HSP.out.1] at hd
            rcases List.mem_append.1 hd with h | h
            · have := HSP.out.2.2 d h; omega
            · rw [List.mem_singleton.1 h]; omega)
          go_upto_region 6 with (first | (refine load_wheel (T := 76) (g := g0) rfl rfl rfl HE.out Try.underlying76 rfl info_circle ?_; clear HE) | (refine store_new (ty := 76) rfl rfl rfl rfl zero9 info_circle ?_))
          show Code.wp _ _ _ _ (wr.alloc (.cells (vec 9 (wf c)) 76))
          generalize wr.alloc (.cells (vec 9 (wf c)) 76) = W at *
          generalize wr.heap.size = b at *
          refine wp_region_held_drew (S := fun w' => w' = W.drew) (by kernel_rfl) rfl (fun hHeld => ?_)
          refine wpAnyH_take (i := 0) (oi := _) (v := .int .i64 m) rfl (by kernel_rfl) (by kernel_rfl) (by kernel_rfl) (fun _ _ _ h => h) (Or.inl ⟨by rfl, fun w h => by go_simp⟩) hHeld ?_
          try simp only [Act.put, List.setIfInBounds_toArray, List.set_cons_zero, List.set_cons_succ, List.getElem_toArray, List.getElem_cons_succ, List.getElem_cons_zero]
          refine wpAnyH_take (i := 1) (oi := _) (v := .bool false) rfl (by kernel_rfl) (by kernel_rfl) (by kernel_rfl) (fun _ _ _ h => h) (Or.inl ⟨by rfl, fun w h => by go_simp⟩) hHeld ?_
          try simp only [Act.put, List.setIfInBounds_toArray, List.set_cons_zero, List.set_cons_succ, List.getElem_toArray, List.getElem_cons_succ, List.getElem_cons_zero]
          refine wpAnyH_take (i := 2) (oi := _) (v := .bool false) rfl (by kernel_rfl) (by kernel_rfl) (by kernel_rfl) (fun _ _ _ h => h) (Or.inl ⟨by rfl, fun w h => by go_simp⟩) hHeld ?_
          try simp only [Act.put, List.setIfInBounds_toArray, List.set_cons_zero, List.set_cons_succ, List.getElem_toArray, List.getElem_cons_succ, List.getElem_cons_zero]
          refine wpAnyH_take (i := 3) (oi := _) (v := .slice (some ⟨g, 0, none⟩) (m + 1) capr) rfl (by kernel_rfl) (by kernel_rfl) (by kernel_rfl) (fun _ _ _ h => h) (Or.inl ⟨by rfl, fun w h => by go_simp⟩) hHeld ?_
          try simp only [Act.put, List.setIfInBounds_toArray, List.set_cons_zero, List.set_cons_succ, List.getElem_toArray, List.getElem_cons_succ, List.getElem_cons_zero]
          refine wpAnyH_take (i := 4) (oi := _) (v := .int .i64 m) rfl (by kernel_rfl) (by kernel_rfl) (by kernel_rfl) (fun _ _ _ h => h) (Or.inl ⟨by rfl, fun w h => by go_simp⟩) hHeld ?_
          try simp only [Act.put, List.setIfInBounds_toArray, List.set_cons_zero, List.set_cons_succ, List.getElem_toArray, List.getElem_cons_succ, List.getElem_cons_zero]
          refine wpAnyH_take (i := 5) (oi := _) (v := .pointer (some ⟨g, m * 9, none⟩)) rfl (by kernel_rfl) (by kernel_rfl) (by kernel_rfl) (fun _ _ _ h => h) (Or.inl ⟨by rfl, fun w h => by go_simp⟩) hHeld ?_
          try simp only [Act.put, List.setIfInBounds_toArray, List.set_cons_zero, List.set_cons_succ, List.getElem_toArray, List.getElem_cons_succ, List.getElem_cons_zero]
          refine wpAnyH_take (i := 6) (oi := _) (v := .pointer (some ⟨g, m * 9, none⟩)) rfl (by kernel_rfl) (by kernel_rfl) (by kernel_rfl) (fun _ _ _ h => h) (Or.inl ⟨by rfl, fun w h => by go_simp⟩) hHeld ?_
          try simp only [Act.put, List.setIfInBounds_toArray, List.set_cons_zero, List.set_cons_succ, List.getElem_toArray, List.getElem_cons_succ, List.getElem_cons_zero]
          refine wpAnyH_take (i := 7) (oi := _) (v := .int .i64 l.s) rfl (by kernel_rfl) (by kernel_rfl) (by kernel_rfl) (fun _ _ _ h => h) (Or.inl ⟨by rfl, fun w h => by have hcell := (show W.drew.cell? ⟨g, m * 9, none⟩ = some (.int .i64 l.s) from range_speed HG.out); go_simp⟩) hHeld ?_
          try simp only [Act.put, List.setIfInBounds_toArray, List.set_cons_zero, List.set_cons_succ, List.getElem_toArray, List.getElem_cons_succ, List.getElem_cons_zero]
          refine wpAnyH_take (i := 8) (oi := _) (v := .pointer (some ⟨b, 0, none⟩)) rfl (by kernel_rfl) (by kernel_rfl) (by kernel_rfl) (fun _ _ _ h => h) (Or.inl ⟨by rfl, fun w h => by go_simp⟩) hHeld ?_
          try simp only [Act.put, List.setIfInBounds_toArray, List.set_cons_zero, List.set_cons_succ, List.getElem_toArray, List.getElem_cons_succ, List.getElem_cons_zero]
          refine wpAnyH_take (i := 9) (oi := _) (v := .int .i64 c.s) rfl (by kernel_rfl) (by kernel_rfl) (by kernel_rfl) (fun _ _ _ h => h) (Or.inl ⟨by rfl, fun w h => by have hcell := (show W.drew.cell? ⟨b, 0, none⟩ = some (.int .i64 c.s) from row_speed HW.out); go_simp⟩) hHeld ?_
          try simp only [Act.put, List.setIfInBounds_toArray, List.set_cons_zero, List.set_cons_succ, List.getElem_toArray, List.getElem_cons_succ, List.getElem_cons_zero]
          refine wpAnyH_take (i := 10) (oi := _) (v := .bool true) rfl (by kernel_rfl) (by kernel_rfl) (by kernel_rfl) (fun _ _ _ h => h) (Or.inl ⟨by rfl, fun w h => by go_simp⟩) hHeld ?_
          try simp only [Act.put, List.setIfInBounds_toArray, List.set_cons_zero, List.set_cons_succ, List.getElem_toArray, List.getElem_cons_succ, List.getElem_cons_zero]
          refine wpAnyH_take (i := 11) (oi := _) (v := .bool true) rfl (by kernel_rfl) (by kernel_rfl) (by kernel_rfl) (fun _ _ _ h => h) (Or.inl ⟨by rfl, fun w h => by go_simp⟩) hHeld ?_
          try simp only [Act.put, List.setIfInBounds_toArray, List.set_cons_zero, List.set_cons_succ, List.getElem_toArray, List.getElem_cons_succ, List.getElem_cons_zero]
          clear hHeld
          refine wpAnyH_done (by kernel_rfl) ?_ _
          have HO3 : Aside (Own W.drew w.heap.size 76 (.slice (some ⟨g, 0, none⟩) (m + 1) capr) R) := (show Own W _ _ _ _ from by
            have e : Value.slice (some ⟨g, 0, none⟩) R.length capr = Value.slice (some ⟨g, 0, none⟩) (m + 1) capr := by rw [hm]
            rw [← e]; exact HO.out)
          have HW3 : Aside (RowAt W.drew b 9 76 (wf c)) := HW.out.drew1
          have HL3 : Aside (Below w.heap.size w W.drew) := HL.out.drew
          have HZ3 : Aside (w.heap.size ≤ W.drew.heap.size) := HZ.out
          clear HW HL HZ HO
          generalize W.drew = W3 at *
          go_wp2_with (first | (refine load_row (ty := 76) (g := b) rfl rfl rfl HW3.out Try.underlying76 rfl info_circle ?_; clear HW3) | (refine one9 tyC rfl rfl rfl ?_) |
            (refine append9 tyC rfl rfl (v := .slice (some ⟨g, 0, none⟩) (m + 1) capr) (xs := R) rfl rfl (HO3.out.alloc _) (reads_lit _ _ _) (by simp; omega) (HL3.out.alloc HZ3.out _) (by simp; have := HZ3.out; omega) ?_; intro v2 w4 ho4 hb4 hB4))
          go_roundw
          case rel =>
            refine ⟨k + 1, R ++ [c], by omega, by go_num, by simp; omega, ho4, ⟨?_, ?_, ?_, ?_⟩, hb4, hB4⟩
            · have ha := HFA.out.1
              refine List.pairwise_append.2 ⟨ha, by simp, fun a h1 b h2 => ?_⟩
              rw [List.mem_singleton.1 h2]; exact HLT.out a h1
            · have hpw := HS.out
              intro d hd e he
              rcases List.mem_append.1 hd with h | h
              · exact HFA.out.2.1 d h e (by rw [HD.out]; exact List.mem_cons_of_mem _ he)
              · rw [List.mem_singleton.1 h]
                have := hpw.drop (i := k)
                rw [HD.out] at this
                exact (List.pairwise_cons.1 this).1 e he
            · intro d hd
              rcases List.mem_append.1 hd with h | h
              · exact HFA.out.2.2.1 d h
              · rw [List.mem_singleton.1 h]; exact HCB.out
            · have h1 := HFA.out.2.2.2
              rw [HD.out] at h1
              unfold run at h1
              obtain ⟨e1, e2⟩ := ins_end c R HLT.out
              rw [e2, if_pos rfl, e1] at h1
              exact h1
          case measure => simp [intOf]; omega
    · obtain rfl : k = ws.length := by omega
      have HO := Lib.hid hO
      have HL := Lib.hid hbel
      have HF := Lib.hid hfacts
      clear hO hbel hfacts hB
      go_wp2
      go_ret2
      have h1 := HF.out.2.2.2
      rw [List.drop_length] at h1
      simp only [run] at h1
      rw [← h1]
      exact ⟨HL.out, _, rfl, HO.out⟩

end Go.Proofs.Ytbdhbkedeglagaa
/- impl: tidy designs; designs changed. -/
namespace Go.Proofs.Ytbdhbkedeglagaa
set_option maxRecDepth 20000
open Go.ChangeShapes Go.WideShapes Go.ChangeAt Go.RowKit
set_option linter.unusedVariables false
set_option linter.unusedSimpArgs false

/-- What a function hands back that answers with a design, and true. -/
def Told (w : World) (o : Option (List Wh)) (e : Ending) (w' : World) : Prop :=
  Below w.heap.size w w' ∧ ∃ v', e = .returned (.tuple #[v', .bool o.isSome]) ∧ Own w' w.heap.size 67 v' (got o)
theorem ins_len (c : Wh) : ∀ out : List Wh, (ins out c).length ≤ out.length + 1
  | [] => by simp [ins]
  | d :: out => by
    unfold ins
    have := ins_len c out
    split
    · simp only [List.length_cons]; omega
    · split <;> simp
theorem run_len (b : Bool) : ∀ (ws out R : List Wh), run b out ws = some R → R.length ≤ out.length + ws.length
  | [], out, R, h => by
    simp only [run, Option.some.injEq] at h
    rw [h]; simp
  | c :: ws, out, R, h => by
    unfold run at h
    split at h
    · have h1 := run_len b ws _ R h
      have h2 := ins_len c out
      simp only [List.length_cons]; omega
    · cases h
theorem sortOf_big {ws L : List Wh} {B : Int} (h : SortOf ws L) (hb : ∀ c ∈ ws, Big c.r B) : ∀ c ∈ L, Big c.r B := fun c hc => by
  have h1 : c.r ∈ pre c.s L := List.mem_map.2 ⟨c, List.mem_filter.2 ⟨hc, by simp⟩, rfl⟩
  rw [h.1] at h1
  obtain ⟨d, hd, e⟩ := List.mem_map.1 h1
  rw [← e]; exact hb d (List.mem_filter.1 hd).1
theorem got_some (l : List Wh) : got (some l) = l := rfl
theorem got_none : got none = [] := rfl

set_option maxHeartbeats 1000000 in
theorem tidy_any (v : Value) (B : Nat) (ws : List Wh) (w : World) (ho : Own w B 76 v ws) (hn : ws.length ≤ sortMost) (hs : sortMost ≤ 1000) (hbig : ∀ c ∈ ws, Big c.r 4000000) :
    Calls Try.prog 40 #[v] w (Told w (tidy false ws)) := by
  have C := Lib.hid (sorted_any v B ws w ho hn)
  have HBG := Lib.hid hbig
  clear ho hbig
  go_enter Try.func40, Try.ntmps40
  go_wp2_with fail
  refine C.out.mono ?_; rintro e w1 ⟨hb1, v1, L, rfl, hso, ho1⟩
  have J := joined_any v1 L w1 (own_reads ho1) (by rw [hso.2.2]; omega) hso.2.1 (sortOf_big hso HBG.out)
  have ht : tidy false ws = (run false [] L).bind done := (tidy_same hso.1).symm
  have HL : Aside (L.length ≤ 1000) := (show L.length ≤ 1000 from by rw [hso.2.2]; omega)
  have HB1 := Lib.hid hb1
  have HT := Lib.hid ht
  clear hso ho1 hb1 C HBG ht
  cases hr : run false [] L with
  | none =>
    rw [hr] at J
    have HT2 : Aside (tidy false ws = none) := (show tidy false ws = none from by rw [HT.out, hr]; rfl)
    have J := Lib.hid J
    clear hr HL HT
    go_wp2_with fail
    refine J.out.mono ?_; rintro e w2 ⟨hb2, v2, rfl, ho2⟩
    have HB2 := Lib.hid (below_next HB1.out hb2)
    clear J hb2 ho2 HB1
    go_wp2
    go_ret2
    rw [HT2.out]
    exact ⟨HB2.out, _, rfl, own_nil _ _ _⟩
  | some R =>
    rw [hr] at J
    have HT2 : Aside (tidy false ws = done R) := (show tidy false ws = done R from by rw [HT.out, hr]; rfl)
    have HRL : Aside (R.length ≤ 1000000) := (show R.length ≤ 1000000 from by
      have h1 := run_len false L [] R hr
      have h2 := HL.out
      simp only [List.length_nil] at h1
      omega)
    have J := Lib.hid J
    clear hr HL HT
    go_wp2_with fail
    refine J.out.mono ?_; rintro e w2 ⟨hb2, v2, rfl, ho2⟩
    rw [got_some] at ho2
    have D := Lib.hid (deleteZ_any v2 w1.heap.size R w2 ho2 HRL.out hb2.size)
    have HB2 := Lib.hid hb2
    clear J hb2 ho2 HRL
    go_wp2_with fail
    refine D.out.mono ?_; rintro e w3 ⟨hb3, v3, rfl, ho3⟩
    have T := toldAll_any v3 (R.filter nz) w3 (own_reads ho3)
    have HB3 := Lib.hid (HB2.out.trans hb3)
    clear D hb3 ho3 HB2
    cases hv : valid (R.filter nz)
    · rw [hv, only_no] at T
      have HT3 : Aside (tidy false ws = none) := (show tidy false ws = none from by rw [HT2.out]; unfold done; rw [hv]; rfl)
      have T := Lib.hid T
      clear hv
      go_wp2_with fail
      refine T.out.mono ?_; rintro e w4 ⟨hb4, v4, rfl, ho4⟩
      have H4 := Lib.hid (show Told w none (.returned (.tuple #[v4, .bool false])) w4 from ⟨below_next HB1.out (below_next HB3.out hb4), v4, rfl, own_mono ho4 (Nat.le_trans HB1.out.size HB3.out.size)⟩)
      clear T hb4 ho4 HB1 HB3
      go_wp2
      go_ret2
      rw [HT3.out]
      exact H4.out
    · rw [hv, only_yes] at T
      have HT3 : Aside (tidy false ws = some (R.filter nz)) := (show tidy false ws = some (R.filter nz) from by rw [HT2.out]; unfold done; rw [hv]; rfl)
      have T := Lib.hid T
      clear hv
      go_wp2_with fail
      refine T.out.mono ?_; rintro e w4 ⟨hb4, v4, rfl, ho4⟩
      have H4 := Lib.hid (show Told w (some (R.filter nz)) (.returned (.tuple #[v4, .bool true])) w4 from ⟨below_next HB1.out (below_next HB3.out hb4), v4, rfl, own_mono ho4 (Nat.le_trans HB1.out.size HB3.out.size)⟩)
      clear T hb4 ho4 HB1 HB3
      go_wp2
      go_ret2
      rw [HT3.out]
      exact H4.out

/-- A design changed wheel by wheel, then tidy. -/
def dOf (f : Wh → Wh) (ws : List Wh) : Option (List Wh) := if valid ws then tidy false (ws.map f) else none
theorem valid_big {ws : List Wh} (h : valid ws = true) : ∀ c ∈ ws, Big c.r 4000000 := fun c hc => (big_ok (valid_ok h c hc).2).mono (by omega)
theorem sort_room {ws : List Wh} (h : valid ws = true) : ws.length ≤ sortMost := Nat.le_trans (valid_len h) (by decide)
theorem sort_most : sortMost ≤ 1000 := by decide

theorem DesignTidy_any (v : Value) (ws : List Wh) (w : World) (hv : Reads w v ws) : Calls Try.prog 73 #[v] w (Told w (if valid ws then tidy false ws else none)) := by
  have C := circlesOf_any v ws w hv
  clear hv
  cases hvd : valid ws
  · rw [hvd] at C
    have C := Lib.hid C
    clear hvd
    go_enter Try.func73, Try.ntmps73
    go_wp2_with fail
    refine C.out.mono ?_; rintro e w1 ⟨hb1, v1, rfl, -⟩
    have HB := Lib.hid hb1
    clear C hb1
    go_wp2
    go_ret2
    exact ⟨HB.out, _, rfl, own_nil _ _ _⟩
  · rw [hvd, only_yes] at C
    rw [if_pos rfl]
    have HR := Lib.hid (sort_room hvd)
    have HG := Lib.hid (valid_big hvd)
    have C := Lib.hid C
    clear hvd
    go_enter Try.func73, Try.ntmps73
    go_wp2_with fail
    refine C.out.mono ?_; rintro e w1 ⟨hb1, v1, rfl, ho1⟩
    have T := Lib.hid (tidy_any v1 w.heap.size ws w1 ho1 HR.out sort_most HG.out)
    have HB := Lib.hid hb1
    clear C hb1 ho1 HR HG
    generalize tidy false ws = o at *
    go_wp2_with fail
    refine T.out.mono ?_; rintro e w2 ⟨hb2, v2, rfl, ho2⟩
    have H := Lib.hid (show Told w o (.returned (.tuple #[v2, .bool o.isSome])) w2 from ⟨below_next HB.out hb2, v2, rfl, own_mono ho2 HB.out.size⟩)
    clear T hb2 ho2 HB
    go_wp2
    go_ret2
    exact H.out

/-! Function values that hold a variable. -/
theorem enters_back : ∀ args w, (callFunc 75 args).run Try.prog w = .ok (.enter 75 args) w := enters_of Try.func75 (by kernel_rfl) rfl
set_option maxHeartbeats 1000000 in
theorem changedDesign_any (F : Nat) (cb : Array Value) (f : Wh → Wh) (v : Value) (ws : List Wh) (w : World) (hv : Reads w v ws) (eg : ∀ args w, (callFunc F args).run Try.prog w = .ok (.enter F args) w)
    (hf : ∀ c, inS c.s = true → okv c.r = true → Big (f c).r 4000000 ∧ ∀ w', Below w.heap.size w w' → Calls Try.prog F (#[wh c] ++ cb) w' fun e w'' => e = .returned (wh (f c)) ∧ Below w'.heap.size w' w'') :
    Calls Try.prog 74 #[v, .func (.func F) #[] cb] w (Told w (dOf f ws)) := by
  have C := circlesOf_any v ws w hv
  clear hv
  unfold dOf
  cases hvd : valid ws
  · rw [hvd] at C
    have C := Lib.hid C
    clear hvd hf
    go_enter Try.func74, Try.ntmps74
    go_wp2_with fail
    refine C.out.mono ?_; rintro e w1 ⟨hb1, v1, rfl, -⟩
    have HB := Lib.hid hb1
    clear C hb1
    go_wp2
    go_ret2
    exact ⟨HB.out, _, rfl, own_nil _ _ _⟩
  · rw [hvd, only_yes] at C
    rw [if_pos rfl]
    have HR := Lib.hid (sort_room hvd)
    have HN := Lib.hid (valid_len hvd)
    have HG : Aside (∀ c ∈ ws.map f, Big c.r 4000000) := (show ∀ c ∈ ws.map f, Big c.r 4000000 from fun d hd => by
      obtain ⟨c, hc, rfl⟩ := List.mem_map.1 hd
      have := valid_ok hvd c hc
      exact (hf c this.1 this.2).1)
    have HF : Aside (∀ c ∈ ws, ∀ w', Below w.heap.size w w' → Calls Try.prog F (#[wh c] ++ cb) w' fun e w'' => e = .returned (wh (f c)) ∧ Below w'.heap.size w' w'') := (show ∀ c ∈ ws, ∀ w', Below w.heap.size w w' → Calls Try.prog F (#[wh c] ++ cb) w' fun e w'' => e = .returned (wh (f c)) ∧ Below w'.heap.size w' w'' from fun c hc => by
      have := valid_ok hvd c hc
      exact (hf c this.1 this.2).2)
    have C := Lib.hid C
    clear hvd hf
    go_enter Try.func74, Try.ntmps74
    go_wp2_with fail
    refine C.out.mono ?_; rintro e w1 ⟨hb1, v1, rfl, ho1⟩
    have X := Lib.hid (changed_any F cb f v1 ws w1 (own_reads ho1) (by have := HN.out; omega) eg fun c hc w' hb => HF.out c hc w' (below_next hb1 hb))
    have HB := Lib.hid hb1
    clear C hb1 ho1 HF
    go_wp2_with fail
    refine X.out.mono ?_; rintro e w2 ⟨hb2, v2, rfl, ho2⟩
    have T := Lib.hid (tidy_any v2 w1.heap.size (ws.map f) w2 ho2 (by rw [List.length_map]; exact HR.out) sort_most HG.out)
    have HB2 := Lib.hid (below_next HB.out hb2)
    clear X hb2 ho2 HB HR HG
    generalize tidy false (ws.map f) = o at *
    go_wp2_with fail
    refine T.out.mono ?_; rintro e w3 ⟨hb3, v3, rfl, ho3⟩
    have H := Lib.hid (show Told w o (.returned (.tuple #[v3, .bool o.isSome])) w3 from ⟨below_next HB2.out hb3, v3, rfl, own_mono ho3 HB2.out.size⟩)
    clear T hb3 ho3 HB2
    go_wp2
    go_ret2
    exact H.out

theorem DesignBack_any (v : Value) (ws : List Wh) (w : World) (hv : Reads w v ws) : Calls Try.prog 51 #[v] w (Told w (dOf (fastW (-1)) ws)) := by
  have C := Lib.hid (changedDesign_any 75 #[] (fastW (-1)) v ws w hv enters_back fun c h1 h2 => ⟨(big_ok h2).mono (by omega), fun w' _ => back_any c h1 w'⟩)
  clear hv
  generalize dOf (fastW (-1)) ws = o at *
  go_enter Try.func51, Try.ntmps51
  go_wp2_with fail
  refine C.out.mono ?_; rintro e w1 ⟨hb1, v1, rfl, ho1⟩
  have H := Lib.hid (show Told w o (.returned (.tuple #[v1, .bool o.isSome])) w1 from ⟨hb1, v1, rfl, ho1⟩)
  clear C hb1 ho1
  go_wp2
  go_ret2
  exact H.out

/-- Faster: only by numbers in range. -/
def dFast (n : Int) (ws : List Wh) : Option (List Wh) := if -20 ≤ n ∧ n ≤ 20 then dOf (fastW n) ws else none
theorem reads_box {w : World} {v : Value} {ws : List Wh} (h : Reads w v ws) (o : Obj) : Reads (w.alloc o) v ws := h.below ((Below.refl _ _).alloc (Nat.le_refl _) _)
theorem box_cell (w : World) (n : Int) : (w.alloc (.cells #[.int .i64 n] 3)).cell? ⟨w.heap.size, 0, none⟩ = some (.int .i64 n) :=
  (RowAt.newAt (f := fun _ => n) rfl rfl : RowAt (w.alloc (.cells #[.int .i64 n] 3)) w.heap.size 1 3 (fun _ => n)).cell (k := 0) (by omega)
theorem told_box {w : World} {b : Obj} {o : Option (List Wh)} {e : Ending} {w' : World} (h : Told (w.alloc b) o e w') : Told w o e w' := by
  obtain ⟨h1, v', h2, h3⟩ := h
  have hz : w.heap.size ≤ (w.alloc b).heap.size := by simp
  exact ⟨((Below.refl w.heap.size w).alloc (Nat.le_refl _) b).trans (h1.mono hz), v', h2, own_mono h3 hz⟩
end Go.Proofs.Ytbdhbkedeglagaa
/- The model's designs: what is a design; one wheel more. -/
namespace Go.Proofs.Ytbdhbkedeglagaa
set_option maxRecDepth 20000
open Go.ChangeShapes Go.WideShapes Go.ChangeAt Go.RowKit
set_option linter.unusedVariables false
set_option linter.unusedSimpArgs false

section
variable {P : Program} {ops : Array Oper} {rest : List Oper} {o : Oper} {a : Act} {Q : Exit → Act → World → Prop} {w : World}
/-- A radius that is read behind '&&' or '||'. -/
theorem load_part_on {T : TypeId} {d : TypeDesc} {g p : Nat} {f : Nat → Int} (hw : Region.wanted o (yielded ops a.tmps) = true) {x : Operand} (ho : o.op = .load T x) (hx : a.eval x = .pointer (some ⟨g, p, none⟩)) (hr : w.rangeAt g p (lst 8 f))
    (hu : P.underlying T = some d) (hd : d.isRow = true) (hi : (P.info? T).map (·.size) = some 8)
    (h : wpList P ops Q rest (a.put o.dst (pt f)) w) : wpList P ops Q (o :: rest) a w :=
  wpList_step fun K hK => by
    rw [if_pos hw]
    exact wp_load_mid T x ho g p hx (lst 8 f) d hr hu hd (by rw [lst_length]; exact hi) (hK _ _ h)
end

set_option maxHeartbeats 2000000 in
theorem specDesignValid_any (v : Value) (ws : List Wh) (w : World) (hv : Reads w v ws) :
    Calls Try.prog 86 #[v] w fun e w' => e = .returned (.bool (valid ws)) ∧ Below w.heap.size w w' := by
  obtain ⟨p, cap, rfl, hc1, hc2, hp0, hp⟩ := hv
  simp only [maxLen] at hc2
  by_cases hl : 12 < ws.length
  · rw [valid_long hl]
    have hlz : (12 : Int) < (ws.length : Int) := by omega
    clear hp
    go_enter Try.func86, Try.ntmps86
    go_wp2
    go_ret
    exact ⟨rfl, Below.refl _ _⟩
  · have hlz : ¬ (12 : Int) < (ws.length : Int) := by omega
    have HP := Lib.hid hp
    clear hp
    go_enter Try.func86, Try.ntmps86
    go_wp2
    go_loopw [3] (fun i wr => ∃ k : Nat, k ≤ ws.length ∧ i = .int .i64 k ∧ (ws.take k).all wOk = true ∧ Below w.heap.size w wr) (fun i _ => ws.length - (intOf i).toNat)
    case atStart => exact ⟨0, Nat.zero_le _, rfl, rfl, Below.refl _ _⟩
    case round =>
      obtain ⟨k, hk, rfl, hall, hbel⟩ := hrel
      by_cases hlt : k < ws.length
      · have hkz : (k : Int) < (ws.length : Int) := by omega
        have hk0 : (0 : Int) ≤ (k : Int) := by omega
        obtain ⟨c, hc⟩ : ∃ c, ws[k]? = some c := ⟨_, List.getElem?_eq_getElem hlt⟩
        obtain ⟨g, o, rfl, hg, hr⟩ := HP.out (by rintro rfl; have := hp0 rfl; omega)
        have hre := range_part (range_below hr hg hbel) hc
        have c0 := range_speed hre
        have HE := Lib.hid hre
        have HL := Lib.hid hbel
        have HA := Lib.hid hall
        have HC := Lib.hid hc
        clear hr hre hbel hall hc
        by_cases h1 : inS c.s = true
        · have sb := inS_bound h1
          have I := fun w => in_yes c.s (-1000) 1000 sb.1 sb.2 w
          have V := fun w => specValid_any c.r.up w
          have hok : okc c.r.up = okv c.r := rfl
          rw [hok] at V
          clear sb hok
          cases h2 : okv c.r
          · rw [h2] at V
            go_wp2_with fail
            refine (I _).mono ?_; rintro e w1 ⟨rfl, rfl⟩
            clear I c0
            go_wp2_with (first | (refine load_part_on (T := 36) (by rfl) rfl rfl (range_radius HE.out) Try.underlying36 rfl info_cyc ?_))
            refine (V _).mono ?_; rintro e w2 ⟨rfl, hb2⟩
            have HL2 := Lib.hid (below_next HL.out hb2)
            clear V hb2
            go_wp2
            go_ret
            refine ⟨?_, HL2.out⟩
            rw [valid_bad HC.out (by unfold wOk; rw [h2, Bool.and_false])]; rfl
          · rw [h2] at V
            go_wp2_with fail
            refine (I _).mono ?_; rintro e w1 ⟨rfl, rfl⟩
            clear I c0
            go_wp2_with (first | (refine load_part_on (T := 36) (by rfl) rfl rfl (range_radius HE.out) Try.underlying36 rfl info_cyc ?_))
            refine (V _).mono ?_; rintro e w2 ⟨rfl, hb2⟩
            have HL2 := Lib.hid (below_next HL.out hb2)
            clear V hb2
            go_wp2
            go_roundw
            case rel => exact ⟨k + 1, by omega, by go_num, all_take HA.out HC.out (by unfold wOk; rw [h1, h2]; rfl), HL2.out⟩
            case measure => simp [intOf]; omega
        · have h1 : inS c.s = false := by simpa using h1
          have I := fun w => in_no c.s (-1000) 1000 (by unfold inS at h1; simp at h1; omega) w
          go_wp2_with fail
          refine (I _).mono ?_; rintro e w1 ⟨rfl, rfl⟩
          clear I c0
          go_wp2
          go_ret
          refine ⟨?_, HL.out⟩
          rw [valid_bad HC.out (by unfold wOk; rw [h1]; rfl)]; rfl
      · obtain rfl : k = ws.length := by omega
        have HL := Lib.hid hbel
        have HA := Lib.hid hall
        clear hbel hall
        go_wp2
        go_ret
        refine ⟨?_, HL.out⟩
        have hv : valid ws = true := by
          unfold valid
          have := HA.out
          rw [List.take_length] at this
          rw [this, decide_eq_true (by omega)]; rfl
        rw [hv]; rfl

/-! One wheel more in a list of ascending speeds. -/
theorem ins_split (b : Bool) (c : Wh) (B : List Wh) : ∀ A : List Wh, (∀ d ∈ A, d.s < c.s) → ins (A ++ B) c = A ++ ins B c ∧ insOk b (A ++ B) c = insOk b B c
  | [], _ => ⟨rfl, rfl⟩
  | d :: A, h => by
    obtain ⟨h1, h2⟩ := ins_split b c B A fun e he => h e (by simp [he])
    rw [List.cons_append]
    constructor
    · conv => lhs; unfold ins
      rw [if_pos (h d (by simp)), h1]; rfl
    · conv => lhs; unfold insOk
      rw [if_pos (h d (by simp)), h2]
theorem ins_new (c : Wh) : ∀ B : List Wh, (∀ d, B[0]? = some d → c.s < d.s) → ins B c = c :: B ∧ insOk true B c = okv c.r
  | [], _ => ⟨rfl, rfl⟩
  | d :: B, h => by
    have := h d rfl
    unfold ins insOk
    rw [if_neg (by omega), if_neg (by omega), if_neg (by omega), if_neg (by omega)]
    exact ⟨rfl, rfl⟩
theorem ins_same (b : Bool) (c l : Wh) (hl : l.s = c.s) (B : List Wh) : ins (l :: B) c = ⟨l.s, V.add l.r c.r⟩ :: B ∧ insOk b (l :: B) c = okv (V.add l.r c.r) := by
  unfold ins insOk
  rw [if_neg (by omega), if_pos hl, if_neg (by omega), if_pos hl]
  exact ⟨rfl, rfl⟩
theorem reads_take {w : World} {g o cap k : Nat} {ws : List Wh} (hk : k ≤ ws.length) (hc1 : ws.length ≤ cap) (hc2 : cap ≤ maxLen) (hg : g < w.heap.size) (h : w.rangeAt g o (flat ws)) : Reads w (.slice (some ⟨g, o, none⟩) k cap) (ws.take k) :=
  ⟨_, cap, by rw [List.length_take, Nat.min_eq_left hk], by rw [List.length_take]; omega, hc2, (fun h => by cases h), fun _ => ⟨g, o, rfl, hg, fun j v hv => by
    rw [flat_take, List.getElem?_take] at hv
    split at hv
    · exact h j v hv
    · cases hv⟩⟩
theorem reads_drop {w : World} {g o cap k : Nat} {ws : List Wh} (hk : k ≤ ws.length) (hc1 : ws.length ≤ cap) (hc2 : cap ≤ maxLen) (hg : g < w.heap.size) (h : w.rangeAt g o (flat ws)) : Reads w (.slice (some ⟨g, o + k * 9, none⟩) (ws.length - k) (cap - k)) (ws.drop k) :=
  ⟨_, cap - k, by rw [List.length_drop], by rw [List.length_drop]; omega, by omega, (fun h => by cases h), fun _ => ⟨g, _, rfl, hg, fun j v hv => by
    rw [flat_drop, List.getElem?_drop] at hv
    rw [Nat.add_assoc]
    exact h _ v hv⟩⟩
theorem reads_off {w : World} {g o off cap k : Nat} {ws : List Wh} (hk : k ≤ ws.length) (hc1 : ws.length ≤ cap) (hc2 : cap ≤ maxLen) (hg : g < w.heap.size) (h : w.rangeAt g o (flat ws)) (hoff : (cap = k → off = o) ∧ (¬ cap = k → off = o + k * 9)) :
    Reads w (.slice (some ⟨g, off, none⟩) (ws.length - k) (cap - k)) (ws.drop k) := by
  by_cases hck : cap = k
  · have e : ws.drop k = [] := List.drop_of_length_le (by omega)
    have e2 : ws.length - k = 0 := by omega
    rw [e, e2]
    exact ⟨_, cap - k, rfl, by simp, by omega, (fun h => by cases h), fun _ => ⟨g, off, rfl, hg, fun j v hv => by simp [flat] at hv⟩⟩
  · rw [hoff.2 hck]; exact reads_drop hk hc1 hc2 hg h
theorem wp_one9 {P : Program} {o : Oper} {a : Act} {w : World} {K : Act → World → Prop} {Q : Exit → Act → World → Prop} {t e : TypeId} (ty : Ty9 P t e) {x : Operand} {f : Nat → Int} (ho : o.op = .buildSlice t 1 #[(0, x)]) (hx : a.eval x = .agg (vec 9 f))
    (h : K (a.put o.dst (.slice (some ⟨w.heap.size, 0, none⟩) 1 1)) (w.alloc (.cells (vec 9 f) e))) : o.wp P a w K Q := by
  unfold Oper.wp execOp
  simp [ho, hx, Sem.run_bind, run_one ty f w, Result.andThen]
  exact h
theorem reads_kept {w w' : World} {row : Option Nat} {g o n cap : Nat} {ws : List Wh} (h : Reads w (.slice (some ⟨g, o, none⟩) n cap) ws) (hg : w.grownBy w' row) (hne : some g ≠ row) : Reads w' (.slice (some ⟨g, o, none⟩) n cap) ws := by
  obtain ⟨p, cap', e, h2, h3, h4, h5⟩ := h
  refine ⟨p, cap', e, h2, h3, h4, fun hn => ?_⟩
  obtain ⟨g', o', e', hg', hr⟩ := h5 hn
  refine ⟨g', o', e', Nat.lt_of_lt_of_le hg' hg.size, fun j v hv => hg.cell (hr j v hv) ?_⟩
  simp only [Value.slice.injEq] at e
  have := e.1.trans e'
  simp only [Option.some.injEq, Addr.mk.injEq] at this
  rw [← this.1]; exact hne
theorem wp_append_list2 {P : Program} {t e : TypeId} {o : Oper} {a : Act} {Q : Exit → Act → World → Prop} {w0 w : World} {B : Nat} {K : Act → World → Prop} (ty : Ty9 P t e) {s x : Operand} (hop : o.op = .call { callee := .builtin .append, args := #[s, x], argTypes := #[t, t] })
    {v x' : Value} {xs ys : List Wh} (hs : a.eval s = v) (hx : a.eval x = x') (hown : Own w B e v xs) (hr : Reads w x' ys) (hlen : xs.length + ys.length ≤ 1000000000000) (hb : Below B w0 w) (hB : B ≤ w.heap.size)
    (h : ∀ v' w', Own w' B e v' (xs ++ ys) → Below B w0 w' → B ≤ w'.heap.size → w.grownBy w' v.ownBlock → K (a.put o.dst v') w') : o.wp P a w K Q := by
  obtain ⟨i, z, hi, hz, hsz, hby, hzs⟩ := ty.inf
  obtain ⟨v', w', hr1, ho, hg⟩ := run_append_list (P := P) w B t o.type e i z i.bytes ty.sl hi hz hsz rfl hzs hby v x' xs ys hown hr hlen hB
  unfold Oper.wp execOp
  simp only [hop, resolve, invoke, builtin, Sem.run_bind, Sem.run_pure, Result.andThen_ok, List.map_toArray, List.map_cons, List.map_nil, hs, hx, hr1]
  exact h v' w' ho (below_grown hb hg hB (own_block hown)) (Nat.le_trans hB hg.size) hg
/-- What l5Add hands back. -/
def Added (w : World) (R : List Wh) (c : Wh) (e : Ending) (w' : World) : Prop :=
  Below w.heap.size w w' ∧ ∃ v', e = .returned (.tuple #[v', .bool (insOk true R c)]) ∧ Own w' w.heap.size 67 v' (ins R c)

set_option maxHeartbeats 4000000 in
theorem l5Add_any (g o cap : Nat) (R : List Wh) (c : Wh) (w : World) (hg : g < w.heap.size) (hr : w.rangeAt g o (flat R)) (hc1 : R.length ≤ cap) (hc2 : cap ≤ maxLen) (hn : R.length ≤ 1000) (hbig : ∀ d ∈ R, Big d.r 4000000) (hcb : Big c.r 4000000) :
    Calls Try.prog 65 #[.slice (some ⟨g, o, none⟩) R.length cap, wh c] w (Added w R c) := by
  have hcm : cap ≤ 9223372036854775807 := by simpa [maxLen] using hc2
  have HM := Lib.hid hc2
  clear hc2
  have hX : RowAt (w.alloc (.cells (vec 9 (wf c)) 67)) w.heap.size 9 67 (wf c) := RowAt.new w 9 _ _
  have hL : Below w.heap.size w (w.alloc (.cells (vec 9 (wf c)) 67)) := (Below.refl _ _).alloc (Nat.le_refl _) _
  have hZ : w.heap.size < (w.alloc (.cells (vec 9 (wf c)) 67)).heap.size := by simp
  have hR := range_below hr hg hL
  have HX0 := Lib.hid hX
  have HL0 := Lib.hid hL
  have HR0 := Lib.hid hR
  have HZ0 := Lib.hid hZ
  have HBG := Lib.hid hbig
  have HCB := Lib.hid hcb
  have HG0 : Aside (g < w.heap.size) := hg
  clear hX hL hR hZ hbig hcb hr hg
  go_enter Try.func65, Try.ntmps65
  go_upto_region 1 with fail
  show Code.wp _ _ _ _ (w.alloc (.cells (vec 9 (wf c)) 67))
  generalize w.alloc (.cells (vec 9 (wf c)) 67) = W at *
  have HGW : Aside (g < W.heap.size) := Nat.lt_trans HG0.out HZ0.out
  generalize hbw : w.heap.size = b at *
  go_wp2
  go_loopw [6] (fun i wr => ∃ k : Nat, k ≤ R.length ∧ i = .int .i64 k ∧ (∀ d ∈ R.take k, d.s < c.s) ∧ Below W.heap.size W wr) (fun i _ => R.length - (intOf i).toNat)
  case atStart => exact ⟨0, Nat.zero_le _, rfl, by simp, Below.refl _ _⟩
  case round =>
    obtain ⟨k, hk, rfl, hfa, hbel⟩ := hrel
    have hk0 : (0 : Int) ≤ (k : Int) := by omega
    have HL : Aside (Below W.heap.size W wr) := hbel
    have HX : Aside (RowAt wr b 9 67 (wf c)) := HX0.out.below hbel
    have HRD : Aside (wr.rangeAt g o (flat R)) := range_below HR0.out HGW.out hbel
    have HFA := Lib.hid hfa
    clear hfa hbel
    by_cases hlt : k < R.length
    · have hkz : (k : Int) < (R.length : Int) := by omega
      obtain ⟨l, hl⟩ : ∃ l, R[k]? = some l := ⟨_, List.getElem?_eq_getElem hlt⟩
      have HE : Aside (wr.rangeAt g (o + k * 9) (enc l)) := range_part HRD.out hl
      have HC := Lib.hid hl
      clear hl
      by_cases hls : l.s < c.s
      · have hls2 : l.s < c.s := hls
        go_upto_region 2 with fail
        refine wp_region_held_drew (S := fun w' => w' = wr.drew) (by kernel_rfl) rfl (fun hHeld => ?_)
        refine wpAnyH_take (i := 0) (oi := _) (v := .int .i64 k) rfl (by kernel_rfl) (by kernel_rfl) (by kernel_rfl) (fun _ _ _ h => h) (Or.inl ⟨by rfl, fun w h => by go_simp⟩) hHeld ?_
        try simp only [Act.put, List.setIfInBounds_toArray, List.set_cons_zero, List.set_cons_succ, List.getElem_toArray, List.getElem_cons_succ, List.getElem_cons_zero]
        refine wpAnyH_take (i := 1) (oi := _) (v := .slice (some ⟨g, o, none⟩) R.length cap) rfl (by kernel_rfl) (by kernel_rfl) (by kernel_rfl) (fun _ _ _ h => h) (Or.inl ⟨by rfl, fun w h => by go_simp⟩) hHeld ?_
        try simp only [Act.put, List.setIfInBounds_toArray, List.set_cons_zero, List.set_cons_succ, List.getElem_toArray, List.getElem_cons_succ, List.getElem_cons_zero]
        refine wpAnyH_take (i := 2) (oi := _) (v := .int .i64 R.length) rfl (by kernel_rfl) (by kernel_rfl) (by kernel_rfl) (fun _ _ _ h => h) (Or.inl ⟨by rfl, fun w h => by go_simp⟩) hHeld ?_
        try simp only [Act.put, List.setIfInBounds_toArray, List.set_cons_zero, List.set_cons_succ, List.getElem_toArray, List.getElem_cons_succ, List.getElem_cons_zero]
        refine wpAnyH_take (i := 3) (oi := _) (v := .bool true) rfl (by kernel_rfl) (by kernel_rfl) (by kernel_rfl) (fun _ _ _ h => h) (Or.inl ⟨by rfl, fun w h => by go_simp⟩) hHeld ?_
        try simp only [Act.put, List.setIfInBounds_toArray, List.set_cons_zero, List.set_cons_succ, List.getElem_toArray, List.getElem_cons_succ, List.getElem_cons_zero]
        refine wpAnyH_take (i := 4) (oi := _) (v := .bool true) rfl (by kernel_rfl) (by kernel_rfl) (by kernel_rfl) (fun _ _ _ h => h) (Or.inl ⟨by rfl, fun w h => by go_simp⟩) hHeld ?_
        try simp only [Act.put, List.setIfInBounds_toArray, List.set_cons_zero, List.set_cons_succ, List.getElem_toArray, List.getElem_cons_succ, List.getElem_cons_zero]
        refine wpAnyH_take (i := 5) (oi := _) (v := .slice (some ⟨g, o, none⟩) R.length cap) rfl (by kernel_rfl) (by kernel_rfl) (by kernel_rfl) (fun _ _ _ h => h) (Or.inl ⟨by rfl, fun w h => by go_simp⟩) hHeld ?_
        try simp only [Act.put, List.setIfInBounds_toArray, List.set_cons_zero, List.set_cons_succ, List.getElem_toArray, List.getElem_cons_succ, List.getElem_cons_zero]
        refine wpAnyH_take (i := 6) (oi := _) (v := .int .i64 k) rfl (by kernel_rfl) (by kernel_rfl) (by kernel_rfl) (fun _ _ _ h => h) (Or.inl ⟨by rfl, fun w h => by go_simp⟩) hHeld ?_
        try simp only [Act.put, List.setIfInBounds_toArray, List.set_cons_zero, List.set_cons_succ, List.getElem_toArray, List.getElem_cons_succ, List.getElem_cons_zero]
        refine wpAnyH_take (i := 7) (oi := _) (v := .pointer (some ⟨g, o + k * 9, none⟩)) rfl (by kernel_rfl) (by kernel_rfl) (by kernel_rfl) (fun _ _ _ h => h) (Or.inl ⟨by rfl, fun w h => by go_simp⟩) hHeld ?_
        try simp only [Act.put, List.setIfInBounds_toArray, List.set_cons_zero, List.set_cons_succ, List.getElem_toArray, List.getElem_cons_succ, List.getElem_cons_zero]
        refine wpAnyH_take (i := 8) (oi := _) (v := .pointer (some ⟨g, o + k * 9, none⟩)) rfl (by kernel_rfl) (by kernel_rfl) (by kernel_rfl) (fun _ _ _ h => h) (Or.inl ⟨by rfl, fun w h => by go_simp⟩) hHeld ?_
        try simp only [Act.put, List.setIfInBounds_toArray, List.set_cons_zero, List.set_cons_succ, List.getElem_toArray, List.getElem_cons_succ, List.getElem_cons_zero]
        refine wpAnyH_take (i := 9) (oi := _) (v := .int .i64 l.s) rfl (by kernel_rfl) (by kernel_rfl) (by kernel_rfl) (fun _ _ _ h => h) (Or.inl ⟨by rfl, fun w h => by have hcell := (show wr.drew.cell? ⟨g, o + k * 9, none⟩ = some (.int .i64 l.s) from range_speed HE.out); go_simp⟩) hHeld ?_
        try simp only [Act.put, List.setIfInBounds_toArray, List.set_cons_zero, List.set_cons_succ, List.getElem_toArray, List.getElem_cons_succ, List.getElem_cons_zero]
        refine wpAnyH_take (i := 10) (oi := _) (v := .pointer (some ⟨b, 0, none⟩)) rfl (by kernel_rfl) (by kernel_rfl) (by kernel_rfl) (fun _ _ _ h => h) (Or.inl ⟨by rfl, fun w h => by go_simp⟩) hHeld ?_
        try simp only [Act.put, List.setIfInBounds_toArray, List.set_cons_zero, List.set_cons_succ, List.getElem_toArray, List.getElem_cons_succ, List.getElem_cons_zero]
        refine wpAnyH_take (i := 11) (oi := _) (v := .int .i64 c.s) rfl (by kernel_rfl) (by kernel_rfl) (by kernel_rfl) (fun _ _ _ h => h) (Or.inl ⟨by rfl, fun w h => by have hcell := (show wr.drew.cell? ⟨b, 0, none⟩ = some (.int .i64 c.s) from row_speed HX.out); go_simp⟩) hHeld ?_
        try simp only [Act.put, List.setIfInBounds_toArray, List.set_cons_zero, List.set_cons_succ, List.getElem_toArray, List.getElem_cons_succ, List.getElem_cons_zero]
        refine wpAnyH_take (i := 12) (oi := _) (v := .bool true) rfl (by kernel_rfl) (by kernel_rfl) (by kernel_rfl) (fun _ _ _ h => h) (Or.inl ⟨by rfl, fun w h => by go_simp⟩) hHeld ?_
        try simp only [Act.put, List.setIfInBounds_toArray, List.set_cons_zero, List.set_cons_succ, List.getElem_toArray, List.getElem_cons_succ, List.getElem_cons_zero]
        refine wpAnyH_take (i := 13) (oi := _) (v := .bool true) rfl (by kernel_rfl) (by kernel_rfl) (by kernel_rfl) (fun _ _ _ h => h) (Or.inl ⟨by rfl, fun w h => by go_simp⟩) hHeld ?_
        try simp only [Act.put, List.setIfInBounds_toArray, List.set_cons_zero, List.set_cons_succ, List.getElem_toArray, List.getElem_cons_succ, List.getElem_cons_zero]
        clear hHeld
        refine wpAnyH_done (by kernel_rfl) ?_ _
        replace HL : Aside (Below W.heap.size W wr.drew) := HL.out.drew
        replace HX : Aside (RowAt wr.drew b 9 67 (wf c)) := HX.out.drew1
        replace HRD : Aside (wr.drew.rangeAt g o (flat R)) := HRD.out
        replace HE : Aside (wr.drew.rangeAt g (o + k * 9) (enc l)) := HE.out
        generalize wr.drew = wrx at *
        go_wp2
        go_roundw
        case rel => exact ⟨k + 1, by omega, by go_num, fun d hd => by
          rw [take_next HC.out] at hd
          rcases List.mem_append.1 hd with h | h
          · exact HFA.out d h
          · rw [List.mem_singleton.1 h]; exact hls, HL.out⟩
        case measure => simp [intOf]; omega
      · skip
        go_upto_region 2 with fail
        refine wp_region_held_drew (S := fun w' => w' = wr.drew) (by kernel_rfl) rfl (fun hHeld => ?_)
        refine wpAnyH_take (i := 0) (oi := _) (v := .int .i64 k) rfl (by kernel_rfl) (by kernel_rfl) (by kernel_rfl) (fun _ _ _ h => h) (Or.inl ⟨by rfl, fun w h => by go_simp⟩) hHeld ?_
        try simp only [Act.put, List.setIfInBounds_toArray, List.set_cons_zero, List.set_cons_succ, List.getElem_toArray, List.getElem_cons_succ, List.getElem_cons_zero]
        refine wpAnyH_take (i := 1) (oi := _) (v := .slice (some ⟨g, o, none⟩) R.length cap) rfl (by kernel_rfl) (by kernel_rfl) (by kernel_rfl) (fun _ _ _ h => h) (Or.inl ⟨by rfl, fun w h => by go_simp⟩) hHeld ?_
        try simp only [Act.put, List.setIfInBounds_toArray, List.set_cons_zero, List.set_cons_succ, List.getElem_toArray, List.getElem_cons_succ, List.getElem_cons_zero]
        refine wpAnyH_take (i := 2) (oi := _) (v := .int .i64 R.length) rfl (by kernel_rfl) (by kernel_rfl) (by kernel_rfl) (fun _ _ _ h => h) (Or.inl ⟨by rfl, fun w h => by go_simp⟩) hHeld ?_
        try simp only [Act.put, List.setIfInBounds_toArray, List.set_cons_zero, List.set_cons_succ, List.getElem_toArray, List.getElem_cons_succ, List.getElem_cons_zero]
        refine wpAnyH_take (i := 3) (oi := _) (v := .bool true) rfl (by kernel_rfl) (by kernel_rfl) (by kernel_rfl) (fun _ _ _ h => h) (Or.inl ⟨by rfl, fun w h => by go_simp⟩) hHeld ?_
        try simp only [Act.put, List.setIfInBounds_toArray, List.set_cons_zero, List.set_cons_succ, List.getElem_toArray, List.getElem_cons_succ, List.getElem_cons_zero]
        refine wpAnyH_take (i := 4) (oi := _) (v := .bool true) rfl (by kernel_rfl) (by kernel_rfl) (by kernel_rfl) (fun _ _ _ h => h) (Or.inl ⟨by rfl, fun w h => by go_simp⟩) hHeld ?_
        try simp only [Act.put, List.setIfInBounds_toArray, List.set_cons_zero, List.set_cons_succ, List.getElem_toArray, List.getElem_cons_succ, List.getElem_cons_zero]
        refine wpAnyH_take (i := 5) (oi := _) (v := .slice (some ⟨g, o, none⟩) R.length cap) rfl (by kernel_rfl) (by kernel_rfl) (by kernel_rfl) (fun _ _ _ h => h) (Or.inl ⟨by rfl, fun w h => by go_simp⟩) hHeld ?_
        try simp only [Act.put, List.setIfInBounds_toArray, List.set_cons_zero, List.set_cons_succ, List.getElem_toArray, List.getElem_cons_succ, List.getElem_cons_zero]
        refine wpAnyH_take (i := 6) (oi := _) (v := .int .i64 k) rfl (by kernel_rfl) (by kernel_rfl) (by kernel_rfl) (fun _ _ _ h => h) (Or.inl ⟨by rfl, fun w h => by go_simp⟩) hHeld ?_
        try simp only [Act.put, List.setIfInBounds_toArray, List.set_cons_zero, List.set_cons_succ, List.getElem_toArray, List.getElem_cons_succ, List.getElem_cons_zero]
        refine wpAnyH_take (i := 7) (oi := _) (v := .pointer (some ⟨g, o + k * 9, none⟩)) rfl (by kernel_rfl) (by kernel_rfl) (by kernel_rfl) (fun _ _ _ h => h) (Or.inl ⟨by rfl, fun w h => by go_simp⟩) hHeld ?_
        try simp only [Act.put, List.setIfInBounds_toArray, List.set_cons_zero, List.set_cons_succ, List.getElem_toArray, List.getElem_cons_succ, List.getElem_cons_zero]
        refine wpAnyH_take (i := 8) (oi := _) (v := .pointer (some ⟨g, o + k * 9, none⟩)) rfl (by kernel_rfl) (by kernel_rfl) (by kernel_rfl) (fun _ _ _ h => h) (Or.inl ⟨by rfl, fun w h => by go_simp⟩) hHeld ?_
        try simp only [Act.put, List.setIfInBounds_toArray, List.set_cons_zero, List.set_cons_succ, List.getElem_toArray, List.getElem_cons_succ, List.getElem_cons_zero]
        refine wpAnyH_take (i := 9) (oi := _) (v := .int .i64 l.s) rfl (by kernel_rfl) (by kernel_rfl) (by kernel_rfl) (fun _ _ _ h => h) (Or.inl ⟨by rfl, fun w h => by have hcell := (show wr.drew.cell? ⟨g, o + k * 9, none⟩ = some (.int .i64 l.s) from range_speed HE.out); go_simp⟩) hHeld ?_
        try simp only [Act.put, List.setIfInBounds_toArray, List.set_cons_zero, List.set_cons_succ, List.getElem_toArray, List.getElem_cons_succ, List.getElem_cons_zero]
        refine wpAnyH_take (i := 10) (oi := _) (v := .pointer (some ⟨b, 0, none⟩)) rfl (by kernel_rfl) (by kernel_rfl) (by kernel_rfl) (fun _ _ _ h => h) (Or.inl ⟨by rfl, fun w h => by go_simp⟩) hHeld ?_
        try simp only [Act.put, List.setIfInBounds_toArray, List.set_cons_zero, List.set_cons_succ, List.getElem_toArray, List.getElem_cons_succ, List.getElem_cons_zero]
        refine wpAnyH_take (i := 11) (oi := _) (v := .int .i64 c.s) rfl (by kernel_rfl) (by kernel_rfl) (by kernel_rfl) (fun _ _ _ h => h) (Or.inl ⟨by rfl, fun w h => by have hcell := (show wr.drew.cell? ⟨b, 0, none⟩ = some (.int .i64 c.s) from row_speed HX.out); go_simp⟩) hHeld ?_
        try simp only [Act.put, List.setIfInBounds_toArray, List.set_cons_zero, List.set_cons_succ, List.getElem_toArray, List.getElem_cons_succ, List.getElem_cons_zero]
        refine wpAnyH_take (i := 12) (oi := _) (v := .bool false) rfl (by kernel_rfl) (by kernel_rfl) (by kernel_rfl) (fun _ _ _ h => h) (Or.inl ⟨by rfl, fun w h => by go_simp⟩) hHeld ?_
        try simp only [Act.put, List.setIfInBounds_toArray, List.set_cons_zero, List.set_cons_succ, List.getElem_toArray, List.getElem_cons_succ, List.getElem_cons_zero]
        refine wpAnyH_take (i := 13) (oi := _) (v := .bool false) rfl (by kernel_rfl) (by kernel_rfl) (by kernel_rfl) (fun _ _ _ h => h) (Or.inl ⟨by rfl, fun w h => by go_simp⟩) hHeld ?_
        try simp only [Act.put, List.setIfInBounds_toArray, List.set_cons_zero, List.set_cons_succ, List.getElem_toArray, List.getElem_cons_succ, List.getElem_cons_zero]
        clear hHeld
        refine wpAnyH_done (by kernel_rfl) ?_ _
        replace HL : Aside (Below W.heap.size W wr.drew) := HL.out.drew
        replace HX : Aside (RowAt wr.drew b 9 67 (wf c)) := HX.out.drew1
        replace HRD : Aside (wr.drew.rangeAt g o (flat R)) := HRD.out
        replace HE : Aside (wr.drew.rangeAt g (o + k * 9) (enc l)) := HE.out
        generalize wr.drew = wrx at *
        go_wp2
        by_cases heq : l.s = c.s
        · have heq2 : (l.s == c.s) = true := by simpa using heq
          go_upto_region 4 with fail
          refine wp_region_held_drew (S := fun w' => w' = wrx.drew) (by kernel_rfl) rfl (fun hHeld => ?_)
          refine wpAnyH_take (i := 0) (oi := _) (v := .int .i64 k) rfl (by kernel_rfl) (by kernel_rfl) (by kernel_rfl) (fun _ _ _ h => h) (Or.inl ⟨by rfl, fun w h => by go_simp⟩) hHeld ?_
          try simp only [Act.put, List.setIfInBounds_toArray, List.set_cons_zero, List.set_cons_succ, List.getElem_toArray, List.getElem_cons_succ, List.getElem_cons_zero]
          refine wpAnyH_take (i := 1) (oi := _) (v := .slice (some ⟨g, o, none⟩) R.length cap) rfl (by kernel_rfl) (by kernel_rfl) (by kernel_rfl) (fun _ _ _ h => h) (Or.inl ⟨by rfl, fun w h => by go_simp⟩) hHeld ?_
          try simp only [Act.put, List.setIfInBounds_toArray, List.set_cons_zero, List.set_cons_succ, List.getElem_toArray, List.getElem_cons_succ, List.getElem_cons_zero]
          refine wpAnyH_take (i := 2) (oi := _) (v := .int .i64 R.length) rfl (by kernel_rfl) (by kernel_rfl) (by kernel_rfl) (fun _ _ _ h => h) (Or.inl ⟨by rfl, fun w h => by go_simp⟩) hHeld ?_
          try simp only [Act.put, List.setIfInBounds_toArray, List.set_cons_zero, List.set_cons_succ, List.getElem_toArray, List.getElem_cons_succ, List.getElem_cons_zero]
          refine wpAnyH_take (i := 3) (oi := _) (v := .bool true) rfl (by kernel_rfl) (by kernel_rfl) (by kernel_rfl) (fun _ _ _ h => h) (Or.inl ⟨by rfl, fun w h => by go_simp⟩) hHeld ?_
          try simp only [Act.put, List.setIfInBounds_toArray, List.set_cons_zero, List.set_cons_succ, List.getElem_toArray, List.getElem_cons_succ, List.getElem_cons_zero]
          refine wpAnyH_take (i := 4) (oi := _) (v := .bool true) rfl (by kernel_rfl) (by kernel_rfl) (by kernel_rfl) (fun _ _ _ h => h) (Or.inl ⟨by rfl, fun w h => by go_simp⟩) hHeld ?_
          try simp only [Act.put, List.setIfInBounds_toArray, List.set_cons_zero, List.set_cons_succ, List.getElem_toArray, List.getElem_cons_succ, List.getElem_cons_zero]
          refine wpAnyH_take (i := 5) (oi := _) (v := .slice (some ⟨g, o, none⟩) R.length cap) rfl (by kernel_rfl) (by kernel_rfl) (by kernel_rfl) (fun _ _ _ h => h) (Or.inl ⟨by rfl, fun w h => by go_simp⟩) hHeld ?_
          try simp only [Act.put, List.setIfInBounds_toArray, List.set_cons_zero, List.set_cons_succ, List.getElem_toArray, List.getElem_cons_succ, List.getElem_cons_zero]
          refine wpAnyH_take (i := 6) (oi := _) (v := .int .i64 k) rfl (by kernel_rfl) (by kernel_rfl) (by kernel_rfl) (fun _ _ _ h => h) (Or.inl ⟨by rfl, fun w h => by go_simp⟩) hHeld ?_
          try simp only [Act.put, List.setIfInBounds_toArray, List.set_cons_zero, List.set_cons_succ, List.getElem_toArray, List.getElem_cons_succ, List.getElem_cons_zero]
          refine wpAnyH_take (i := 7) (oi := _) (v := .pointer (some ⟨g, o + k * 9, none⟩)) rfl (by kernel_rfl) (by kernel_rfl) (by kernel_rfl) (fun _ _ _ h => h) (Or.inl ⟨by rfl, fun w h => by go_simp⟩) hHeld ?_
          try simp only [Act.put, List.setIfInBounds_toArray, List.set_cons_zero, List.set_cons_succ, List.getElem_toArray, List.getElem_cons_succ, List.getElem_cons_zero]
          refine wpAnyH_take (i := 8) (oi := _) (v := .pointer (some ⟨g, o + k * 9, none⟩)) rfl (by kernel_rfl) (by kernel_rfl) (by kernel_rfl) (fun _ _ _ h => h) (Or.inl ⟨by rfl, fun w h => by go_simp⟩) hHeld ?_
          try simp only [Act.put, List.setIfInBounds_toArray, List.set_cons_zero, List.set_cons_succ, List.getElem_toArray, List.getElem_cons_succ, List.getElem_cons_zero]
          refine wpAnyH_take (i := 9) (oi := _) (v := .int .i64 l.s) rfl (by kernel_rfl) (by kernel_rfl) (by kernel_rfl) (fun _ _ _ h => h) (Or.inl ⟨by rfl, fun w h => by have hcell := (show wrx.drew.cell? ⟨g, o + k * 9, none⟩ = some (.int .i64 l.s) from range_speed HE.out); go_simp⟩) hHeld ?_
          try simp only [Act.put, List.setIfInBounds_toArray, List.set_cons_zero, List.set_cons_succ, List.getElem_toArray, List.getElem_cons_succ, List.getElem_cons_zero]
          refine wpAnyH_take (i := 10) (oi := _) (v := .pointer (some ⟨b, 0, none⟩)) rfl (by kernel_rfl) (by kernel_rfl) (by kernel_rfl) (fun _ _ _ h => h) (Or.inl ⟨by rfl, fun w h => by go_simp⟩) hHeld ?_
          try simp only [Act.put, List.setIfInBounds_toArray, List.set_cons_zero, List.set_cons_succ, List.getElem_toArray, List.getElem_cons_succ, List.getElem_cons_zero]
          refine wpAnyH_take (i := 11) (oi := _) (v := .int .i64 c.s) rfl (by kernel_rfl) (by kernel_rfl) (by kernel_rfl) (fun _ _ _ h => h) (Or.inl ⟨by rfl, fun w h => by have hcell := (show wrx.drew.cell? ⟨b, 0, none⟩ = some (.int .i64 c.s) from row_speed HX.out); go_simp⟩) hHeld ?_
          try simp only [Act.put, List.setIfInBounds_toArray, List.set_cons_zero, List.set_cons_succ, List.getElem_toArray, List.getElem_cons_succ, List.getElem_cons_zero]
          refine wpAnyH_take (i := 12) (oi := _) (v := .bool true) rfl (by kernel_rfl) (by kernel_rfl) (by kernel_rfl) (fun _ _ _ h => h) (Or.inl ⟨by rfl, fun w h => by go_simp⟩) hHeld ?_
          try simp only [Act.put, List.setIfInBounds_toArray, List.set_cons_zero, List.set_cons_succ, List.getElem_toArray, List.getElem_cons_succ, List.getElem_cons_zero]
          refine wpAnyH_take (i := 13) (oi := _) (v := .bool true) rfl (by kernel_rfl) (by kernel_rfl) (by kernel_rfl) (fun _ _ _ h => h) (Or.inl ⟨by rfl, fun w h => by go_simp⟩) hHeld ?_
          try simp only [Act.put, List.setIfInBounds_toArray, List.set_cons_zero, List.set_cons_succ, List.getElem_toArray, List.getElem_cons_succ, List.getElem_cons_zero]
          clear hHeld
          refine wpAnyH_done (by kernel_rfl) ?_ _
          replace HL : Aside (Below W.heap.size W wrx.drew) := HL.out.drew
          replace HX : Aside (RowAt wrx.drew b 9 67 (wf c)) := HX.out.drew1
          replace HRD : Aside (wrx.drew.rangeAt g o (flat R)) := HRD.out
          replace HE : Aside (wrx.drew.rangeAt g (o + k * 9) (enc l)) := HE.out
          generalize wrx.drew = wrxx at *
          generalize wrxx = WR at *
          have HZR : Aside (g < WR.heap.size ∧ b < WR.heap.size) := ⟨Nat.lt_of_lt_of_le HGW.out HL.out.size, Nat.lt_of_lt_of_le HZ0.out HL.out.size⟩
          have HRR : Aside (Reads WR (.slice (some ⟨g, o, none⟩) R.length cap) R) := (show Reads WR (.slice (some ⟨g, o, none⟩) R.length cap) R from by
            have := reads_take (Nat.le_refl R.length) hc1 HM.out HZR.out.1 HRD.out
            rwa [List.take_length] at this)
          have S : ∀ w, Calls Try.prog 84 #[pt l.r.up, .int .i64 1, pt c.r.up] w fun e w' => e = .returned (pt (V.add l.r c.r).up) ∧ Below w.heap.size w w' := fun w => by
            refine (specSum_any l.r.up c.r.up 1 (by omega) (fun j hj => by have := HBG.out l (List.mem_of_getElem? HC.out) j hj; omega) (fun j hj => by have := HCB.out j hj; omega) w).mono ?_
            rintro e w' ⟨rfl, h⟩
            refine ⟨?_, h⟩
            have : pt (mul1 l.r.up 1 c.r.up) = pt (V.add l.r c.r).up := pt_same fun j hj => by
              rw [add_up]; unfold mul1 add; omega
            rw [this]
          have VC : ∀ w, Calls Try.prog 85 #[pt (V.add l.r c.r).up] w fun e w' => e = .returned (.bool (okv (V.add l.r c.r))) ∧ Below w.heap.size w w' := fun w => specValid_any (V.add l.r c.r).up w
          have HF : Aside (ins R c = R.set k ⟨l.s, V.add l.r c.r⟩ ∧ insOk true R c = okv (V.add l.r c.r)) := (show _ from by
            have hR : R = R.take k ++ l :: R.drop (k + 1) := by
              conv => lhs; rw [← List.take_append_drop k R, List.drop_eq_getElem_cons hlt]
              have := List.getElem?_eq_getElem hlt
              rw [HC.out] at this
              rw [← Option.some.inj this]
            have hi := ins_split true c (l :: R.drop (k + 1)) (R.take k) HFA.out
            rw [← hR] at hi
            obtain ⟨h1, h2⟩ := ins_same true c l heq (R.drop (k + 1))
            rw [h1, h2] at hi
            refine ⟨?_, hi.2⟩
            rw [hi.1]
            conv => rhs; rw [hR]
            rw [List.set_append_right _ _ (by rw [List.length_take]; omega), List.length_take, Nat.min_eq_left (by omega), Nat.sub_self]
            rfl)
          go_upto_region 6 with (first | (refine append9 tyW rfl rfl (w0 := WR) (B := WR.heap.size) (xs := []) (ys := R) rfl rfl (own_lit WR WR.heap.size 67 (Nat.le_refl _)) (HRR.out.below ((Below.refl _ _).alloc (Nat.le_refl _) _)) (by simp; omega) ((Below.refl _ _).alloc (Nat.le_refl _) _) (by simp) ?_; intro v2 w2 ho2 hb2 hB2; rw [List.nil_append] at ho2))
          obtain ⟨p2, cap2, rfl, hq1, hq2, hne⟩ := own_form ho2
          obtain ⟨g2, rfl, hg2⟩ := hne (by rintro rfl; simp at hlt)
          have hq2z : (R.length : Int) ≤ (cap2 : Int) := by omega
          have HO : Aside (Own w2.drew WR.heap.size 67 (.slice (some ⟨g2, 0, none⟩) R.length cap2) R) := (show Own w2 _ _ _ _ from ho2)
          have HL2 := Lib.hid hb2
          clear ho2 hb2 hB2 hne
          refine wp_region_held_drew (S := fun w' => Below WR.heap.size WR w') (by kernel_rfl) HL2.out.drew (fun hHeld => ?_)
          refine wpAnyH_take (i := 0) (oi := _) (v := .slice (some ⟨g2, 0, none⟩) R.length cap2) rfl (by kernel_rfl) (by kernel_rfl) (by kernel_rfl) (fun _ _ _ h => h) (Or.inl ⟨by rfl, fun w h => by go_simp⟩) hHeld ?_
          try simp only [Act.put, List.setIfInBounds_toArray, List.set_cons_zero, List.set_cons_succ, List.getElem_toArray, List.getElem_cons_succ, List.getElem_cons_zero]
          refine wpAnyH_take (i := 1) (oi := _) (v := .int .i64 k) rfl (by kernel_rfl) (by kernel_rfl) (by kernel_rfl) (fun _ _ _ h => h) (Or.inl ⟨by rfl, fun w h => by go_simp⟩) hHeld ?_
          try simp only [Act.put, List.setIfInBounds_toArray, List.set_cons_zero, List.set_cons_succ, List.getElem_toArray, List.getElem_cons_succ, List.getElem_cons_zero]
          refine wpAnyH_take (i := 2) (oi := _) (v := .slice (some ⟨g, o, none⟩) R.length cap) rfl (by kernel_rfl) (by kernel_rfl) (by kernel_rfl) (fun _ _ _ h => h) (Or.inl ⟨by rfl, fun w h => by go_simp⟩) hHeld ?_
          try simp only [Act.put, List.setIfInBounds_toArray, List.set_cons_zero, List.set_cons_succ, List.getElem_toArray, List.getElem_cons_succ, List.getElem_cons_zero]
          refine wpAnyH_take (i := 3) (oi := _) (v := .int .i64 k) rfl (by kernel_rfl) (by kernel_rfl) (by kernel_rfl) (fun _ _ _ h => h) (Or.inl ⟨by rfl, fun w h => by go_simp⟩) hHeld ?_
          try simp only [Act.put, List.setIfInBounds_toArray, List.set_cons_zero, List.set_cons_succ, List.getElem_toArray, List.getElem_cons_succ, List.getElem_cons_zero]
          refine wpAnyH_take (i := 4) (oi := _) (v := .pointer (some ⟨g, o + k * 9, none⟩)) rfl (by kernel_rfl) (by kernel_rfl) (by kernel_rfl) (fun _ _ _ h => h) (Or.inl ⟨by rfl, fun w h => by go_simp⟩) hHeld ?_
          try simp only [Act.put, List.setIfInBounds_toArray, List.set_cons_zero, List.set_cons_succ, List.getElem_toArray, List.getElem_cons_succ, List.getElem_cons_zero]
          refine wpAnyH_take (i := 5) (oi := _) (v := .pointer (some ⟨g, o + k * 9 + 1, none⟩)) rfl (by kernel_rfl) (by kernel_rfl) (by kernel_rfl) (fun _ _ _ h => h) (Or.inl ⟨by rfl, fun w h => by go_simp⟩) hHeld ?_
          try simp only [Act.put, List.setIfInBounds_toArray, List.set_cons_zero, List.set_cons_succ, List.getElem_toArray, List.getElem_cons_succ, List.getElem_cons_zero]
          refine wpAnyH_take (i := 6) (oi := _) (v := .agg (vec 8 l.r.up)) rfl (by kernel_rfl) (by kernel_rfl) (by kernel_rfl) (fun _ _ _ h => h) (yieldsIf_load_mid (by rfl) _ _ rfl _ _ rfl _ _ ((fun w h => range_radius (range_below HE.out HZR.out.1 h))) Try.underlying36 rfl (size_cyc8 _)) hHeld ?_
          try simp only [Act.put, List.setIfInBounds_toArray, List.set_cons_zero, List.set_cons_succ, List.getElem_toArray, List.getElem_cons_succ, List.getElem_cons_zero]
          refine wpAnyH_take (i := 7) (oi := _) (v := .pointer (some ⟨b, 1, none⟩)) rfl (by kernel_rfl) (by kernel_rfl) (by kernel_rfl) (fun _ _ _ h => h) (Or.inl ⟨by rfl, fun w h => by go_simp⟩) hHeld ?_
          try simp only [Act.put, List.setIfInBounds_toArray, List.set_cons_zero, List.set_cons_succ, List.getElem_toArray, List.getElem_cons_succ, List.getElem_cons_zero]
          refine wpAnyH_take (i := 8) (oi := _) (v := .agg (vec 8 c.r.up)) rfl (by kernel_rfl) (by kernel_rfl) (by kernel_rfl) (fun _ _ _ h => h) (yieldsIf_load_mid (by rfl) _ _ rfl _ _ rfl _ _ ((fun w h => row_radius (HX.out.below h))) Try.underlying36 rfl (size_cyc8 _)) hHeld ?_
          try simp only [Act.put, List.setIfInBounds_toArray, List.set_cons_zero, List.set_cons_succ, List.getElem_toArray, List.getElem_cons_succ, List.getElem_cons_zero]
          refine wpAnyH_ready (rs := [9]) (by kernel_rfl) (by simp) ?_
          refine AllReadyH.cons (o := _) rfl (fun K hK => ?_) AllReadyH.nil
          go_simp
          refine (S _).mono ?_; rintro e w5 ⟨rfl, hb5⟩
          go_wp2_with fail
          refine hK.out _ _ (below_next hHeld hb5) (fun hHeld => ?_)
          clear hK K
          try simp only [Act.put, List.setIfInBounds_toArray, List.set_cons_zero, List.set_cons_succ, List.getElem_toArray, List.getElem_cons_succ, List.getElem_cons_zero]
          have HO5 := Lib.hid (own_below HO.out hb5)
          clear hb5 S HO
          refine wpAnyH_take (i := 10) (oi := _) (v := .pointer (some ⟨g2, k * 9, none⟩)) rfl (by kernel_rfl) (by kernel_rfl) (by kernel_rfl) (fun _ _ _ h => h) (Or.inl ⟨by rfl, fun w h => by go_simp⟩) hHeld ?_
          try simp only [Act.put, List.setIfInBounds_toArray, List.set_cons_zero, List.set_cons_succ, List.getElem_toArray, List.getElem_cons_succ, List.getElem_cons_zero]
          refine wpAnyH_take (i := 11) (oi := _) (v := .pointer (some ⟨g2, k * 9 + 1, none⟩)) rfl (by kernel_rfl) (by kernel_rfl) (by kernel_rfl) (fun _ _ _ h => h) (Or.inl ⟨by rfl, fun w h => by go_simp⟩) hHeld ?_
          try simp only [Act.put, List.setIfInBounds_toArray, List.set_cons_zero, List.set_cons_succ, List.getElem_toArray, List.getElem_cons_succ, List.getElem_cons_zero]
          refine wpAnyH_ready (rs := [12]) (by kernel_rfl) (by simp) ?_
          refine AllReadyH.cons (o := _) rfl (fun K hK => ?_) AllReadyH.nil
          rw [if_pos (by rfl)]
          have ht := own_there (k := k) (o := 1) (n := 8) HO5.out (by omega) (by omega)
          have hn := own_radius (V.add l.r c.r) HO5.out HC.out
          have hb6 := below_setCells (G := g2) hg2 (lst 8 (V.add l.r c.r).up) (k * 9 + 1) w5 hHeld
          refine wp_store_mid 36 _ _ rfl g2 (k * 9 + 1) (vec 8 (V.add l.r c.r).up) rfl rfl (by rw [vec_size]; exact ht) (by rw [vec_size]; exact info_cyc) (vec_one 8 _) ?_
          show K _ (w5.setCells g2 (k * 9 + 1) (lst 8 (V.add l.r c.r).up))
          refine hK.out _ _ hb6 (fun hHeld => ?_)
          clear hK K
          try simp only [Act.put, List.setIfInBounds_toArray, List.set_cons_zero, List.set_cons_succ, List.getElem_toArray, List.getElem_cons_succ, List.getElem_cons_zero]
          refine wpAnyH_done (by kernel_rfl) ?_ _
          have HN : Aside (Own (w5.setCells g2 (k * 9 + 1) (lst 8 (V.add l.r c.r).up)) WR.heap.size 67 (.slice (some ⟨g2, 0, none⟩) R.length cap2) (R.set k ⟨l.s, V.add l.r c.r⟩)) := (show World.ownsRow _ _ _ _ _ (R.set k ⟨l.s, V.add l.r c.r⟩).length _ from by
            rw [List.length_set]; exact hn)
          have HB6 := Lib.hid hb6
          clear hn hb6 ht hHeld HO5
          generalize w5.setCells g2 (k * 9 + 1) (lst 8 (V.add l.r c.r).up) = W6 at *
          have HRG : Aside (W6.rangeAt g2 (k * 9 + 1) (lst 8 (V.add l.r c.r).up)) := (show _ from range_radius (c := ⟨l.s, V.add l.r c.r⟩) (range_own (cap := cap2) (by rw [List.length_set]; exact HN.out) (by rw [List.getElem?_set_self hlt])))
          go_wp2_with (first | (refine load_part (T := 36) rfl rfl rfl HRG.out Try.underlying36 rfl info_cyc ?_))
          refine (VC _).mono ?_; rintro e w7 ⟨rfl, hb7⟩
          have HQ : Aside (Added w R c (.returned (.tuple #[.slice (some ⟨g2, 0, none⟩) R.length cap2, .bool (okv (V.add l.r c.r))])) w7) := (show Added w R c _ w7 from by
            subst hbw
            have hz := Nat.le_of_lt (Nat.lt_of_lt_of_le HZ0.out HL.out.size)
            refine ⟨below_next HL0.out (below_next HL.out (below_next HB6.out hb7)), _, by rw [HF.out.2], ?_⟩
            rw [HF.out.1]
            exact own_mono (own_below HN.out hb7) hz)
          clear hb7 VC
          go_wp2
          go_ret2
          exact HQ.out
        · have heq2 : (l.s == c.s) = false := by simpa using heq
          go_upto_region 4 with fail
          refine wp_region_held_drew (S := fun w' => w' = wrx.drew) (by kernel_rfl) rfl (fun hHeld => ?_)
          refine wpAnyH_take (i := 0) (oi := _) (v := .int .i64 k) rfl (by kernel_rfl) (by kernel_rfl) (by kernel_rfl) (fun _ _ _ h => h) (Or.inl ⟨by rfl, fun w h => by go_simp⟩) hHeld ?_
          try simp only [Act.put, List.setIfInBounds_toArray, List.set_cons_zero, List.set_cons_succ, List.getElem_toArray, List.getElem_cons_succ, List.getElem_cons_zero]
          refine wpAnyH_take (i := 1) (oi := _) (v := .slice (some ⟨g, o, none⟩) R.length cap) rfl (by kernel_rfl) (by kernel_rfl) (by kernel_rfl) (fun _ _ _ h => h) (Or.inl ⟨by rfl, fun w h => by go_simp⟩) hHeld ?_
          try simp only [Act.put, List.setIfInBounds_toArray, List.set_cons_zero, List.set_cons_succ, List.getElem_toArray, List.getElem_cons_succ, List.getElem_cons_zero]
          refine wpAnyH_take (i := 2) (oi := _) (v := .int .i64 R.length) rfl (by kernel_rfl) (by kernel_rfl) (by kernel_rfl) (fun _ _ _ h => h) (Or.inl ⟨by rfl, fun w h => by go_simp⟩) hHeld ?_
          try simp only [Act.put, List.setIfInBounds_toArray, List.set_cons_zero, List.set_cons_succ, List.getElem_toArray, List.getElem_cons_succ, List.getElem_cons_zero]
          refine wpAnyH_take (i := 3) (oi := _) (v := .bool true) rfl (by kernel_rfl) (by kernel_rfl) (by kernel_rfl) (fun _ _ _ h => h) (Or.inl ⟨by rfl, fun w h => by go_simp⟩) hHeld ?_
          try simp only [Act.put, List.setIfInBounds_toArray, List.set_cons_zero, List.set_cons_succ, List.getElem_toArray, List.getElem_cons_succ, List.getElem_cons_zero]
          refine wpAnyH_take (i := 4) (oi := _) (v := .bool true) rfl (by kernel_rfl) (by kernel_rfl) (by kernel_rfl) (fun _ _ _ h => h) (Or.inl ⟨by rfl, fun w h => by go_simp⟩) hHeld ?_
          try simp only [Act.put, List.setIfInBounds_toArray, List.set_cons_zero, List.set_cons_succ, List.getElem_toArray, List.getElem_cons_succ, List.getElem_cons_zero]
          refine wpAnyH_take (i := 5) (oi := _) (v := .slice (some ⟨g, o, none⟩) R.length cap) rfl (by kernel_rfl) (by kernel_rfl) (by kernel_rfl) (fun _ _ _ h => h) (Or.inl ⟨by rfl, fun w h => by go_simp⟩) hHeld ?_
          try simp only [Act.put, List.setIfInBounds_toArray, List.set_cons_zero, List.set_cons_succ, List.getElem_toArray, List.getElem_cons_succ, List.getElem_cons_zero]
          refine wpAnyH_take (i := 6) (oi := _) (v := .int .i64 k) rfl (by kernel_rfl) (by kernel_rfl) (by kernel_rfl) (fun _ _ _ h => h) (Or.inl ⟨by rfl, fun w h => by go_simp⟩) hHeld ?_
          try simp only [Act.put, List.setIfInBounds_toArray, List.set_cons_zero, List.set_cons_succ, List.getElem_toArray, List.getElem_cons_succ, List.getElem_cons_zero]
          refine wpAnyH_take (i := 7) (oi := _) (v := .pointer (some ⟨g, o + k * 9, none⟩)) rfl (by kernel_rfl) (by kernel_rfl) (by kernel_rfl) (fun _ _ _ h => h) (Or.inl ⟨by rfl, fun w h => by go_simp⟩) hHeld ?_
          try simp only [Act.put, List.setIfInBounds_toArray, List.set_cons_zero, List.set_cons_succ, List.getElem_toArray, List.getElem_cons_succ, List.getElem_cons_zero]
          refine wpAnyH_take (i := 8) (oi := _) (v := .pointer (some ⟨g, o + k * 9, none⟩)) rfl (by kernel_rfl) (by kernel_rfl) (by kernel_rfl) (fun _ _ _ h => h) (Or.inl ⟨by rfl, fun w h => by go_simp⟩) hHeld ?_
          try simp only [Act.put, List.setIfInBounds_toArray, List.set_cons_zero, List.set_cons_succ, List.getElem_toArray, List.getElem_cons_succ, List.getElem_cons_zero]
          refine wpAnyH_take (i := 9) (oi := _) (v := .int .i64 l.s) rfl (by kernel_rfl) (by kernel_rfl) (by kernel_rfl) (fun _ _ _ h => h) (Or.inl ⟨by rfl, fun w h => by have hcell := (show wrx.drew.cell? ⟨g, o + k * 9, none⟩ = some (.int .i64 l.s) from range_speed HE.out); go_simp⟩) hHeld ?_
          try simp only [Act.put, List.setIfInBounds_toArray, List.set_cons_zero, List.set_cons_succ, List.getElem_toArray, List.getElem_cons_succ, List.getElem_cons_zero]
          refine wpAnyH_take (i := 10) (oi := _) (v := .pointer (some ⟨b, 0, none⟩)) rfl (by kernel_rfl) (by kernel_rfl) (by kernel_rfl) (fun _ _ _ h => h) (Or.inl ⟨by rfl, fun w h => by go_simp⟩) hHeld ?_
          try simp only [Act.put, List.setIfInBounds_toArray, List.set_cons_zero, List.set_cons_succ, List.getElem_toArray, List.getElem_cons_succ, List.getElem_cons_zero]
          refine wpAnyH_take (i := 11) (oi := _) (v := .int .i64 c.s) rfl (by kernel_rfl) (by kernel_rfl) (by kernel_rfl) (fun _ _ _ h => h) (Or.inl ⟨by rfl, fun w h => by have hcell := (show wrx.drew.cell? ⟨b, 0, none⟩ = some (.int .i64 c.s) from row_speed HX.out); go_simp⟩) hHeld ?_
          try simp only [Act.put, List.setIfInBounds_toArray, List.set_cons_zero, List.set_cons_succ, List.getElem_toArray, List.getElem_cons_succ, List.getElem_cons_zero]
          refine wpAnyH_take (i := 12) (oi := _) (v := .bool false) rfl (by kernel_rfl) (by kernel_rfl) (by kernel_rfl) (fun _ _ _ h => h) (Or.inl ⟨by rfl, fun w h => by go_simp⟩) hHeld ?_
          try simp only [Act.put, List.setIfInBounds_toArray, List.set_cons_zero, List.set_cons_succ, List.getElem_toArray, List.getElem_cons_succ, List.getElem_cons_zero]
          refine wpAnyH_take (i := 13) (oi := _) (v := .bool false) rfl (by kernel_rfl) (by kernel_rfl) (by kernel_rfl) (fun _ _ _ h => h) (Or.inl ⟨by rfl, fun w h => by go_simp⟩) hHeld ?_
          try simp only [Act.put, List.setIfInBounds_toArray, List.set_cons_zero, List.set_cons_succ, List.getElem_toArray, List.getElem_cons_succ, List.getElem_cons_zero]
          clear hHeld
          refine wpAnyH_done (by kernel_rfl) ?_ _
          replace HL : Aside (Below W.heap.size W wrx.drew) := HL.out.drew
          replace HX : Aside (RowAt wrx.drew b 9 67 (wf c)) := HX.out.drew1
          replace HRD : Aside (wrx.drew.rangeAt g o (flat R)) := HRD.out
          replace HE : Aside (wrx.drew.rangeAt g (o + k * 9) (enc l)) := HE.out
          generalize wrx.drew = wrxx at *
          generalize wrxx = WR at *
          have HNW : Aside (∀ d, (R.drop k)[0]? = some d → c.s < d.s) := (show ∀ d, (R.drop k)[0]? = some d → c.s < d.s from fun d hd => by
            rw [List.getElem?_drop, Nat.add_zero, HC.out] at hd
            obtain rfl := Option.some.inj hd
            omega)
          clear HE
          have HZR : Aside (g < WR.heap.size ∧ b < WR.heap.size) := ⟨Nat.lt_of_lt_of_le HGW.out HL.out.size, Nat.lt_of_lt_of_le HZ0.out HL.out.size⟩
          have HT := Lib.hid (reads_take hk hc1 HM.out HZR.out.1 HRD.out)
          obtain ⟨off, hoff⟩ : ∃ off, (cap = k → off = o) ∧ (¬ cap = k → off = o + k * 9) := by
            by_cases h : cap = k
            · exact ⟨o, fun _ => rfl, fun h' => absurd h h'⟩
            · exact ⟨o + k * 9, fun h' => absurd h' h, fun _ => rfl⟩
          have HD : Aside (Reads WR (.slice (some ⟨g, off, none⟩) (R.length - k) (cap - k)) (R.drop k)) := reads_off hk hc1 HM.out HZR.out.1 HRD.out hoff
          have HOFF := Lib.hid hoff
          clear hoff
          have hkle : (k : Int) ≤ (R.length : Int) := by omega
          have hkc : (k : Int) ≤ (cap : Int) := by omega
          have hlc : (R.length : Int) ≤ (cap : Int) := by omega
          have VC : ∀ w, Calls Try.prog 85 #[.agg (vec 8 c.r.up)] w fun e w' => e = .returned (.bool (okv c.r)) ∧ Below w.heap.size w w' := fun w => specValid_any c.r.up w
          go_upto_region 8 with fail
          refine wp_region_held_drew (S := fun w' => Below WR.heap.size WR w') (by kernel_rfl) (Below.refl _ _).drew (fun hHeld => ?_)
          refine wpAnyH_take (i := 1) (oi := _) (v := .slice (some ⟨g, o, none⟩) R.length cap) rfl (by kernel_rfl) (by kernel_rfl) (by kernel_rfl) (fun _ _ _ h => h) (Or.inl ⟨by rfl, fun w h => by go_simp⟩) hHeld ?_
          try simp only [Act.put, List.setIfInBounds_toArray, List.set_cons_zero, List.set_cons_succ, List.getElem_toArray, List.getElem_cons_succ, List.getElem_cons_zero]
          refine wpAnyH_take (i := 2) (oi := _) (v := .int .i64 k) rfl (by kernel_rfl) (by kernel_rfl) (by kernel_rfl) (fun _ _ _ h => h) (Or.inl ⟨by rfl, fun w h => by go_simp⟩) hHeld ?_
          try simp only [Act.put, List.setIfInBounds_toArray, List.set_cons_zero, List.set_cons_succ, List.getElem_toArray, List.getElem_cons_succ, List.getElem_cons_zero]
          refine wpAnyH_take (i := 3) (oi := _) (v := .slice (some ⟨g, o, none⟩) k cap) rfl (by kernel_rfl) (by kernel_rfl) (by kernel_rfl) (fun _ _ _ h => h) (Or.inl ⟨by rfl, fun w h => by go_simp⟩) hHeld ?_
          try simp only [Act.put, List.setIfInBounds_toArray, List.set_cons_zero, List.set_cons_succ, List.getElem_toArray, List.getElem_cons_succ, List.getElem_cons_zero]
          refine wpAnyH_take (i := 5) (oi := _) (v := .agg (vec 9 (wf c))) rfl (by kernel_rfl) (by kernel_rfl) (by kernel_rfl) (fun _ _ _ h => h) (yieldsIf_load_mid (by rfl) _ _ rfl _ _ rfl _ _ ((fun w h => row_wheel (HX.out.below h))) Try.underlying67 rfl (size_wheel c)) hHeld ?_
          try simp only [Act.put, List.setIfInBounds_toArray, List.set_cons_zero, List.set_cons_succ, List.getElem_toArray, List.getElem_cons_succ, List.getElem_cons_zero]
          refine wpAnyH_take (i := 8) (oi := _) (v := .slice (some ⟨g, o, none⟩) R.length cap) rfl (by kernel_rfl) (by kernel_rfl) (by kernel_rfl) (fun _ _ _ h => h) (Or.inl ⟨by rfl, fun w h => by go_simp⟩) hHeld ?_
          try simp only [Act.put, List.setIfInBounds_toArray, List.set_cons_zero, List.set_cons_succ, List.getElem_toArray, List.getElem_cons_succ, List.getElem_cons_zero]
          refine wpAnyH_take (i := 9) (oi := _) (v := .int .i64 k) rfl (by kernel_rfl) (by kernel_rfl) (by kernel_rfl) (fun _ _ _ h => h) (Or.inl ⟨by rfl, fun w h => by go_simp⟩) hHeld ?_
          try simp only [Act.put, List.setIfInBounds_toArray, List.set_cons_zero, List.set_cons_succ, List.getElem_toArray, List.getElem_cons_succ, List.getElem_cons_zero]
          refine wpAnyH_take (i := 10) (oi := _) (v := .slice (some ⟨g, off, none⟩) (R.length - k) (cap - k)) rfl (by kernel_rfl) (by kernel_rfl) (by kernel_rfl) (fun _ _ _ h => h) (Or.inl ⟨by rfl, fun w h => (Decidable.em (cap = k)).elim (fun hck => by have ho := HOFF.out.1 hck; go_simp) (fun hck => by have ho := HOFF.out.2 hck; go_simp)⟩) hHeld ?_
          try simp only [Act.put, List.setIfInBounds_toArray, List.set_cons_zero, List.set_cons_succ, List.getElem_toArray, List.getElem_cons_succ, List.getElem_cons_zero]
          refine wpAnyH_take (i := 12) (oi := _) (v := .pointer (some ⟨b, 1, none⟩)) rfl (by kernel_rfl) (by kernel_rfl) (by kernel_rfl) (fun _ _ _ h => h) (Or.inl ⟨by rfl, fun w h => by go_simp⟩) hHeld ?_
          try simp only [Act.put, List.setIfInBounds_toArray, List.set_cons_zero, List.set_cons_succ, List.getElem_toArray, List.getElem_cons_succ, List.getElem_cons_zero]
          refine wpAnyH_take (i := 13) (oi := _) (v := .agg (vec 8 c.r.up)) rfl (by kernel_rfl) (by kernel_rfl) (by kernel_rfl) (fun _ _ _ h => h) (yieldsIf_load_mid (by rfl) _ _ rfl _ _ rfl _ _ ((fun w h => row_radius (HX.out.below h))) Try.underlying36 rfl (size_cyc8 _)) hHeld ?_
          try simp only [Act.put, List.setIfInBounds_toArray, List.set_cons_zero, List.set_cons_succ, List.getElem_toArray, List.getElem_cons_succ, List.getElem_cons_zero]
          refine wpAnyH_ready (rs := [0, 6]) (by kernel_rfl) (by simp) ?_
          refine AllReadyH.cons (o := _) rfl (fun K hK => ?_) (AllReadyH.cons (o := _) rfl (fun K hK => ?_) AllReadyH.nil)
          · rw [if_pos (by rfl)]
            go_simp
            have hown := own_lit WR.drew WR.heap.size 67 (Nat.le_refl _)
            refine hK.out _ _ (hHeld.alloc hHeld.size _) (fun hHeld => ?_)
            clear hK K
            try simp only [Act.put, List.setIfInBounds_toArray, List.set_cons_zero, List.set_cons_succ, List.getElem_toArray, List.getElem_cons_succ, List.getElem_cons_zero]
            refine wpAnyH_ready (rs := [4, 6]) (by kernel_rfl) (by simp) ?_
            refine AllReadyH.cons (o := _) rfl (fun K hK => ?_) (AllReadyH.cons (o := _) rfl (fun K hK => ?_) AllReadyH.nil)
            · refine wp_append_list tyW rfl (xs := []) (ys := R.take k) rfl rfl hown ((HT.out).below hHeld) (by simp; omega) hHeld hHeld.size ?_; intro v2 w2 ho2 hb2 hB2
              refine hK.out _ _ hb2 (fun hHeld => ?_)
              clear hK K
              try simp only [Act.put, List.setIfInBounds_toArray, List.set_cons_zero, List.set_cons_succ, List.getElem_toArray, List.getElem_cons_succ, List.getElem_cons_zero]
              clear hown
              rw [List.nil_append] at ho2
              refine wpAnyH_ready (rs := [6]) (by kernel_rfl) (by simp) ?_
              refine AllReadyH.cons (o := _) rfl (fun K hK => ?_) AllReadyH.nil
              rw [if_pos (by rfl)]
              refine wp_one9 tyW rfl rfl ?_
              have hlit := reads_lit w2 c 67
              have hown : Own (w2.alloc (.cells (vec 9 (wf c)) 67)) WR.heap.size 67 v2 (R.take k) := (show World.ownsRow _ _ _ _ _ _ _ from World.ownsRow.alloc ho2 _)
              refine hK.out _ _ (hb2.alloc hB2 _) (fun hHeld => ?_)
              clear hK K
              try simp only [Act.put, List.setIfInBounds_toArray, List.set_cons_zero, List.set_cons_succ, List.getElem_toArray, List.getElem_cons_succ, List.getElem_cons_zero]
              clear ho2 hb2 hB2
              refine wpAnyH_ready (rs := [7]) (by kernel_rfl) (by simp) ?_
              refine AllReadyH.cons (o := _) rfl (fun K hK => ?_) AllReadyH.nil
              refine wp_append_list tyW rfl (xs := R.take k) (ys := [c]) rfl rfl hown hlit (by simp; omega) hHeld hHeld.size ?_; intro v3 w3 ho3 hb3 hB3
              refine hK.out _ _ hb3 (fun hHeld => ?_)
              clear hK K
              try simp only [Act.put, List.setIfInBounds_toArray, List.set_cons_zero, List.set_cons_succ, List.getElem_toArray, List.getElem_cons_succ, List.getElem_cons_zero]
              clear hown hlit
              refine wpAnyH_ready (rs := [11]) (by kernel_rfl) (by simp) ?_
              refine AllReadyH.cons (o := _) rfl (fun K hK => ?_) AllReadyH.nil
              refine wp_append_list tyW rfl (xs := R.take k ++ [c]) (ys := R.drop k) rfl rfl ho3 ((HD.out).below hb3) (by simp; omega) hb3 hB3 ?_; intro v4 w4 ho4 hb4 hB4
              refine hK.out _ _ hb4 (fun hHeld => ?_)
              clear hK K
              try simp only [Act.put, List.setIfInBounds_toArray, List.set_cons_zero, List.set_cons_succ, List.getElem_toArray, List.getElem_cons_succ, List.getElem_cons_zero]
              clear ho3 hb3 hB3
              refine wpAnyH_ready (rs := [14]) (by kernel_rfl) (by simp) ?_
              refine AllReadyH.cons (o := _) rfl (fun K hK => ?_) AllReadyH.nil
              go_simp
              refine (VC _).mono ?_; rintro e w5 ⟨rfl, hb5⟩
              go_wp2_with fail
              refine hK.out _ _ (below_next hb4 hb5) (fun hHeld => ?_)
              clear hK K
              try simp only [Act.put, List.setIfInBounds_toArray, List.set_cons_zero, List.set_cons_succ, List.getElem_toArray, List.getElem_cons_succ, List.getElem_cons_zero]
              have ho5 := own_below ho4 hb5
              clear ho4 hb4 hB4 hb5 VC
              refine wpAnyH_take (i := 15) (oi := _) (v := v4) rfl (by kernel_rfl) (by kernel_rfl) (by kernel_rfl) (fun _ _ _ h => h) (Or.inl ⟨by rfl, fun w h => by go_simp⟩) hHeld ?_
              try simp only [Act.put, List.setIfInBounds_toArray, List.set_cons_zero, List.set_cons_succ, List.getElem_toArray, List.getElem_cons_succ, List.getElem_cons_zero]
              refine wpAnyH_take (i := 16) (oi := _) (v := .bool (okv c.r)) rfl (by kernel_rfl) (by kernel_rfl) (by kernel_rfl) (fun _ _ _ h => h) (Or.inl ⟨by rfl, fun w h => by go_simp⟩) hHeld ?_
              try simp only [Act.put, List.setIfInBounds_toArray, List.set_cons_zero, List.set_cons_succ, List.getElem_toArray, List.getElem_cons_succ, List.getElem_cons_zero]
              refine wpAnyH_done (by kernel_rfl) ?_ _
              have HF : Aside (Added w R c (.returned (.tuple #[v4, .bool (okv c.r)])) w5) := (show Added w R c _ w5 from by
                subst hbw
                have hi := ins_split true c (R.drop k) (R.take k) HFA.out
                rw [List.take_append_drop] at hi
                have hj := ins_new c (R.drop k) HNW.out
                have hz := Nat.le_of_lt (Nat.lt_of_lt_of_le HZ0.out HL.out.size)
                refine ⟨below_next HL0.out (below_next HL.out hHeld), v4, by rw [hi.2, hj.2], ?_⟩
                rw [hi.1, hj.1]
                have e : R.take k ++ c :: R.drop k = (R.take k ++ [c]) ++ R.drop k := by simp
                rw [e]
                exact own_mono ho5 hz)
              clear ho5 hHeld
              go_wp2
              go_ret2
              exact HF.out
            · rw [if_pos (by rfl)]
              refine wp_one9 tyW rfl rfl ?_
              have hz1 := hHeld.size
              have hlit2 := reads_lit (WR.drew.alloc (.cells #[] 67)) c 67
              have hown2 : Own ((WR.drew.alloc (.cells #[] 67)).alloc (.cells (vec 9 (wf c)) 67)) WR.heap.size 67 _ [] := (show World.ownsRow _ _ _ _ _ _ _ from World.ownsRow.alloc hown _)
              refine hK.out _ _ (hHeld.alloc hz1 _) (fun hHeld => ?_)
              clear hK K
              try simp only [Act.put, List.setIfInBounds_toArray, List.set_cons_zero, List.set_cons_succ, List.getElem_toArray, List.getElem_cons_succ, List.getElem_cons_zero]
              clear hown
              refine wpAnyH_ready (rs := [4]) (by kernel_rfl) (by simp) ?_
              refine AllReadyH.cons (o := _) rfl (fun K hK => ?_) AllReadyH.nil
              refine wp_append_list2 tyW rfl (xs := []) (ys := R.take k) rfl rfl hown2 ((HT.out).below hHeld) (by simp; omega) hHeld hHeld.size ?_; intro v2 w2 ho2 hb2 hB2 hgr
              refine hK.out _ _ hb2 (fun hHeld => ?_)
              clear hK K
              try simp only [Act.put, List.setIfInBounds_toArray, List.set_cons_zero, List.set_cons_succ, List.getElem_toArray, List.getElem_cons_succ, List.getElem_cons_zero]
              rw [List.nil_append] at ho2
              have hlit := reads_kept hlit2 hgr (by show ¬ some _ = some _; simp)
              clear hlit2 hown2 hgr
              have hown := ho2
              clear ho2 hb2 hB2
              refine wpAnyH_ready (rs := [7]) (by kernel_rfl) (by simp) ?_
              refine AllReadyH.cons (o := _) rfl (fun K hK => ?_) AllReadyH.nil
              refine wp_append_list tyW rfl (xs := R.take k) (ys := [c]) rfl rfl hown hlit (by simp; omega) hHeld hHeld.size ?_; intro v3 w3 ho3 hb3 hB3
              refine hK.out _ _ hb3 (fun hHeld => ?_)
              clear hK K
              try simp only [Act.put, List.setIfInBounds_toArray, List.set_cons_zero, List.set_cons_succ, List.getElem_toArray, List.getElem_cons_succ, List.getElem_cons_zero]
              clear hown hlit
              refine wpAnyH_ready (rs := [11]) (by kernel_rfl) (by simp) ?_
              refine AllReadyH.cons (o := _) rfl (fun K hK => ?_) AllReadyH.nil
              refine wp_append_list tyW rfl (xs := R.take k ++ [c]) (ys := R.drop k) rfl rfl ho3 ((HD.out).below hb3) (by simp; omega) hb3 hB3 ?_; intro v4 w4 ho4 hb4 hB4
              refine hK.out _ _ hb4 (fun hHeld => ?_)
              clear hK K
              try simp only [Act.put, List.setIfInBounds_toArray, List.set_cons_zero, List.set_cons_succ, List.getElem_toArray, List.getElem_cons_succ, List.getElem_cons_zero]
              clear ho3 hb3 hB3
              refine wpAnyH_ready (rs := [14]) (by kernel_rfl) (by simp) ?_
              refine AllReadyH.cons (o := _) rfl (fun K hK => ?_) AllReadyH.nil
              go_simp
              refine (VC _).mono ?_; rintro e w5 ⟨rfl, hb5⟩
              go_wp2_with fail
              refine hK.out _ _ (below_next hb4 hb5) (fun hHeld => ?_)
              clear hK K
              try simp only [Act.put, List.setIfInBounds_toArray, List.set_cons_zero, List.set_cons_succ, List.getElem_toArray, List.getElem_cons_succ, List.getElem_cons_zero]
              have ho5 := own_below ho4 hb5
              clear ho4 hb4 hB4 hb5 VC
              refine wpAnyH_take (i := 15) (oi := _) (v := v4) rfl (by kernel_rfl) (by kernel_rfl) (by kernel_rfl) (fun _ _ _ h => h) (Or.inl ⟨by rfl, fun w h => by go_simp⟩) hHeld ?_
              try simp only [Act.put, List.setIfInBounds_toArray, List.set_cons_zero, List.set_cons_succ, List.getElem_toArray, List.getElem_cons_succ, List.getElem_cons_zero]
              refine wpAnyH_take (i := 16) (oi := _) (v := .bool (okv c.r)) rfl (by kernel_rfl) (by kernel_rfl) (by kernel_rfl) (fun _ _ _ h => h) (Or.inl ⟨by rfl, fun w h => by go_simp⟩) hHeld ?_
              try simp only [Act.put, List.setIfInBounds_toArray, List.set_cons_zero, List.set_cons_succ, List.getElem_toArray, List.getElem_cons_succ, List.getElem_cons_zero]
              refine wpAnyH_done (by kernel_rfl) ?_ _
              have HF : Aside (Added w R c (.returned (.tuple #[v4, .bool (okv c.r)])) w5) := (show Added w R c _ w5 from by
                subst hbw
                have hi := ins_split true c (R.drop k) (R.take k) HFA.out
                rw [List.take_append_drop] at hi
                have hj := ins_new c (R.drop k) HNW.out
                have hz := Nat.le_of_lt (Nat.lt_of_lt_of_le HZ0.out HL.out.size)
                refine ⟨below_next HL0.out (below_next HL.out hHeld), v4, by rw [hi.2, hj.2], ?_⟩
                rw [hi.1, hj.1]
                have e : R.take k ++ c :: R.drop k = (R.take k ++ [c]) ++ R.drop k := by simp
                rw [e]
                exact own_mono ho5 hz)
              clear ho5 hHeld
              go_wp2
              go_ret2
              exact HF.out
          · rw [if_pos (by rfl)]
            refine wp_one9 tyW rfl rfl ?_
            have hlit1 := reads_lit WR.drew c 67
            refine hK.out _ _ (hHeld.alloc hHeld.size _) (fun hHeld => ?_)
            clear hK K
            try simp only [Act.put, List.setIfInBounds_toArray, List.set_cons_zero, List.set_cons_succ, List.getElem_toArray, List.getElem_cons_succ, List.getElem_cons_zero]
            refine wpAnyH_ready (rs := [0]) (by kernel_rfl) (by simp) ?_
            refine AllReadyH.cons (o := _) rfl (fun K hK => ?_) AllReadyH.nil
            rw [if_pos (by rfl)]
            go_simp
            have hz1 := hHeld.size
            have hown3 := own_lit (WR.drew.alloc (.cells (vec 9 (wf c)) 67)) WR.heap.size 67 hz1
            have hsz : (WR.drew.alloc (.cells (vec 9 (wf c)) 67)).heap.size = WR.heap.size + 1 := by simp
            rw [hsz] at hown3
            have hown2 : Own ((WR.alloc (.cells (vec 9 (wf c)) 67)).alloc (.cells #[] 67)).drew WR.heap.size 67 (.slice (some ⟨WR.heap.size + 1, 0, none⟩) 0 0) [] := (show Own _ _ _ _ _ from hown3)
            clear hown3 hsz
            have hlit2 := hlit1.below ((Below.refl _ _).alloc (Nat.le_refl _) (.cells #[] 67))
            refine hK.out _ _ (hHeld.alloc hz1 _) (fun hHeld => ?_)
            clear hK K
            try simp only [Act.put, List.setIfInBounds_toArray, List.set_cons_zero, List.set_cons_succ, List.getElem_toArray, List.getElem_cons_succ, List.getElem_cons_zero]
            clear hlit1
            refine wpAnyH_ready (rs := [4]) (by kernel_rfl) (by simp) ?_
            refine AllReadyH.cons (o := _) rfl (fun K hK => ?_) AllReadyH.nil
            refine wp_append_list2 tyW rfl (xs := []) (ys := R.take k) rfl rfl hown2 ((HT.out).below hHeld) (by simp; omega) hHeld hHeld.size ?_; intro v2 w2 ho2 hb2 hB2 hgr
            refine hK.out _ _ hb2 (fun hHeld => ?_)
            clear hK K
            try simp only [Act.put, List.setIfInBounds_toArray, List.set_cons_zero, List.set_cons_succ, List.getElem_toArray, List.getElem_cons_succ, List.getElem_cons_zero]
            rw [List.nil_append] at ho2
            have hlit := reads_kept hlit2 hgr (by show ¬ some _ = some _; simp)
            clear hlit2 hown2 hgr
            have hown := ho2
            clear ho2 hb2 hB2
            refine wpAnyH_ready (rs := [7]) (by kernel_rfl) (by simp) ?_
            refine AllReadyH.cons (o := _) rfl (fun K hK => ?_) AllReadyH.nil
            refine wp_append_list tyW rfl (xs := R.take k) (ys := [c]) rfl rfl hown hlit (by simp; omega) hHeld hHeld.size ?_; intro v3 w3 ho3 hb3 hB3
            refine hK.out _ _ hb3 (fun hHeld => ?_)
            clear hK K
            try simp only [Act.put, List.setIfInBounds_toArray, List.set_cons_zero, List.set_cons_succ, List.getElem_toArray, List.getElem_cons_succ, List.getElem_cons_zero]
            clear hown hlit
            refine wpAnyH_ready (rs := [11]) (by kernel_rfl) (by simp) ?_
            refine AllReadyH.cons (o := _) rfl (fun K hK => ?_) AllReadyH.nil
            refine wp_append_list tyW rfl (xs := R.take k ++ [c]) (ys := R.drop k) rfl rfl ho3 ((HD.out).below hb3) (by simp; omega) hb3 hB3 ?_; intro v4 w4 ho4 hb4 hB4
            refine hK.out _ _ hb4 (fun hHeld => ?_)
            clear hK K
            try simp only [Act.put, List.setIfInBounds_toArray, List.set_cons_zero, List.set_cons_succ, List.getElem_toArray, List.getElem_cons_succ, List.getElem_cons_zero]
            clear ho3 hb3 hB3
            refine wpAnyH_ready (rs := [14]) (by kernel_rfl) (by simp) ?_
            refine AllReadyH.cons (o := _) rfl (fun K hK => ?_) AllReadyH.nil
            go_simp
            refine (VC _).mono ?_; rintro e w5 ⟨rfl, hb5⟩
            go_wp2_with fail
            refine hK.out _ _ (below_next hb4 hb5) (fun hHeld => ?_)
            clear hK K
            try simp only [Act.put, List.setIfInBounds_toArray, List.set_cons_zero, List.set_cons_succ, List.getElem_toArray, List.getElem_cons_succ, List.getElem_cons_zero]
            have ho5 := own_below ho4 hb5
            clear ho4 hb4 hB4 hb5 VC
            refine wpAnyH_take (i := 15) (oi := _) (v := v4) rfl (by kernel_rfl) (by kernel_rfl) (by kernel_rfl) (fun _ _ _ h => h) (Or.inl ⟨by rfl, fun w h => by go_simp⟩) hHeld ?_
            try simp only [Act.put, List.setIfInBounds_toArray, List.set_cons_zero, List.set_cons_succ, List.getElem_toArray, List.getElem_cons_succ, List.getElem_cons_zero]
            refine wpAnyH_take (i := 16) (oi := _) (v := .bool (okv c.r)) rfl (by kernel_rfl) (by kernel_rfl) (by kernel_rfl) (fun _ _ _ h => h) (Or.inl ⟨by rfl, fun w h => by go_simp⟩) hHeld ?_
            try simp only [Act.put, List.setIfInBounds_toArray, List.set_cons_zero, List.set_cons_succ, List.getElem_toArray, List.getElem_cons_succ, List.getElem_cons_zero]
            refine wpAnyH_done (by kernel_rfl) ?_ _
            have HF : Aside (Added w R c (.returned (.tuple #[v4, .bool (okv c.r)])) w5) := (show Added w R c _ w5 from by
              subst hbw
              have hi := ins_split true c (R.drop k) (R.take k) HFA.out
              rw [List.take_append_drop] at hi
              have hj := ins_new c (R.drop k) HNW.out
              have hz := Nat.le_of_lt (Nat.lt_of_lt_of_le HZ0.out HL.out.size)
              refine ⟨below_next HL0.out (below_next HL.out hHeld), v4, by rw [hi.2, hj.2], ?_⟩
              rw [hi.1, hj.1]
              have e : R.take k ++ c :: R.drop k = (R.take k ++ [c]) ++ R.drop k := by simp
              rw [e]
              exact own_mono ho5 hz)
            clear ho5 hHeld
            go_wp2
            go_ret2
            exact HF.out
    · have HKR : Aside (k = R.length) := (show k = R.length from by omega)
      have hkz : ¬ (k : Int) < (R.length : Int) := by omega
      go_upto_region 2 with fail
      refine wp_region_held_drew (S := fun w' => w' = wr.drew) (by kernel_rfl) rfl (fun hHeld => ?_)
      refine wpAnyH_take (i := 0) (oi := _) (v := .int .i64 k) rfl (by kernel_rfl) (by kernel_rfl) (by kernel_rfl) (fun _ _ _ h => h) (Or.inl ⟨by rfl, fun w h => by go_simp⟩) hHeld ?_
      try simp only [Act.put, List.setIfInBounds_toArray, List.set_cons_zero, List.set_cons_succ, List.getElem_toArray, List.getElem_cons_succ, List.getElem_cons_zero]
      refine wpAnyH_take (i := 1) (oi := _) (v := .slice (some ⟨g, o, none⟩) R.length cap) rfl (by kernel_rfl) (by kernel_rfl) (by kernel_rfl) (fun _ _ _ h => h) (Or.inl ⟨by rfl, fun w h => by go_simp⟩) hHeld ?_
      try simp only [Act.put, List.setIfInBounds_toArray, List.set_cons_zero, List.set_cons_succ, List.getElem_toArray, List.getElem_cons_succ, List.getElem_cons_zero]
      refine wpAnyH_take (i := 2) (oi := _) (v := .int .i64 R.length) rfl (by kernel_rfl) (by kernel_rfl) (by kernel_rfl) (fun _ _ _ h => h) (Or.inl ⟨by rfl, fun w h => by go_simp⟩) hHeld ?_
      try simp only [Act.put, List.setIfInBounds_toArray, List.set_cons_zero, List.set_cons_succ, List.getElem_toArray, List.getElem_cons_succ, List.getElem_cons_zero]
      refine wpAnyH_take (i := 3) (oi := _) (v := .bool false) rfl (by kernel_rfl) (by kernel_rfl) (by kernel_rfl) (fun _ _ _ h => h) (Or.inl ⟨by rfl, fun w h => by go_simp⟩) hHeld ?_
      try simp only [Act.put, List.setIfInBounds_toArray, List.set_cons_zero, List.set_cons_succ, List.getElem_toArray, List.getElem_cons_succ, List.getElem_cons_zero]
      refine wpAnyH_take (i := 4) (oi := _) (v := .bool false) rfl (by kernel_rfl) (by kernel_rfl) (by kernel_rfl) (fun _ _ _ h => h) (Or.inl ⟨by rfl, fun w h => by go_simp⟩) hHeld ?_
      try simp only [Act.put, List.setIfInBounds_toArray, List.set_cons_zero, List.set_cons_succ, List.getElem_toArray, List.getElem_cons_succ, List.getElem_cons_zero]
      refine wpAnyH_take (i := 5) (oi := _) (v := undef) rfl (by kernel_rfl) (by kernel_rfl) (by kernel_rfl) (fun _ _ _ h => h) (Or.inr ⟨by rfl, rfl⟩) hHeld ?_
      try simp only [Act.put, List.setIfInBounds_toArray, List.set_cons_zero, List.set_cons_succ, List.getElem_toArray, List.getElem_cons_succ, List.getElem_cons_zero]
      refine wpAnyH_take (i := 6) (oi := _) (v := undef) rfl (by kernel_rfl) (by kernel_rfl) (by kernel_rfl) (fun _ _ _ h => h) (Or.inr ⟨by rfl, rfl⟩) hHeld ?_
      try simp only [Act.put, List.setIfInBounds_toArray, List.set_cons_zero, List.set_cons_succ, List.getElem_toArray, List.getElem_cons_succ, List.getElem_cons_zero]
      refine wpAnyH_take (i := 7) (oi := _) (v := undef) rfl (by kernel_rfl) (by kernel_rfl) (by kernel_rfl) (fun _ _ _ h => h) (Or.inr ⟨by rfl, rfl⟩) hHeld ?_
      try simp only [Act.put, List.setIfInBounds_toArray, List.set_cons_zero, List.set_cons_succ, List.getElem_toArray, List.getElem_cons_succ, List.getElem_cons_zero]
      refine wpAnyH_take (i := 8) (oi := _) (v := undef) rfl (by kernel_rfl) (by kernel_rfl) (by kernel_rfl) (fun _ _ _ h => h) (Or.inr ⟨by rfl, rfl⟩) hHeld ?_
      try simp only [Act.put, List.setIfInBounds_toArray, List.set_cons_zero, List.set_cons_succ, List.getElem_toArray, List.getElem_cons_succ, List.getElem_cons_zero]
      refine wpAnyH_take (i := 9) (oi := _) (v := undef) rfl (by kernel_rfl) (by kernel_rfl) (by kernel_rfl) (fun _ _ _ h => h) (Or.inr ⟨by rfl, rfl⟩) hHeld ?_
      try simp only [Act.put, List.setIfInBounds_toArray, List.set_cons_zero, List.set_cons_succ, List.getElem_toArray, List.getElem_cons_succ, List.getElem_cons_zero]
      refine wpAnyH_take (i := 10) (oi := _) (v := undef) rfl (by kernel_rfl) (by kernel_rfl) (by kernel_rfl) (fun _ _ _ h => h) (Or.inr ⟨by rfl, rfl⟩) hHeld ?_
      try simp only [Act.put, List.setIfInBounds_toArray, List.set_cons_zero, List.set_cons_succ, List.getElem_toArray, List.getElem_cons_succ, List.getElem_cons_zero]
      refine wpAnyH_take (i := 11) (oi := _) (v := undef) rfl (by kernel_rfl) (by kernel_rfl) (by kernel_rfl) (fun _ _ _ h => h) (Or.inr ⟨by rfl, rfl⟩) hHeld ?_
      try simp only [Act.put, List.setIfInBounds_toArray, List.set_cons_zero, List.set_cons_succ, List.getElem_toArray, List.getElem_cons_succ, List.getElem_cons_zero]
      refine wpAnyH_take (i := 12) (oi := _) (v := undef) rfl (by kernel_rfl) (by kernel_rfl) (by kernel_rfl) (fun _ _ _ h => h) (Or.inr ⟨by rfl, rfl⟩) hHeld ?_
      try simp only [Act.put, List.setIfInBounds_toArray, List.set_cons_zero, List.set_cons_succ, List.getElem_toArray, List.getElem_cons_succ, List.getElem_cons_zero]
      refine wpAnyH_take (i := 13) (oi := _) (v := .bool false) rfl (by kernel_rfl) (by kernel_rfl) (by kernel_rfl) (fun _ _ _ h => h) (Or.inl ⟨by rfl, fun w h => by go_simp⟩) hHeld ?_
      try simp only [Act.put, List.setIfInBounds_toArray, List.set_cons_zero, List.set_cons_succ, List.getElem_toArray, List.getElem_cons_succ, List.getElem_cons_zero]
      clear hHeld
      refine wpAnyH_done (by kernel_rfl) ?_ _
      replace HL : Aside (Below W.heap.size W wr.drew) := HL.out.drew
      replace HX : Aside (RowAt wr.drew b 9 67 (wf c)) := HX.out.drew1
      replace HRD : Aside (wr.drew.rangeAt g o (flat R)) := HRD.out
      generalize wr.drew = wrx at *
      go_wp2
      go_upto_region 4 with fail
      refine wp_region_held_drew (S := fun w' => w' = wrx.drew) (by kernel_rfl) rfl (fun hHeld => ?_)
      refine wpAnyH_take (i := 0) (oi := _) (v := .int .i64 k) rfl (by kernel_rfl) (by kernel_rfl) (by kernel_rfl) (fun _ _ _ h => h) (Or.inl ⟨by rfl, fun w h => by go_simp⟩) hHeld ?_
      try simp only [Act.put, List.setIfInBounds_toArray, List.set_cons_zero, List.set_cons_succ, List.getElem_toArray, List.getElem_cons_succ, List.getElem_cons_zero]
      refine wpAnyH_take (i := 1) (oi := _) (v := .slice (some ⟨g, o, none⟩) R.length cap) rfl (by kernel_rfl) (by kernel_rfl) (by kernel_rfl) (fun _ _ _ h => h) (Or.inl ⟨by rfl, fun w h => by go_simp⟩) hHeld ?_
      try simp only [Act.put, List.setIfInBounds_toArray, List.set_cons_zero, List.set_cons_succ, List.getElem_toArray, List.getElem_cons_succ, List.getElem_cons_zero]
      refine wpAnyH_take (i := 2) (oi := _) (v := .int .i64 R.length) rfl (by kernel_rfl) (by kernel_rfl) (by kernel_rfl) (fun _ _ _ h => h) (Or.inl ⟨by rfl, fun w h => by go_simp⟩) hHeld ?_
      try simp only [Act.put, List.setIfInBounds_toArray, List.set_cons_zero, List.set_cons_succ, List.getElem_toArray, List.getElem_cons_succ, List.getElem_cons_zero]
      refine wpAnyH_take (i := 3) (oi := _) (v := .bool false) rfl (by kernel_rfl) (by kernel_rfl) (by kernel_rfl) (fun _ _ _ h => h) (Or.inl ⟨by rfl, fun w h => by go_simp⟩) hHeld ?_
      try simp only [Act.put, List.setIfInBounds_toArray, List.set_cons_zero, List.set_cons_succ, List.getElem_toArray, List.getElem_cons_succ, List.getElem_cons_zero]
      refine wpAnyH_take (i := 4) (oi := _) (v := .bool false) rfl (by kernel_rfl) (by kernel_rfl) (by kernel_rfl) (fun _ _ _ h => h) (Or.inl ⟨by rfl, fun w h => by go_simp⟩) hHeld ?_
      try simp only [Act.put, List.setIfInBounds_toArray, List.set_cons_zero, List.set_cons_succ, List.getElem_toArray, List.getElem_cons_succ, List.getElem_cons_zero]
      refine wpAnyH_take (i := 5) (oi := _) (v := undef) rfl (by kernel_rfl) (by kernel_rfl) (by kernel_rfl) (fun _ _ _ h => h) (Or.inr ⟨by rfl, rfl⟩) hHeld ?_
      try simp only [Act.put, List.setIfInBounds_toArray, List.set_cons_zero, List.set_cons_succ, List.getElem_toArray, List.getElem_cons_succ, List.getElem_cons_zero]
      refine wpAnyH_take (i := 6) (oi := _) (v := undef) rfl (by kernel_rfl) (by kernel_rfl) (by kernel_rfl) (fun _ _ _ h => h) (Or.inr ⟨by rfl, rfl⟩) hHeld ?_
      try simp only [Act.put, List.setIfInBounds_toArray, List.set_cons_zero, List.set_cons_succ, List.getElem_toArray, List.getElem_cons_succ, List.getElem_cons_zero]
      refine wpAnyH_take (i := 7) (oi := _) (v := undef) rfl (by kernel_rfl) (by kernel_rfl) (by kernel_rfl) (fun _ _ _ h => h) (Or.inr ⟨by rfl, rfl⟩) hHeld ?_
      try simp only [Act.put, List.setIfInBounds_toArray, List.set_cons_zero, List.set_cons_succ, List.getElem_toArray, List.getElem_cons_succ, List.getElem_cons_zero]
      refine wpAnyH_take (i := 8) (oi := _) (v := undef) rfl (by kernel_rfl) (by kernel_rfl) (by kernel_rfl) (fun _ _ _ h => h) (Or.inr ⟨by rfl, rfl⟩) hHeld ?_
      try simp only [Act.put, List.setIfInBounds_toArray, List.set_cons_zero, List.set_cons_succ, List.getElem_toArray, List.getElem_cons_succ, List.getElem_cons_zero]
      refine wpAnyH_take (i := 9) (oi := _) (v := undef) rfl (by kernel_rfl) (by kernel_rfl) (by kernel_rfl) (fun _ _ _ h => h) (Or.inr ⟨by rfl, rfl⟩) hHeld ?_
      try simp only [Act.put, List.setIfInBounds_toArray, List.set_cons_zero, List.set_cons_succ, List.getElem_toArray, List.getElem_cons_succ, List.getElem_cons_zero]
      refine wpAnyH_take (i := 10) (oi := _) (v := undef) rfl (by kernel_rfl) (by kernel_rfl) (by kernel_rfl) (fun _ _ _ h => h) (Or.inr ⟨by rfl, rfl⟩) hHeld ?_
      try simp only [Act.put, List.setIfInBounds_toArray, List.set_cons_zero, List.set_cons_succ, List.getElem_toArray, List.getElem_cons_succ, List.getElem_cons_zero]
      refine wpAnyH_take (i := 11) (oi := _) (v := undef) rfl (by kernel_rfl) (by kernel_rfl) (by kernel_rfl) (fun _ _ _ h => h) (Or.inr ⟨by rfl, rfl⟩) hHeld ?_
      try simp only [Act.put, List.setIfInBounds_toArray, List.set_cons_zero, List.set_cons_succ, List.getElem_toArray, List.getElem_cons_succ, List.getElem_cons_zero]
      refine wpAnyH_take (i := 12) (oi := _) (v := undef) rfl (by kernel_rfl) (by kernel_rfl) (by kernel_rfl) (fun _ _ _ h => h) (Or.inr ⟨by rfl, rfl⟩) hHeld ?_
      try simp only [Act.put, List.setIfInBounds_toArray, List.set_cons_zero, List.set_cons_succ, List.getElem_toArray, List.getElem_cons_succ, List.getElem_cons_zero]
      refine wpAnyH_take (i := 13) (oi := _) (v := .bool false) rfl (by kernel_rfl) (by kernel_rfl) (by kernel_rfl) (fun _ _ _ h => h) (Or.inl ⟨by rfl, fun w h => by go_simp⟩) hHeld ?_
      try simp only [Act.put, List.setIfInBounds_toArray, List.set_cons_zero, List.set_cons_succ, List.getElem_toArray, List.getElem_cons_succ, List.getElem_cons_zero]
      clear hHeld
      refine wpAnyH_done (by kernel_rfl) ?_ _
      replace HL : Aside (Below W.heap.size W wrx.drew) := HL.out.drew
      replace HX : Aside (RowAt wrx.drew b 9 67 (wf c)) := HX.out.drew1
      replace HRD : Aside (wrx.drew.rangeAt g o (flat R)) := HRD.out
      generalize wrx.drew = wrxx at *
      generalize wrxx = WR at *
      have HNW : Aside (∀ d, (R.drop k)[0]? = some d → c.s < d.s) := (show ∀ d, (R.drop k)[0]? = some d → c.s < d.s from fun d hd => by
        rw [List.getElem?_drop, Nat.add_zero, List.getElem?_eq_none (by have := HKR.out; omega)] at hd; cases hd)
      have HZR : Aside (g < WR.heap.size ∧ b < WR.heap.size) := ⟨Nat.lt_of_lt_of_le HGW.out HL.out.size, Nat.lt_of_lt_of_le HZ0.out HL.out.size⟩
      have HT := Lib.hid (reads_take hk hc1 HM.out HZR.out.1 HRD.out)
      obtain ⟨off, hoff⟩ : ∃ off, (cap = k → off = o) ∧ (¬ cap = k → off = o + k * 9) := by
        by_cases h : cap = k
        · exact ⟨o, fun _ => rfl, fun h' => absurd h h'⟩
        · exact ⟨o + k * 9, fun h' => absurd h' h, fun _ => rfl⟩
      have HD : Aside (Reads WR (.slice (some ⟨g, off, none⟩) (R.length - k) (cap - k)) (R.drop k)) := reads_off hk hc1 HM.out HZR.out.1 HRD.out hoff
      have HOFF := Lib.hid hoff
      clear hoff
      have hkle : (k : Int) ≤ (R.length : Int) := by omega
      have hkc : (k : Int) ≤ (cap : Int) := by omega
      have hlc : (R.length : Int) ≤ (cap : Int) := by omega
      have VC : ∀ w, Calls Try.prog 85 #[.agg (vec 8 c.r.up)] w fun e w' => e = .returned (.bool (okv c.r)) ∧ Below w.heap.size w w' := fun w => specValid_any c.r.up w
      go_upto_region 8 with fail
      refine wp_region_held_drew (S := fun w' => Below WR.heap.size WR w') (by kernel_rfl) (Below.refl _ _).drew (fun hHeld => ?_)
      refine wpAnyH_take (i := 1) (oi := _) (v := .slice (some ⟨g, o, none⟩) R.length cap) rfl (by kernel_rfl) (by kernel_rfl) (by kernel_rfl) (fun _ _ _ h => h) (Or.inl ⟨by rfl, fun w h => by go_simp⟩) hHeld ?_
      try simp only [Act.put, List.setIfInBounds_toArray, List.set_cons_zero, List.set_cons_succ, List.getElem_toArray, List.getElem_cons_succ, List.getElem_cons_zero]
      refine wpAnyH_take (i := 2) (oi := _) (v := .int .i64 k) rfl (by kernel_rfl) (by kernel_rfl) (by kernel_rfl) (fun _ _ _ h => h) (Or.inl ⟨by rfl, fun w h => by go_simp⟩) hHeld ?_
      try simp only [Act.put, List.setIfInBounds_toArray, List.set_cons_zero, List.set_cons_succ, List.getElem_toArray, List.getElem_cons_succ, List.getElem_cons_zero]
      refine wpAnyH_take (i := 3) (oi := _) (v := .slice (some ⟨g, o, none⟩) k cap) rfl (by kernel_rfl) (by kernel_rfl) (by kernel_rfl) (fun _ _ _ h => h) (Or.inl ⟨by rfl, fun w h => by go_simp⟩) hHeld ?_
      try simp only [Act.put, List.setIfInBounds_toArray, List.set_cons_zero, List.set_cons_succ, List.getElem_toArray, List.getElem_cons_succ, List.getElem_cons_zero]
      refine wpAnyH_take (i := 5) (oi := _) (v := .agg (vec 9 (wf c))) rfl (by kernel_rfl) (by kernel_rfl) (by kernel_rfl) (fun _ _ _ h => h) (yieldsIf_load_mid (by rfl) _ _ rfl _ _ rfl _ _ ((fun w h => row_wheel (HX.out.below h))) Try.underlying67 rfl (size_wheel c)) hHeld ?_
      try simp only [Act.put, List.setIfInBounds_toArray, List.set_cons_zero, List.set_cons_succ, List.getElem_toArray, List.getElem_cons_succ, List.getElem_cons_zero]
      refine wpAnyH_take (i := 8) (oi := _) (v := .slice (some ⟨g, o, none⟩) R.length cap) rfl (by kernel_rfl) (by kernel_rfl) (by kernel_rfl) (fun _ _ _ h => h) (Or.inl ⟨by rfl, fun w h => by go_simp⟩) hHeld ?_
      try simp only [Act.put, List.setIfInBounds_toArray, List.set_cons_zero, List.set_cons_succ, List.getElem_toArray, List.getElem_cons_succ, List.getElem_cons_zero]
      refine wpAnyH_take (i := 9) (oi := _) (v := .int .i64 k) rfl (by kernel_rfl) (by kernel_rfl) (by kernel_rfl) (fun _ _ _ h => h) (Or.inl ⟨by rfl, fun w h => by go_simp⟩) hHeld ?_
      try simp only [Act.put, List.setIfInBounds_toArray, List.set_cons_zero, List.set_cons_succ, List.getElem_toArray, List.getElem_cons_succ, List.getElem_cons_zero]
      refine wpAnyH_take (i := 10) (oi := _) (v := .slice (some ⟨g, off, none⟩) (R.length - k) (cap - k)) rfl (by kernel_rfl) (by kernel_rfl) (by kernel_rfl) (fun _ _ _ h => h) (Or.inl ⟨by rfl, fun w h => (Decidable.em (cap = k)).elim (fun hck => by have ho := HOFF.out.1 hck; go_simp) (fun hck => by have ho := HOFF.out.2 hck; go_simp)⟩) hHeld ?_
      try simp only [Act.put, List.setIfInBounds_toArray, List.set_cons_zero, List.set_cons_succ, List.getElem_toArray, List.getElem_cons_succ, List.getElem_cons_zero]
      refine wpAnyH_take (i := 12) (oi := _) (v := .pointer (some ⟨b, 1, none⟩)) rfl (by kernel_rfl) (by kernel_rfl) (by kernel_rfl) (fun _ _ _ h => h) (Or.inl ⟨by rfl, fun w h => by go_simp⟩) hHeld ?_
      try simp only [Act.put, List.setIfInBounds_toArray, List.set_cons_zero, List.set_cons_succ, List.getElem_toArray, List.getElem_cons_succ, List.getElem_cons_zero]
      refine wpAnyH_take (i := 13) (oi := _) (v := .agg (vec 8 c.r.up)) rfl (by kernel_rfl) (by kernel_rfl) (by kernel_rfl) (fun _ _ _ h => h) (yieldsIf_load_mid (by rfl) _ _ rfl _ _ rfl _ _ ((fun w h => row_radius (HX.out.below h))) Try.underlying36 rfl (size_cyc8 _)) hHeld ?_
      try simp only [Act.put, List.setIfInBounds_toArray, List.set_cons_zero, List.set_cons_succ, List.getElem_toArray, List.getElem_cons_succ, List.getElem_cons_zero]
      refine wpAnyH_ready (rs := [0, 6]) (by kernel_rfl) (by simp) ?_
      refine AllReadyH.cons (o := _) rfl (fun K hK => ?_) (AllReadyH.cons (o := _) rfl (fun K hK => ?_) AllReadyH.nil)
      · rw [if_pos (by rfl)]
        go_simp
        have hown := own_lit WR.drew WR.heap.size 67 (Nat.le_refl _)
        refine hK.out _ _ (hHeld.alloc hHeld.size _) (fun hHeld => ?_)
        clear hK K
        try simp only [Act.put, List.setIfInBounds_toArray, List.set_cons_zero, List.set_cons_succ, List.getElem_toArray, List.getElem_cons_succ, List.getElem_cons_zero]
        refine wpAnyH_ready (rs := [4, 6]) (by kernel_rfl) (by simp) ?_
        refine AllReadyH.cons (o := _) rfl (fun K hK => ?_) (AllReadyH.cons (o := _) rfl (fun K hK => ?_) AllReadyH.nil)
        · refine wp_append_list tyW rfl (xs := []) (ys := R.take k) rfl rfl hown ((HT.out).below hHeld) (by simp; omega) hHeld hHeld.size ?_; intro v2 w2 ho2 hb2 hB2
          refine hK.out _ _ hb2 (fun hHeld => ?_)
          clear hK K
          try simp only [Act.put, List.setIfInBounds_toArray, List.set_cons_zero, List.set_cons_succ, List.getElem_toArray, List.getElem_cons_succ, List.getElem_cons_zero]
          clear hown
          rw [List.nil_append] at ho2
          refine wpAnyH_ready (rs := [6]) (by kernel_rfl) (by simp) ?_
          refine AllReadyH.cons (o := _) rfl (fun K hK => ?_) AllReadyH.nil
          rw [if_pos (by rfl)]
          refine wp_one9 tyW rfl rfl ?_
          have hlit := reads_lit w2 c 67
          have hown : Own (w2.alloc (.cells (vec 9 (wf c)) 67)) WR.heap.size 67 v2 (R.take k) := (show World.ownsRow _ _ _ _ _ _ _ from World.ownsRow.alloc ho2 _)
          refine hK.out _ _ (hb2.alloc hB2 _) (fun hHeld => ?_)
          clear hK K
          try simp only [Act.put, List.setIfInBounds_toArray, List.set_cons_zero, List.set_cons_succ, List.getElem_toArray, List.getElem_cons_succ, List.getElem_cons_zero]
          clear ho2 hb2 hB2
          refine wpAnyH_ready (rs := [7]) (by kernel_rfl) (by simp) ?_
          refine AllReadyH.cons (o := _) rfl (fun K hK => ?_) AllReadyH.nil
          refine wp_append_list tyW rfl (xs := R.take k) (ys := [c]) rfl rfl hown hlit (by simp; omega) hHeld hHeld.size ?_; intro v3 w3 ho3 hb3 hB3
          refine hK.out _ _ hb3 (fun hHeld => ?_)
          clear hK K
          try simp only [Act.put, List.setIfInBounds_toArray, List.set_cons_zero, List.set_cons_succ, List.getElem_toArray, List.getElem_cons_succ, List.getElem_cons_zero]
          clear hown hlit
          refine wpAnyH_ready (rs := [11]) (by kernel_rfl) (by simp) ?_
          refine AllReadyH.cons (o := _) rfl (fun K hK => ?_) AllReadyH.nil
          refine wp_append_list tyW rfl (xs := R.take k ++ [c]) (ys := R.drop k) rfl rfl ho3 ((HD.out).below hb3) (by simp; omega) hb3 hB3 ?_; intro v4 w4 ho4 hb4 hB4
          refine hK.out _ _ hb4 (fun hHeld => ?_)
          clear hK K
          try simp only [Act.put, List.setIfInBounds_toArray, List.set_cons_zero, List.set_cons_succ, List.getElem_toArray, List.getElem_cons_succ, List.getElem_cons_zero]
          clear ho3 hb3 hB3
          refine wpAnyH_ready (rs := [14]) (by kernel_rfl) (by simp) ?_
          refine AllReadyH.cons (o := _) rfl (fun K hK => ?_) AllReadyH.nil
          go_simp
          refine (VC _).mono ?_; rintro e w5 ⟨rfl, hb5⟩
          go_wp2_with fail
          refine hK.out _ _ (below_next hb4 hb5) (fun hHeld => ?_)
          clear hK K
          try simp only [Act.put, List.setIfInBounds_toArray, List.set_cons_zero, List.set_cons_succ, List.getElem_toArray, List.getElem_cons_succ, List.getElem_cons_zero]
          have ho5 := own_below ho4 hb5
          clear ho4 hb4 hB4 hb5 VC
          refine wpAnyH_take (i := 15) (oi := _) (v := v4) rfl (by kernel_rfl) (by kernel_rfl) (by kernel_rfl) (fun _ _ _ h => h) (Or.inl ⟨by rfl, fun w h => by go_simp⟩) hHeld ?_
          try simp only [Act.put, List.setIfInBounds_toArray, List.set_cons_zero, List.set_cons_succ, List.getElem_toArray, List.getElem_cons_succ, List.getElem_cons_zero]
          refine wpAnyH_take (i := 16) (oi := _) (v := .bool (okv c.r)) rfl (by kernel_rfl) (by kernel_rfl) (by kernel_rfl) (fun _ _ _ h => h) (Or.inl ⟨by rfl, fun w h => by go_simp⟩) hHeld ?_
          try simp only [Act.put, List.setIfInBounds_toArray, List.set_cons_zero, List.set_cons_succ, List.getElem_toArray, List.getElem_cons_succ, List.getElem_cons_zero]
          refine wpAnyH_done (by kernel_rfl) ?_ _
          have HF : Aside (Added w R c (.returned (.tuple #[v4, .bool (okv c.r)])) w5) := (show Added w R c _ w5 from by
            subst hbw
            have hi := ins_split true c (R.drop k) (R.take k) HFA.out
            rw [List.take_append_drop] at hi
            have hj := ins_new c (R.drop k) HNW.out
            have hz := Nat.le_of_lt (Nat.lt_of_lt_of_le HZ0.out HL.out.size)
            refine ⟨below_next HL0.out (below_next HL.out hHeld), v4, by rw [hi.2, hj.2], ?_⟩
            rw [hi.1, hj.1]
            have e : R.take k ++ c :: R.drop k = (R.take k ++ [c]) ++ R.drop k := by simp
            rw [e]
            exact own_mono ho5 hz)
          clear ho5 hHeld
          go_wp2
          go_ret2
          exact HF.out
        · rw [if_pos (by rfl)]
          refine wp_one9 tyW rfl rfl ?_
          have hz1 := hHeld.size
          have hlit2 := reads_lit (WR.drew.alloc (.cells #[] 67)) c 67
          have hown2 : Own ((WR.drew.alloc (.cells #[] 67)).alloc (.cells (vec 9 (wf c)) 67)) WR.heap.size 67 _ [] := (show World.ownsRow _ _ _ _ _ _ _ from World.ownsRow.alloc hown _)
          refine hK.out _ _ (hHeld.alloc hz1 _) (fun hHeld => ?_)
          clear hK K
          try simp only [Act.put, List.setIfInBounds_toArray, List.set_cons_zero, List.set_cons_succ, List.getElem_toArray, List.getElem_cons_succ, List.getElem_cons_zero]
          clear hown
          refine wpAnyH_ready (rs := [4]) (by kernel_rfl) (by simp) ?_
          refine AllReadyH.cons (o := _) rfl (fun K hK => ?_) AllReadyH.nil
          refine wp_append_list2 tyW rfl (xs := []) (ys := R.take k) rfl rfl hown2 ((HT.out).below hHeld) (by simp; omega) hHeld hHeld.size ?_; intro v2 w2 ho2 hb2 hB2 hgr
          refine hK.out _ _ hb2 (fun hHeld => ?_)
          clear hK K
          try simp only [Act.put, List.setIfInBounds_toArray, List.set_cons_zero, List.set_cons_succ, List.getElem_toArray, List.getElem_cons_succ, List.getElem_cons_zero]
          rw [List.nil_append] at ho2
          have hlit := reads_kept hlit2 hgr (by show ¬ some _ = some _; simp)
          clear hlit2 hown2 hgr
          have hown := ho2
          clear ho2 hb2 hB2
          refine wpAnyH_ready (rs := [7]) (by kernel_rfl) (by simp) ?_
          refine AllReadyH.cons (o := _) rfl (fun K hK => ?_) AllReadyH.nil
          refine wp_append_list tyW rfl (xs := R.take k) (ys := [c]) rfl rfl hown hlit (by simp; omega) hHeld hHeld.size ?_; intro v3 w3 ho3 hb3 hB3
          refine hK.out _ _ hb3 (fun hHeld => ?_)
          clear hK K
          try simp only [Act.put, List.setIfInBounds_toArray, List.set_cons_zero, List.set_cons_succ, List.getElem_toArray, List.getElem_cons_succ, List.getElem_cons_zero]
          clear hown hlit
          refine wpAnyH_ready (rs := [11]) (by kernel_rfl) (by simp) ?_
          refine AllReadyH.cons (o := _) rfl (fun K hK => ?_) AllReadyH.nil
          refine wp_append_list tyW rfl (xs := R.take k ++ [c]) (ys := R.drop k) rfl rfl ho3 ((HD.out).below hb3) (by simp; omega) hb3 hB3 ?_; intro v4 w4 ho4 hb4 hB4
          refine hK.out _ _ hb4 (fun hHeld => ?_)
          clear hK K
          try simp only [Act.put, List.setIfInBounds_toArray, List.set_cons_zero, List.set_cons_succ, List.getElem_toArray, List.getElem_cons_succ, List.getElem_cons_zero]
          clear ho3 hb3 hB3
          refine wpAnyH_ready (rs := [14]) (by kernel_rfl) (by simp) ?_
          refine AllReadyH.cons (o := _) rfl (fun K hK => ?_) AllReadyH.nil
          go_simp
          refine (VC _).mono ?_; rintro e w5 ⟨rfl, hb5⟩
          go_wp2_with fail
          refine hK.out _ _ (below_next hb4 hb5) (fun hHeld => ?_)
          clear hK K
          try simp only [Act.put, List.setIfInBounds_toArray, List.set_cons_zero, List.set_cons_succ, List.getElem_toArray, List.getElem_cons_succ, List.getElem_cons_zero]
          have ho5 := own_below ho4 hb5
          clear ho4 hb4 hB4 hb5 VC
          refine wpAnyH_take (i := 15) (oi := _) (v := v4) rfl (by kernel_rfl) (by kernel_rfl) (by kernel_rfl) (fun _ _ _ h => h) (Or.inl ⟨by rfl, fun w h => by go_simp⟩) hHeld ?_
          try simp only [Act.put, List.setIfInBounds_toArray, List.set_cons_zero, List.set_cons_succ, List.getElem_toArray, List.getElem_cons_succ, List.getElem_cons_zero]
          refine wpAnyH_take (i := 16) (oi := _) (v := .bool (okv c.r)) rfl (by kernel_rfl) (by kernel_rfl) (by kernel_rfl) (fun _ _ _ h => h) (Or.inl ⟨by rfl, fun w h => by go_simp⟩) hHeld ?_
          try simp only [Act.put, List.setIfInBounds_toArray, List.set_cons_zero, List.set_cons_succ, List.getElem_toArray, List.getElem_cons_succ, List.getElem_cons_zero]
          refine wpAnyH_done (by kernel_rfl) ?_ _
          have HF : Aside (Added w R c (.returned (.tuple #[v4, .bool (okv c.r)])) w5) := (show Added w R c _ w5 from by
            subst hbw
            have hi := ins_split true c (R.drop k) (R.take k) HFA.out
            rw [List.take_append_drop] at hi
            have hj := ins_new c (R.drop k) HNW.out
            have hz := Nat.le_of_lt (Nat.lt_of_lt_of_le HZ0.out HL.out.size)
            refine ⟨below_next HL0.out (below_next HL.out hHeld), v4, by rw [hi.2, hj.2], ?_⟩
            rw [hi.1, hj.1]
            have e : R.take k ++ c :: R.drop k = (R.take k ++ [c]) ++ R.drop k := by simp
            rw [e]
            exact own_mono ho5 hz)
          clear ho5 hHeld
          go_wp2
          go_ret2
          exact HF.out
      · rw [if_pos (by rfl)]
        refine wp_one9 tyW rfl rfl ?_
        have hlit1 := reads_lit WR.drew c 67
        refine hK.out _ _ (hHeld.alloc hHeld.size _) (fun hHeld => ?_)
        clear hK K
        try simp only [Act.put, List.setIfInBounds_toArray, List.set_cons_zero, List.set_cons_succ, List.getElem_toArray, List.getElem_cons_succ, List.getElem_cons_zero]
        refine wpAnyH_ready (rs := [0]) (by kernel_rfl) (by simp) ?_
        refine AllReadyH.cons (o := _) rfl (fun K hK => ?_) AllReadyH.nil
        rw [if_pos (by rfl)]
        go_simp
        have hz1 := hHeld.size
        have hown3 := own_lit (WR.drew.alloc (.cells (vec 9 (wf c)) 67)) WR.heap.size 67 hz1
        have hsz : (WR.drew.alloc (.cells (vec 9 (wf c)) 67)).heap.size = WR.heap.size + 1 := by simp
        rw [hsz] at hown3
        have hown2 : Own ((WR.alloc (.cells (vec 9 (wf c)) 67)).alloc (.cells #[] 67)).drew WR.heap.size 67 (.slice (some ⟨WR.heap.size + 1, 0, none⟩) 0 0) [] := (show Own _ _ _ _ _ from hown3)
        clear hown3 hsz
        have hlit2 := hlit1.below ((Below.refl _ _).alloc (Nat.le_refl _) (.cells #[] 67))
        refine hK.out _ _ (hHeld.alloc hz1 _) (fun hHeld => ?_)
        clear hK K
        try simp only [Act.put, List.setIfInBounds_toArray, List.set_cons_zero, List.set_cons_succ, List.getElem_toArray, List.getElem_cons_succ, List.getElem_cons_zero]
        clear hlit1
        refine wpAnyH_ready (rs := [4]) (by kernel_rfl) (by simp) ?_
        refine AllReadyH.cons (o := _) rfl (fun K hK => ?_) AllReadyH.nil
        refine wp_append_list2 tyW rfl (xs := []) (ys := R.take k) rfl rfl hown2 ((HT.out).below hHeld) (by simp; omega) hHeld hHeld.size ?_; intro v2 w2 ho2 hb2 hB2 hgr
        refine hK.out _ _ hb2 (fun hHeld => ?_)
        clear hK K
        try simp only [Act.put, List.setIfInBounds_toArray, List.set_cons_zero, List.set_cons_succ, List.getElem_toArray, List.getElem_cons_succ, List.getElem_cons_zero]
        rw [List.nil_append] at ho2
        have hlit := reads_kept hlit2 hgr (by show ¬ some _ = some _; simp)
        clear hlit2 hown2 hgr
        have hown := ho2
        clear ho2 hb2 hB2
        refine wpAnyH_ready (rs := [7]) (by kernel_rfl) (by simp) ?_
        refine AllReadyH.cons (o := _) rfl (fun K hK => ?_) AllReadyH.nil
        refine wp_append_list tyW rfl (xs := R.take k) (ys := [c]) rfl rfl hown hlit (by simp; omega) hHeld hHeld.size ?_; intro v3 w3 ho3 hb3 hB3
        refine hK.out _ _ hb3 (fun hHeld => ?_)
        clear hK K
        try simp only [Act.put, List.setIfInBounds_toArray, List.set_cons_zero, List.set_cons_succ, List.getElem_toArray, List.getElem_cons_succ, List.getElem_cons_zero]
        clear hown hlit
        refine wpAnyH_ready (rs := [11]) (by kernel_rfl) (by simp) ?_
        refine AllReadyH.cons (o := _) rfl (fun K hK => ?_) AllReadyH.nil
        refine wp_append_list tyW rfl (xs := R.take k ++ [c]) (ys := R.drop k) rfl rfl ho3 ((HD.out).below hb3) (by simp; omega) hb3 hB3 ?_; intro v4 w4 ho4 hb4 hB4
        refine hK.out _ _ hb4 (fun hHeld => ?_)
        clear hK K
        try simp only [Act.put, List.setIfInBounds_toArray, List.set_cons_zero, List.set_cons_succ, List.getElem_toArray, List.getElem_cons_succ, List.getElem_cons_zero]
        clear ho3 hb3 hB3
        refine wpAnyH_ready (rs := [14]) (by kernel_rfl) (by simp) ?_
        refine AllReadyH.cons (o := _) rfl (fun K hK => ?_) AllReadyH.nil
        go_simp
        refine (VC _).mono ?_; rintro e w5 ⟨rfl, hb5⟩
        go_wp2_with fail
        refine hK.out _ _ (below_next hb4 hb5) (fun hHeld => ?_)
        clear hK K
        try simp only [Act.put, List.setIfInBounds_toArray, List.set_cons_zero, List.set_cons_succ, List.getElem_toArray, List.getElem_cons_succ, List.getElem_cons_zero]
        have ho5 := own_below ho4 hb5
        clear ho4 hb4 hB4 hb5 VC
        refine wpAnyH_take (i := 15) (oi := _) (v := v4) rfl (by kernel_rfl) (by kernel_rfl) (by kernel_rfl) (fun _ _ _ h => h) (Or.inl ⟨by rfl, fun w h => by go_simp⟩) hHeld ?_
        try simp only [Act.put, List.setIfInBounds_toArray, List.set_cons_zero, List.set_cons_succ, List.getElem_toArray, List.getElem_cons_succ, List.getElem_cons_zero]
        refine wpAnyH_take (i := 16) (oi := _) (v := .bool (okv c.r)) rfl (by kernel_rfl) (by kernel_rfl) (by kernel_rfl) (fun _ _ _ h => h) (Or.inl ⟨by rfl, fun w h => by go_simp⟩) hHeld ?_
        try simp only [Act.put, List.setIfInBounds_toArray, List.set_cons_zero, List.set_cons_succ, List.getElem_toArray, List.getElem_cons_succ, List.getElem_cons_zero]
        refine wpAnyH_done (by kernel_rfl) ?_ _
        have HF : Aside (Added w R c (.returned (.tuple #[v4, .bool (okv c.r)])) w5) := (show Added w R c _ w5 from by
          subst hbw
          have hi := ins_split true c (R.drop k) (R.take k) HFA.out
          rw [List.take_append_drop] at hi
          have hj := ins_new c (R.drop k) HNW.out
          have hz := Nat.le_of_lt (Nat.lt_of_lt_of_le HZ0.out HL.out.size)
          refine ⟨below_next HL0.out (below_next HL.out hHeld), v4, by rw [hi.2, hj.2], ?_⟩
          rw [hi.1, hj.1]
          have e : R.take k ++ c :: R.drop k = (R.take k ++ [c]) ++ R.drop k := by simp
          rw [e]
          exact own_mono ho5 hz)
        clear ho5 hHeld
        go_wp2
        go_ret2
        exact HF.out

end Go.Proofs.Ytbdhbkedeglagaa
