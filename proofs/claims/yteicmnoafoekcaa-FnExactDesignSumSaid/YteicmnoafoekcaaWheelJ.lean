/-
  impl: circles of equal speeds joined.
-/
import Derived.Test.YteicmnoafoekcaaWheelI
namespace Go.Proofs.Yteicmnoafoekcaa
set_option maxRecDepth 20000
open Go.ChangeShapes Go.WideShapes Go.ChangeAt Go.RowKit
set_option linter.unusedVariables false
set_option linter.unusedSimpArgs false

theorem ins_end (c : Wh) : ∀ R : List Wh, (∀ d ∈ R, d.s < c.s) → ins R c = R ++ [c] ∧ insOk false R c = true
  | [], _ => ⟨rfl, rfl⟩
  | d :: R, h => by
    obtain ⟨h1, h2⟩ := ins_end c R fun e he => h e (by simp [he])
    unfold ins insOk
    rw [if_pos (h d (by simp)), if_pos (h d (by simp)), h1, h2]
    exact ⟨rfl, rfl⟩
theorem ins_eq (c l : Wh) (hl : l.s = c.s) : ∀ R : List Wh, (∀ d ∈ R, d.s < c.s) → ins (R ++ [l]) c = R ++ [⟨l.s, V.add l.r c.r⟩] ∧ insOk false (R ++ [l]) c = okv (V.add l.r c.r)
  | [], _ => by
    simp only [List.nil_append, ins, insOk]
    rw [if_neg (by omega), if_pos hl, if_neg (by omega), if_pos hl]
    exact ⟨rfl, rfl⟩
  | d :: R, h => by
    obtain ⟨h1, h2⟩ := ins_eq c l hl R fun e he => h e (by simp [he])
    rw [List.cons_append]
    unfold ins insOk
    rw [if_pos (h d (by simp)), if_pos (h d (by simp)), h1, h2]
    exact ⟨rfl, rfl⟩
def got (o : Option (List Wh)) : List Wh := o.getD []
theorem own_form {w : World} {B T : Nat} {v : Value} {ws : List Wh} (h : Own w B T v ws) : ∃ p cap, v = .slice p ws.length cap ∧ cap ≤ 9223372036854775807 ∧ ws.length ≤ cap ∧ (ws ≠ [] → ∃ g, p = some ⟨g, 0, none⟩ ∧ B ≤ g) := by
  rcases h.2 with ⟨rfl, h0⟩ | ⟨g, cap, cur, rfl, hg0, hg, h1, h2, h3, h4⟩
  · exact ⟨none, 0, by rw [h0], by omega, by omega, fun hn => absurd (List.length_eq_zero_iff.1 h0) hn⟩
  · exact ⟨_, cap, rfl, by simpa [maxLen] using h2, h1, fun _ => ⟨g, rfl, hg0⟩⟩

set_option maxHeartbeats 2000000 in
theorem joined_any (v : Value) (ws : List Wh) (w : World) (hv : Reads w v ws) (hn : ws.length ≤ 1000) (hs : ws.Pairwise fun a b => a.s ≤ b.s) (hbig : ∀ c ∈ ws, Big c.r 4000000) :
    Calls Try.prog 95 #[v] w fun e w' => Below w.heap.size w w' ∧ ∃ v', e = .returned (.tuple #[v', .bool (run false [] ws).isSome]) ∧ Own w' w.heap.size 68 v' (got (run false [] ws)) := by
  obtain ⟨p, cap, rfl, hc1, hc2, hp0, hp⟩ := hv
  simp only [maxLen] at hc2
  have HP := Lib.hid hp
  have HS := Lib.hid hs
  have HBG := Lib.hid hbig
  clear hp hs hbig
  generalize hrun : run false [] ws = res
  have HRES := Lib.hid hrun
  clear hrun
  go_enter Try.func95, Try.ntmps95
  go_wp2
  go_loopw [4, 6, 7, 8, 9, 10, 13] (fun s4 _ _ _ _ _ i wr => ∃ (k : Nat) (R : List Wh), k ≤ ws.length ∧ i = .int .i64 k ∧ R.length ≤ k ∧ Own wr w.heap.size 68 s4 R ∧
    (Asc R ∧ (∀ d ∈ R, ∀ c ∈ ws.drop k, d.s ≤ c.s) ∧ (∀ d ∈ R, Big d.r 4000000) ∧ run false R (ws.drop k) = res) ∧ Below w.heap.size w wr ∧ w.heap.size ≤ wr.heap.size) (fun _ _ _ _ _ _ i _ => ws.length - (intOf i).toNat)
  case atStart => exact ⟨0, [], Nat.zero_le _, rfl, Nat.zero_le _, own_nil _ _ _, ⟨List.Pairwise.nil, by simp, by simp, HRES.out⟩, Below.refl _ _, Nat.le_refl _⟩
  case round =>
    obtain ⟨k, R, hk, rfl, hRk, hO, hfacts, hbel, hB⟩ := hrel
    by_cases hlt : k < ws.length
    · have hkz : (k : Int) < (ws.length : Int) := by omega
      have hk0 : (0 : Int) ≤ (k : Int) := by omega
      obtain ⟨c, hc⟩ : ∃ c, ws[k]? = some c := ⟨_, List.getElem?_eq_getElem hlt⟩
      obtain ⟨g0, o0, rfl, hg0, hr0⟩ := HP.out (by rintro rfl; have := hp0 rfl; omega)
      have HE := Lib.hid (range_part (range_below hr0 hg0 hbel) hc)
      have hdrop : ws.drop k = c :: ws.drop (k + 1) := by
        rw [List.drop_eq_getElem_cons hlt]
        have := List.getElem?_eq_getElem hlt
        rw [hc] at this
        simp only [Option.some.injEq] at this
        rw [this]
      have HC := Lib.hid hc
      have HD := Lib.hid hdrop
      have HFA := Lib.hid hfacts
      have HCB : Aside (Big c.r 4000000) := HBG.out c (List.mem_of_getElem? hc)
      have HW : Aside (RowAt (wr.alloc (.cells (vec 9 (wf c)) 68)) wr.heap.size 9 68 (wf c)) := RowAt.new wr 9 _ _
      have HO : Aside (Own (wr.alloc (.cells (vec 9 (wf c)) 68)) w.heap.size 68 u4 R) := (show World.ownsRow _ _ _ _ _ _ _ from World.ownsRow.alloc hO _)
      have HL : Aside (Below w.heap.size w (wr.alloc (.cells (vec 9 (wf c)) 68))) := hbel.alloc hB _
      have HZ : Aside (w.heap.size ≤ (wr.alloc (.cells (vec 9 (wf c)) 68)).heap.size) := (show _ ≤ _ by simp; omega)
      have HZ2 : Aside (wr.heap.size < (wr.alloc (.cells (vec 9 (wf c)) 68)).heap.size) := (show _ < _ by simp)
      obtain ⟨pr, capr, rfl, hcapr, hcapr2, hne⟩ := own_form hO
      have HNE := Lib.hid hne
      clear hr0 hO hbel hc hdrop hfacts hne hB
      by_cases hR0 : R = []
      · subst hR0
        have q1 : IntKind.i64.wrap (-1) = -1 := by decide
        have HLT : Aside (∀ d ∈ ([] : List Wh), d.s < c.s) := (show ∀ d ∈ ([] : List Wh), d.s < c.s from by simp)
        generalize hRR : ([] : List Wh) = R at *
        have hR0 : R.length = 0 := by rw [← hRR]; rfl
        clear hRR
        go_upto_region 6 with (first | (refine load_wheel (T := 68) (g := g0) rfl rfl rfl HE.out Try.underlying68 rfl info_circle ?_; clear HE) | (refine store_new (ty := 68) rfl rfl rfl rfl zero9 info_circle ?_))
        show Code.wp _ _ _ _ (wr.alloc (.cells (vec 9 (wf c)) 68))
        generalize wr.alloc (.cells (vec 9 (wf c)) 68) = W at *
        generalize wr.heap.size = b at *
        refine wp_region_held_drew (S := fun w' => w' = W.drew) (by kernel_rfl) rfl (fun hHeld => ?_)
        refine wpAnyH_take (i := 0) (oi := _) (v := .int .i64 (-1)) rfl (by kernel_rfl) (by kernel_rfl) (by kernel_rfl) (fun _ _ _ h => h) (Or.inl ⟨by rfl, fun w h => by go_simp⟩) hHeld ?_
        try simp only [Act.put, List.setIfInBounds_toArray, List.set_cons_zero, List.set_cons_succ, List.getElem_toArray, List.getElem_cons_succ, List.getElem_cons_zero]
        refine wpAnyH_take (i := 1) (oi := _) (v := .bool true) rfl (by kernel_rfl) (by kernel_rfl) (by kernel_rfl) (fun _ _ _ h => h) (Or.inl ⟨by rfl, fun w h => by go_simp⟩) hHeld ?_
        try simp only [Act.put, List.setIfInBounds_toArray, List.set_cons_zero, List.set_cons_succ, List.getElem_toArray, List.getElem_cons_succ, List.getElem_cons_zero]
        refine wpAnyH_take (i := 2) (oi := _) (v := .bool true) rfl (by kernel_rfl) (by kernel_rfl) (by kernel_rfl) (fun _ _ _ h => h) (Or.inl ⟨by rfl, fun w h => by go_simp⟩) hHeld ?_
        try simp only [Act.put, List.setIfInBounds_toArray, List.set_cons_zero, List.set_cons_succ, List.getElem_toArray, List.getElem_cons_succ, List.getElem_cons_zero]
        refine wpAnyH_take (i := 3) (oi := _) (v := undef) rfl (by kernel_rfl) (by kernel_rfl) (by kernel_rfl) (fun _ _ _ h => h) (Or.inr ⟨by rfl, rfl⟩) hHeld ?_
        try simp only [Act.put, List.setIfInBounds_toArray, List.set_cons_zero, List.set_cons_succ, List.getElem_toArray, List.getElem_cons_succ, List.getElem_cons_zero]
        refine wpAnyH_take (i := 4) (oi := _) (v := undef) rfl (by kernel_rfl) (by kernel_rfl) (by kernel_rfl) (fun _ _ _ h => h) (Or.inr ⟨by rfl, rfl⟩) hHeld ?_
        try simp only [Act.put, List.setIfInBounds_toArray, List.set_cons_zero, List.set_cons_succ, List.getElem_toArray, List.getElem_cons_succ, List.getElem_cons_zero]
        refine wpAnyH_take (i := 5) (oi := _) (v := undef) rfl (by kernel_rfl) (by kernel_rfl) (by kernel_rfl) (fun _ _ _ h => h) (Or.inr ⟨by rfl, rfl⟩) hHeld ?_
        try simp only [Act.put, List.setIfInBounds_toArray, List.set_cons_zero, List.set_cons_succ, List.getElem_toArray, List.getElem_cons_succ, List.getElem_cons_zero]
        refine wpAnyH_take (i := 6) (oi := _) (v := undef) rfl (by kernel_rfl) (by kernel_rfl) (by kernel_rfl) (fun _ _ _ h => h) (Or.inr ⟨by rfl, rfl⟩) hHeld ?_
        try simp only [Act.put, List.setIfInBounds_toArray, List.set_cons_zero, List.set_cons_succ, List.getElem_toArray, List.getElem_cons_succ, List.getElem_cons_zero]
        refine wpAnyH_take (i := 7) (oi := _) (v := undef) rfl (by kernel_rfl) (by kernel_rfl) (by kernel_rfl) (fun _ _ _ h => h) (Or.inr ⟨by rfl, rfl⟩) hHeld ?_
        try simp only [Act.put, List.setIfInBounds_toArray, List.set_cons_zero, List.set_cons_succ, List.getElem_toArray, List.getElem_cons_succ, List.getElem_cons_zero]
        refine wpAnyH_take (i := 8) (oi := _) (v := undef) rfl (by kernel_rfl) (by kernel_rfl) (by kernel_rfl) (fun _ _ _ h => h) (Or.inr ⟨by rfl, rfl⟩) hHeld ?_
        try simp only [Act.put, List.setIfInBounds_toArray, List.set_cons_zero, List.set_cons_succ, List.getElem_toArray, List.getElem_cons_succ, List.getElem_cons_zero]
        refine wpAnyH_take (i := 9) (oi := _) (v := undef) rfl (by kernel_rfl) (by kernel_rfl) (by kernel_rfl) (fun _ _ _ h => h) (Or.inr ⟨by rfl, rfl⟩) hHeld ?_
        try simp only [Act.put, List.setIfInBounds_toArray, List.set_cons_zero, List.set_cons_succ, List.getElem_toArray, List.getElem_cons_succ, List.getElem_cons_zero]
        refine wpAnyH_take (i := 10) (oi := _) (v := undef) rfl (by kernel_rfl) (by kernel_rfl) (by kernel_rfl) (fun _ _ _ h => h) (Or.inr ⟨by rfl, rfl⟩) hHeld ?_
        try simp only [Act.put, List.setIfInBounds_toArray, List.set_cons_zero, List.set_cons_succ, List.getElem_toArray, List.getElem_cons_succ, List.getElem_cons_zero]
        refine wpAnyH_take (i := 11) (oi := _) (v := .bool true) rfl (by kernel_rfl) (by kernel_rfl) (by kernel_rfl) (fun _ _ _ h => h) (Or.inl ⟨by rfl, fun w h => by go_simp⟩) hHeld ?_
        try simp only [Act.put, List.setIfInBounds_toArray, List.set_cons_zero, List.set_cons_succ, List.getElem_toArray, List.getElem_cons_succ, List.getElem_cons_zero]
        clear hHeld
        refine wpAnyH_done (by kernel_rfl) ?_ _
        have HO3 : Aside (Own W.drew w.heap.size 68 (.slice pr 0 capr) R) := (show Own W _ _ _ _ from by
          have e : Value.slice pr R.length capr = Value.slice pr 0 capr := by rw [hR0]
          rw [← e]; exact HO.out)
        have HW3 : Aside (RowAt W.drew b 9 68 (wf c)) := HW.out.drew1
        have HL3 : Aside (Below w.heap.size w W.drew) := HL.out.drew
        have HZ3 : Aside (w.heap.size ≤ W.drew.heap.size) := HZ.out
        clear HW HL HZ HO
        generalize W.drew = W3 at *
        go_wp2_with (first | (refine load_row (ty := 68) (g := b) rfl rfl rfl HW3.out Try.underlying68 rfl info_circle ?_; clear HW3) | (refine one9 tyC rfl rfl rfl ?_) |
          (refine append9 tyC rfl rfl (v := .slice pr 0 capr) (xs := R) rfl rfl (HO3.out.alloc _) (reads_lit _ _ _) (by simp; omega) (HL3.out.alloc HZ3.out _) (by simp; have := HZ3.out; omega) ?_; intro v2 w4 ho4 hb4 hB4))
        go_roundw
        case rel =>
          refine ⟨k + 1, R ++ [c], by omega, by go_num, by simp; omega, ho4, ⟨?_, ?_, ?_, ?_⟩, hb4, hB4⟩
          · have ha := HFA.out.1
            refine List.pairwise_append.2 ⟨ha, by simp, fun a h1 b h2 => ?_⟩
            rw [List.mem_singleton.1 h2]; exact HLT.out a h1
          · have hpw := HS.out
            intro d hd e he
            rcases List.mem_append.1 hd with h | h
            · exact HFA.out.2.1 d h e (by rw [HD.out]; exact List.mem_cons_of_mem _ he)
            · rw [List.mem_singleton.1 h]
              have := hpw.drop (i := k)
              rw [HD.out] at this
              exact (List.pairwise_cons.1 this).1 e he
          · intro d hd
            rcases List.mem_append.1 hd with h | h
            · exact HFA.out.2.2.1 d h
            · rw [List.mem_singleton.1 h]; exact HCB.out
          · have h1 := HFA.out.2.2.2
            rw [HD.out] at h1
            unfold run at h1
            obtain ⟨e1, e2⟩ := ins_end c R HLT.out
            rw [e2, if_pos rfl, e1] at h1
            exact h1
        case measure => simp [intOf]; omega
      · obtain ⟨m, hm⟩ : ∃ m, R.length = m + 1 := ⟨R.length - 1, by have := List.length_pos_iff.2 hR0; omega⟩
        obtain ⟨l, hl⟩ : ∃ l, R[m]? = some l := ⟨_, List.getElem?_eq_getElem (by omega)⟩
        obtain ⟨g, rfl, hgB⟩ := HNE.out hR0
        have q1 : IntKind.i64.wrap ((m : Int) + 1 - 1) = (m : Int) := by rw [IntKind.wrap_i64]; omega
        have q2 : ¬ (m : Int) < 0 := by omega
        have q3 : (0 : Int) ≤ (m : Int) := by omega
        have q4 : (m : Int) < (m : Int) + 1 := by omega
        have HG : Aside ((wr.alloc (.cells (vec 9 (wf c)) 68)).rangeAt g (m * 9) (enc l)) := range_own HO.out hl
        have hgz : (m : Int) + 1 ≤ (capr : Int) := by omega
        have hRsplit : R = R.take m ++ [l] := by
          conv => lhs; rw [← List.take_length (l := R), hm, take_next hl]
        have hlc : l.s ≤ c.s := HFA.out.2.1 l (List.mem_of_getElem? hl) c (by rw [HD.out]; simp)
        have hbef : ∀ d ∈ R.take m, d.s < l.s := fun d hd => by
          have ha := HFA.out.1
          rw [hRsplit] at ha
          exact (List.pairwise_append.1 ha).2.2 d hd l (by simp)
        have HSP : Aside (R = R.take m ++ [l] ∧ R[m]? = some l ∧ ∀ d ∈ R.take m, d.s < l.s) := ⟨hRsplit, hl, hbef⟩
        clear hl HNE hR0 hRsplit hbef
        by_cases hls : l.s = c.s
        · have hls2 : (l.s == c.s) = true := by simpa using hls
          go_upto_region 6 with (first | (refine load_wheel (T := 68) (g := g0) rfl rfl rfl HE.out Try.underlying68 rfl info_circle ?_; clear HE) | (refine store_new (ty := 68) rfl rfl rfl rfl zero9 info_circle ?_))
          show Code.wp _ _ _ _ (wr.alloc (.cells (vec 9 (wf c)) 68))
          generalize wr.alloc (.cells (vec 9 (wf c)) 68) = W at *
          generalize wr.heap.size = b at *
          refine wp_region_held_drew (S := fun w' => w' = W.drew) (by kernel_rfl) rfl (fun hHeld => ?_)
          refine wpAnyH_take (i := 0) (oi := _) (v := .int .i64 m) rfl (by kernel_rfl) (by kernel_rfl) (by kernel_rfl) (fun _ _ _ h => h) (Or.inl ⟨by rfl, fun w h => by go_simp⟩) hHeld ?_
          try simp only [Act.put, List.setIfInBounds_toArray, List.set_cons_zero, List.set_cons_succ, List.getElem_toArray, List.getElem_cons_succ, List.getElem_cons_zero]
          refine wpAnyH_take (i := 1) (oi := _) (v := .bool false) rfl (by kernel_rfl) (by kernel_rfl) (by kernel_rfl) (fun _ _ _ h => h) (Or.inl ⟨by rfl, fun w h => by go_simp⟩) hHeld ?_
          try simp only [Act.put, List.setIfInBounds_toArray, List.set_cons_zero, List.set_cons_succ, List.getElem_toArray, List.getElem_cons_succ, List.getElem_cons_zero]
          refine wpAnyH_take (i := 2) (oi := _) (v := .bool false) rfl (by kernel_rfl) (by kernel_rfl) (by kernel_rfl) (fun _ _ _ h => h) (Or.inl ⟨by rfl, fun w h => by go_simp⟩) hHeld ?_
          try simp only [Act.put, List.setIfInBounds_toArray, List.set_cons_zero, List.set_cons_succ, List.getElem_toArray, List.getElem_cons_succ, List.getElem_cons_zero]
          refine wpAnyH_take (i := 3) (oi := _) (v := .slice (some ⟨g, 0, none⟩) (m + 1) capr) rfl (by kernel_rfl) (by kernel_rfl) (by kernel_rfl) (fun _ _ _ h => h) (Or.inl ⟨by rfl, fun w h => by go_simp⟩) hHeld ?_
          try simp only [Act.put, List.setIfInBounds_toArray, List.set_cons_zero, List.set_cons_succ, List.getElem_toArray, List.getElem_cons_succ, List.getElem_cons_zero]
          refine wpAnyH_take (i := 4) (oi := _) (v := .int .i64 m) rfl (by kernel_rfl) (by kernel_rfl) (by kernel_rfl) (fun _ _ _ h => h) (Or.inl ⟨by rfl, fun w h => by go_simp⟩) hHeld ?_
          try simp only [Act.put, List.setIfInBounds_toArray, List.set_cons_zero, List.set_cons_succ, List.getElem_toArray, List.getElem_cons_succ, List.getElem_cons_zero]
          refine wpAnyH_take (i := 5) (oi := _) (v := .pointer (some ⟨g, m * 9, none⟩)) rfl (by kernel_rfl) (by kernel_rfl) (by kernel_rfl) (fun _ _ _ h => h) (Or.inl ⟨by rfl, fun w h => by go_simp⟩) hHeld ?_
          try simp only [Act.put, List.setIfInBounds_toArray, List.set_cons_zero, List.set_cons_succ, List.getElem_toArray, List.getElem_cons_succ, List.getElem_cons_zero]
          refine wpAnyH_take (i := 6) (oi := _) (v := .pointer (some ⟨g, m * 9, none⟩)) rfl (by kernel_rfl) (by kernel_rfl) (by kernel_rfl) (fun _ _ _ h => h) (Or.inl ⟨by rfl, fun w h => by go_simp⟩) hHeld ?_
          try simp only [Act.put, List.setIfInBounds_toArray, List.set_cons_zero, List.set_cons_succ, List.getElem_toArray, List.getElem_cons_succ, List.getElem_cons_zero]
          refine wpAnyH_take (i := 7) (oi := _) (v := .int .i64 l.s) rfl (by kernel_rfl) (by kernel_rfl) (by kernel_rfl) (fun _ _ _ h => h) (Or.inl ⟨by rfl, fun w h => by have hcell := (show W.drew.cell? ⟨g, m * 9, none⟩ = some (.int .i64 l.s) from range_speed HG.out); go_simp⟩) hHeld ?_
          try simp only [Act.put, List.setIfInBounds_toArray, List.set_cons_zero, List.set_cons_succ, List.getElem_toArray, List.getElem_cons_succ, List.getElem_cons_zero]
          refine wpAnyH_take (i := 8) (oi := _) (v := .pointer (some ⟨b, 0, none⟩)) rfl (by kernel_rfl) (by kernel_rfl) (by kernel_rfl) (fun _ _ _ h => h) (Or.inl ⟨by rfl, fun w h => by go_simp⟩) hHeld ?_
          try simp only [Act.put, List.setIfInBounds_toArray, List.set_cons_zero, List.set_cons_succ, List.getElem_toArray, List.getElem_cons_succ, List.getElem_cons_zero]
          refine wpAnyH_take (i := 9) (oi := _) (v := .int .i64 c.s) rfl (by kernel_rfl) (by kernel_rfl) (by kernel_rfl) (fun _ _ _ h => h) (Or.inl ⟨by rfl, fun w h => by have hcell := (show W.drew.cell? ⟨b, 0, none⟩ = some (.int .i64 c.s) from row_speed HW.out); go_simp⟩) hHeld ?_
          try simp only [Act.put, List.setIfInBounds_toArray, List.set_cons_zero, List.set_cons_succ, List.getElem_toArray, List.getElem_cons_succ, List.getElem_cons_zero]
          refine wpAnyH_take (i := 10) (oi := _) (v := .bool false) rfl (by kernel_rfl) (by kernel_rfl) (by kernel_rfl) (fun _ _ _ h => h) (Or.inl ⟨by rfl, fun w h => by go_simp⟩) hHeld ?_
          try simp only [Act.put, List.setIfInBounds_toArray, List.set_cons_zero, List.set_cons_succ, List.getElem_toArray, List.getElem_cons_succ, List.getElem_cons_zero]
          refine wpAnyH_take (i := 11) (oi := _) (v := .bool false) rfl (by kernel_rfl) (by kernel_rfl) (by kernel_rfl) (fun _ _ _ h => h) (Or.inl ⟨by rfl, fun w h => by go_simp⟩) hHeld ?_
          try simp only [Act.put, List.setIfInBounds_toArray, List.set_cons_zero, List.set_cons_succ, List.getElem_toArray, List.getElem_cons_succ, List.getElem_cons_zero]
          clear hHeld
          refine wpAnyH_done (by kernel_rfl) ?_ _
          have HO3 : Aside (Own W.drew w.heap.size 68 (.slice (some ⟨g, 0, none⟩) (m + 1) capr) R) := (show Own W _ _ _ _ from by
            have e : Value.slice (some ⟨g, 0, none⟩) R.length capr = Value.slice (some ⟨g, 0, none⟩) (m + 1) capr := by rw [hm]
            rw [← e]; exact HO.out)
          have HW3 : Aside (RowAt W.drew b 9 68 (wf c)) := HW.out.drew1
          have HL3 : Aside (Below w.heap.size w W.drew) := HL.out.drew
          have HG3 : Aside (W.drew.rangeAt g (m * 9) (enc l)) := HG.out
          have HZ4 : Aside (g < W.drew.heap.size ∧ b < W.drew.heap.size) := ⟨by have := (own_block HO3.out g rfl); exact (HO3.out.lt g rfl).2, HZ2.out⟩
          clear HW HL HZ HO HG HZ2
          generalize W.drew = W3 at *
          have PL := fun w => plusV l.r c.r ((HFA.out.2.2.1 l (List.mem_of_getElem? HSP.out.2.1)).mono (by omega)) (HCB.out.mono (by omega)) w
          have TD := fun w => toldV (V.add l.r c.r) w
          go_upto_region 8 with fail
          refine wp_region_held_drew (S := fun w' => Below W3.heap.size W3 w') (by kernel_rfl) (Below.refl _ _).drew (fun hHeld => ?_)
          refine wpAnyH_take (i := 0) (oi := _) (v := .slice (some ⟨g, 0, none⟩) (m + 1) capr) rfl (by kernel_rfl) (by kernel_rfl) (by kernel_rfl) (fun _ _ _ h => h) (Or.inl ⟨by rfl, fun w h => by go_simp⟩) hHeld ?_
          try simp only [Act.put, List.setIfInBounds_toArray, List.set_cons_zero, List.set_cons_succ, List.getElem_toArray, List.getElem_cons_succ, List.getElem_cons_zero]
          refine wpAnyH_take (i := 1) (oi := _) (v := .int .i64 m) rfl (by kernel_rfl) (by kernel_rfl) (by kernel_rfl) (fun _ _ _ h => h) (Or.inl ⟨by rfl, fun w h => by go_simp⟩) hHeld ?_
          try simp only [Act.put, List.setIfInBounds_toArray, List.set_cons_zero, List.set_cons_succ, List.getElem_toArray, List.getElem_cons_succ, List.getElem_cons_zero]
          refine wpAnyH_take (i := 2) (oi := _) (v := .pointer (some ⟨g, m * 9, none⟩)) rfl (by kernel_rfl) (by kernel_rfl) (by kernel_rfl) (fun _ _ _ h => h) (Or.inl ⟨by rfl, fun w h => by go_simp⟩) hHeld ?_
          try simp only [Act.put, List.setIfInBounds_toArray, List.set_cons_zero, List.set_cons_succ, List.getElem_toArray, List.getElem_cons_succ, List.getElem_cons_zero]
          refine wpAnyH_take (i := 3) (oi := _) (v := .pointer (some ⟨g, m * 9 + 1, none⟩)) rfl (by kernel_rfl) (by kernel_rfl) (by kernel_rfl) (fun _ _ _ h => h) (Or.inl ⟨by rfl, fun w h => by go_simp⟩) hHeld ?_
          try simp only [Act.put, List.setIfInBounds_toArray, List.set_cons_zero, List.set_cons_succ, List.getElem_toArray, List.getElem_cons_succ, List.getElem_cons_zero]
          refine wpAnyH_take (i := 4) (oi := _) (v := .agg (vec 8 l.r.up)) rfl (by kernel_rfl) (by kernel_rfl) (by kernel_rfl) (fun _ _ _ h => h) (yieldsIf_load_mid (by rfl) _ _ rfl _ _ rfl _ _ ((fun w h => range_below (range_radius HG3.out) HZ4.out.1 h)) Try.underlying66 rfl (size_exact8 _)) hHeld ?_
          try simp only [Act.put, List.setIfInBounds_toArray, List.set_cons_zero, List.set_cons_succ, List.getElem_toArray, List.getElem_cons_succ, List.getElem_cons_zero]
          refine wpAnyH_take (i := 5) (oi := _) (v := .pointer (some ⟨b, 1, none⟩)) rfl (by kernel_rfl) (by kernel_rfl) (by kernel_rfl) (fun _ _ _ h => h) (Or.inl ⟨by rfl, fun w h => by go_simp⟩) hHeld ?_
          try simp only [Act.put, List.setIfInBounds_toArray, List.set_cons_zero, List.set_cons_succ, List.getElem_toArray, List.getElem_cons_succ, List.getElem_cons_zero]
          refine wpAnyH_take (i := 6) (oi := _) (v := .agg (vec 8 c.r.up)) rfl (by kernel_rfl) (by kernel_rfl) (by kernel_rfl) (fun _ _ _ h => h) (yieldsIf_load_mid (by rfl) _ _ rfl _ _ rfl _ _ ((fun w h => range_below (row_radius HW3.out) HZ4.out.2 h)) Try.underlying66 rfl (size_exact8 _)) hHeld ?_
          try simp only [Act.put, List.setIfInBounds_toArray, List.set_cons_zero, List.set_cons_succ, List.getElem_toArray, List.getElem_cons_succ, List.getElem_cons_zero]
          refine wpAnyH_ready (rs := [7, 8]) (by kernel_rfl) (by simp) ?_
          refine AllReadyH.cons (o := _) rfl (fun K hK => ?_) (AllReadyH.cons (o := _) rfl (fun K hK => ?_) AllReadyH.nil)
          · go_simp
            refine (PL _).mono ?_; rintro e w5 ⟨rfl, hb5⟩
            go_wp2_with fail
            refine hK.out _ _ (below_next hHeld hb5) (fun hHeld => ?_)
            clear hK K
            try simp only [Act.put, List.setIfInBounds_toArray, List.set_cons_zero, List.set_cons_succ, List.getElem_toArray, List.getElem_cons_succ, List.getElem_cons_zero]
            clear hb5 PL
            refine wpAnyH_ready (rs := [8]) (by kernel_rfl) (by simp) ?_
            refine AllReadyH.cons (o := _) rfl (fun K hK => ?_) AllReadyH.nil
            rw [if_pos (by rfl)]
            go_simp
            have hG : RowAt (w5.alloc (.cells #[.int .i64 0, .int .i64 0, .int .i64 0, .int .i64 0, .int .i64 0, .int .i64 0, .int .i64 0, .int .i64 0] 66)) w5.heap.size 8 66 nul := RowAt.newAt zero8 rfl
            have hgz : W3.heap.size ≤ w5.heap.size := hHeld.size
            refine hK.out _ _ (hHeld.alloc hgz _) (fun hHeld => ?_)
            clear hK K
            try simp only [Act.put, List.setIfInBounds_toArray, List.set_cons_zero, List.set_cons_succ, List.getElem_toArray, List.getElem_cons_succ, List.getElem_cons_zero]
            refine wpAnyH_ready (rs := [9]) (by kernel_rfl) (by simp) ?_
            refine AllReadyH.cons (o := _) rfl (fun K hK => ?_) AllReadyH.nil
            rw [if_pos (by rfl)]
            refine store_step (f' := (V.add l.r c.r).up) rfl rfl rfl hG info_exact ?_
            have hG2 := hG.setRow (f' := (V.add l.r c.r).up)
            refine hK.out _ _ (below_setRow hHeld hgz _) (fun hHeld => ?_)
            clear hK K
            try simp only [Act.put, List.setIfInBounds_toArray, List.set_cons_zero, List.set_cons_succ, List.getElem_toArray, List.getElem_cons_succ, List.getElem_cons_zero]
            clear hG
            refine wpAnyH_done (by kernel_rfl) ?_ _
            have HG5 := Lib.hid hG2
            have HS5 := Lib.hid hHeld
            clear hG2 hHeld
            generalize (w5.alloc (.cells #[.int .i64 0, .int .i64 0, .int .i64 0, .int .i64 0, .int .i64 0, .int .i64 0, .int .i64 0, .int .i64 0] 66)).setRow w5.heap.size (vec 8 (V.add l.r c.r).up) = W6 at *
            cases hok : okv (V.add l.r c.r)
            · rw [hok] at TD
              simp only [Bool.false_eq_true, if_false, zero_up] at TD
              go_wp2_with (first | (refine load_row (ty := 66) (g := w5.heap.size) rfl rfl rfl HG5.out Try.underlying66 rfl info_exact ?_; clear HG5))
              refine (TD _).mono ?_; rintro e w7 ⟨rfl, hb7⟩
              have HB7 := Lib.hid (below_next HL3.out (below_next HS5.out (hb7.alloc hb7.size (.cells (vec 8 nul) 32))))
              clear hb7 TD
              go_wp2_with (first | (refine store_new (ty := 32) rfl rfl rfl rfl zero8 info_cyc ?_))
              go_ret2
              have h1 := HFA.out.2.2.2
              rw [HD.out] at h1
              unfold run at h1
              obtain ⟨e1, e2⟩ := ins_eq c l hls (R.take m) (fun d hd => by have := HSP.out.2.2 d hd; omega)
              rw [← HSP.out.1] at e1 e2
              rw [e2, hok] at h1
              simp only [Bool.false_eq_true, if_false] at h1
              rw [← h1]
              exact ⟨HB7.out, _, rfl, own_nil _ _ _⟩
            · rw [hok] at TD
              simp only [if_true] at TD
              go_wp2_with (first | (refine load_row (ty := 66) (g := w5.heap.size) rfl rfl rfl HG5.out Try.underlying66 rfl info_exact ?_))
              refine (TD _).mono ?_; rintro e w7 ⟨rfl, hb7⟩
              have hb8 : Below W6.heap.size W6 (w7.alloc (.cells (vec 8 (V.add l.r c.r).up) 32)) := hb7.alloc hb7.size _
              have HG8 : Aside (RowAt (w7.alloc (.cells (vec 8 (V.add l.r c.r).up) 32)) (w5.heap.size) 8 66 (V.add l.r c.r).up) := HG5.out.below hb8
              have hb9 := below_next HS5.out hb8
              have hb10 := below_next HL3.out hb9
              have ho := own_below HO3.out hb9
              have ht := own_there (k := m) (o := 1) (n := 8) (ws := R) (cap := capr) (g := g) (by rw [hm]; exact ho) (by omega) (by omega)
              have HT8 := Lib.hid ht
              have hn := own_radius (V.add l.r c.r) (k := m) (c := l) (ws := R) (cap := capr) (g := g) (by rw [hm]; exact ho) HSP.out.2.1
              rw [hm] at hn
              have HN : Aside (Own (World.setCells _ g (m * 9 + 1) (lst 8 (V.add l.r c.r).up)) w.heap.size 68 (.slice (some ⟨g, 0, none⟩) (m + 1) capr) (R.set m ⟨l.s, V.add l.r c.r⟩)) := (show World.ownsRow _ _ _ _ _ (R.set m ⟨l.s, V.add l.r c.r⟩).length _ from by
                rw [show (R.set m ⟨l.s, V.add l.r c.r⟩).length = m + 1 from by rw [List.length_set, hm]]; exact hn)
              have HBN := Lib.hid (below_setCells (G := g) hgB (lst 8 (V.add l.r c.r).up) (m * 9 + 1) _ hb10)
              clear hb7 hb8 hb9 hb10 ho ht hn TD HG5
              go_upto_region 10 with (first | (refine store_new (ty := 32) rfl rfl rfl rfl zero8 info_cyc ?_))
              show Code.wp _ _ _ _ (w7.alloc (.cells (vec 8 (V.add l.r c.r).up) 32))
              generalize w7.alloc (.cells (vec 8 (V.add l.r c.r).up) 32) = W8 at *
              go_wp2_with (first | (refine load_row (ty := 66) (g := w5.heap.size) rfl rfl rfl HG8.out Try.underlying66 rfl info_exact ?_; clear HG8) | (refine store_part (ty := 66) (g := g) (p := m * 9 + 1) (f := (V.add l.r c.r).up) rfl rfl rfl rfl HT8.out info_exact ?_; clear HT8))
              go_roundw
              case rel =>
                have hset : R.set m ⟨l.s, V.add l.r c.r⟩ = R.take m ++ [⟨l.s, V.add l.r c.r⟩] := by
                  conv => lhs; rw [HSP.out.1]
                  rw [List.set_append_right _ _ (by rw [List.length_take]; omega), List.length_take, Nat.min_eq_left (by omega), Nat.sub_self]
                  rfl
                have hRR := HSP.out.1
                refine ⟨k + 1, R.set m ⟨l.s, V.add l.r c.r⟩, by omega, by go_num, by rw [List.length_set]; omega, HN.out, ⟨?_, ?_, ?_, ?_⟩, HBN.out, Nat.le_trans (Nat.le_refl _) HBN.out.size⟩
                · rw [hset]
                  refine List.pairwise_append.2 ⟨?_, by simp, fun a h1 b h2 => ?_⟩
                  · have ha := HFA.out.1
                    rw [hRR] at ha
                    exact (List.pairwise_append.1 ha).1
                  · rw [List.mem_singleton.1 h2]; exact HSP.out.2.2 a h1
                · rw [hset]
                  intro d hd e he
                  rcases List.mem_append.1 hd with h | h
                  · exact HFA.out.2.1 d (by rw [hRR]; exact List.mem_append_left _ h) e (by rw [HD.out]; exact List.mem_cons_of_mem _ he)
                  · rw [List.mem_singleton.1 h]
                    exact HFA.out.2.1 l (by rw [hRR]; simp) e (by rw [HD.out]; exact List.mem_cons_of_mem _ he)
                · rw [hset]
                  intro d hd
                  rcases List.mem_append.1 hd with h | h
                  · exact HFA.out.2.2.1 d (by rw [hRR]; exact List.mem_append_left _ h)
                  · rw [List.mem_singleton.1 h]; exact (big_ok hok).mono (by omega)
                · have h1 := HFA.out.2.2.2
                  rw [HD.out] at h1
                  unfold run at h1
                  obtain ⟨e1, e2⟩ := ins_eq c l hls (R.take m) (fun d hd => by have := HSP.out.2.2 d hd; omega)
                  rw [← hRR] at e1 e2
                  rw [e2, hok, if_pos rfl, e1] at h1
                  rw [hset]; exact h1
              case measure => simp [intOf]; omega
          · rw [if_pos (by rfl)]
            go_simp
            have hgz : W3.heap.size ≤ W3.heap.size := Nat.le_refl _
            have hG : RowAt (W3.drew.alloc (.cells #[.int .i64 0, .int .i64 0, .int .i64 0, .int .i64 0, .int .i64 0, .int .i64 0, .int .i64 0, .int .i64 0] 66)) W3.heap.size 8 66 nul := RowAt.newAt zero8 rfl
            refine hK.out _ _ (hHeld.alloc hgz _) (fun hHeld => ?_)
            clear hK K
            try simp only [Act.put, List.setIfInBounds_toArray, List.set_cons_zero, List.set_cons_succ, List.getElem_toArray, List.getElem_cons_succ, List.getElem_cons_zero]
            refine wpAnyH_ready (rs := [7]) (by kernel_rfl) (by simp) ?_
            refine AllReadyH.cons (o := _) rfl (fun K hK => ?_) AllReadyH.nil
            go_simp
            refine (PL _).mono ?_; rintro e w5 ⟨rfl, hb5⟩
            go_wp2_with fail
            replace hG := hG.below hb5
            refine hK.out _ _ (below_next hHeld hb5) (fun hHeld => ?_)
            clear hK K
            try simp only [Act.put, List.setIfInBounds_toArray, List.set_cons_zero, List.set_cons_succ, List.getElem_toArray, List.getElem_cons_succ, List.getElem_cons_zero]
            clear hb5 PL
            refine wpAnyH_ready (rs := [9]) (by kernel_rfl) (by simp) ?_
            refine AllReadyH.cons (o := _) rfl (fun K hK => ?_) AllReadyH.nil
            rw [if_pos (by rfl)]
            refine store_step (f' := (V.add l.r c.r).up) rfl rfl rfl hG info_exact ?_
            have hG2 := hG.setRow (f' := (V.add l.r c.r).up)
            refine hK.out _ _ (below_setRow hHeld hgz _) (fun hHeld => ?_)
            clear hK K
            try simp only [Act.put, List.setIfInBounds_toArray, List.set_cons_zero, List.set_cons_succ, List.getElem_toArray, List.getElem_cons_succ, List.getElem_cons_zero]
            clear hG
            refine wpAnyH_done (by kernel_rfl) ?_ _
            have HG5 := Lib.hid hG2
            have HS5 := Lib.hid hHeld
            clear hG2 hHeld
            generalize w5.setRow W3.heap.size (vec 8 (V.add l.r c.r).up) = W6 at *
            cases hok : okv (V.add l.r c.r)
            · rw [hok] at TD
              simp only [Bool.false_eq_true, if_false, zero_up] at TD
              go_wp2_with (first | (refine load_row (ty := 66) (g := W3.heap.size) rfl rfl rfl HG5.out Try.underlying66 rfl info_exact ?_; clear HG5))
              refine (TD _).mono ?_; rintro e w7 ⟨rfl, hb7⟩
              have HB7 := Lib.hid (below_next HL3.out (below_next HS5.out (hb7.alloc hb7.size (.cells (vec 8 nul) 32))))
              clear hb7 TD
              go_wp2_with (first | (refine store_new (ty := 32) rfl rfl rfl rfl zero8 info_cyc ?_))
              go_ret2
              have h1 := HFA.out.2.2.2
              rw [HD.out] at h1
              unfold run at h1
              obtain ⟨e1, e2⟩ := ins_eq c l hls (R.take m) (fun d hd => by have := HSP.out.2.2 d hd; omega)
              rw [← HSP.out.1] at e1 e2
              rw [e2, hok] at h1
              simp only [Bool.false_eq_true, if_false] at h1
              rw [← h1]
              exact ⟨HB7.out, _, rfl, own_nil _ _ _⟩
            · rw [hok] at TD
              simp only [if_true] at TD
              go_wp2_with (first | (refine load_row (ty := 66) (g := W3.heap.size) rfl rfl rfl HG5.out Try.underlying66 rfl info_exact ?_))
              refine (TD _).mono ?_; rintro e w7 ⟨rfl, hb7⟩
              have hb8 : Below W6.heap.size W6 (w7.alloc (.cells (vec 8 (V.add l.r c.r).up) 32)) := hb7.alloc hb7.size _
              have HG8 : Aside (RowAt (w7.alloc (.cells (vec 8 (V.add l.r c.r).up) 32)) (W3.heap.size) 8 66 (V.add l.r c.r).up) := HG5.out.below hb8
              have hb9 := below_next HS5.out hb8
              have hb10 := below_next HL3.out hb9
              have ho := own_below HO3.out hb9
              have ht := own_there (k := m) (o := 1) (n := 8) (ws := R) (cap := capr) (g := g) (by rw [hm]; exact ho) (by omega) (by omega)
              have HT8 := Lib.hid ht
              have hn := own_radius (V.add l.r c.r) (k := m) (c := l) (ws := R) (cap := capr) (g := g) (by rw [hm]; exact ho) HSP.out.2.1
              rw [hm] at hn
              have HN : Aside (Own (World.setCells _ g (m * 9 + 1) (lst 8 (V.add l.r c.r).up)) w.heap.size 68 (.slice (some ⟨g, 0, none⟩) (m + 1) capr) (R.set m ⟨l.s, V.add l.r c.r⟩)) := (show World.ownsRow _ _ _ _ _ (R.set m ⟨l.s, V.add l.r c.r⟩).length _ from by
                rw [show (R.set m ⟨l.s, V.add l.r c.r⟩).length = m + 1 from by rw [List.length_set, hm]]; exact hn)
              have HBN := Lib.hid (below_setCells (G := g) hgB (lst 8 (V.add l.r c.r).up) (m * 9 + 1) _ hb10)
              clear hb7 hb8 hb9 hb10 ho ht hn TD HG5
              go_upto_region 10 with (first | (refine store_new (ty := 32) rfl rfl rfl rfl zero8 info_cyc ?_))
              show Code.wp _ _ _ _ (w7.alloc (.cells (vec 8 (V.add l.r c.r).up) 32))
              generalize w7.alloc (.cells (vec 8 (V.add l.r c.r).up) 32) = W8 at *
              go_wp2_with (first | (refine load_row (ty := 66) (g := W3.heap.size) rfl rfl rfl HG8.out Try.underlying66 rfl info_exact ?_; clear HG8) | (refine store_part (ty := 66) (g := g) (p := m * 9 + 1) (f := (V.add l.r c.r).up) rfl rfl rfl rfl HT8.out info_exact ?_; clear HT8))
              go_roundw
              case rel =>
                have hset : R.set m ⟨l.s, V.add l.r c.r⟩ = R.take m ++ [⟨l.s, V.add l.r c.r⟩] := by
                  conv => lhs; rw [HSP.out.1]
                  rw [List.set_append_right _ _ (by rw [List.length_take]; omega), List.length_take, Nat.min_eq_left (by omega), Nat.sub_self]
                  rfl
                have hRR := HSP.out.1
                refine ⟨k + 1, R.set m ⟨l.s, V.add l.r c.r⟩, by omega, by go_num, by rw [List.length_set]; omega, HN.out, ⟨?_, ?_, ?_, ?_⟩, HBN.out, Nat.le_trans (Nat.le_refl _) HBN.out.size⟩
                · rw [hset]
                  refine List.pairwise_append.2 ⟨?_, by simp, fun a h1 b h2 => ?_⟩
                  · have ha := HFA.out.1
                    rw [hRR] at ha
                    exact (List.pairwise_append.1 ha).1
                  · rw [List.mem_singleton.1 h2]; exact HSP.out.2.2 a h1
                · rw [hset]
                  intro d hd e he
                  rcases List.mem_append.1 hd with h | h
                  · exact HFA.out.2.1 d (by rw [hRR]; exact List.mem_append_left _ h) e (by rw [HD.out]; exact List.mem_cons_of_mem _ he)
                  · rw [List.mem_singleton.1 h]
                    exact HFA.out.2.1 l (by rw [hRR]; simp) e (by rw [HD.out]; exact List.mem_cons_of_mem _ he)
                · rw [hset]
                  intro d hd
                  rcases List.mem_append.1 hd with h | h
                  · exact HFA.out.2.2.1 d (by rw [hRR]; exact List.mem_append_left _ h)
                  · rw [List.mem_singleton.1 h]; exact (big_ok hok).mono (by omega)
                · have h1 := HFA.out.2.2.2
                  rw [HD.out] at h1
                  unfold run at h1
                  obtain ⟨e1, e2⟩ := ins_eq c l hls (R.take m) (fun d hd => by have := HSP.out.2.2 d hd; omega)
                  rw [← hRR] at e1 e2
                  rw [e2, hok, if_pos rfl, e1] at h1
                  rw [hset]; exact h1
              case measure => simp [intOf]; omega
        · have hls2 : (l.s == c.s) = false := by simpa using hls
          have HLT : Aside (∀ d ∈ R, d.s < c.s) := (show ∀ d ∈ R, d.s < c.s from fun d hd => by
            rw [HSP.out.1] at hd
            rcases List.mem_append.1 hd with h | h
            · have := HSP.out.2.2 d h; omega
            · rw [List.mem_singleton.1 h]; omega)
          go_upto_region 6 with (first | (refine load_wheel (T := 68) (g := g0) rfl rfl rfl HE.out Try.underlying68 rfl info_circle ?_; clear HE) | (refine store_new (ty := 68) rfl rfl rfl rfl zero9 info_circle ?_))
          show Code.wp _ _ _ _ (wr.alloc (.cells (vec 9 (wf c)) 68))
          generalize wr.alloc (.cells (vec 9 (wf c)) 68) = W at *
          generalize wr.heap.size = b at *
          refine wp_region_held_drew (S := fun w' => w' = W.drew) (by kernel_rfl) rfl (fun hHeld => ?_)
          refine wpAnyH_take (i := 0) (oi := _) (v := .int .i64 m) rfl (by kernel_rfl) (by kernel_rfl) (by kernel_rfl) (fun _ _ _ h => h) (Or.inl ⟨by rfl, fun w h => by go_simp⟩) hHeld ?_
          try simp only [Act.put, List.setIfInBounds_toArray, List.set_cons_zero, List.set_cons_succ, List.getElem_toArray, List.getElem_cons_succ, List.getElem_cons_zero]
          refine wpAnyH_take (i := 1) (oi := _) (v := .bool false) rfl (by kernel_rfl) (by kernel_rfl) (by kernel_rfl) (fun _ _ _ h => h) (Or.inl ⟨by rfl, fun w h => by go_simp⟩) hHeld ?_
          try simp only [Act.put, List.setIfInBounds_toArray, List.set_cons_zero, List.set_cons_succ, List.getElem_toArray, List.getElem_cons_succ, List.getElem_cons_zero]
          refine wpAnyH_take (i := 2) (oi := _) (v := .bool false) rfl (by kernel_rfl) (by kernel_rfl) (by kernel_rfl) (fun _ _ _ h => h) (Or.inl ⟨by rfl, fun w h => by go_simp⟩) hHeld ?_
          try simp only [Act.put, List.setIfInBounds_toArray, List.set_cons_zero, List.set_cons_succ, List.getElem_toArray, List.getElem_cons_succ, List.getElem_cons_zero]
          refine wpAnyH_take (i := 3) (oi := _) (v := .slice (some ⟨g, 0, none⟩) (m + 1) capr) rfl (by kernel_rfl) (by kernel_rfl) (by kernel_rfl) (fun _ _ _ h => h) (Or.inl ⟨by rfl, fun w h => by go_simp⟩) hHeld ?_
          try simp only [Act.put, List.setIfInBounds_toArray, List.set_cons_zero, List.set_cons_succ, List.getElem_toArray, List.getElem_cons_succ, List.getElem_cons_zero]
          refine wpAnyH_take (i := 4) (oi := _) (v := .int .i64 m) rfl (by kernel_rfl) (by kernel_rfl) (by kernel_rfl) (fun _ _ _ h => h) (Or.inl ⟨by rfl, fun w h => by go_simp⟩) hHeld ?_
          try simp only [Act.put, List.setIfInBounds_toArray, List.set_cons_zero, List.set_cons_succ, List.getElem_toArray, List.getElem_cons_succ, List.getElem_cons_zero]
          refine wpAnyH_take (i := 5) (oi := _) (v := .pointer (some ⟨g, m * 9, none⟩)) rfl (by kernel_rfl) (by kernel_rfl) (by kernel_rfl) (fun _ _ _ h => h) (Or.inl ⟨by rfl, fun w h => by go_simp⟩) hHeld ?_
          try simp only [Act.put, List.setIfInBounds_toArray, List.set_cons_zero, List.set_cons_succ, List.getElem_toArray, List.getElem_cons_succ, List.getElem_cons_zero]
          refine wpAnyH_take (i := 6) (oi := _) (v := .pointer (some ⟨g, m * 9, none⟩)) rfl (by kernel_rfl) (by kernel_rfl) (by kernel_rfl) (fun _ _ _ h => h) (Or.inl ⟨by rfl, fun w h => by go_simp⟩) hHeld ?_
          try simp only [Act.put, List.setIfInBounds_toArray, List.set_cons_zero, List.set_cons_succ, List.getElem_toArray, List.getElem_cons_succ, List.getElem_cons_zero]
          refine wpAnyH_take (i := 7) (oi := _) (v := .int .i64 l.s) rfl (by kernel_rfl) (by kernel_rfl) (by kernel_rfl) (fun _ _ _ h => h) (Or.inl ⟨by rfl, fun w h => by have hcell := (show W.drew.cell? ⟨g, m * 9, none⟩ = some (.int .i64 l.s) from range_speed HG.out); go_simp⟩) hHeld ?_
          try simp only [Act.put, List.setIfInBounds_toArray, List.set_cons_zero, List.set_cons_succ, List.getElem_toArray, List.getElem_cons_succ, List.getElem_cons_zero]
          refine wpAnyH_take (i := 8) (oi := _) (v := .pointer (some ⟨b, 0, none⟩)) rfl (by kernel_rfl) (by kernel_rfl) (by kernel_rfl) (fun _ _ _ h => h) (Or.inl ⟨by rfl, fun w h => by go_simp⟩) hHeld ?_
          try simp only [Act.put, List.setIfInBounds_toArray, List.set_cons_zero, List.set_cons_succ, List.getElem_toArray, List.getElem_cons_succ, List.getElem_cons_zero]
          refine wpAnyH_take (i := 9) (oi := _) (v := .int .i64 c.s) rfl (by kernel_rfl) (by kernel_rfl) (by kernel_rfl) (fun _ _ _ h => h) (Or.inl ⟨by rfl, fun w h => by have hcell := (show W.drew.cell? ⟨b, 0, none⟩ = some (.int .i64 c.s) from row_speed HW.out); go_simp⟩) hHeld ?_
          try simp only [Act.put, List.setIfInBounds_toArray, List.set_cons_zero, List.set_cons_succ, List.getElem_toArray, List.getElem_cons_succ, List.getElem_cons_zero]
          refine wpAnyH_take (i := 10) (oi := _) (v := .bool true) rfl (by kernel_rfl) (by kernel_rfl) (by kernel_rfl) (fun _ _ _ h => h) (Or.inl ⟨by rfl, fun w h => by go_simp⟩) hHeld ?_
          try simp only [Act.put, List.setIfInBounds_toArray, List.set_cons_zero, List.set_cons_succ, List.getElem_toArray, List.getElem_cons_succ, List.getElem_cons_zero]
          refine wpAnyH_take (i := 11) (oi := _) (v := .bool true) rfl (by kernel_rfl) (by kernel_rfl) (by kernel_rfl) (fun _ _ _ h => h) (Or.inl ⟨by rfl, fun w h => by go_simp⟩) hHeld ?_
          try simp only [Act.put, List.setIfInBounds_toArray, List.set_cons_zero, List.set_cons_succ, List.getElem_toArray, List.getElem_cons_succ, List.getElem_cons_zero]
          clear hHeld
          refine wpAnyH_done (by kernel_rfl) ?_ _
          have HO3 : Aside (Own W.drew w.heap.size 68 (.slice (some ⟨g, 0, none⟩) (m + 1) capr) R) := (show Own W _ _ _ _ from by
            have e : Value.slice (some ⟨g, 0, none⟩) R.length capr = Value.slice (some ⟨g, 0, none⟩) (m + 1) capr := by rw [hm]
            rw [← e]; exact HO.out)
          have HW3 : Aside (RowAt W.drew b 9 68 (wf c)) := HW.out.drew1
          have HL3 : Aside (Below w.heap.size w W.drew) := HL.out.drew
          have HZ3 : Aside (w.heap.size ≤ W.drew.heap.size) := HZ.out
          clear HW HL HZ HO
          generalize W.drew = W3 at *
          go_wp2_with (first | (refine load_row (ty := 68) (g := b) rfl rfl rfl HW3.out Try.underlying68 rfl info_circle ?_; clear HW3) | (refine one9 tyC rfl rfl rfl ?_) |
            (refine append9 tyC rfl rfl (v := .slice (some ⟨g, 0, none⟩) (m + 1) capr) (xs := R) rfl rfl (HO3.out.alloc _) (reads_lit _ _ _) (by simp; omega) (HL3.out.alloc HZ3.out _) (by simp; have := HZ3.out; omega) ?_; intro v2 w4 ho4 hb4 hB4))
          go_roundw
          case rel =>
            refine ⟨k + 1, R ++ [c], by omega, by go_num, by simp; omega, ho4, ⟨?_, ?_, ?_, ?_⟩, hb4, hB4⟩
            · have ha := HFA.out.1
              refine List.pairwise_append.2 ⟨ha, by simp, fun a h1 b h2 => ?_⟩
              rw [List.mem_singleton.1 h2]; exact HLT.out a h1
            · have hpw := HS.out
              intro d hd e he
              rcases List.mem_append.1 hd with h | h
              · exact HFA.out.2.1 d h e (by rw [HD.out]; exact List.mem_cons_of_mem _ he)
              · rw [List.mem_singleton.1 h]
                have := hpw.drop (i := k)
                rw [HD.out] at this
                exact (List.pairwise_cons.1 this).1 e he
            · intro d hd
              rcases List.mem_append.1 hd with h | h
              · exact HFA.out.2.2.1 d h
              · rw [List.mem_singleton.1 h]; exact HCB.out
            · have h1 := HFA.out.2.2.2
              rw [HD.out] at h1
              unfold run at h1
              obtain ⟨e1, e2⟩ := ins_end c R HLT.out
              rw [e2, if_pos rfl, e1] at h1
              exact h1
          case measure => simp [intOf]; omega
    · obtain rfl : k = ws.length := by omega
      have HO := Lib.hid hO
      have HL := Lib.hid hbel
      have HF := Lib.hid hfacts
      clear hO hbel hfacts hB
      go_wp2
      go_ret2
      have h1 := HF.out.2.2.2
      rw [List.drop_length] at h1
      simp only [run] at h1
      rw [← h1]
      exact ⟨HL.out, _, rfl, HO.out⟩

end Go.Proofs.Yteicmnoafoekcaa
