/-
  The draws of trains and of fractions.
-/
import Derived.Test.YtbdhbkedeglagaaDoorGearL
import Derived.Test.YtbdhbkedeglagaaDoorDrawTurn
import Derived.RangeFuncBox
namespace Go.Proofs.YtbdhbkedeglagaaDoor
set_option maxRecDepth 20000
open Go.ChangeShapes Go.WideShapes Go.ChangeAt Go.RowKit
set_option linter.unusedVariables false
set_option linter.unusedSimpArgs false

theorem div19 {k : Int} (h0 : 0 ≤ k) (h1 : k ≤ 19) : 0 ≤ k.tdiv 19 ∧ k.tdiv 19 ≤ 1 := by
  rw [Int.tdiv_eq_ediv_of_nonneg h0]; omega
theorem rows_keptI {w w' : World} {B T R n K : Nat} {v : Value} {cs : List Value} (h : w.ownsRow B T K v n cs) (hg : w.grownBy w' (some R)) (hR : R < B) : w'.ownsRow B T K v n cs := by
  refine h.kept hg ?_
  cases e : v.ownBlock with
  | none => exact .inl rfl
  | some k =>
    have := (h.lt k e).1
    exact .inr (by simp; omega)
theorem only_ownI {a w w' : World} {R : Nat} {v : Value} (h : a.grownBy w (some R)) (hg : w.grownBy w' v.ownBlock) (hv : ∀ k, v.ownBlock = some k → a.heap.size ≤ k) : a.grownBy w' (some R) :=
  ⟨hg.os.trans h.os, hg.tape.trans h.tape, hg.output.trans h.output, Nat.le_trans h.size hg.size, fun i hi hne =>
    (hg.block i (Nat.lt_of_lt_of_le hi h.size) (fun e => by have := hv i e.symm; omega)).trans (h.block i hi hne)⟩
section
variable {P : Program} {t e : TypeId} {ops : Array Oper} {rest : List Oper} {o : Oper} {a : Act} {Q : Exit → Act → World → Prop} {w0 w : World} {R q : Nat}
/-- Appending a number while a reader is open. -/
theorem append_drawnI (ty : TyL P t e 1) (hgd : o.guard = none) {s x : Operand} (hop : o.op = .call { callee := .builtin .append, args := #[s, x], argTypes := #[t, t] })
    {v x' : Value} {xs ys : List Int} (hs : a.eval s = v) (hx : a.eval x = x') (hown : OwnL encI 1 w w0.heap.size e v xs) (hr : ReadsL encI w x' ys) (hlen : xs.length + ys.length ≤ 1000000000) (hg : w0.grownBy w (some R)) (hR : Rd w R q) (hlt : R < w0.heap.size)
    (h : ∀ v' w', OwnL encI 1 w' w0.heap.size e v' (xs ++ ys) → Rd w' R q → w0.grownBy w' (some R) → wpList P ops Q rest (a.put o.dst v') w') : wpList P ops Q (o :: rest) a w := by
  refine wpList_plain hgd fun _ hK => wp_appendL (w0 := w) ty encI_ok hop hs hx hown hr hlen (Below.refl _ _) hg.size fun v' w' h1 _ _ h4 => hK _ _ (h v' w' h1 ?_ ?_)
  · exact hR.keep h4 fun k hk => by have := (hown.lt k hk).1; omega
  · exact only_ownI hg h4 fun k hk => (hown.lt k hk).1
end
/-- A train drawn off a reader: the list is the call's own. -/
def DrewT (w : World) (R p c : Nat) (e : Ending) (w' : World) : Prop :=
  ∃ (v : Value) (xs : List Int) (q : Nat), e = .returned v ∧ q ≤ p + c ∧ xs.length ≤ 6 ∧ Rd w' R q ∧ Below R w w' ∧ ReadsL encI w' v xs

theorem own_ptr {w : World} {B T : Nat} {v : Value} {xs : List Int} (h : OwnL encI 1 w B T v xs) (hn : 1 ≤ xs.length) : ∃ g cap, v = .slice (some ⟨g, 0, none⟩) xs.length cap ∧ B ≤ g ∧ g < w.heap.size ∧ w.rangeAt g 0 (flt encI xs) ∧ xs.length ≤ cap ∧ cap ≤ maxLen := by
  have h0 := h
  rcases h.2 with ⟨rfl, h0⟩ | ⟨g, cap, cur, rfl, hB, hg, h1, h2, h3, h4⟩
  · omega
  · obtain ⟨q1, q2, q3, q4⟩ := ownL_parts (en := encI) (K := 1) (xs := xs) h0 rfl
    exact ⟨g, cap, rfl, hB, q1, q2, q3, q4⟩
theorem reads_tail {w : World} {g cap : Nat} {xs : List Int} (hg : g < w.heap.size) (hr : w.rangeAt g 0 (flt encI xs)) (h1 : xs.length ≤ cap) (h2 : cap ≤ maxLen) (hn : 2 ≤ xs.length) : ReadsL encI w (.slice (some ⟨g, 1, none⟩) (xs.length - 1) (cap - 1)) (xs.drop 1) := by
  refine ⟨_, cap - 1, by rw [List.length_drop], by rw [List.length_drop]; omega, by omega, (fun h => by cases h), fun _ => ⟨g, 1, rfl, hg, fun j v hv => ?_⟩⟩
  have := hr (1 + j) v (by
    rw [flt_ints] at hv ⊢
    rw [List.getElem?_map] at hv ⊢
    rw [List.getElem?_drop] at hv
    exact hv)
  rwa [Nat.zero_add] at this
theorem own_first {w : World} {B T g cap : Nat} {xs : List Int} (h : OwnL encI 1 w B T (.slice (some ⟨g, 0, none⟩) xs.length cap) xs) (hn : 1 ≤ xs.length) (z : Int) : ReadsL encI (w.setCell ⟨g, 0, none⟩ (.int .i64 z)) (.slice (some ⟨g, 0, none⟩) xs.length cap) (xs.set 0 z) := by
  obtain ⟨x, hx⟩ : ∃ x, xs[0]? = some x := ⟨_, List.getElem?_eq_getElem hn⟩
  have h2 := ownL_set (k := 0) encI_ok z h hx
  have h3 : OwnL encI 1 (w.setCell ⟨g, 0, none⟩ (.int .i64 z)) B T (.slice (some ⟨g, 0, none⟩) (xs.set 0 z).length cap) (xs.set 0 z) := by
    show World.ownsRow _ _ _ _ _ _ _
    rw [List.length_set]; exact h2
  have := ownL_reads h3
  rwa [List.length_set] at this

set_option maxHeartbeats 2000000 in
theorem train_drawn (R p : Nat) (w : World) (h : Rd w R p) (hp : p ≤ 800000) :
    Calls Tryd.prog 23 #[.pointer (some ⟨R, 0, none⟩)] w (DrewT w R p 300) := by
  have hlt := h.lt
  have hr0 := h.alloc (.cells #[] 3)
  have hg0 := World.grownBy_alloc w (.cells #[] 3) (some R)
  have ho0 : OwnL encI 1 (w.alloc (.cells #[] 3)) w.heap.size 3 (.slice (some ⟨w.heap.size, 0, none⟩) 0 0) [] := World.ownsRow_made w #[] 0 (Nat.le_refl _) (by simp [maxLen]) (by simp)
  have P1 := Lib.hid (pick_any R p 3 _ hr0 (by omega) (by omega))
  clear h
  go_enter Tryd.func23, Tryd.ntmps23
  go_wp2_with fail
  refine P1.out.mono ?_; rintro e w1 ⟨n, rfl, n0, n1, hr1, hg1⟩
  have hg := only_trans' hg0 hg1
  have ho := rows_keptI ho0 hg1 hlt
  obtain ⟨m, hm⟩ : ∃ m : Nat, 2 * (1 + n) = m := ⟨(2 * (1 + n)).toNat, by omega⟩
  have hmw : IntKind.i64.wrap (2 * (1 + n)) = (m : Int) := by rw [IntKind.wrap_i64]; omega
  have m2 : 2 ≤ m ∧ m ≤ 6 := by omega
  have HG := Lib.hid hg
  have HO := Lib.hid ho
  have HR := Lib.hid hr1
  clear P1 hr0 hg0 ho0 hr1 hg1 hg ho
  clear hmw
  go_wp2
  go_loopw [3, 5] (fun s3 i wr => ∃ (k : Nat) (xs : List Int) (q : Nat), k ≤ m ∧ i = .int .i64 k ∧ xs.length = k ∧ q ≤ p + 1 + k ∧ Rd wr R q ∧ w.grownBy wr (some R) ∧ OwnL encI 1 wr w.heap.size 3 s3 xs) (fun _ i _ => m - (intOf i).toNat)
  case atStart => exact ⟨0, [], p + 1, Nat.zero_le _, rfl, rfl, by omega, HR.out, HG.out, HO.out⟩
  case round =>
    clear HR HG HO
    obtain ⟨k, xs, q, hk, rfl, hlen, hq, hr, hg, ho⟩ := hrel
    have HLEN := Lib.hid hlen
    clear hlen
    by_cases hkm : k < m
    · have hkz : (k : Int) < 2 * (1 + n) := by omega
      have P2 := Lib.hid (pick_any R q 60 wr hr (by omega) (by omega))
      clear hm
      go_wp2_with fail
      refine P2.out.mono ?_; rintro e w3 ⟨a, rfl, a0, a1, hr3, hg4⟩
      have HG4 := Lib.hid (only_trans' hg hg4)
      have HO4 := Lib.hid (rows_keptI ho hg4 hlt)
      have HR4 := Lib.hid hr3
      clear P2 hg ho hg4 hr3 hr
      go_wp2_with (at_builtin; refine append_drawnI tyI rfl rfl (xs := xs) (ys := [6 + a]) rfl rfl (World.ownsRow.alloc HO4.out _) (lit1 _ _ _) (by have := HLEN.out; simp; omega) (only_alloc HG4.out _) (HR4.out.alloc _) hlt ?_; intro v5 w5 ho5 hr5 hg5)
      have HO5 := Lib.hid ho5
      have HR5 := Lib.hid hr5
      have HG5 := Lib.hid hg5
      clear ho5 hr5 hg5 HG4 HO4 HR4
      go_wp2
      go_roundw
      case rel => exact ⟨k + 1, xs ++ [6 + a], q + 1, by omega, by go_num, by have := HLEN.out; simp; omega, by omega, HR5.out, HG5.out, HO5.out⟩
      case measure => simp [intOf]; omega
    · have hkz : ¬ (k : Int) < 2 * (1 + n) := by omega
      have hlen := HLEN.out
      obtain ⟨g, cap, rfl, hB, hgl, hra, hc1, hc2⟩ := own_ptr ho (by omega)
      have P2 := Lib.hid (pick_any R q 20 wr hr (by omega) (by omega))
      have hne : g ≠ R := by omega
      clear hra
      simp only [maxLen] at hc2
      clear hm hlen
      go_wp2_with fail
      refine P2.out.mono ?_; rintro e w2 ⟨s, rfl, s0, s1, hr2, hg2⟩
      have ho2 := rows_keptI ho hg2 hlt
      have HG := Lib.hid (only_trans' hg hg2)
      have HO := Lib.hid ho2
      have HR := Lib.hid hr2
      obtain ⟨q1, q2, q3, q4⟩ := ownL_parts (en := encI) (K := 1) (xs := xs) ho2 rfl
      have hx0 := ho2.cellAt 0 (by have := HLEN.out; omega)
      have hf0 := ho2.frozenAt 0
      obtain ⟨x, hx⟩ : ∃ x, xs[0]? = some x := ⟨_, List.getElem?_eq_getElem (by have := HLEN.out; omega)⟩
      have c0 : w2.cell? ⟨g, 0, none⟩ = some (.int .i64 x) := by
        rw [hx0, flt_ints, List.getElem?_map, hx]; rfl
      have HT := Lib.hid (reads_tail q1 q2 q3 q4 (by have := HLEN.out; omega))
      have HX5 := Lib.hid (own_first ho2 (by have := HLEN.out; omega) 5)
      have HX6 := Lib.hid (own_first ho2 (by have := HLEN.out; omega) 241)
      have HL6 : Aside (xs.length ≤ 6) := (show _ ≤ _ from by have := HLEN.out; omega)
      have n1 : (1 : Int) ≤ (xs.length : Int) := by have := HLEN.out; omega
      have n2 : (0 : Int) < (xs.length : Int) := by omega
      have n3 : (1 : Int) ≤ (cap : Int) := by omega
      have HR5 : ∀ z : Value, Rd (w2.setCell ⟨g, 0, none⟩ z) R (q + 1) := fun z => HR.out.keep (grownBy_setCell' w2 g z) (fun k hk => by cases hk; omega)
      have HB2 : Below R w w2 := below_only (Below.refl _ _) HG.out (Nat.le_of_lt hlt) (Nat.le_refl _)
      have HB5 : ∀ z : Value, Below R w (w2.setCell ⟨g, 0, none⟩ z) := fun z => HB2.setCell (p := ⟨g, 0, none⟩) (by show R ≤ g; omega) z
      have HD := Lib.hid (And.intro HR5 (And.intro HB2 HB5))
      clear HR5 HB2 HB5 ho ho2 hg2 hg hr hr2 q1 q2 q3 q4 hx0 hx P2
      have hs : s = 0 ∨ s = 1 ∨ s = 2 ∨ 3 ≤ s := by omega
      have HRO := Lib.hid (ownL_reads HO.out)
      clear HO
      rcases hs with rfl | rfl | rfl | hs
      · go_wp2
        · exfalso; have := HLEN.out; omega
        go_ret
        exact ⟨_, _, _, rfl, by omega, by have := HL6.out; rw [List.length_drop]; omega, HR.out, HD.out.2.1, HT.out⟩
      · go_wp2
        go_ret
        exact ⟨_, _, _, rfl, by omega, by have := HL6.out; rw [List.length_set]; omega, HD.out.1 _, HD.out.2.2 _, HX5.out⟩
      · go_wp2
        go_ret
        exact ⟨_, _, _, rfl, by omega, by have := HL6.out; rw [List.length_set]; omega, HD.out.1 _, HD.out.2.2 _, HX6.out⟩
      · go_wp2
        go_ret
        exact ⟨_, _, _, rfl, by omega, HL6.out, HR.out, HD.out.2.1, HRO.out⟩

/-- A train drawn out of a code. -/
def DrewTrain (w : World) (e : Ending) (w' : World) : Prop := ∃ (v : Value) (xs : List Int), e = .returned v ∧ xs.length ≤ 6 ∧ Below w.heap.size w w' ∧ ReadsL encI w' v xs
theorem drawTrainRatio (v : Value) (w : World) (h : CodeAt w v) : Calls Tryd.prog 9 #[v] w (DrewTrain w) := by
  have O := Lib.hid (open_any v w h)
  clear h
  go_enter Tryd.func9, Tryd.ntmps9
  go_wp2_with fail
  refine O.out.mono ?_; rintro e w1 ⟨rfl, hr, hb⟩
  have T1 := Lib.hid (train_drawn _ _ w1 hr (by omega))
  clear hr O
  go_wp2_with fail
  refine T1.out.mono ?_; rintro e w2 ⟨x, xs, q, rfl, -, hl, -, hb2, hx⟩
  clear T1
  go_wp2
  go_ret
  exact ⟨_, _, rfl, hl, hb.trans (hb2.mono (by omega)), hx⟩
theorem drawTrainTurns (v : Value) (w : World) (h : CodeAt w v) : Calls Tryd.prog 12 #[v] w (DrewTrain w) := by
  have O := Lib.hid (open_any v w h)
  clear h
  go_enter Tryd.func12, Tryd.ntmps12
  go_wp2_with fail
  refine O.out.mono ?_; rintro e w1 ⟨rfl, hr, hb⟩
  have T1 := Lib.hid (train_drawn _ _ w1 hr (by omega))
  clear hr O
  go_wp2_with fail
  refine T1.out.mono ?_; rintro e w2 ⟨x, xs, q, rfl, -, hl, -, hb2, hx⟩
  clear T1
  go_wp2
  go_ret
  exact ⟨_, _, rfl, hl, hb.trans (hb2.mono (by omega)), hx⟩
set_option maxHeartbeats 2000000 in
theorem drawTrainFind (v : Value) (w : World) (h : CodeAt w v) : Calls Tryd.prog 15 #[v] w fun e w' =>
    ∃ (a b : Int), e = .returned (.tuple #[.int .i64 a, .int .i64 b]) ∧ (-40 ≤ a ∧ a ≤ 40) ∧ (1 ≤ b ∧ b ≤ 1000) ∧ Below w.heap.size w w' := by
  have O := Lib.hid (open_any v w h)
  clear h
  go_enter Tryd.func15, Tryd.ntmps15
  go_wp2_with fail
  refine O.out.mono ?_; rintro e w1 ⟨rfl, hr, hb⟩
  have z1 := hr.lt
  have P1 := Lib.hid (pick_any _ _ 40 w1 hr (by omega) (by omega))
  clear hr O
  go_wp2_with fail
  refine P1.out.mono ?_; rintro e w2 ⟨k1, rfl, k10, k11, hr2, hg2⟩
  have P2 := Lib.hid (pick_any _ _ 20 w2 hr2 (by omega) (by omega))
  clear P1 hr2
  go_wp2_with fail
  refine P2.out.mono ?_; rintro e w3 ⟨k2, rfl, k20, k21, hr3, hg3⟩
  replace hg3 := only_trans' hg2 hg3
  have D2 := div19 k20 (by omega)
  obtain ⟨q2, hq2⟩ : ∃ q2, k2.tdiv 19 = q2 := ⟨_, rfl⟩
  rw [hq2] at D2
  have q2w : IntKind.i64.wrap q2 = q2 := by rw [IntKind.wrap_i64]; omega
  have P3 := Lib.hid (pick_any _ _ 40 w3 hr3 (by omega) (by omega))
  clear P2 hr3 hg2
  go_wp2_with fail
  refine P3.out.mono ?_; rintro e w4 ⟨k3, rfl, k30, k31, hr4, hg4⟩
  replace hg4 := only_trans' hg3 hg4
  have P4 := Lib.hid (pick_any _ _ 20 w4 hr4 (by omega) (by omega))
  clear P3 hr4 hg3
  go_wp2_with fail
  refine P4.out.mono ?_; rintro e w5 ⟨k4, rfl, k40, k41, hr5, hg5⟩
  replace hg5 := only_trans' hg4 hg5
  have D4 := div19 k40 (by omega)
  obtain ⟨q4, hq4⟩ : ∃ q4, k4.tdiv 19 = q4 := ⟨_, rfl⟩
  rw [hq4] at D4
  have q4w : IntKind.i64.wrap q4 = q4 := by rw [IntKind.wrap_i64]; omega
  clear P4 hr5 hg4
  go_wp2
  go_ret2
  exact ⟨_, _, rfl, by omega, by omega, below_only hb hg5 (by omega) (Nat.le_refl _)⟩
end Go.Proofs.YtbdhbkedeglagaaDoor
