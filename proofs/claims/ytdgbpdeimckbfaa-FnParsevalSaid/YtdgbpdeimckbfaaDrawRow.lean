/-
  The draws of rows.
-/
import Derived.Test.YtdgbpdeimckbfaaM22
import Derived.Test.YtdgbpdeimckbfaaDrawWheel
import Derived.Test.YtdgbpdeimckbfaaM32
namespace Go.Proofs.Ytdgbpdeimckbfaa
set_option maxRecDepth 20000
open Go.ChangeShapes Go.WideShapes Go.ChangeAt Go.RowKit
set_option linter.unusedVariables false
set_option linter.unusedSimpArgs false

theorem rows_keptR {w w' : World} {B T R n K : Nat} {v : Value} {cs : List Value} (h : w.ownsRow B T K v n cs) (hg : w.grownBy w' (some R)) (hR : R < B) : w'.ownsRow B T K v n cs := by
  refine h.kept hg ?_
  cases e : v.ownBlock with
  | none => exact .inl rfl
  | some k =>
    have := (h.lt k e).1
    exact .inr (by simp; omega)
section
variable {P : Program} {t e : TypeId} {ops : Array Oper} {rest : List Oper} {o : Oper} {a : Act} {Q : Exit → Act → World → Prop} {w0 w : World} {R q : Nat}
/-- Appending a point while a reader is open. -/
theorem append_drawnL (ty : TyL P t e 8) (hgd : o.guard = none) {s x : Operand} (hop : o.op = .call { callee := .builtin .append, args := #[s, x], argTypes := #[t, t] })
    {v x' : Value} {xs ys : List V} (hs : a.eval s = v) (hx : a.eval x = x') (hown : OwnL encV 8 w w0.heap.size e v xs) (hr : ReadsL encV w x' ys) (hlen : xs.length + ys.length ≤ 1000000000) (hg : w0.grownBy w (some R)) (hR : Rd w R q) (hlt : R < w0.heap.size)
    (h : ∀ v' w', OwnL encV 8 w' w0.heap.size e v' (xs ++ ys) → Rd w' R q → w0.grownBy w' (some R) → wpList P ops Q rest (a.put o.dst v') w') : wpList P ops Q (o :: rest) a w := by
  refine wpList_plain hgd fun _ hK => wp_appendL (w0 := w) ty encV_ok hop hs hx hown hr hlen (Below.refl _ _) hg.size fun v' w' h1 _ _ h4 => hK _ _ (h v' w' h1 ?_ ?_)
  · exact hR.keep h4 fun k hk => by have := (hown.lt k hk).1; omega
  · exact only_own (B := 0) hg h4 fun k hk => (hown.lt k hk).1
theorem build_zero8 {T : TypeId} (hgd : o.guard = none) (ho : o.op = .build T #[]) (hbu : P.built T [] = some (vec 8 nul))
    (h : wpList P ops Q rest (a.put o.dst (.agg (vec 8 V.zero.up))) w) : wpList P ops Q (o :: rest) a w := by
  have e : (#[].map fun (p : Nat × Operand) => (p.1, a.eval p.2)).toList = [] := by simp
  rw [zero_up] at h
  refine wpList_build hgd T _ ho ?_ ?_
  · show (P.built T (#[].map fun (p : Nat × Operand) => (p.1, a.eval p.2)).toList).isSome = true
    rw [e, hbu]; rfl
  · show wpList P ops Q rest (a.put o.dst (.agg ((P.built T (#[].map fun (p : Nat × Operand) => (p.1, a.eval p.2)).toList).getD #[]))) w
    rw [e, hbu]; exact h
end
theorem built_point : Try.prog.built 36 [] = some (vec 8 nul) := by kernel_rfl

/-- A point drawn off a reader. -/
def DrewV (w : World) (R p c : Nat) (e : Ending) (w' : World) : Prop :=
  ∃ (a : V) (q : Nat), e = .returned (pt a.up) ∧ q ≤ p + c ∧ Rd w' R q ∧ w.grownBy w' (some R)
theorem cycV_drawn (R p : Nat) (w : World) (h : Rd w R p) (hp : p ≤ 900000) : Calls Try.prog 117 #[.pointer (some ⟨R, 0, none⟩)] w (DrewV w R p 20) :=
  (cyc_drawn R p w h hp).mono fun e x h => by
    obtain ⟨f, q, rfl, hq⟩ := h
    exact ⟨dn f, q, by unfold pt; rw [vec_same (up_dn f)], hq⟩

/-! Lengths. -/
abbrev lenCells : Array Value := #[.int .i64 1, .int .i64 2, .int .i64 3, .int .i64 4, .int .i64 6, .int .i64 8, .int .i64 2, .int .i64 3, .int .i64 4, .int .i64 12]
theorem len_at (k : Nat) (hk : k < 10) : ∃ d : Nat, lenCells[k]? = some (.int .i64 d) ∧ d ≤ 12 := by
  have key : ∀ j : Fin 10, ∃ d : Fin 13, lenCells[j.val]? = some (.int .i64 ((d.val : Nat) : Int)) := by
    intro j
    match j with
    | 0 => exact ⟨1, rfl⟩
    | 1 => exact ⟨2, rfl⟩
    | 2 => exact ⟨3, rfl⟩
    | 3 => exact ⟨4, rfl⟩
    | 4 => exact ⟨6, rfl⟩
    | 5 => exact ⟨8, rfl⟩
    | 6 => exact ⟨2, rfl⟩
    | 7 => exact ⟨3, rfl⟩
    | 8 => exact ⟨4, rfl⟩
    | 9 => exact ⟨12, rfl⟩
  obtain ⟨d, hd⟩ := key ⟨k, hk⟩
  exact ⟨d.val, hd, by omega⟩
/-- A length drawn off a reader. -/
def DrewLen (w : World) (R p : Nat) (e : Ending) (w' : World) : Prop :=
  ∃ (m : Nat), e = .returned (.int .i64 m) ∧ m ≤ 12 ∧ Rd w' R (p + 1) ∧ w.grownBy w' (some R)
theorem len_drawn (R p : Nat) (w : World) (h : Rd w R p) (hp : p ≤ 900000) : Calls Try.prog 69 #[.pointer (some ⟨R, 0, none⟩)] w (DrewLen w R p) := by
  have hlt := h.lt
  have P1 := Lib.hid (pick_any R p 10 _ (h.alloc (.cells lenCells 3)) (by omega) (by omega))
  clear h
  go_enter Try.func69, Try.ntmps69
  go_wp2_with fail
  refine P1.out.mono ?_; rintro e w1 ⟨k, rfl, k0, k1, hr1, hg1⟩
  obtain ⟨j, rfl⟩ : ∃ j : Nat, k = j := ⟨k.toNat, by omega⟩
  obtain ⟨d, hd, hd12⟩ := len_at j (by omega)
  have hcell : w1.cell? ⟨w.heap.size, j, none⟩ = some (.int .i64 d) := hg1.cell (a := ⟨w.heap.size, j, none⟩) ((World.cell?_alloc_at _ _ _ _ rfl).trans hd) (by simp; omega)
  have HG := Lib.hid (only_trans' (World.grownBy_alloc w (.cells lenCells 3) (some R)) hg1)
  have HR := Lib.hid hr1
  clear P1 hr1 hg1 hd
  go_wp2_with fail
  go_ret
  exact ⟨d, rfl, hd12, HR.out, HG.out⟩

/-! Rows. -/
/-- A row drawn off a reader. -/
def DrewR (w : World) (R p c : Nat) (e : Ending) (w' : World) : Prop :=
  ∃ (v : Value) (xs : List V) (q : Nat), e = .returned v ∧ q ≤ p + c ∧ xs.length ≤ 13 ∧ Rd w' R q ∧ w.grownBy w' (some R) ∧ OwnL encV 8 w' w.heap.size 36 v xs

set_option maxHeartbeats 2000000 in
theorem row_drawn (R p m : Nat) (hm : m ≤ 12) (w : World) (h : Rd w R p) (hp : p ≤ 800000) :
    Calls Try.prog 68 #[.pointer (some ⟨R, 0, none⟩), .int .i64 m] w (DrewR w R p 300) := by
  have hlt := h.lt
  have HR := Lib.hid (h.alloc (.cells #[] 36))
  have HG := Lib.hid (World.grownBy_alloc w (.cells #[] 36) (some R))
  have HO := Lib.hid (ownL_nilB w w.heap.size 36 (Nat.le_refl _))
  clear h
  go_enter Try.func68, Try.ntmps68
  go_wp2
  go_loopw [5, 6] (fun s3 i wr => ∃ (k : Nat) (xs : List V) (q : Nat), k ≤ m ∧ i = .int .i64 k ∧ xs.length = k ∧ q ≤ p + 20 * k ∧ Rd wr R q ∧ w.grownBy wr (some R) ∧ OwnL encV 8 wr w.heap.size 36 s3 xs) (fun _ i _ => m - (intOf i).toNat)
  case atStart => exact ⟨0, [], p, Nat.zero_le _, rfl, rfl, by omega, HR.out, HG.out, HO.out⟩
  case round =>
    clear HR HG HO
    obtain ⟨k, xs, q, hk, rfl, hlen, hq, hr, hg, ho⟩ := hrel
    by_cases hkm : k < m
    · have hkz : (k : Int) < (m : Int) := by omega
      have C := Lib.hid (cycV_drawn R q wr hr (by omega))
      have HG := Lib.hid hg
      have HO := Lib.hid ho
      clear hr hg ho
      go_wp2_with fail
      refine C.out.mono ?_; rintro e w3 ⟨a, q3, rfl, hq3, hr3, hg4⟩
      have HG4 := Lib.hid (only_trans' HG.out hg4)
      have HO4 := Lib.hid (rows_keptR HO.out hg4 hlt)
      have HR4 := Lib.hid hr3
      clear C HG HO hg4 hr3
      go_wp2_with (first | (refine one8 tyY rfl rfl rfl ?_) |
        (refine append_drawnL tyY rfl rfl (xs := xs) (ys := [a]) rfl rfl (World.ownsRow.alloc HO4.out _) (lit8 _ _ _) (by simp; omega) (only_alloc HG4.out _) (HR4.out.alloc _) hlt ?_; intro v5 w5 ho5 hr5 hg5))
      have HO5 := Lib.hid ho5
      have HR5 := Lib.hid hr5
      have HG5 := Lib.hid hg5
      clear ho5 hr5 hg5 HG4 HO4 HR4
      go_wp2
      go_roundw
      case rel => exact ⟨k + 1, xs ++ [a], q3, by omega, by go_num, by simp; omega, by omega, HR5.out, HG5.out, HO5.out⟩
      case measure => simp [intOf]; omega
    · have hkz : ¬ (k : Int) < (m : Int) := by omega
      have P2 := Lib.hid (pick_any R q 30 wr hr (by omega) (by omega))
      go_wp2_with fail
      refine P2.out.mono ?_; rintro e w2 ⟨s, rfl, s0, s1, hr2, hg2⟩
      have HG := Lib.hid (only_trans' hg hg2)
      have HO := Lib.hid (rows_keptR ho hg2 hlt)
      have HR := Lib.hid hr2
      clear P2 hr hg2 hg ho hr2
      by_cases e0 : s = 0
      · subst e0
        go_wp2_with (first | (refine build_zero8 rfl rfl built_point ?_) | (refine one8 tyY rfl rfl rfl ?_) |
          (refine append_drawnL tyY rfl rfl (xs := xs) (ys := [V.zero]) rfl rfl (World.ownsRow.alloc HO.out _) (lit8 _ _ _) (by simp; omega) (only_alloc HG.out _) (HR.out.alloc _) hlt ?_; intro v5 w5 ho5 hr5 hg5))
        go_ret
        exact ⟨v5, _, _, rfl, by omega, by simp; omega, hr5, hg5, ho5⟩
      · have e0' : (s == 0) = false := by simpa using e0
        go_wp2
        go_ret
        exact ⟨_, xs, _, rfl, by omega, by omega, HR.out, HG.out, HO.out⟩

/-- A row, a row and a number, two rows out of a code. -/
def DrewRow (w : World) (e : Ending) (w' : World) : Prop := ∃ (v : Value) (xs : List V), e = .returned v ∧ ReadsL encV w' v xs ∧ Below w.heap.size w w'
def DrewRowInt (w : World) (e : Ending) (w' : World) : Prop := ∃ (v : Value) (xs : List V) (n : Int), e = .returned (.tuple #[v, .int .i64 n]) ∧ -1 ≤ n ∧ n ≤ 24 ∧ ReadsL encV w' v xs ∧ Below w.heap.size w w'
def DrewRows (w : World) (e : Ending) (w' : World) : Prop := ∃ (v v2 : Value) (xs ys : List V), e = .returned (.tuple #[v, v2]) ∧ ReadsL encV w' v xs ∧ ReadsL encV w' v2 ys ∧ Below w.heap.size w w'

theorem drawRowValid (v : Value) (w : World) (h : CodeAt w v) : Calls Try.prog 22 #[v] w (DrewRow w) := by
  have O := Lib.hid (open_any v w h)
  clear h
  go_enter Try.func22, Try.ntmps22
  go_wp2_with fail
  refine O.out.mono ?_; rintro e w1 ⟨rfl, hr, hb⟩
  have L := Lib.hid (len_drawn _ _ w1 hr (by omega))
  have z1 := hr.lt
  have HB := Lib.hid hb
  clear hr O hb
  go_wp2_with fail
  refine L.out.mono ?_; rintro e w2 ⟨m, rfl, hm, hr2, hg2⟩
  have D := Lib.hid (row_drawn _ _ m hm w2 hr2 (by omega))
  have HB2 := Lib.hid (below_only HB.out hg2 HB.out.size (Nat.le_refl _))
  clear L hr2 hg2 HB
  go_wp2_with fail
  refine D.out.mono ?_; rintro e w3 ⟨v2, xs, q, rfl, hq, hl, hr3, hg3, ho3⟩
  have HB3 := Lib.hid (below_only HB2.out hg3 HB2.out.size (Nat.le_refl _))
  have HO := Lib.hid (ownL_reads ho3)
  clear D HB2 hr3 hg3 ho3
  go_wp2
  go_ret
  exact ⟨v2, xs, rfl, HO.out, HB3.out⟩

set_option maxHeartbeats 1000000 in
theorem drawRowShift (v : Value) (w : World) (h : CodeAt w v) : Calls Try.prog 40 #[v] w (DrewRowInt w) := by
  have O := Lib.hid (open_any v w h)
  clear h
  go_enter Try.func40, Try.ntmps40
  go_wp2_with fail
  refine O.out.mono ?_; rintro e w1 ⟨rfl, hr, hb⟩
  have L := Lib.hid (len_drawn _ _ w1 hr (by omega))
  have z1 := hr.lt
  have HB := Lib.hid hb
  clear hr O hb
  go_wp2_with fail
  refine L.out.mono ?_; rintro e w2 ⟨m, rfl, hm, hr2, hg2⟩
  have z2 := hr2.lt
  have D := Lib.hid (row_drawn _ _ m hm w2 hr2 (by omega))
  have HB2 := Lib.hid (below_only HB.out hg2 HB.out.size (Nat.le_refl _))
  clear L hr2 hg2 HB
  go_wp2_with fail
  refine D.out.mono ?_; rintro e w3 ⟨v2, xs, q, rfl, hq, hl, hr3, hg3, ho3⟩
  have P1 := Lib.hid (pick_any _ _ 25 w3 hr3 (by omega) (by omega))
  have HB3 := Lib.hid (below_only HB2.out hg3 HB2.out.size (Nat.le_refl _))
  have HO := Lib.hid ho3
  clear D HB2 hr3 hg3 ho3
  go_wp2_with fail
  refine P1.out.mono ?_; rintro e w4 ⟨a, rfl, a0, a1, hr4, hg4⟩
  have P2 := Lib.hid (pick_any _ _ 20 w4 hr4 (by omega) (by omega))
  have HB4 := Lib.hid (below_only HB3.out hg4 HB3.out.size (Nat.le_refl _))
  have HO4 := Lib.hid (rows_keptR HO.out hg4 z2)
  clear P1 hr4 hg4 HB3 HO
  go_wp2_with fail
  refine P2.out.mono ?_; rintro e w5 ⟨b, rfl, b0, b1, hr5, hg5⟩
  have HB5 := Lib.hid (below_only HB4.out hg5 HB4.out.size (Nat.le_refl _))
  have HO5 := Lib.hid (ownL_reads (show OwnL encV 8 w5 _ _ v2 xs from rows_keptR HO4.out hg5 z2))
  clear P2 hr5 hg5 HB4 HO4
  obtain ⟨d, hd, d0, d1⟩ : ∃ d : Int, b.tdiv 19 = d ∧ 0 ≤ d ∧ d ≤ 1 := ⟨_, rfl, by rw [Int.tdiv_eq_ediv_of_nonneg b0]; omega, by rw [Int.tdiv_eq_ediv_of_nonneg b0]; omega⟩
  have e1 : IntKind.i64.wrap d = d := by rw [IntKind.wrap_i64]; omega
  have e2 : IntKind.i64.wrap (a - d) = a - d := by rw [IntKind.wrap_i64]; omega
  go_wp2
  go_ret2
  exact ⟨v2, xs, a - d, rfl, by omega, by omega, HO5.out, HB5.out⟩

set_option maxHeartbeats 1000000 in
theorem rows_drawn (v : Value) (w : World) (h : CodeAt w v) : Calls Try.prog 99 #[v] w (DrewRows w) := by
  have O := Lib.hid (open_any v w h)
  clear h
  go_enter Try.func99, Try.ntmps99
  go_wp2_with fail
  refine O.out.mono ?_; rintro e w1 ⟨rfl, hr, hb⟩
  have L := Lib.hid (len_drawn _ _ w1 hr (by omega))
  have z1 := hr.lt
  have HB := Lib.hid hb
  clear hr O hb
  go_wp2_with fail
  refine L.out.mono ?_; rintro e w2 ⟨m, rfl, hm, hr2, hg2⟩
  have z2 := hr2.lt
  have D := Lib.hid (row_drawn _ _ m hm w2 hr2 (by omega))
  have HB2 := Lib.hid (below_only HB.out hg2 HB.out.size (Nat.le_refl _))
  clear L hr2 hg2 HB
  go_wp2_with fail
  refine D.out.mono ?_; rintro e w3 ⟨v2, xs, q, rfl, hq, hl, hr3, hg3, ho3⟩
  have P1 := Lib.hid (pick_any _ _ 12 w3 hr3 (by omega) (by omega))
  have HB3 := Lib.hid (below_only HB2.out hg3 HB2.out.size (Nat.le_refl _))
  have HO := Lib.hid ho3
  clear D HB2 hr3 hg3 ho3
  go_wp2_with fail
  refine P1.out.mono ?_; rintro e w4 ⟨a, rfl, a0, a1, hr4, hg4⟩
  have HB4 := Lib.hid (below_only HB3.out hg4 HB3.out.size (Nat.le_refl _))
  have HO4 := Lib.hid (rows_keptR HO.out hg4 z2)
  clear P1 hg4 HB3 HO
  by_cases e0 : a = 0
  · subst e0
    have L2 := Lib.hid (len_drawn _ _ w4 hr4 (by omega))
    clear hr4
    go_wp2_with fail
    refine L2.out.mono ?_; rintro e w5 ⟨m2, rfl, hm2, hr5, hg5⟩
    have D2 := Lib.hid (row_drawn _ _ m2 hm2 w5 hr5 (by omega))
    have HB5 := Lib.hid (below_only HB4.out hg5 HB4.out.size (Nat.le_refl _))
    have HO5 := Lib.hid (rows_keptR HO4.out hg5 z2)
    clear L2 hr5 hg5 HB4 HO4
    go_wp2_with fail
    refine D2.out.mono ?_; rintro e w6 ⟨v3, ys, q3, rfl, hq3, hl3, hr6, hg6, ho6⟩
    have HB6 := Lib.hid (below_only HB5.out hg6 HB5.out.size (Nat.le_refl _))
    have HO6 := Lib.hid (ownL_reads (show OwnL encV 8 w6 _ _ v2 xs from rows_keptR HO5.out hg6 z2))
    have HP6 := Lib.hid (ownL_reads ho6)
    clear D2 hr6 hg6 ho6 HB5 HO5
    go_wp2
    go_ret2
    exact ⟨v2, v3, xs, ys, rfl, HO6.out, HP6.out, HB6.out⟩
  · have e0' : (a == 0) = false := by simpa using e0
    have D2 := Lib.hid (row_drawn _ _ m hm w4 hr4 (by omega))
    clear hr4
    go_wp2_with fail
    refine D2.out.mono ?_; rintro e w6 ⟨v3, ys, q3, rfl, hq3, hl3, hr6, hg6, ho6⟩
    have HB6 := Lib.hid (below_only HB4.out hg6 HB4.out.size (Nat.le_refl _))
    have HO6 := Lib.hid (ownL_reads (show OwnL encV 8 w6 _ _ v2 xs from rows_keptR HO4.out hg6 z2))
    have HP6 := Lib.hid (ownL_reads ho6)
    clear D2 hr6 hg6 ho6 HB4 HO4
    go_wp2
    go_ret2
    exact ⟨v2, v3, xs, ys, rfl, HO6.out, HP6.out, HB6.out⟩
theorem drawTransformOf (v : Value) (w : World) (h : CodeAt w v) : Calls Try.prog 32 #[v] w (DrewRow w) := by
  have O := Lib.hid (drawRowValid v w h)
  clear h
  go_enter Try.func32, Try.ntmps32
  go_wp2_with fail
  refine O.out.mono ?_; rintro e w1 ⟨v2, xs, rfl, hr, hb⟩
  have HB := Lib.hid hb
  have HR := Lib.hid hr
  clear O hb hr
  go_wp2
  go_ret
  exact ⟨v2, xs, rfl, HR.out, HB.out⟩
theorem drawTransformBack (v : Value) (w : World) (h : CodeAt w v) : Calls Try.prog 38 #[v] w (DrewRow w) := by
  have O := Lib.hid (drawRowValid v w h)
  clear h
  go_enter Try.func38, Try.ntmps38
  go_wp2_with fail
  refine O.out.mono ?_; rintro e w1 ⟨v2, xs, rfl, hr, hb⟩
  have HB := Lib.hid hb
  have HR := Lib.hid hr
  clear O hb hr
  go_wp2
  go_ret
  exact ⟨v2, xs, rfl, HR.out, HB.out⟩
theorem drawRowSquares (v : Value) (w : World) (h : CodeAt w v) : Calls Try.prog 49 #[v] w (DrewRow w) := by
  have O := Lib.hid (drawRowValid v w h)
  clear h
  go_enter Try.func49, Try.ntmps49
  go_wp2_with fail
  refine O.out.mono ?_; rintro e w1 ⟨v2, xs, rfl, hr, hb⟩
  have HB := Lib.hid hb
  have HR := Lib.hid hr
  clear O hb hr
  go_wp2
  go_ret
  exact ⟨v2, xs, rfl, HR.out, HB.out⟩
theorem drawRowDesign (v : Value) (w : World) (h : CodeAt w v) : Calls Try.prog 52 #[v] w (DrewRow w) := by
  have O := Lib.hid (drawRowValid v w h)
  clear h
  go_enter Try.func52, Try.ntmps52
  go_wp2_with fail
  refine O.out.mono ?_; rintro e w1 ⟨v2, xs, rfl, hr, hb⟩
  have HB := Lib.hid hb
  have HR := Lib.hid hr
  clear O hb hr
  go_wp2
  go_ret
  exact ⟨v2, xs, rfl, HR.out, HB.out⟩
theorem drawRowTimes (v : Value) (w : World) (h : CodeAt w v) : Calls Try.prog 43 #[v] w (DrewRows w) := by
  have O := Lib.hid (rows_drawn v w h)
  clear h
  go_enter Try.func43, Try.ntmps43
  go_wp2_with fail
  refine O.out.mono ?_; rintro e w1 ⟨v2, v3, xs, ys, rfl, hr, hr2, hb⟩
  have HB := Lib.hid hb
  have HR := Lib.hid hr
  have HR2 := Lib.hid hr2
  clear O hb hr hr2
  go_wp2
  go_ret2
  exact ⟨v2, v3, xs, ys, rfl, HR.out, HR2.out, HB.out⟩
theorem drawRowCircular (v : Value) (w : World) (h : CodeAt w v) : Calls Try.prog 46 #[v] w (DrewRows w) := by
  have O := Lib.hid (rows_drawn v w h)
  clear h
  go_enter Try.func46, Try.ntmps46
  go_wp2_with fail
  refine O.out.mono ?_; rintro e w1 ⟨v2, v3, xs, ys, rfl, hr, hr2, hb⟩
  have HB := Lib.hid hb
  have HR := Lib.hid hr
  have HR2 := Lib.hid hr2
  clear O hb hr hr2
  go_wp2
  go_ret2
  exact ⟨v2, v3, xs, ys, rfl, HR.out, HR2.out, HB.out⟩

/-! A design and how many points. -/
abbrev ofCells : Array Value := #[.int .i64 1, .int .i64 2, .int .i64 3, .int .i64 4, .int .i64 6, .int .i64 8, .int .i64 12, .int .i64 24, .int .i64 5, .int .i64 0]
theorem of_at (k : Nat) (hk : k < 10) : ∃ d : Int, ofCells[k]? = some (.int .i64 d) ∧ 0 ≤ d ∧ d ≤ 24 := by
  have key : ∀ j : Fin 10, ∃ d : Fin 25, ofCells[j.val]? = some (.int .i64 ((d.val : Nat) : Int)) := by
    intro j
    match j with
    | 0 => exact ⟨1, rfl⟩
    | 1 => exact ⟨2, rfl⟩
    | 2 => exact ⟨3, rfl⟩
    | 3 => exact ⟨4, rfl⟩
    | 4 => exact ⟨6, rfl⟩
    | 5 => exact ⟨8, rfl⟩
    | 6 => exact ⟨12, rfl⟩
    | 7 => exact ⟨24, rfl⟩
    | 8 => exact ⟨5, rfl⟩
    | 9 => exact ⟨0, rfl⟩
  obtain ⟨d, hd⟩ := key ⟨k, hk⟩
  exact ⟨_, hd, by omega, by omega⟩
def PickOf (W : World) (R p : Nat) (cell : World → Nat → Option Value) (e : Ending) (w' : World) : Prop :=
  ∃ (k : Nat) (d : Int), e = .returned (.int .i64 k) ∧ (k : Int) < 10 ∧ 0 ≤ d ∧ d ≤ 24 ∧ cell w' k = some (.int .i64 d) ∧ Hid (Rd w' R p) ∧ Hid (W.grownBy w' (some R))
theorem ofA (W : World) (R p : Nat) (h : Rd W R p) (hp : p ≤ 900000) : Calls Try.prog 76 #[.pointer (some ⟨R, 0, none⟩), .int .i64 10] (W.alloc (.cells ofCells 3)).drew
    (PickOf W R (p + 1) fun w' k => w'.cell? ⟨W.heap.size, k, none⟩) := by
  have hlt := h.lt
  have hd : Rd (W.alloc (.cells ofCells 3)).drew R p := (h.alloc _).keep (row := none) ⟨rfl, rfl, rfl, Nat.le_refl _, fun _ _ _ => rfl⟩ (fun g e => by cases e)
  refine (pick_any R p 10 _ hd (by omega) (by omega)).mono ?_
  rintro e w' ⟨k, rfl, k0, k1, hr, hg⟩
  obtain ⟨j, rfl⟩ : ∃ j : Nat, k = j := ⟨k.toNat, by omega⟩
  obtain ⟨d, hd, d0, d1⟩ := of_at j (by omega)
  refine ⟨j, d, rfl, by omega, d0, d1, ?_, Lib.hid hr, Lib.hid ?_⟩
  · exact hg.cell (a := ⟨W.heap.size, j, none⟩) ((World.cell?_alloc_at _ _ _ _ rfl).trans hd) (by simp; omega)
  · exact only_trans' (b := (W.alloc (.cells ofCells 3)).drew) ⟨rfl, rfl, rfl, by simp [World.drew], fun i hi _ => Below.heap_alloc W _ i hi⟩ hg
theorem ofB (W : World) (R p : Nat) (h : Rd W R p) (hp : p ≤ 900000) : Calls Try.prog 76 #[.pointer (some ⟨R, 0, none⟩), .int .i64 10] W.drew
    (PickOf W R (p + 1) fun w' k => (w'.alloc (.cells ofCells 3)).cell? ⟨w'.heap.size, k, none⟩) := by
  have hd : Rd W.drew R p := h.keep (row := none) ⟨rfl, rfl, rfl, Nat.le_refl _, fun _ _ _ => rfl⟩ (fun g e => by cases e)
  refine (pick_any R p 10 _ hd (by omega) (by omega)).mono ?_
  rintro e w' ⟨k, rfl, k0, k1, hr, hg⟩
  obtain ⟨j, rfl⟩ : ∃ j : Nat, k = j := ⟨k.toNat, by omega⟩
  obtain ⟨d, hd, d0, d1⟩ := of_at j (by omega)
  refine ⟨j, d, rfl, by omega, d0, d1, (World.cell?_alloc_at _ _ _ _ rfl).trans hd, Lib.hid hr, Lib.hid ?_⟩
  exact only_trans' (b := W.drew) ⟨rfl, rfl, rfl, Nat.le_refl _, fun _ _ _ => rfl⟩ hg
def DrewOf (w : World) (e : Ending) (w' : World) : Prop := ∃ (v : Value) (ws : List Wh) (n : Int), e = .returned (.tuple #[v, .int .i64 n]) ∧ 0 ≤ n ∧ n ≤ 24 ∧ Reads w' v ws ∧ Below w.heap.size w w'
set_option maxHeartbeats 1000000 in
theorem drawRowOf (v : Value) (w : World) (h : CodeAt w v) : Calls Try.prog 27 #[v] w (DrewOf w) := by
  have O := Lib.hid (open_any v w h)
  clear h
  go_enter Try.func27, Try.ntmps27
  go_wp2_with fail
  refine O.out.mono ?_; rintro e w1 ⟨rfl, hr, hb⟩
  have z1 := hr.lt
  have D := Lib.hid (design_drawn _ _ w1 hr (by omega))
  have HB := Lib.hid hb
  clear hr O hb
  go_wp2_with fail
  refine D.out.mono ?_; rintro e w2 ⟨v2, ws, q, rfl, hq, hl, hr2, hg2, ho2⟩
  have HB2 := Lib.hid (below_only HB.out hg2 HB.out.size (Nat.le_refl _))
  have HO2 := Lib.hid ho2
  have DA := Lib.hid (ofA w2 _ _ hr2 (by omega))
  have DB := Lib.hid (ofB w2 _ _ hr2 (by omega))
  clear D hr2 hg2 ho2 HB
  go_wp2_with fail
  go_region_with (first
    | (go_at_call 76; ((with_reducible refine DA.out.mono ?_); rintro e w3 ⟨k, d, rfl, k1, d0, d1, hc, hr3, hg3⟩))
    | (go_at_call 76; ((with_reducible refine DB.out.mono ?_); rintro e w3 ⟨k, d, rfl, k1, d0, d1, hc, hr3, hg3⟩)))
  all_goals
    have z3 := hg3.out.size
    have HB3 := Lib.hid (below_only HB2.out hg3.out HB2.out.size (Nat.le_refl _))
    have HO3 := Lib.hid (own_kept HO2.out hg3.out z1)
    clear hr3 hg3 HB2 HO2 DA DB
    go_wp2_with fail
    go_ret2
    first
      | exact ⟨_, ws, _, rfl, d0, d1, own_reads HO3.out, HB3.out⟩
      | exact ⟨_, ws, _, rfl, d0, d1, own_reads (World.ownsRow.alloc HO3.out _), HB3.out.alloc HB3.out.size _⟩
end Go.Proofs.Ytdgbpdeimckbfaa
