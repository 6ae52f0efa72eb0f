/-
  The draws of designs.
-/
import Derived.Test.YtdgbpdeimckbfaaM13
import Derived.Test.YtdgbpdeimckbfaaM32
namespace Go.Proofs.Ytdgbpdeimckbfaa
set_option maxRecDepth 20000
open Go.ChangeShapes Go.WideShapes Go.ChangeAt Go.RowKit
set_option linter.unusedVariables false
set_option linter.unusedSimpArgs false

theorem own_kept {w w' : World} {B T R : Nat} {v : Value} {ws : List Wh} (h : Own w B T v ws) (hg : w.grownBy w' (some R)) (hR : R < B) : Own w' B T v ws := by
  refine h.kept hg ?_
  cases e : v.ownBlock with
  | none => exact .inl rfl
  | some k =>
    have := (h.lt k e).1
    exact .inr (by simp; omega)
theorem only_own {a w w' : World} {R B : Nat} {v : Value} (h : a.grownBy w (some R)) (hg : w.grownBy w' v.ownBlock) (hv : ∀ k, v.ownBlock = some k → a.heap.size ≤ k) : a.grownBy w' (some R) :=
  ⟨hg.os.trans h.os, hg.tape.trans h.tape, hg.output.trans h.output, Nat.le_trans h.size hg.size, fun i hi hne =>
    (hg.block i (Nat.lt_of_lt_of_le hi h.size) (fun e => by have := hv i e.symm; omega)).trans (h.block i hi hne)⟩
section
variable {P : Program} {t e : TypeId} {ops : Array Oper} {rest : List Oper} {o : Oper} {a : Act} {Q : Exit → Act → World → Prop} {w0 w : World} {R q : Nat}
/-- Appending while a reader is open. -/
theorem append_drawn (ty : Ty9 P t e) (hgd : o.guard = none) {s x : Operand} (hop : o.op = .call { callee := .builtin .append, args := #[s, x], argTypes := #[t, t] })
    {v x' : Value} {xs ys : List Wh} (hs : a.eval s = v) (hx : a.eval x = x') (hown : Own w w0.heap.size e v xs) (hr : Reads w x' ys) (hlen : xs.length + ys.length ≤ 1000000000000) (hg : w0.grownBy w (some R)) (hR : Rd w R q) (hlt : R < w0.heap.size)
    (h : ∀ v' w', Own w' w0.heap.size e v' (xs ++ ys) → Rd w' R q → w0.grownBy w' (some R) → wpList P ops Q rest (a.put o.dst v') w') : wpList P ops Q (o :: rest) a w := by
  refine wpList_plain hgd fun _ hK => wp_append_list2 (w0 := w) ty hop hs hx hown hr hlen (Below.refl _ _) hg.size fun v' w' h1 _ _ h4 => hK _ _ (h v' w' h1 ?_ ?_)
  · exact hR.keep h4 fun k hk => by have := (hown.lt k hk).1; omega
  · exact only_own (B := 0) hg h4 fun k hk => (hown.lt k hk).1
theorem build_speed {T : TypeId} {x : Operand} {s : Int} (hgd : o.guard = none) (ho : o.op = .build T #[(0, x)]) (hx : a.eval x = .int .i64 s)
    (hbu : ∀ (s : Int), P.built T [(0, .int .i64 s)] = some (vec 9 (fun j => if j = 0 then s else 0)))
    (h : wpList P ops Q rest (a.put o.dst (wh ⟨s, V.zero⟩)) w) : wpList P ops Q (o :: rest) a w := by
  have e : (#[(0, x)].map fun (p : Nat × Operand) => (p.1, a.eval p.2)).toList = [(0, .int .i64 s)] := by simp [hx]
  have e2 : vec 9 (fun j => if j = 0 then s else 0) = vec 9 (wf ⟨s, V.zero⟩) := vec_same fun j hj => by
    by_cases h0 : j = 0
    · simp [wf, h0]
    · simp only [wf, h0, if_false]
      rw [zero_up]; rfl
  refine wpList_build hgd T _ ho ?_ ?_
  · show (P.built T (#[(0, x)].map fun (p : Nat × Operand) => (p.1, a.eval p.2)).toList).isSome = true
    rw [e, hbu]; rfl
  · show wpList P ops Q rest (a.put o.dst (.agg ((P.built T (#[(0, x)].map fun (p : Nat × Operand) => (p.1, a.eval p.2)).toList).getD #[]))) w
    rw [e, hbu, e2]; exact h
end
theorem built_speed (s : Int) : Try.prog.built 125 [(0, .int .i64 s)] = some (vec 9 (fun j => if j = 0 then s else 0)) := by kernel_rfl

/-- A design drawn off a reader. -/
def DrewW (w : World) (R p c : Nat) (e : Ending) (w' : World) : Prop :=
  ∃ (v : Value) (ws : List Wh) (q : Nat), e = .returned v ∧ q ≤ p + c ∧ ws.length ≤ 12 ∧ Rd w' R q ∧ w.grownBy w' (some R) ∧ Own w' w.heap.size 125 v ws

set_option maxHeartbeats 2000000 in
theorem design_drawn (R p : Nat) (w : World) (h : Rd w R p) (hp : p ≤ 800000) :
    Calls Try.prog 75 #[.pointer (some ⟨R, 0, none⟩)] w (DrewW w R p 100) := by
  have hlt := h.lt
  have hr0 := h.alloc (.cells #[] 125)
  have hg0 := World.grownBy_alloc w (.cells #[] 125) (some R)
  have ho0 := own_lit w w.heap.size 125 (Nat.le_refl _)
  have P1 := Lib.hid (pick_any R p 4 _ hr0 (by omega) (by omega))
  clear h
  go_enter Try.func75, Try.ntmps75
  go_wp2_with fail
  refine P1.out.mono ?_; rintro e w1 ⟨n, rfl, n0, n1, hr1, hg1⟩
  have hg := only_trans' hg0 hg1
  have ho := own_kept ho0 hg1 hlt
  obtain ⟨m, rfl⟩ : ∃ m : Nat, n = m := ⟨n.toNat, by omega⟩
  have HG := Lib.hid hg
  have HO := Lib.hid ho
  have HR := Lib.hid hr1
  clear P1 hr0 hg0 ho0 hr1 hg1 hg ho
  go_wp2
  go_loopw [3, 5] (fun s3 i wr => ∃ (k : Nat) (ws : List Wh) (q : Nat), k ≤ m ∧ i = .int .i64 k ∧ ws.length = k ∧ q ≤ p + 1 + 21 * k ∧ Rd wr R q ∧ w.grownBy wr (some R) ∧ Own wr w.heap.size 125 s3 ws) (fun _ i _ => m - (intOf i).toNat)
  case atStart => exact ⟨0, [], p + 1, Nat.zero_le _, rfl, rfl, by omega, HR.out, HG.out, HO.out⟩
  case round =>
    obtain ⟨k, ws, q, hk, rfl, hlen, hq, hr, hg, ho⟩ := hrel
    by_cases hkm : k < m
    · have hkz : (k : Int) < (m : Int) := by omega
      have P2 := Lib.hid (pick_any R q 13 wr hr (by omega) (by omega))
      go_wp2_with fail
      refine P2.out.mono ?_; rintro e w2 ⟨s, rfl, s0, s1, hr2, hg2⟩
      have hg3 := only_trans' hg hg2
      have ho3 := own_kept ho hg2 hlt
      have v1 : IntKind.i64.wrap (s - 6) = s - 6 := by rw [IntKind.wrap_i64]; omega
      have C := Lib.hid (cyc_drawn R (q + 1) w2 hr2 (by omega))
      clear P2 hr hg2 hg ho hr2
      go_wp2_with fail
      refine C.out.mono ?_; rintro e w3 ⟨f, q3, rfl, hq3, hr3, hg4⟩
      have HG4 := Lib.hid (only_trans' hg3 hg4)
      have HO4 := Lib.hid (own_kept ho3 hg4 hlt)
      have HR4 := Lib.hid hr3
      clear C hg3 ho3 hg4 hr3
      go_wp2_with (first | (refine build_wheel rfl rfl rfl rfl built_wheel ?_) | (refine one9 tyW rfl rfl rfl ?_) |
        (refine append_drawn tyW rfl rfl (xs := ws) (ys := [⟨s - 6, dn f⟩]) rfl rfl (HO4.out.alloc _) (reads_lit _ _ _) (by simp; omega) (only_alloc HG4.out _) (HR4.out.alloc _) hlt ?_; intro v5 w5 ho5 hr5 hg5))
      have HO5 := Lib.hid ho5
      have HR5 := Lib.hid hr5
      have HG5 := Lib.hid hg5
      clear ho5 hr5 hg5 HG4 HO4 HR4
      go_wp2
      go_roundw
      case rel => exact ⟨k + 1, ws ++ [⟨s - 6, dn f⟩], q3, by omega, by go_num, by simp; omega, by omega, HR5.out, HG5.out, HO5.out⟩
      case measure => simp [intOf]; omega
    · have hkz : ¬ (k : Int) < (m : Int) := by omega
      have P2 := Lib.hid (pick_any R q 30 wr hr (by omega) (by omega))
      go_wp2_with fail
      refine P2.out.mono ?_; rintro e w2 ⟨s, rfl, s0, s1, hr2, hg2⟩
      have HG := Lib.hid (only_trans' hg hg2)
      have HO := Lib.hid (own_kept ho hg2 hlt)
      have HR := Lib.hid hr2
      clear P2 hr hg2 hg ho hr2
      by_cases e0 : s = 0
      · subst e0
        go_wp2_with (first | (refine build_speed rfl rfl rfl built_speed ?_) | (refine one9 tyW rfl rfl rfl ?_) |
          (refine append_drawn tyW rfl rfl (xs := ws) (ys := [⟨1001, V.zero⟩]) rfl rfl (HO.out.alloc _) (reads_lit _ _ _) (by simp; omega) (only_alloc HG.out _) (HR.out.alloc _) hlt ?_; intro v5 w5 ho5 hr5 hg5))
        go_ret
        exact ⟨v5, _, _, rfl, by omega, by simp; omega, hr5, hg5, ho5⟩
      · have e0' : (s == 0) = false := by simpa using e0
        by_cases e1 : s = 1
        · subst e1
          go_upto_region 12 with (refine append_drawn tyW rfl rfl (xs := ws) (ys := ws) rfl rfl HO.out (own_reads HO.out) (by omega) HG.out HR.out hlt ?_; intro v5 w5 ho5 hr5 hg5)
          go_wp2_with (refine append_drawn tyW rfl rfl (xs := ws ++ ws) (ys := ws ++ ws) rfl rfl ho5 (own_reads ho5) (by simp; omega) hg5 hr5 hlt ?_; intro v6 w6 ho6 hr6 hg6)
          go_ret
          exact ⟨v6, _, _, rfl, by omega, by simp; omega, hr6, hg6, ho6⟩
        · have e1' : (s == 1) = false := by simpa using e1
          go_wp2
          go_ret
          exact ⟨_, ws, _, rfl, by omega, by omega, HR.out, HG.out, HO.out⟩

end Go.Proofs.Ytdgbpdeimckbfaa
