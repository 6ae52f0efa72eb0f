/-
  impl: pairs of gears, by slices.Chunk: the iterator.
-/
import Derived.Test.YtbdhbkedeglagaaDoorGearA
import Derived.Test.YtbdhbkedeglagaaDoorRangeL
import Derived.Sort.CutIn
import Derived.Deep.QuietTactic
import Derived.BigQuiet
namespace Go.Proofs.YtbdhbkedeglagaaDoor
set_option maxRecDepth 20000
open Go.ChangeShapes Go.WideShapes Go.ChangeAt Go.RowKit
set_option linter.unusedVariables false
set_option linter.unusedSimpArgs false
attribute [local go_sem] Oper.semAt_some

/-- Pair k of a list that lies. -/
def encK (g o : Nat) (k : Nat) : Array Value := #[.slice (some ⟨g, o + 2 * k, none⟩) 2 2]
def BoxS (b : Nat) (v : Value) (A : World) : Prop := A.cell? ⟨b, 0, none⟩ = some v ∧ A.cell? ⟨b + 1, 0, none⟩ = some (.int .i64 2)
theorem BoxS.keep {b : Nat} {v : Value} {A B : World} (h : BoxS b v A) (hk : ∀ q ∈ [b, b + 1], B.heap[q]? = A.heap[q]?) : BoxS b v B :=
  ⟨(World.cell?_of_block (hk b (by simp))).trans h.1, (World.cell?_of_block (hk (b + 1) (by simp))).trans h.2⟩
theorem min_two {n : Int} (h : 2 ≤ n) : ¬ n < 2 := by omega

theorem range_split {m k : Nat} (h : k < m) : ∃ rest, List.range m = List.range k ++ k :: rest := by
  induction m with
  | zero => omega
  | succ m ih =>
    rw [List.range_succ]
    by_cases e : k = m
    · subst e; exact ⟨[], rfl⟩
    · obtain ⟨rest, hr⟩ := ih (by omega)
      exact ⟨rest ++ [m], by rw [hr]; simp⟩
set_option maxHeartbeats 4000000 in
theorem chunk_gives (g o cap m b : Nat) (n : Nat) (hn : 1 ≤ n) (w : World) (hm : m ≤ 5) (hc : 2 * m ≤ cap) (hcm : cap ≤ maxLen) (hb : BoxS b (.slice (some ⟨g, o, none⟩) (2 * m) cap) w) (hbl : b + 1 < w.heap.size) :
    GivesL n Tryd.prog 38 #[.pointer (some ⟨b, 0, none⟩), .pointer (some ⟨b + 1, 0, none⟩)] (encK g o) (List.range m) [b, b + 1] w := fun l J Jx W hWw hJ hY h0 => by
  simp only [maxLen] at hcm
  have HB : Aside (BoxS b (.slice (some ⟨g, o, none⟩) (2 * m) cap) W) := Lib.hid (hb.keep fun q hq => hWw.block q (by simp at hq; omega))
  have HJ := Lib.hid hJ
  have HY := Lib.hid hY
  clear hJ hY hb hWw
  refine callsIn_of_wp Tryd.func38 rfl trivial ?_ rfl
  simp only [Tryd.ntmps38, List.size_toArray, List.length_cons, List.length_nil, Nat.reduceAdd, Nat.reduceSub, Array.replicate_succ, Array.replicate_zero, List.push_toArray, List.append_toArray, List.nil_append, List.cons_append]
  gi_wp2
  gi_loopw [4, 5] (fun i _ wr => ∃ k : Nat, k ≤ m ∧ i = .int .i64 ((2 * k : Nat) : Int) ∧ J (List.range k) wr ∧ BoxS b (.slice (some ⟨g, o, none⟩) (2 * m) cap) wr) (fun i _ _ => 2 * m - (intOf i).toNat)
  case atStart => exact ⟨0, Nat.zero_le _, rfl, h0, HB.out⟩
  case round =>
    obtain ⟨k, hk, rfl, hJk, hB⟩ := hrel
    have c1 := hB.1
    have c2 := hB.2
    by_cases hlt : k < m
    · obtain ⟨d, hd⟩ : ∃ d : Nat, m - k = d := ⟨_, rfl⟩
      have hkz : ((2 * k : Nat) : Int) < ((2 * m : Nat) : Int) := by omega
      have hk0 : (0 : Int) ≤ ((2 * k : Nat) : Int) := by omega
      refine (wpIn_wide (n := n)).2 ?_
      go_wp2_with fail
      go_quiet (fail)
      go_upto_region 4 with fail
      refine (wpIn_wide (n := n)).1 ?_
      have hJ1 : J (List.range k) (wr.drewN nq) := HJ.out _ _ _ hJk (below_drewN (Below.refl _ _) nq)
      have hB1 : BoxS b (.slice (some ⟨g, o, none⟩) (2 * m) cap) (wr.drewN nq) := hB
      obtain ⟨fn, tmps, assign, body, hy, hR⟩ := HY.out (List.range k) k _ (range_split hlt) hJ1
      dsimp only [encK] at hy
      clear c1 c2 hJk hB
      generalize wr.drewN nq = W2 at *
      have c1 := hB1.1
      have c2 := hB1.2
      have q1 : ((2 * k : Nat) : Int) + 2 ≤ ((2 * m : Nat) : Int) := by omega
      have q2 : ((2 * k : Nat) : Int) + 2 ≤ (cap : Int) := by omega
      have q3 : IntKind.i64.wrap (((2 * k : Nat) : Int) + 2) = ((2 * k : Nat) : Int) + 2 := by rw [IntKind.wrap_i64]; omega
      gi_wp2
      refine hR.mono ?_
      rintro e W3 (⟨rfl, hJ3, hk3⟩ | ⟨rfl, hx3⟩)
      · have hB3 := hB1.keep hk3
        have c1 := hB3.1
        have c2 := hB3.2
        have q4 : IntKind.i64.wrap (((2 * k : Nat) : Int) + 2) = ((2 * (k + 1) : Nat) : Int) := by rw [IntKind.wrap_i64]; omega
        gi_wp2
        go_wp2
        go_roundw
        case rel => exact ⟨k + 1, by omega, by first | go_num | (simp; omega), by rw [List.range_succ]; exact hJ3, hB3⟩
        case measure => simp [intOf]; omega
      · gi_wp2
        go_wp2
        refine bodyPost_ret (results_none rfl _ _ _) rfl ?_
        exact ⟨⟨_, rfl⟩, .inr ⟨List.range k, k, range_split hlt, hx3⟩⟩
    · obtain rfl : k = m := by omega
      gi_wp2
      go_end0
      exact ⟨⟨_, rfl⟩, .inl hJk⟩
end Go.Proofs.YtbdhbkedeglagaaDoor
