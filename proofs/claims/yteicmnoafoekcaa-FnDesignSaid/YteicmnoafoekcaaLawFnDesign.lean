/-
  The walk of the law FnDesign.
-/
import Derived.Test.YteicmnoafoekcaaLawWheelBase
namespace Go.Proofs.Yteicmnoafoekcaa
set_option maxRecDepth 20000
open Go.ChangeShapes Go.WideShapes Go.ChangeAt Go.RowKit
set_option linter.unusedVariables false
set_option linter.unusedSimpArgs false

set_option maxHeartbeats 4000000 in
theorem lawFnDesign_walk (v : Value) (w : World) (h : CodeAt w v) : Calls Try.prog 3 #[v] w (Fine w) := by
  have D := Lib.hid (drawDesignValid v w h)
  obtain ⟨pa, pn, pc, rfl, hpn⟩ := code_length h
  clear h
  by_cases hbig : 1048576 < pn
  · have hb : (1048576 : Int) < (pn : Int) := by omega
    go_enter Try.func3, Try.ntmps3
    go_wp2_with fail
    go_ret
    exact fine_same ⟨rfl, rfl⟩
  have hb : ¬ (1048576 : Int) < (pn : Int) := by omega
  go_enter Try.func3, Try.ntmps3
  go_wp2_with fail
  refine D.out.mono ?_; rintro e w1 ⟨v2, ws, rfl, hR, hL⟩
  clear D

  have C := DesignValid_any v2 ws w1 hR
  have S := fun w h => specDesignValid_any v2 ws w (hR.below h)
  cases hvd : valid ws
  · rw [hvd] at C S
    go_wp2_with fail
    refine C.mono ?_; rintro e w2 ⟨rfl, hb2⟩
    go_wp2_with fail
    refine (S _ hb2).mono ?_; rintro e w3 ⟨rfl, hb3⟩
    replace hL := below_next hL (below_next hb2 hb3)
    clear C S hb2 hb3
    go_wp2
    go_ret
    exact ⟨rfl, hL⟩
  · rw [hvd] at C S
    have hlen := valid_len hvd
    have hlz : (ws.length : Int) ≤ 12 := by omega
    by_cases h0 : ws.length = 0
    · obtain ⟨p, cap, rfl, hc1, hc2, hp0, hp⟩ := hR
      rw [h0] at C S ⊢
      clear hp hp0 hc1 hc2 hlz hlen h0 hvd hpn hbig
      go_wp2_with fail
      refine C.mono ?_; rintro e w2 ⟨rfl, hb2⟩
      go_wp2_with fail
      refine (S _ hb2).mono ?_; rintro e w3 ⟨rfl, hb3⟩
      replace hL := below_next hL (below_next hb2 hb3)
      clear C S hb2 hb3
      go_wp2
      go_ret
      exact ⟨rfl, hL⟩
    · obtain ⟨p, cap, rfl, hc1, hc2, hp0, hp⟩ := hR
      obtain ⟨g, o, rfl, hg, hr⟩ := hp (by rintro rfl; have := hp0 rfl; omega)
      obtain ⟨m, hm⟩ : ∃ m, ws.length = m + 1 := ⟨ws.length - 1, by omega⟩
      have C2 := fun w (h : Below w1.heap.size w1 w) => DesignValid_any (.slice (some ⟨g, o, none⟩) m cap) (ws.take m) w ((reads_take (by omega) hc1 hc2 hg hr).below h)
      rw [valid_take m hvd] at C2
      simp only [maxLen] at hc2
      rw [hm] at C S hlen hc1 ⊢
      have hlz : ((m : Int) + 1) ≤ 12 := by omega
      have h0z : ((m : Int) + 1 == 0) = false := by simp; omega
      have q1 : IntKind.i64.wrap (((m + 1 : Nat) : Int) - 1) = (m : Int) := by rw [IntKind.wrap_i64]; omega
      have q2 : (0 : Int) ≤ (m : Int) := by omega
      have q3 : (m : Int) ≤ (cap : Int) := by omega
      have q1' : IntKind.i64.wrap ((m : Int) + 1 - 1) = (m : Int) := by rw [IntKind.wrap_i64]; omega
      clear hm hr hp0 hp hvd hpn hbig h0 hlen hc1 hc2
      go_wp2_with fail
      refine C.mono ?_; rintro e w2 ⟨rfl, hb2⟩
      go_wp2_with fail
      refine (S _ hb2).mono ?_; rintro e w3 ⟨rfl, hb3⟩
      have hb4 := below_next hb2 hb3
      clear C S hb2 hb3
      go_wp2_with fail
      refine (C2 _ hb4).mono ?_; rintro e w4 ⟨rfl, hb5⟩
      replace hL := below_next hL (below_next hb4 hb5)
      clear C2 hb4 hb5
      go_wp2
      go_ret
      exact ⟨rfl, hL⟩

end Go.Proofs.Yteicmnoafoekcaa
