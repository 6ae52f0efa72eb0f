/-
  The walk of the law FnTurns.
-/
import Derived.Test.YtdpakhggpgdgbaaM29
import Derived.Test.YtdpakhggpgdgbaaM21
import Derived.Test.YtdpakhggpgdgbaaM20
namespace Go.Proofs.Ytdpakhggpgdgbaa
set_option maxRecDepth 20000
open Go.ChangeShapes Go.WideShapes Go.ChangeAt Go.RowKit
set_option linter.unusedVariables false
set_option linter.unusedSimpArgs false

theorem drawPolyTurns (v : Value) (w : World) (h : CodeAt w v) : Calls Try.prog 35 #[v] w (DrewPoly w) := by
  have O := Lib.hid (open_any v w h)
  clear h
  go_enter Try.func35, Try.ntmps35
  go_wp2_with fail
  refine O.out.mono ?_; rintro e w1 ⟨rfl, hr, hb⟩
  have D := Lib.hid (poly_drawn _ _ w1 hr (by omega))
  have z1 := hr.lt
  clear hr O
  go_wp2_with fail
  refine D.out.mono ?_; rintro e w2 ⟨v2, xs, q, rfl, hq, hl, hr2, hg2, ho2⟩
  have HB := Lib.hid (below_only hb hg2 hb.size (Nat.le_refl _))
  have HO := Lib.hid ho2
  clear D hb hr2 hg2 ho2
  go_wp2
  go_ret
  exact ⟨v2, xs, rfl, hl, HO.out, HB.out⟩

set_option maxHeartbeats 8000000 in
theorem lawFnTurns_walk (v : Value) (w : World) (h : CodeAt w v) : Calls Try.prog 7 #[v] w (Fine w) := by
  have D := Lib.hid (drawPolyTurns v w h)
  obtain ⟨pa, pn, pc, rfl, hpn⟩ := code_length h
  clear h
  by_cases hbig : 1048576 < pn
  · have hb : (1048576 : Int) < (pn : Int) := by omega
    go_enter Try.func7, Try.ntmps7
    go_wp2_with fail
    go_ret
    exact fine_same ⟨rfl, rfl⟩
  have hb : ¬ (1048576 : Int) < (pn : Int) := by omega
  go_enter Try.func7, Try.ntmps7
  go_wp2_with fail
  refine D.out.mono ?_; rintro e w1 ⟨v2, xs, rfl, hl48, hR, hL⟩
  clear D
  have T1 := PolyTurns_any v2 xs w1 hR
  have T2 := fun w h => specPolyTurns_any v2 xs w h
  cases hx : turnsO xs with
  | none =>
    rw [hx, toldZ_none] at T1 T2
    clear hx
    go_wp2_with fail
    refine (T1).mono ?_; rintro e w2 ⟨rfl, hb⟩
    replace hR := hR.below hb
    replace hL := below_next hL hb
    clear hb
    go_wp2_with fail
    refine (T2 _ hR).mono ?_; rintro e w3 ⟨rfl, hb⟩
    replace hR := hR.below hb
    replace hL := below_next hL hb
    clear hb
    go_wp2
    go_ret
    exact ⟨rfl, hL⟩
  | some m =>
    obtain ⟨hok, hP, hm⟩ := turns_some hx
    have hln := polyOk_len hok
    have hms : -48 ≤ m ∧ m ≤ 48 := by have := turnZ_small (P := PQ xs) (n := xs.length); omega
    have hmw : IntKind.i64.wrap (-m) = -m := by rw [IntKind.wrap_i64]; omega
    have hmm : (m != m) = false := by simp
    have hmn : ((-m) == (-m)) = true := by simp
    obtain ⟨L, hL2⟩ := bends_yes hok
    have hLn := (bends_some hL2).2.1
    have HT := Lib.hid (fun h => turns_left hx hL2 h)
    have B1 := fun w h => PolyBack_any v2 xs w h
    rw [back_yes hok] at B1
    have B2 := fun v w h => PolyTurns_any v xs.reverse w h
    rw [turns_rev hx, toldZ_some] at B2
    have B3 := fun w h => PolyBends_any v2 xs w h
    rw [hL2] at B3
    rw [hx, toldZ_some] at T1 T2
    clear hx hL2 hok hP hm
    go_wp2_with fail
    refine (T1).mono ?_; rintro e w2 ⟨rfl, hb⟩
    replace hR := hR.below hb
    replace hL := below_next hL hb
    clear hb
    go_wp2_with fail
    refine (T2 _ hR).mono ?_; rintro e w3 ⟨rfl, hb⟩
    replace hR := hR.below hb
    replace hL := below_next hL hb
    clear hb
    go_wp2_with fail
    refine (B1 _ hR).mono ?_; rintro e w4 ⟨hb, v5, rfl, ho5⟩
    replace hR := hR.below hb
    replace hL := below_next hL hb
    clear hb
    have hS := ownL_reads ho5
    change ReadsL encV _ v5 xs.reverse at hS
    clear ho5
    go_wp2_with fail
    refine (B2 v5 _ hS).mono ?_; rintro e w5 ⟨rfl, hb⟩
    replace hR := hR.below hb
    replace hS := hS.below hb
    replace hL := below_next hL hb
    clear hb
    go_wp2_with fail
    refine (B3 _ hR).mono ?_; rintro e w6 ⟨hb, v6, rfl, hI6⟩
    replace hR := hR.below hb
    replace hS := hS.below hb
    replace hL := below_next hL hb
    clear hb
    change OwnL encI 1 _ _ _ v6 L at hI6
    obtain ⟨g6, c6, rfl, hg6, hc6⟩ := ints_at hI6 hLn hln.1
    have HC6 := Lib.hid hc6
    have HLn := Lib.hid hLn
    clear hR hS hI6 hc6 T1 T2 B1 B2 B3 hLn
    generalize hn : xs.length = n at *
    clear hn
    go_wp2
    go_loopw [14, 15] (fun s14 i wr => ∃ (k : Nat) (b : Bool), k ≤ n ∧ i = .int .i64 k ∧ s14 = .bool b ∧ Below w6.heap.size w6 wr ∧ (b = true → ∀ j z, j < k → L[j]? = some z → 0 ≤ z)) (fun _ i _ => n - (intOf i).toNat)
    case atStart => exact ⟨0, true, Nat.zero_le _, rfl, rfl, Below.refl _ _, fun _ j z h => absurd h (Nat.not_lt_zero _)⟩
    case round =>
      obtain ⟨k, b, hk, rfl, rfl, hbel, hb⟩ := hrel
      by_cases hkm : k < n
      · have hkz : (k : Int) < (n : Int) := by omega
        obtain ⟨z, hz⟩ : ∃ z, L[k]? = some z := ⟨_, List.getElem?_eq_getElem (by rw [HLn.out]; exact hkm)⟩
        have hcell := (World.cell?_of_block (hbel.block g6 hg6)).trans (HC6.out k _ hz)
        have HL := Lib.hid hbel
        have HZ := Lib.hid hz
        have HB := Lib.hid hb
        clear hbel hz hb
        cases b with
        | false =>
          clear hcell
          go_wp2
          go_roundw
          case rel => exact ⟨k + 1, false, by omega, by go_num, rfl, HL.out, fun e => by cases e⟩
          case measure => simp [intOf]; omega
        | true =>
          by_cases h0 : 0 ≤ z
          · go_wp2
            go_roundw
            case rel =>
              refine ⟨k + 1, true, by omega, by go_num, rfl, HL.out, fun _ j y hj hy => ?_⟩
              by_cases e : j = k
              · subst e
                rw [HZ.out, Option.some.injEq] at hy
                omega
              · exact HB.out rfl j y (by omega) hy
            case measure => simp [intOf]; omega
          · go_wp2
            go_roundw
            case rel => exact ⟨k + 1, false, by omega, by go_num, rfl, HL.out, fun e => by cases e⟩
            case measure => simp [intOf]; omega
      · have hkz : ¬ (k : Int) < (n : Int) := by omega
        have hL9 := below_next hL hbel
        have HB := Lib.hid hb
        clear hbel hL hb
        cases b with
        | false =>
          go_wp2
          go_ret
          exact ⟨rfl, hL9⟩
        | true =>
          have h1 : 1 ≤ m := HT.out fun z hz => by
            obtain ⟨j, hj, e⟩ := List.mem_iff_getElem.1 hz
            exact HB.out rfl j z (by rw [HLn.out] at hj; omega) (by rw [← e]; exact List.getElem?_eq_getElem hj)
          go_wp2
          go_ret
          exact ⟨rfl, hL9⟩

end Go.Proofs.Ytdpakhggpgdgbaa
