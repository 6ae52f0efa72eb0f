/-
  The walk of the law FnGroup of every code.
-/
import Derived.Test.YtnlbcfblfjcfnaaLawTurn
import Derived.Test.YtnlbcfblfjcfnaaGroupExact
import Derived.Laws.Tables
import Derived.Laws.Rows
import Derived.Deep.RegionHeld3
import Derived.Deep.DeepCutAuto
namespace Go.Proofs.Ytnlbcfblfjcfnaa
open Go.ChangeShapes Go.WideShapes Go.ChangeAt Go.RowKit
set_option linter.unusedVariables false
set_option linter.unusedSimpArgs false

/-- Block b marks the multiples of g that are less than k times g. -/
def HasAt (w : World) (b g k : Nat) : Prop :=
  (∀ j, j < 24 → w.cell? ⟨b, j, none⟩ = some (.bool (decide (j % g = 0 ∧ j < k * g)))) ∧ (∀ j, w.frozen? ⟨b, j, none⟩ = false)

theorem mults_get (g n i : Nat) (h : i < n) : (mults g n).getD i 0 = ((i * g : Nat) : Int) := by
  simp [mults, List.getD_eq_getElem?_getD, h]

/-- 24 times false. -/
abbrev falses : Array Value := #[.bool false, .bool false, .bool false, .bool false, .bool false, .bool false, .bool false, .bool false, .bool false, .bool false, .bool false, .bool false,
  .bool false, .bool false, .bool false, .bool false, .bool false, .bool false, .bool false, .bool false, .bool false, .bool false, .bool false, .bool false]
theorem falses_at (j : Nat) (h : j < 24) : falses[j]? = some (.bool false) := by
  have key : ∀ i : Fin 24, falses[i.val]? = some (.bool false) := by
    intro i
    match i with
    | ⟨0, _⟩ | ⟨1, _⟩ | ⟨2, _⟩ | ⟨3, _⟩ | ⟨4, _⟩ | ⟨5, _⟩ | ⟨6, _⟩ | ⟨7, _⟩ | ⟨8, _⟩ | ⟨9, _⟩ | ⟨10, _⟩ | ⟨11, _⟩ => rfl
    | ⟨12, _⟩ | ⟨13, _⟩ | ⟨14, _⟩ | ⟨15, _⟩ | ⟨16, _⟩ | ⟨17, _⟩ | ⟨18, _⟩ | ⟨19, _⟩ | ⟨20, _⟩ | ⟨21, _⟩ | ⟨22, _⟩ | ⟨23, _⟩ => rfl
    | ⟨n + 24, h⟩ => exact absurd h (by omega)
  exact key ⟨j, h⟩
theorem falses_one : falses.all (·.oneCell') = true := by kernel_rfl
theorem info_arr : (Try.prog.info? 34).map (·.size) = some 24 := by kernel_rfl

theorem has_zero (W : World) (g : Nat) : HasAt ((W.alloc (.cells falses 34)).setRow W.heap.size falses) W.heap.size g 0 ∧ W.grownBy ((W.alloc (.cells falses 34)).setRow W.heap.size falses) none := by
  have hb : ((W.alloc (.cells falses 34)).setRow W.heap.size falses).heap[W.heap.size]? = some (.cells falses 34 (0, 0)) := setRow_heap _ _ _ _ _ _ (heap_alloc_new W _)
  refine ⟨⟨fun j hj => ?_, fun j => frozen_of_row _ _ _ _ _ hb⟩, ⟨rfl, rfl, rfl, by simp, fun i hi _ => ?_⟩⟩
  · rw [cell_of_row _ _ _ _ _ _ hb, falses_at j hj]; simp
  · rw [setRow_other _ _ _ _ (by omega)]; exact Below.heap_alloc W _ i hi

theorem has_step {w : World} {b g k : Nat} (h : HasAt w b g k) (hg : 1 ≤ g) (hk : k * g < 24) : HasAt (w.setCell ⟨b, k * g, none⟩ (.bool true)) b g (k + 1) := by
  refine ⟨fun j hj => ?_, fun j => by rw [World.frozen?_setCell]; exact h.2 j⟩
  have e : (k + 1) * g = k * g + g := Nat.succ_mul _ _
  by_cases hjk : j = k * g
  · subst hjk
    rw [World.cell?_setCell_same _ _ _ (h.1 _ hj)]
    have hm : k * g % g = 0 := Nat.mul_mod_left _ _
    have hl : k * g < (k + 1) * g := by omega
    simp [hm, hl]
  · rw [World.cell?_setCell_other _ _ _ _ (by first | (simp; done) | simp [hjk]), h.1 j hj]
    have hiff : (j % g = 0 ∧ j < k * g) ↔ (j % g = 0 ∧ j < (k + 1) * g) := by
      constructor
      · rintro ⟨h1, h2⟩; exact ⟨h1, by omega⟩
      · rintro ⟨h1, h2⟩
        obtain ⟨q, rfl⟩ := Nat.dvd_of_mod_eq_zero h1
        have hq : q < k + 1 := by
          rw [Nat.mul_comm g q] at h2
          exact Nat.lt_of_mul_lt_mul_right h2
        have hq2 : q ≠ k := by rintro rfl; exact hjk (Nat.mul_comm _ _)
        refine ⟨h1, ?_⟩
        rw [Nat.mul_comm g q]
        exact Nat.mul_lt_mul_of_pos_right (by omega) (by omega)
    rw [decide_eq_decide.2 hiff]
theorem has_full {w : World} {b g n : Nat} (h : HasAt w b g n) (hn : n * g = 24) (j : Nat) (hj : j < 24) (hm : j % g = 0) : w.cell? ⟨b, j, none⟩ = some (.bool true) := by
  rw [h.1 j hj, hn]; simp [hm, hj]
theorem sum_mod (g n i k : Nat) (hn : n * g = 24) : (i * g + k * g) % 24 % g = 0 := by
  rw [Nat.mod_mod_of_dvd _ ⟨n, by rw [← hn, Nat.mul_comm]⟩, ← Nat.add_mul, Nat.mul_mod_left]

set_option maxRecDepth 100000 in
set_option maxHeartbeats 1600000 in
theorem lawGroup_walk (v : Value) (w : World) (h : CodeAt w v) : Calls Try.prog 7 #[v] w (Fine w) := by
  have D := Lib.hid (drawGroup v w h)
  obtain ⟨pa, pn, pc, rfl, hpn⟩ := code_len h
  clear h
  by_cases hbig : 1048576 < pn
  · have hb : (1048576 : Int) < (pn : Int) := by omega
    go_enter Try.func7, Try.ntmps7
    go_wp2_with fail
    go_ret
    exact fine_same ⟨rfl, rfl⟩
  have hb : ¬ (1048576 : Int) < (pn : Int) := by omega
  go_enter Try.func7, Try.ntmps7
  go_wp2_with fail
  refine D.out.mono ?_; rintro e w1 ⟨a, b, rfl, a0, a1, b0, b1, hbel⟩
  clear D
  rcases two_cases a b with h | ⟨a0', a1', b0', b1'⟩
  · have e0 : ∀ w, IntsAt w (.slice none 0 0) [] := fun w => ⟨none, 0, rfl, fun h => absurd rfl h⟩
    have E0 : ∀ w, Hid _ := fun w => Lib.hid (e0 w)
    clear e0
    go_wp2_with fail
    refine (implGroup_no _ _ h _).mono ?_; rintro e w' ⟨rfl, rfl⟩
    go_wp2_with fail
    refine (specGroup_no _ _ h _).mono ?_; rintro e w2 ⟨rfl, bel2⟩
    have e2 : IntsAt w2 (.slice (some ⟨w1.heap.size, 0, none⟩) 0 0) [] := ⟨_, 0, rfl, fun h => absurd rfl h⟩
    go_wp2_with fail
    refine (sameInts_yes _ _ _ _ (E0 _).out e2 (by simp)).mono ?_; rintro e w3 ⟨rfl, m3, rfl⟩
    have e3 : IntsAt (w2.drewN m3) (.slice (some ⟨w1.heap.size, 0, none⟩) 0 0) [] := ⟨_, 0, rfl, fun h => absurd rfl h⟩
    have z := hbel.size
    have hb3 := below_drewN (hbel.trans (bel2.mono z)) m3
    go_wp2_with fail
    refine (sameInts_yes _ _ _ _ (E0 _).out e3 (by simp)).mono ?_; rintro e w4 ⟨rfl, m4, rfl⟩
    go_wp2_with fail
    go_ret
    exact ⟨rfl, by first | exact below_drewN hb3 m4 | (rw [← World.drewN_drewN]; exact below_drewN hb3 m4)⟩
  obtain ⟨s, rfl⟩ : ∃ s : Nat, a = s := ⟨a.toNat, by omega⟩
  obtain ⟨t, rfl⟩ : ∃ t : Nat, b = t := ⟨b.toNat, by omega⟩
  have hs : s ≤ 23 := by omega
  have ht : t ≤ 23 := by omega
  clear a0 a1 b0 b1 a0' b0'
  obtain ⟨g0, g1, hn⟩ := stepOf_facts s t
  have gs : s % stepOf s t = 0 := Nat.mod_eq_zero_of_dvd (Nat.dvd_trans (Nat.gcd_dvd_left _ _) (Nat.gcd_dvd_left _ _))
  have gt : t % stepOf s t = 0 := Nat.mod_eq_zero_of_dvd (Nat.dvd_trans (Nat.gcd_dvd_left _ _) (Nat.gcd_dvd_right _ _))
  have S := fun w => Lib.hid (specGroup_yes s t hs ht _ _ rfl g0 g1 hn w)
  have I := fun w => Lib.hid (implGroup_yes s t hs ht _ _ rfl g0 g1 hn w)
  have hn0 : 0 < 24 / stepOf s t := Nat.div_pos g1 (by omega)
  have hn1 : 24 / stepOf s t ≤ 24 := Nat.div_le_self _ _
  generalize stepOf s t = g at *
  generalize 24 / g = n at *
  have HN := Lib.hid hn
  have GS := Lib.hid gs
  have GT := Lib.hid gt
  clear hn gs gt
  go_wp2_with fail
  refine (I _).out.mono ?_; rintro e w2 ⟨v2, rfl, own2, bel2⟩
  obtain ⟨G2, cap2, rfl, hG2, hG2'⟩ := own_some own2 hn0
  go_wp2_with fail
  refine (S _).out.mono ?_; rintro e w3 ⟨v3, rfl, own3, bel3⟩
  have own2' := own_below own2 bel3
  clear I S
  go_wp2_with fail
  refine (sameInts_yes _ _ _ _ (intsAt_of_own own2') (intsAt_of_own own3) (by rw [mults_len]; omega)).mono ?_; rintro e w4 ⟨rfl, m4, rfl⟩
  have z1 := hbel.size
  have z2 := bel2.size
  have z3 := bel3.size
  have hb3 := below_drewN ((hbel.trans (bel2.mono z1)).trans (bel3.mono (by omega))) m4
  have HB3 := Lib.hid hb3
  have OWN2 := Lib.hid (own_drewN own2' m4)
  clear hb3 own2 own2' own3 bel2 bel3 hbel
  generalize hW : w3.drewN m4 = W at *
  have hG2W : G2 < W.heap.size := by rw [← hW]; show G2 < w3.heap.size; omega
  have hwW : w.heap.size ≤ W.heap.size := by rw [← hW]; show w.heap.size ≤ w3.heap.size; omega
  clear hW
  go_upto_region 8 with fail
  go_cut [9] (fun s9 wx => s9 = .pointer (some ⟨W.heap.size, 0, none⟩) ∧ HasAt wx W.heap.size g 0 ∧ W.grownBy wx none)
  case first =>
    have HZ := Lib.hid (has_zero W g)
    go_wp2_with (refine wpList_store_row rfl 34 (.tmp 9) (.tmp 54) rfl W.heap.size falses rfl rfl 34 falses (heap_alloc_new _ _) info_arr rfl falses_one ?_)
    go_meet
    exact ⟨rfl, HZ.out.1, HZ.out.2⟩
  case rest =>
    obtain ⟨rfl, has0, gr0⟩ := hcut
    have H0 := Lib.hid has0
    have R0 := Lib.hid (only_of_none gr0 (some W.heap.size))
    clear has0 gr0
    go_wp2_with fail
    go_loopw [10] (fun i wr => ∃ k : Nat, k ≤ n ∧ i = .int .i64 k ∧ Hid (HasAt wr W.heap.size g k) ∧ Hid (W.grownBy wr (some W.heap.size))) (fun i _ => n - (intOf i).toNat)
    case atStart => exact ⟨0, by omega, rfl, H0, R0⟩
    case round =>
      obtain ⟨k, hk, rfl, hH, hR⟩ := hrel
      have own := OWN2.out.kept hR.out (.inr (by simp [Value.ownBlock]; omega))
      by_cases hlt : k < n
      · obtain ⟨hp1, hp2⟩ := step_lt k n g _ rfl HN.out hlt
        have hp24 : k * g < 24 := by omega
        have c1 : wr.cell? ⟨G2, k, none⟩ = some (.int .i64 (((k * g : Nat)) : Int)) := by
          rw [own.cellAt k (by omega), ← mults_get g n k hlt]; exact getD_of_getElem? (by rw [mults_len]; exact hlt)
        have c2 := hH.out.1 (k * g) hp24
        have f2 := hH.out.2 (k * g)
        have HS := Lib.hid (has_step hH.out g0 hp24)
        have HR := Lib.hid (only_trans' hR.out (⟨rfl, rfl, rfl, by simp [World.setCell], fun i _ hne => Below.heap_setCell wr ⟨W.heap.size, k * g, none⟩ (.bool true) i (by rintro rfl; exact hne rfl)⟩ : wr.grownBy (wr.setCell ⟨W.heap.size, k * g, none⟩ (.bool true)) (some W.heap.size)))
        clear hp1 hp2 own hH hR
        have HP := Lib.hid (rfl : k * g = k * g)
        generalize hq : k * g = q at c1 c2 f2 HS HR hp24
        have HQ := Lib.hid hq; clear hq HP
        generalize decide (q % g = 0 ∧ q < q) = old at c2
        have hlt' : (k : Int) < (n : Int) := by omega
        go_wp2_with fail
        go_roundw
        case rel => exact ⟨k + 1, by omega, by go_num, HS, HR⟩
        case measure => simp [intOf]; omega
      · obtain rfl : k = n := by omega
        clear hlt
        have HC : ∀ i, i < k → Hid (wr.cell? ⟨G2, i, none⟩ = some (.int .i64 (((i * g : Nat)) : Int))) := fun i hi => Lib.hid (by
          rw [own.cellAt i (by omega), ← mults_get g k i hi]; exact getD_of_getElem? (by rw [mults_len]; exact hi))
        clear own
        obtain ⟨W1, rfl⟩ : ∃ W1, W1 = wr := ⟨_, rfl⟩
        go_wp2_with fail
        have HF : ∀ j, j < 24 → j % g = 0 → Hid (W1.cell? ⟨W.heap.size, j, none⟩ = some (.bool true)) := fun j hj hm => Lib.hid (has_full hH.out HN.out j hj hm)
        clear hH
        go_loopw [11, 12] (fun i _ wr => ∃ k' m : Nat, k' ≤ k ∧ i = .int .i64 k' ∧ Hid (wr = W1.drewN m)) (fun i _ _ => k - (intOf i).toNat)
        case atStart => exact ⟨0, 0, by omega, rfl, Lib.hid rfl⟩
        case round =>
          obtain ⟨i, m, hi, rfl, hwr⟩ := hrel
          obtain rfl := hwr.out
          clear hwr
          by_cases hlt : i < k
          · have ci := HC i hlt
            have hlt' : (i : Int) < (k : Int) := by omega
            go_wp2_with fail
            go_loopw [12] (fun j wr => ∃ k' m : Nat, k' ≤ k ∧ j = .int .i64 k' ∧ Hid (wr = W1.drewN m)) (fun j _ => k - (intOf j).toNat)
            case atStart => exact ⟨0, m, by omega, rfl, Lib.hid rfl⟩
            case round =>
              obtain ⟨j, m2, hj, rfl, hwr⟩ := hrel
              obtain rfl := hwr.out
              clear hwr
              by_cases hlj : j < k
              · have c1 : W1.cell? ⟨G2, i, none⟩ = some (.int .i64 (((i * g : Nat)) : Int)) := ci.out
                have c2 : W1.cell? ⟨G2, j, none⟩ = some (.int .i64 (((j * g : Nat)) : Int)) := (HC j hlj).out
                have c3 : W1.cell? ⟨W.heap.size, (i * g + j * g) % 24, none⟩ = some (.bool true) := (HF _ (Nat.mod_lt _ (by omega)) (sum_mod g k i j HN.out)).out
                have b1 := (step_lt i k g _ rfl HN.out hlt).1
                have b2 := (step_lt j k g _ rfl HN.out hlj).1
                generalize i * g = p at c1 c3 b1
                generalize j * g = q at c2 c3 b2
                have h0 : (0 : Int) ≤ ((p : Int) + (q : Int)) % 24 := by omega
                have h1 : ((p : Int) + (q : Int)) % 24 < 24 := by omega
                have hlj' : (j : Int) < (k : Int) := by omega
                clear HC HF
                go_wp2_with fail
                go_quiet (fail)
                go_wp2_with fail
                go_roundw
                case rel => exact ⟨j + 1, _, by omega, by go_num, Lib.hid (by first | exact rfl | exact World.drewN_drewN _ _ _)⟩
                case measure => simp [intOf]; omega
              · have hlj' : ¬ (j : Int) < (k : Int) := by omega
                clear HC HF
                go_wp2_with fail
                go_roundw
                case rel => exact ⟨i + 1, m2, by omega, by go_num, Lib.hid rfl⟩
                case measure => simp [intOf]; omega
          · obtain rfl : i = k := by omega
            clear hlt
            have f0 := (HF 0 (by omega) (by simp)).out
            have fs := (HF s (by omega) GS.out).out
            have ft := (HF t (by omega) GT.out).out
            have hd : ((24 % (i : Int)) == 0) = true := by
              have e : 24 % i = 0 := by rw [← HN.out]; exact Nat.mul_mod_right _ _
              have e2 : (24 : Int) % (i : Int) = ((24 % i : Nat) : Int) := by simp
              rw [e2, e]; rfl
            clear HC HF
            go_wp2_with fail
            go_ret
            exact ⟨rfl, below_drewN (below_only HB3.out hR.out hwW hwW) _⟩
end Go.Proofs.Ytnlbcfblfjcfnaa
