/-
  The library's rotation and merge, at circles.
-/
import Derived.Test.YtdgbpdeimckbfaaM04
/- The library's rotation and merge, at circles. -/
namespace Go.Proofs.Ytdgbpdeimckbfaa
set_option maxRecDepth 100000
open Go.Shelf Go.RowKit Go.Lib Go.Sort
set_option linter.unusedVariables false
set_option linter.unusedSimpArgs false

set_option maxHeartbeats 4000000 in
theorem rotate_any (kk : Nat) (zE : ∀ w, (Go.sizeOf 94).run Try.prog w = .ok kk w) (blk off cap a m b : Nat) (d0 d : Array Wh) (w0 w : World) (R : RowK enc kk w0 blk off d0) (hs : d0.size = d.size) (S : SWK enc kk w0 blk off d w) (ham : a < m) (hmb : m < b) (hb : b ≤ d.size) (hsz : d.size ≤ 1000000) :
    Calls Try.prog 186 #[rowV blk off d.size cap, .int .i64 a, .int .i64 m, .int .i64 b, byV] w fun e w' => e = .returned (.tuple #[]) ∧ ∃ d', Rot d d' a m b ∧ SWK enc kk w0 blk off d' w' := by
  have r1 : IntKind.i64.wrap ((m : Int) - (a : Int)) = ((m - a : Nat) : Int) := by rw [IntKind.wrap_i64]; omega
  have r2 : IntKind.i64.wrap ((b : Int) - (m : Int)) = ((b - m : Nat) : Int) := by rw [IntKind.wrap_i64]; omega
  have S0 : Aside (SWK enc kk w0 blk off d w) := S
  clear S
  go_enter Try.func186, Try.ntmps186
  go_wp2
  go_loopg [10, 11] (b - a) (fun kx s10 s11 wr => ∃ (i j : Nat) (dk : Array Wh), s10 = .int .i64 i ∧ s11 = .int .i64 j ∧ 1 ≤ i ∧ 1 ≤ j ∧ i ≤ m - a ∧ j ≤ b - m ∧ i + j ≤ kx ∧ dk.size = d.size ∧ Aside (SWK enc kk w0 blk off dk wr) ∧ Aside (∀ e, Rot dk e (m - i) m (m + j) → Rot d e a m b))
  case atStart => exact ⟨m - a, b - m, d, rfl, rfl, by omega, by omega, Nat.le_refl _, Nat.le_refl _, by omega, rfl, S0, (show ∀ e, _ from fun e he => by rwa [show m - (m - a) = a from by omega, show m + (b - m) = b from by omega] at he)⟩
  case round =>
    clear S0 r1 r2
    obtain ⟨i, j, dk, rfl, rfl, hi1, hj1, hia, hjb, hkx, hds, S1, H1⟩ := hrel
    have q1 : IntKind.i64.wrap ((m : Int) - (i : Int)) = ((m - i : Nat) : Int) := by rw [IntKind.wrap_i64]; omega
    by_cases hij : i = j
    · subst hij
      have C := swapRange_any kk zE blk off cap (m - i) m i d0 dk w0 wr R (by omega) S1.out (by omega) (by omega) (by omega)
      rw [hds] at C
      have hc := Lib.hid C
      clear C S1
      go_wp2_with fail
      refine hc.out.mono ?_; rintro e w2 ⟨rfl, d2, h2, S2⟩
      go_wp2
      go_end0
      exact ⟨rfl, d2, H1.out _ (Rot.ofBoth h2 (by omega)), S2⟩
    · have hijz : ¬ (i : Int) = (j : Int) := by omega
      by_cases hlt : j < i
      · have hltz : (j : Int) < (i : Int) := by omega
        have q2 : IntKind.i64.wrap ((i : Int) - (j : Int)) = ((i - j : Nat) : Int) := by rw [IntKind.wrap_i64]; omega
        have C := swapRange_any kk zE blk off cap (m - i) m j d0 dk w0 wr R (by omega) S1.out (by omega) (by omega) (by omega)
        rw [hds] at C
        have hc := Lib.hid C
        clear C S1
        go_wp2_with fail
        refine hc.out.mono ?_; rintro e w2 ⟨rfl, d2, h2, S2⟩; have S3 : Aside _ := S2; have h3 : Aside _ := h2; clear S2 h2
        go_wp2
        go_roundg (i - j + j)
        case measure => omega
        case rel => exact ⟨i - j, j, d2, rfl, rfl, by omega, hj1, by omega, hjb, Nat.le_refl _, h3.out.size.trans hds, S3, (show ∀ e, _ from fun e he => H1.out _ (Rot.ofLeft h3.out hlt (by omega) he))⟩
      · have hltz : ¬ (j : Int) < (i : Int) := by omega
        have q2 : IntKind.i64.wrap ((j : Int) - (i : Int)) = ((j - i : Nat) : Int) := by rw [IntKind.wrap_i64]; omega
        have q3 : IntKind.i64.wrap ((m : Int) + (j : Int)) = ((m + j : Nat) : Int) := by rw [IntKind.wrap_i64]; omega
        have q4 : IntKind.i64.wrap (((m + j : Nat) : Int) - (i : Int)) = ((m + j - i : Nat) : Int) := by rw [IntKind.wrap_i64]; omega
        have q5 : IntKind.i64.wrap ((m : Int) + (j : Int) - (i : Int)) = ((m + j - i : Nat) : Int) := by rw [IntKind.wrap_i64]; omega
        have C := swapRange_any kk zE blk off cap (m - i) (m + j - i) i d0 dk w0 wr R (by omega) S1.out (by omega) (by omega) (by omega)
        rw [hds] at C
        have hc := Lib.hid C
        clear C S1
        go_wp2_with fail
        refine hc.out.mono ?_; rintro e w2 ⟨rfl, d2, h2, S2⟩; have S3 : Aside _ := S2; have h3 : Aside _ := h2; clear S2 h2
        go_wp2
        go_roundg (i + (j - i))
        case measure => omega
        case rel => exact ⟨i, j - i, d2, rfl, rfl, hi1, by omega, hia, by omega, Nat.le_refl _, h3.out.size.trans hds, S3, (show ∀ e, _ from fun e he => H1.out _ (Rot.ofRight h3.out (by omega) (by omega) he))⟩

/-- What a merge is asked, and answers. -/
def MergeSaid (kk blk off cap : Nat) (d0 : Array Wh) (w0 : World) (a m b : Nat) (d : Array Wh) (w : World) : Prop :=
  Calls Try.prog 185 #[rowV blk off d.size cap, .int .i64 a, .int .i64 m, .int .i64 b, byV] w fun e w' => e = .returned (.tuple #[]) ∧ ∃ d', Merged d d' a b ∧ SWK enc kk w0 blk off d' w'
theorem half_of (i j : Nat) : ((i : Int) + (j : Int)) / 2 = (((i + j) / 2 : Nat) : Int) := by omega
theorem cf_lt {x y : Wh} (h : x.s < y.s) : cfW x y < 0 := by unfold cfW cfS; rw [if_pos h]; omega
theorem cf_ge {x y : Wh} (h : ¬ x.s < y.s) : ¬ cfW x y < 0 := by unfold cfW cfS; rw [if_neg h]; split <;> omega

set_option maxHeartbeats 1000000 in
theorem merge_one (kk : Nat) (zE : ∀ w, (Go.sizeOf 94).run Try.prog w = .ok kk w) (blk off cap : Nat) (d0 : Array Wh) (w0 : World) (R : RowK enc kk w0 blk off d0) (a b : Nat) (d : Array Wh) (w : World) (hs : d0.size = d.size) (S : SWK enc kk w0 blk off d w)
    (hmb : a + 1 < b) (hb : b ≤ d.size) (hsz : d.size ≤ 1000000) (U2 : Up d (a + 1) b) : MergeSaid kk blk off cap d0 w0 a (a + 1) b d w := by
  unfold MergeSaid
  have mixed := mixed_any
  have aE := agg_circle
  have eg := enters_bySpeed
  have S0 : Aside (SWK enc kk w0 blk off d w) := S
  have HU : Aside (Up d (a + 1) b) := U2
  clear S U2
  have r1 : IntKind.i64.wrap (((a + 1 : Nat) : Int) - (a : Int)) = 1 := by rw [IntKind.wrap_i64]; omega
  have r2 : IntKind.i64.wrap ((a : Int) + 1 - (a : Int)) = 1 := by rw [IntKind.wrap_i64]; omega
  go_enter Try.func185, Try.ntmps185
  go_wp2
  go_loopg [10, 11, 12] (b - a) (fun kx s10 s11 _ wr => ∃ (i j : Nat), s10 = .int .i64 i ∧ s11 = .int .i64 j ∧ a + 1 ≤ i ∧ i ≤ j ∧ j ≤ b ∧ j - i ≤ kx ∧ Aside (SWK enc kk w0 blk off d wr) ∧ Aside ((∀ x, a + 1 ≤ x → x < i → d[x]!.s < d[a]!.s) ∧ ∀ x, j ≤ x → x < b → d[a]!.s ≤ d[x]!.s))
  case atStart => exact ⟨a + 1, b, by go_num, rfl, Nat.le_refl _, by omega, Nat.le_refl _, by omega, S0, (show _ ∧ _ from ⟨fun x h1 h2 => by omega, fun x h1 h2 => by omega⟩)⟩
  case round =>
    clear S0
    obtain ⟨i, j, rfl, rfl, hai, hij, hjb, hkx, S1, H1⟩ := hrel
    by_cases hlt : i < j
    · have hltz : (i : Int) < (j : Int) := by omega
      obtain ⟨h, hh⟩ : ∃ h, h = (i + j) / 2 := ⟨_, rfl⟩
      have he : ((i : Int) + (j : Int)) / 2 = (h : Int) := by omega
      have hz : (h : Int) < (d.size : Int) := by omega
      have hk1 : h < j := by omega
      have hk2 : i ≤ h := by omega
      clear hh
      have haz : (a : Int) < (d.size : Int) := by omega
      have l1 := fun n os => S1.out.ld R (by omega) Try.prog h (by omega) n os
      have l2 := fun n os => S1.out.ld R (by omega) Try.prog a (by omega) n os
      obtain ⟨vx, hvx⟩ : ∃ v, d[h]! = v := ⟨_, rfl⟩
      obtain ⟨vy, hvy⟩ : ∃ v, d[a]! = v := ⟨_, rfl⟩
      rw [hvx] at l1
      rw [hvy] at l2
      have hcg : ∀ n os, Calls Try.prog 151 #[.agg (enc vx).toArray, .agg (enc vy).toArray] (grow (wr.drewN n) os) fun e w' => e = .returned (.int .i64 (cfW vx vy)) ∧ ∃ q os', w' = grow ((grow (wr.drewN n) os).drewN q) os' := fun n os => cmp_step S1.out vx vy n os
      have HV : Aside (d[h]! = vx ∧ d[a]! = vy) := ⟨hvx, hvy⟩
      clear hvx hvy
      by_cases hl : cfW vx vy < 0
      · go_wp2_with fail
        go_quiet_grown (first | (go_at_fn 151; refine Calls.grown_of (hcg _ _)))
        go_wp2
        have hlv : vx.s < vy.s := Decidable.byContradiction fun hn => cf_ge hn hl
        go_roundg (j - (h + 1))
        case measure => omega
        case rel => exact ⟨h + 1, j, by go_num, rfl, by omega, by omega, hjb, Nat.le_refl _, S1.out.grown nq osq, (show _ ∧ _ from ⟨fun x h1 h2 => by
          have := HU.out x h h1 (by omega) (by omega)
          rw [HV.out.1] at this
          rw [HV.out.2]; omega, H1.out.2⟩)⟩
      · go_wp2_with fail
        go_quiet_grown (first | (go_at_fn 151; refine Calls.grown_of (hcg _ _)))
        go_wp2
        have hlv : ¬ vx.s < vy.s := fun hn => by have := cf_lt hn; omega
        go_roundg (h - i)
        case measure => omega
        case rel => exact ⟨i, h, rfl, rfl, hai, by omega, by omega, Nat.le_refl _, S1.out.grown nq osq, (show _ ∧ _ from ⟨H1.out.1, fun x h1 h2 => by
          have := HU.out h x (by omega) h1 h2
          rw [HV.out.1] at this
          rw [HV.out.2]; omega⟩)⟩
    · obtain rfl : i = j := by omega
      have q1 : IntKind.i64.wrap ((i : Int) - 1) = ((i - 1 : Nat) : Int) := by rw [IntKind.wrap_i64]; omega
      go_wp2
      go_loopg [13] (i - a) (fun kx s13 wr => ∃ (k : Nat) (dk : Array Wh), s13 = .int .i64 k ∧ a ≤ k ∧ k ≤ i - 1 ∧ i - k ≤ kx ∧ dk.size = d.size ∧ Aside (SWK enc kk w0 blk off dk wr) ∧ Aside (Rot d dk a (a + 1) (k + 1)))
      case atStart => exact ⟨a, d, rfl, Nat.le_refl _, by omega, Nat.le_refl _, rfl, S1, (show Rot _ _ _ _ _ from Rot.first d a)⟩
      case round =>
        clear S1
        have HH := H1
        clear H1
        obtain ⟨k, dk, rfl, hak, hki, hkx, hds, S1, H1⟩ := hrel
        by_cases hlt : k < i - 1
        · have hltz : (k : Int) < ((i - 1 : Nat) : Int) := by omega
          have q2 : IntKind.i64.wrap ((k : Int) + 1) = ((k + 1 : Nat) : Int) := by rw [IntKind.wrap_i64]; omega
          have b1 : (k : Int) < (d.size : Int) := by omega
          have b2 : ((k + 1 : Nat) : Int) < (d.size : Int) := by omega
          have b3 : (k : Int) + 1 < (d.size : Int) := by omega
          have H2 : Aside (Rot d (swp dk k (k + 1)) a (a + 1) (k + 2)) := H1.out.firstStep hak (by omega)
          have S2 : Aside (SWK enc kk w0 blk off (swp dk (k) (k + 1)) ((wr.drew.setCells blk (off + (k) * kk) (enc dk[k + 1]!)).setCells blk (off + (k + 1) * kk) (enc dk[k]!))) := S1.out.swapped R (k) (k + 1) (by omega) (by omega)
          have la := S1.out.ld1 R (by omega) Try.prog (k) (by omega)
          have lb := S1.out.ld1 R (by omega) Try.prog (k + 1) (by omega)
          have sa := S1.out.st1 R (by omega) Try.prog (k) (by omega) dk[k + 1]!
          have sb := S1.out.st2 R (by omega) Try.prog (k) (k + 1) (by omega) (by omega) dk[k + 1]! dk[k]!
          have na : (enc dk[k]!).length = kk := R.hk _
          have nb : (enc dk[k + 1]!).length = kk := R.hk _
          generalize enc dk[k]! = cI at S2 la sb na
          generalize enc dk[k + 1]! = cJ at S2 lb sa sb nb
          clear S1 H1
          go_wp2_with fail
          go_big_region_o
          clear la lb sa sb
          generalize (wr.drew.setCells blk (off + (k) * kk) cJ).setCells blk (off + (k + 1) * kk) cI = w2 at S2 ⊢
          go_wp2
          go_roundg (i - (k + 1))
          case measure => omega
          case rel => exact ⟨k + 1, swp dk k (k + 1), by go_num, by omega, by omega, Nat.le_refl _, by rw [size_swp]; exact hds, S2, H2⟩
        · obtain rfl : k = i - 1 := by omega
          go_wp2
          (try simp only [Exit.inBlock, Exit.then]); refine bodyPost_ret (results_none rfl _ _ _) rfl ?_
          have hr := H1.out
          rw [show i - 1 + 1 = i from by omega] at hr
          exact ⟨rfl, dk, merge_first (by omega) (by omega) hb HU.out HH.out.1 HH.out.2 hr, S1.out⟩

set_option maxHeartbeats 1000000 in
theorem merge_two (kk : Nat) (zE : ∀ w, (Go.sizeOf 94).run Try.prog w = .ok kk w) (blk off cap : Nat) (d0 : Array Wh) (w0 : World) (R : RowK enc kk w0 blk off d0) (a m b : Nat) (hbm : b = m + 1) (d : Array Wh) (w : World) (hs : d0.size = d.size) (S : SWK enc kk w0 blk off d w)
    (ham : a + 1 < m) (hb : m + 1 ≤ d.size) (hsz : d.size ≤ 1000000) (U1 : Up d a m) : MergeSaid kk blk off cap d0 w0 a m b d w := by
  unfold MergeSaid
  have mixed := mixed_any
  have aE := agg_circle
  have eg := enters_bySpeed
  have S0 : Aside (SWK enc kk w0 blk off d w) := S
  have HU : Aside (Up d a m) := U1
  clear S U1
  have r1 : IntKind.i64.wrap ((m : Int) - (a : Int)) = ((m - a : Nat) : Int) := by rw [IntKind.wrap_i64]; omega
  have r1n : ¬ ((m - a : Nat) : Int) = 1 := by omega
  have r1b : (((m - a : Nat) : Int) == 1) = false := by simpa using r1n
  have r2 : IntKind.i64.wrap ((b : Int) - (m : Int)) = 1 := by rw [IntKind.wrap_i64]; omega
  have HBM : Aside (b = m + 1) := hbm
  clear hbm
  go_enter Try.func185, Try.ntmps185
  go_wp2
  go_loopg [14, 15, 16] (m - a) (fun kx s10 s11 _ wr => ∃ (i j : Nat), s10 = .int .i64 i ∧ s11 = .int .i64 j ∧ a ≤ i ∧ i ≤ j ∧ j ≤ m ∧ j - i ≤ kx ∧ Aside (SWK enc kk w0 blk off d wr) ∧ Aside ((∀ x, a ≤ x → x < i → d[x]!.s ≤ d[m]!.s) ∧ ∀ x, j ≤ x → x < m → d[m]!.s < d[x]!.s))
  case atStart => exact ⟨a, m, rfl, rfl, Nat.le_refl _, by omega, Nat.le_refl _, Nat.le_refl _, S0, (show _ ∧ _ from ⟨fun x h1 h2 => by omega, fun x h1 h2 => by omega⟩)⟩
  case round =>
    clear S0 r1 r1n r1b r2
    obtain ⟨i, j, rfl, rfl, hai, hij, hjb, hkx, S1, H1⟩ := hrel
    by_cases hlt : i < j
    · have hltz : (i : Int) < (j : Int) := by omega
      obtain ⟨h, hh⟩ : ∃ h, h = (i + j) / 2 := ⟨_, rfl⟩
      have he : ((i : Int) + (j : Int)) / 2 = (h : Int) := by omega
      have hz : (h : Int) < (d.size : Int) := by omega
      have hk1 : h < j := by omega
      have hk2 : i ≤ h := by omega
      clear hh
      have haz : (m : Int) < (d.size : Int) := by omega
      have l1 := fun n os => S1.out.ld R (by omega) Try.prog (m) (by omega) n os
      have l2 := fun n os => S1.out.ld R (by omega) Try.prog (h) (by omega) n os
      obtain ⟨vx, hvx⟩ : ∃ v, d[m]! = v := ⟨_, rfl⟩
      obtain ⟨vy, hvy⟩ : ∃ v, d[h]! = v := ⟨_, rfl⟩
      rw [hvx] at l1
      rw [hvy] at l2
      have hcg : ∀ n os, Calls Try.prog 151 #[.agg (enc vx).toArray, .agg (enc vy).toArray] (grow (wr.drewN n) os) fun e w' => e = .returned (.int .i64 (cfW vx vy)) ∧ ∃ q os', w' = grow ((grow (wr.drewN n) os).drewN q) os' := fun n os => cmp_step S1.out vx vy n os
      have HV : Aside (d[m]! = vx ∧ d[h]! = vy) := ⟨hvx, hvy⟩
      clear hvx hvy
      by_cases hl : cfW vx vy < 0
      · have hlb : decide (cfW vx vy < 0) = true := decide_eq_true hl
        go_wp2_with fail
        go_quiet_grown (first | (go_at_fn 151; refine Calls.grown_of (hcg _ _)))
        go_wp2
        all_goals (first | (exfalso; omega) | skip)
        have hlv : vx.s < vy.s := Decidable.byContradiction fun hn => cf_ge hn hl
        go_roundg (h - i)
        case measure => omega
        case rel => exact ⟨i, h, rfl, rfl, hai, by omega, by omega, Nat.le_refl _, S1.out.grown nq osq, (show _ ∧ _ from ⟨H1.out.1, fun x h1 h2 => by
          have := HU.out h x (by omega) h1 h2
          rw [HV.out.2] at this
          rw [HV.out.1]; omega⟩)⟩
      · have hlb : decide (cfW vx vy < 0) = false := decide_eq_false hl
        go_wp2_with fail
        go_quiet_grown (first | (go_at_fn 151; refine Calls.grown_of (hcg _ _)))
        go_wp2
        all_goals (first | (exfalso; omega) | skip)
        have hlv : ¬ vx.s < vy.s := fun hn => by have := cf_lt hn; omega
        go_roundg (j - (h + 1))
        case measure => omega
        case rel => exact ⟨h + 1, j, by go_num, rfl, by omega, by omega, hjb, Nat.le_refl _, S1.out.grown nq osq, (show _ ∧ _ from ⟨fun x h1 h2 => by
          have := HU.out x h h1 (by omega) (by omega)
          rw [HV.out.2] at this
          rw [HV.out.1]; omega, H1.out.2⟩)⟩
    · obtain rfl : i = j := by omega
      go_wp2
      go_loopg [17] (m - i) (fun kx s13 wr => ∃ (k : Nat) (dk : Array Wh), s13 = .int .i64 k ∧ i ≤ k ∧ k ≤ m ∧ k - i ≤ kx ∧ dk.size = d.size ∧ Aside (SWK enc kk w0 blk off dk wr) ∧ Aside (Rot d dk k m (m + 1)))
      case atStart => exact ⟨m, d, rfl, hjb, Nat.le_refl _, Nat.le_refl _, rfl, S1, (show Rot _ _ _ _ _ from Rot.last d m)⟩
      case round =>
        clear S1
        have HH := H1
        clear H1
        obtain ⟨k, dk, rfl, hak, hki, hkx, hds, S1, H1⟩ := hrel
        by_cases hlt : i < k
        · obtain ⟨q, rfl⟩ : ∃ q, k = q + 1 := ⟨k - 1, by omega⟩
          have hltz : (i : Int) < ((q + 1 : Nat) : Int) := by omega
          have hltz2 : (i : Int) < (q : Int) + 1 := by omega
          have q2 : IntKind.i64.wrap (((q + 1 : Nat) : Int) - 1) = ((q : Nat) : Int) := by rw [IntKind.wrap_i64]; omega
          have q3 : IntKind.i64.wrap ((q : Int) + 1 - 1) = ((q : Nat) : Int) := by rw [IntKind.wrap_i64]; omega
          have b1 : (q : Int) < (d.size : Int) := by omega
          have b2 : ((q + 1 : Nat) : Int) < (d.size : Int) := by omega
          have b3 : (q : Int) + 1 < (d.size : Int) := by omega
          have e1 : ((q : Int) + 1).toNat = q + 1 := by omega
          have H2 : Aside (Rot d (swp dk (q + 1) q) q m (m + 1)) := H1.out.lastStep hki (by omega)
          have S2 : Aside (SWK enc kk w0 blk off (swp dk (q + 1) (q)) ((wr.drew.setCells blk (off + (q + 1) * kk) (enc dk[q]!)).setCells blk (off + (q) * kk) (enc dk[q + 1]!))) := S1.out.swapped R (q + 1) (q) (by omega) (by omega)
          have la := S1.out.ld1 R (by omega) Try.prog (q + 1) (by omega)
          have lb := S1.out.ld1 R (by omega) Try.prog (q) (by omega)
          have sa := S1.out.st1 R (by omega) Try.prog (q + 1) (by omega) dk[q]!
          have sb := S1.out.st2 R (by omega) Try.prog (q + 1) (q) (by omega) (by omega) dk[q]! dk[q + 1]!
          have na : (enc dk[q + 1]!).length = kk := R.hk _
          have nb : (enc dk[q]!).length = kk := R.hk _
          generalize enc dk[q + 1]! = cI at S2 la sb na
          generalize enc dk[q]! = cJ at S2 lb sa sb nb
          clear S1 H1
          go_wp2_with fail
          go_big_region_o
          clear la lb sa sb
          generalize (wr.drew.setCells blk (off + (q + 1) * kk) cJ).setCells blk (off + (q) * kk) cI = w2 at S2 ⊢
          go_wp2
          go_roundg (q - i)
          case measure => omega
          case rel => exact ⟨q, swp dk (q + 1) q, by go_num, by omega, by omega, Nat.le_refl _, by rw [size_swp]; exact hds, S2, H2⟩
        · obtain rfl : k = i := by omega
          go_wp2
          (try simp only [Exit.inBlock, Exit.then]); refine bodyPost_ret (results_none rfl _ _ _) rfl ?_
          rw [HBM.out]
          exact ⟨rfl, dk, merge_last hai hki hb HU.out HH.out.2 HH.out.1 H1.out, S1.out⟩

end Go.Proofs.Ytdgbpdeimckbfaa
