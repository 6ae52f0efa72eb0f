/-
  The library's stable sort at circles: at any length up to a thousand.
-/
import Derived.Test.YteicmnoafoekcaaWheelE
namespace Go.Proofs.Yteicmnoafoekcaa
set_option maxRecDepth 100000
open Go.Shelf Go.RowKit Go.Lib Go.Sort
set_option linter.unusedVariables false
set_option linter.unusedSimpArgs false

theorem div_low {s a i j : Nat} (ha : a % s = 0) (haj : a ≤ j) (h : i / s = j / s) : a ≤ i := by
  have h1 : a / s ≤ j / s := Nat.div_le_div_right haj
  have h2 : a / s * s = a := Nat.div_mul_cancel (Nat.dvd_of_mod_eq_zero ha)
  have h3 : a / s ≤ i / s := h ▸ h1
  have h4 := Nat.div_mul_le_self i s
  have h5 := Nat.mul_le_mul_right s h3
  omega
theorem div_at {s a i : Nat} (hs : 0 < s) (ha : a % s = 0) (h1 : a ≤ i) (h2 : i < a + s) : i / s = a / s := by
  have h3 : a / s * s = a := Nat.div_mul_cancel (Nat.dvd_of_mod_eq_zero ha)
  refine Nat.div_eq_of_lt_le (by omega) ?_
  rw [Nat.add_mul, Nat.one_mul]; omega
/-- Below a, each block of s ascends. -/
def Part (d : Array Wh) (s a : Nat) : Prop := ∀ i j, i ≤ j → j < a → i / s = j / s → d[i]!.s ≤ d[j]!.s
/-- From a on, each block of s ascends. -/
def Tail (d : Array Wh) (s a : Nat) : Prop := ∀ i j, a ≤ i → i ≤ j → j < d.size → i / s = j / s → d[i]!.s ≤ d[j]!.s
theorem Part.none (d : Array Wh) (s : Nat) : Part d s 0 := fun i j h1 h2 => by omega
theorem Part.step {d d' : Array Wh} {s a b : Nat} (ha : a % s = 0) (h : Part d s a) (M : Merged d d' a b) : Part d' s b := fun i j hij hj he => by
  by_cases hja : j < a
  · rw [M.out i (.inl (by omega)), M.out j (.inl hja)]; exact h i j hij hja he
  · exact M.up i j (div_low ha (by omega) he) hij hj
theorem Part.tail {d : Array Wh} {s : Nat} (h : Part d s d.size) : Tail d s 0 := fun i j _ h2 h3 h4 => h i j h2 h3 h4
theorem Tail.step {d d' : Array Wh} {s a b : Nat} (hab : a ≤ b) (h : Tail d s a) (M : Merged d d' a b) : Tail d' s b := fun i j h1 h2 h3 h4 => by
  rw [M.keeps.1] at h3
  rw [M.out i (.inr h1), M.out j (.inr (by omega))]
  exact h i j (by omega) h2 h3 h4
theorem Tail.first {d : Array Wh} {s a : Nat} (hs : 0 < s) (ha : a % s = 0) (h : Tail d s a) (hb : a + s ≤ d.size) : Up d a (a + s) := fun i j h1 h2 h3 =>
  h i j h1 h2 (by omega) ((div_at hs ha h1 (by omega)).trans (div_at hs ha (by omega) h3).symm)
theorem Tail.second {d : Array Wh} {s a b : Nat} (hs : 0 < s) (ha : a % s = 0) (h : Tail d s a) (hb : b ≤ a + s + s) (hbd : b ≤ d.size) : Up d (a + s) b := fun i j h1 h2 h3 =>
  have ha' : (a + s) % s = 0 := by rw [Nat.add_mod_right]; exact ha
  h i j (by omega) h2 (by omega) ((div_at hs ha' h1 (by omega)).trans (div_at hs ha' (by omega) (by omega)).symm)
theorem Part.last {d : Array Wh} {s a : Nat} (hs : 0 < s) (ha : a % s = 0) (ha2 : a % (2 * s) = 0) (h : Part d (2 * s) a) (k : Tail d s a) (hd : d.size ≤ a + s) : Part d (2 * s) d.size := fun i j hij hj he => by
  by_cases hja : j < a
  · exact h i j hij hja he
  · have hi := div_low ha2 (by omega) he
    exact k i j hi hij hj ((div_at hs ha hi (by omega)).trans (div_at hs ha (by omega) (by omega)).symm)
theorem Part.up {d : Array Wh} {s : Nat} (hd : d.size ≤ s) (h : Part d s d.size) : Up d 0 d.size := fun i j _ h2 h3 => h i j h2 h3 (by rw [Nat.div_eq_of_lt (by omega), Nat.div_eq_of_lt (by omega)])
theorem mod_two {a s : Nat} (h : a % (2 * s) = 0) : a % s = 0 := by
  have h1 := Nat.dvd_of_mod_eq_zero h
  exact Nat.mod_eq_zero_of_dvd (Nat.dvd_trans (Nat.dvd_mul_left s 2) h1)
theorem mod_next {a s : Nat} (h : a % (2 * s) = 0) : (a + 2 * s) % (2 * s) = 0 := by rw [Nat.add_mod_right]; exact h

/-- What the sort has done so far. -/
def Kept (d d' : Array Wh) : Prop := Keeps d d' ∧ ∀ i, i < d.size → ∃ j, j < d.size ∧ d'[i]! = d[j]!
theorem Kept.refl (d : Array Wh) : Kept d d := ⟨Keeps.refl d, fun i h => ⟨i, h, rfl⟩⟩
theorem Kept.step {d d1 d2 : Array Wh} {a b : Nat} (h : Kept d d1) (M : Merged d1 d2 a b) (hb : b ≤ d.size) : Kept d d2 := by
  refine ⟨h.1.trans M.keeps, fun i hi => ?_⟩
  by_cases hab : a ≤ i ∧ i < b
  · obtain ⟨j, j1, j2, e⟩ := M.inn i hab.1 hab.2
    obtain ⟨k, k1, k2⟩ := h.2 j (by omega)
    exact ⟨k, k1, by rw [e, k2]⟩
  · obtain ⟨k, k1, k2⟩ := h.2 i hi
    exact ⟨k, k1, by rw [M.out i (by omega), k2]⟩
theorem Kept.merged {d d' : Array Wh} (h : Kept d d') (u : Up d' 0 d.size) : Merged d d' 0 d.size := by
  refine ⟨h.1, u, fun i hi => ?_, fun i _ hi => ?_⟩
  · have hs := h.1.1
    rw [getElem!_neg d' i (by omega), getElem!_neg d i (by omega)]
  · obtain ⟨j, j1, j2⟩ := h.2 i hi
    exact ⟨j, Nat.zero_le _, j1, j2⟩

set_option maxHeartbeats 4000000 in
theorem stable_all (blk cap : Nat) (d : Array Wh) (w : World) (R : RowK enc 9 w blk 0 d) (hn : d.size ≤ 1000) :
    Calls Try.prog 124 #[rowV blk 0 d.size cap, .int .i64 d.size, byV] w fun e w' => e = .returned (.tuple #[]) ∧ ∃ d', Merged d d' 0 d.size ∧ SWK enc 9 w blk 0 d' w' := by
  have INS : Aside (∀ (a b : Nat) (d1 : Array Wh) (w1 : World), d1.size = d.size → SWK enc 9 w blk 0 d1 w1 → a ≤ b → b ≤ d.size →
      Calls Try.prog 126 #[rowV blk 0 d.size cap, .int .i64 a, .int .i64 b, byV] w1 fun e w' => e = .returned (.tuple #[]) ∧ ∃ d', Merged d1 d' a b ∧ SWK enc 9 w blk 0 d' w') := fun a b d1 w1 hd S hab hb => by
    have h := insertion_any blk 0 cap a b d d1 w w1 R hd.symm S hab (by omega) (by omega)
    rw [hd] at h
    exact h
  have MRG : Aside (∀ (a m b : Nat) (d1 : Array Wh) (w1 : World), d1.size = d.size → SWK enc 9 w blk 0 d1 w1 → a < m → m < b → b ≤ d.size → Up d1 a m → Up d1 m b →
      Calls Try.prog 127 #[rowV blk 0 d.size cap, .int .i64 a, .int .i64 m, .int .i64 b, byV] w1 fun e w' => e = .returned (.tuple #[]) ∧ ∃ d', Merged d1 d' a b ∧ SWK enc 9 w blk 0 d' w') := fun a m b d1 w1 hd S ham hmb hb U1 U2 => by
    have h := symMerge_any 9 size_of_circle blk 0 cap d w R (by omega) (b - a) a m b d1 w1 (Nat.le_refl _) hd.symm S ham hmb (by omega) U1 U2
    unfold MergeSaid at h
    rw [hd] at h
    exact h
  have S0 : Aside (SWK enc 9 w blk 0 d w) := SWK.start R.hH
  clear R
  go_enter Try.func124, Try.ntmps124
  go_wp2
  go_loopg [7, 8] d.size (fun kx s7 s8 wr => ∃ (a : Nat) (d1 : Array Wh), s7 = .int .i64 a ∧ s8 = .int .i64 ((a + 20 : Nat) : Int) ∧ a ≤ d.size ∧ a % 20 = 0 ∧ d.size - a ≤ kx ∧ d1.size = d.size ∧ Aside (SWK enc 9 w blk 0 d1 wr) ∧ Aside (Kept d d1 ∧ Part d1 20 a))
  case atStart => exact ⟨0, d, rfl, rfl, Nat.zero_le _, rfl, by omega, rfl, S0, (show _ ∧ _ from ⟨Kept.refl d, Part.none d 20⟩)⟩
  case round =>
    clear S0
    obtain ⟨a, d1, rfl, rfl, ha, hm, hkx, hds, S1, H1⟩ := hrel
    by_cases hle : a + 20 ≤ d.size
    · have hz : ((a + 20 : Nat) : Int) ≤ (d.size : Int) := by omega
      have q1 : IntKind.i64.wrap (((a + 20 : Nat) : Int) + 20) = ((a + 20 + 20 : Nat) : Int) := by rw [IntKind.wrap_i64]; omega
      have hc := Lib.hid (INS.out a (a + 20) d1 wr hds S1.out (by omega) hle)
      clear S1
      go_wp2_with fail
      refine hc.out.mono ?_; rintro e w2 ⟨rfl, d2, M, S2⟩
      have hz2 : d2.size = d.size := M.keeps.1.trans hds
      have S3 : Aside (SWK enc 9 w blk 0 d2 w2) := S2
      have H3 : Aside (Kept d d2 ∧ Part d2 20 (a + 20)) := (show _ ∧ _ from ⟨H1.out.1.step M hle, Part.step hm H1.out.2 M⟩)
      clear M S2 H1 hc
      go_wp2
      go_roundg (d.size - (a + 20))
      case measure => omega
      case rel => exact ⟨a + 20, d2, rfl, by go_num, hle, by omega, Nat.le_refl _, hz2, S3, H3⟩
    · have hz : ¬ ((a + 20 : Nat) : Int) ≤ (d.size : Int) := by omega
      have hc := Lib.hid (INS.out a d.size d1 wr hds S1.out ha (Nat.le_refl _))
      clear S1
      go_wp2_with fail
      refine hc.out.mono ?_; rintro e w2 ⟨rfl, d2, M, S2⟩
      have hz2 : d2.size = d.size := M.keeps.1.trans hds
      have S3 : Aside (SWK enc 9 w blk 0 d2 w2) := S2
      have H3 : Aside (Kept d d2 ∧ Part d2 20 d.size) := (show _ ∧ _ from ⟨H1.out.1.step M (Nat.le_refl _), Part.step hm H1.out.2 M⟩)
      clear M S2 H1 hc hz hle hkx hm ha hds
      go_wp2
      go_loopg [6, 7, 8, 9] (1024 - 20) (fun kx s6 _ _ _ wr => ∃ (s : Nat) (d3 : Array Wh), s6 = .int .i64 s ∧ 20 ≤ s ∧ s ≤ 2000 ∧ 1024 - s ≤ kx ∧ d3.size = d.size ∧ Aside (SWK enc 9 w blk 0 d3 wr) ∧ Aside (Kept d d3 ∧ Part d3 s d.size))
      case atStart => exact ⟨20, d2, rfl, Nat.le_refl _, by omega, Nat.le_refl _, hz2, S3, H3⟩
      case round =>
        clear S3 H3 hz2
        obtain ⟨s, d3, rfl, hs1, hs2, hkx, hds, S1, H1⟩ := hrel
        by_cases hlt : s < d.size
        · have hz : (s : Int) < (d.size : Int) := by omega
          have q1 : IntKind.i64.wrap (2 * (s : Int)) = ((2 * s : Nat) : Int) := by rw [IntKind.wrap_i64]; omega
          have q1b : IntKind.i64.wrap ((s : Int) * 2) = ((2 * s : Nat) : Int) := by rw [IntKind.wrap_i64]; omega
          go_wp2
          go_loopg [7, 8] d.size (fun kx s7 s8 wr => ∃ (a : Nat) (d4 : Array Wh), s7 = .int .i64 a ∧ s8 = .int .i64 ((a + 2 * s : Nat) : Int) ∧ a ≤ d.size ∧ d.size - a ≤ kx ∧ d4.size = d.size ∧ Aside (SWK enc 9 w blk 0 d4 wr) ∧ Aside (Kept d d4 ∧ Part d4 (2 * s) a ∧ Tail d4 s a ∧ a % (2 * s) = 0))
          case atStart => exact ⟨0, d3, rfl, by go_num, Nat.zero_le _, by omega, hds, S1, (show _ ∧ _ ∧ _ ∧ _ from ⟨H1.out.1, Part.none _ _, Part.tail (by rw [hds]; exact H1.out.2), Nat.zero_mod _⟩)⟩
          case round =>
            clear S1 H1
            obtain ⟨a, d4, rfl, rfl, ha, hkx2, hd4, S1, H1⟩ := hrel
            have q2 : IntKind.i64.wrap ((a : Int) + (s : Int)) = ((a + s : Nat) : Int) := by rw [IntKind.wrap_i64]; omega
            by_cases hle : a + 2 * s ≤ d.size
            · have hz2 : ((a + 2 * s : Nat) : Int) ≤ (d.size : Int) := by omega
              have q3 : IntKind.i64.wrap (((a + 2 * s : Nat) : Int) + ((2 * s : Nat) : Int)) = ((a + 2 * s + 2 * s : Nat) : Int) := by rw [IntKind.wrap_i64]; omega
              have hc := Lib.hid (MRG.out a (a + s) (a + 2 * s) d4 wr hd4 S1.out (by omega) (by omega) hle (Tail.first (by omega) (mod_two H1.out.2.2.2) H1.out.2.2.1 (by omega)) (Tail.second (by omega) (mod_two H1.out.2.2.2) H1.out.2.2.1 (by omega) (by omega)))
              clear S1
              go_wp2_with fail
              refine hc.out.mono ?_; rintro e w2 ⟨rfl, d5, M, S2⟩
              have hz5 : d5.size = d.size := M.keeps.1.trans hd4
              have S3 : Aside (SWK enc 9 w blk 0 d5 w2) := S2
              have H3 : Aside (Kept d d5 ∧ Part d5 (2 * s) (a + 2 * s) ∧ Tail d5 s (a + 2 * s) ∧ (a + 2 * s) % (2 * s) = 0) := (show _ ∧ _ ∧ _ ∧ _ from ⟨H1.out.1.step M hle, Part.step H1.out.2.2.2 H1.out.2.1 M, Tail.step (by omega) H1.out.2.2.1 M, mod_next H1.out.2.2.2⟩)
              clear M S2 H1 hc
              go_wp2
              go_roundg (d.size - (a + 2 * s))
              case measure => omega
              case rel => exact ⟨a + 2 * s, d5, rfl, by go_num, hle, Nat.le_refl _, hz5, S3, H3⟩
            · have hz2 : ¬ ((a + 2 * s : Nat) : Int) ≤ (d.size : Int) := by omega
              by_cases hms : a + s < d.size
              · have hz3 : ((a + s : Nat) : Int) < (d.size : Int) := by omega
                have hc := Lib.hid (MRG.out a (a + s) d.size d4 wr hd4 S1.out (by omega) hms (Nat.le_refl _) (Tail.first (by omega) (mod_two H1.out.2.2.2) H1.out.2.2.1 (by omega)) (Tail.second (by omega) (mod_two H1.out.2.2.2) H1.out.2.2.1 (by omega) (by omega)))
                clear S1
                go_wp2_with fail
                refine hc.out.mono ?_; rintro e w2 ⟨rfl, d5, M, S2⟩
                have hz5 : d5.size = d.size := M.keeps.1.trans hd4
                have S3 : Aside (SWK enc 9 w blk 0 d5 w2) := S2
                have H3 : Aside (Kept d d5 ∧ Part d5 (2 * s) d.size) := (show _ ∧ _ from ⟨H1.out.1.step M (Nat.le_refl _), Part.step H1.out.2.2.2 H1.out.2.1 M⟩)
                clear M S2 H1 hc
                go_wp2
                go_roundg (1024 - 2 * s)
                case measure => omega
                case rel => exact ⟨2 * s, d5, by go_num, by omega, by omega, Nat.le_refl _, hz5, S3, H3⟩
              · have hz3 : ¬ ((a + s : Nat) : Int) < (d.size : Int) := by omega
                have H3 : Aside (Kept d d4 ∧ Part d4 (2 * s) d.size) := (show _ ∧ _ from ⟨H1.out.1, by
                  have := Part.last (by omega) (mod_two H1.out.2.2.2) H1.out.2.2.2 H1.out.2.1 H1.out.2.2.1 (by omega)
                  rwa [hd4] at this⟩)
                clear H1
                go_wp2
                go_roundg (1024 - 2 * s)
                case measure => omega
                case rel => exact ⟨2 * s, d4, by go_num, by omega, by omega, Nat.le_refl _, hd4, S1, H3⟩
        · have hz : ¬ (s : Int) < (d.size : Int) := by omega
          go_wp2
          go_end0
          refine ⟨rfl, d3, H1.out.1.merged ?_, S1.out⟩
          have := Part.up (d := d3) (s := s) (by omega) (by rw [hds]; exact H1.out.2)
          rwa [hds] at this

end Go.Proofs.Yteicmnoafoekcaa
