/-
  The model's folds, periods and speeds; designs turned and later.
  The model's designs turned and later, its akin designs, its turns that change nothing.
-/
import Derived.Test.YtdbokcbbpegilaaM21
import Derived.Test.YtdbokcbbpegilaaM22
import Derived.Test.YtdbokcbbpegilaaM14
/- The model's folds, periods and speeds; designs turned and later. -/
namespace Go.Proofs.Ytdbokcbbpegilaa
set_option maxRecDepth 20000
open Go.ChangeShapes Go.WideShapes Go.ChangeAt Go.RowKit
set_option linter.unusedVariables false
set_option linter.unusedSimpArgs false

theorem gcd_step (p q : Int) : Int.gcd q (p.tmod q) = Int.gcd p q := by
  unfold Int.gcd
  rw [Int.natAbs_tmod, Nat.gcd_comm p.natAbs q.natAbs, Nat.gcd_rec q.natAbs p.natAbs, Nat.gcd_comm]
theorem specGcdZ (a b : Int) (ha : -1000000 ≤ a ∧ a ≤ 1000000) (hb : -1000000 ≤ b ∧ b ≤ 1000000) (w : World) :
    Calls Try.prog 59 #[.int .i64 a, .int .i64 b] w fun e w' => e = .returned (.int .i64 ((Int.gcd a b : Nat) : Int)) ∧ w = w' := by
  go_enter Try.func59, Try.ntmps59
  go_wp2
  go_loop [0, 1, 5] (fun x y _ => ∃ p q : Int, x = .int .i64 p ∧ y = .int .i64 q ∧ (-1000000 ≤ p ∧ p ≤ 1000000) ∧ (-1000000 ≤ q ∧ q ≤ 1000000) ∧ Int.gcd p q = Int.gcd a b) (fun _ y _ => (intOf y).natAbs)
  case atStart => exact ⟨a, b, rfl, rfl, ha, hb, rfl⟩
  case round =>
    obtain ⟨p, q, rfl, rfl, hp, hq, hg⟩ := hrel
    have G := Lib.hid hg; clear hg
    by_cases h : q = 0
    · subst h
      go_wp2
      go_ret
      exact ⟨ret_int (by have := G.out; rw [Int.gcd_zero_right] at this; omega), rfl⟩
    · have hq0 : (q != 0) = true := by simpa using h
      have hq2 : (q == 0) = false := by simpa using h
      have ht : (p.tmod q).natAbs = p.natAbs % q.natAbs := Int.natAbs_tmod p q
      have hlt : p.natAbs % q.natAbs < q.natAbs := Nat.mod_lt _ (by omega)
      have w1 : IntKind.i64.wrap (p.tmod q) = p.tmod q := by rw [IntKind.wrap_i64]; omega
      have HR : Aside (-1000000 ≤ p.tmod q ∧ p.tmod q ≤ 1000000) := (show _ ∧ _ from by omega)
      have HM : Aside ((p.tmod q).natAbs < q.natAbs) := (show _ < _ from by omega)
      clear ht hlt
      go_wp2
      go_round
      case rel => exact ⟨q, p.tmod q, rfl, rfl, hq, HR.out, by rw [gcd_step, G.out]⟩
      case measure => have := HM.out; simp only [intOf]; omega

theorem specTidyOf_any (v : Value) (ws : List Wh) (w : World) (hv : Reads w v ws) : Calls Try.prog 58 #[v] w (Told w (tid ws)) := specDesignTidy_any v ws w hv

set_option maxHeartbeats 1000000 in
theorem specDesignSpeeds_any (v : Value) (ws : List Wh) (w : World) (hv : Reads w v ws) : Calls Try.prog 30 #[v] w (ToldI w (spO ws)) := by
  have T := specTidyOf_any v ws w hv
  clear hv
  unfold spO
  cases hx : tid ws with
  | none =>
    rw [hx] at T
    have T := Lib.hid T
    clear hx
    go_enter Try.func30, Try.ntmps30
    go_wp2_with fail
    refine T.out.mono ?_; rintro e w1 ⟨hb1, v1, rfl, ho1⟩
    rw [got_none] at ho1
    obtain ⟨p, cap, rfl, -⟩ := own_reads ho1
    have HO : Aside (OwnL encI 1 (w1.alloc (.cells #[] 3)) w.heap.size 3 (.slice (some ⟨w1.heap.size, 0, none⟩) 0 0) []) := (show OwnL _ _ _ _ _ _ _ from World.ownsRow_made w1 #[] 0 hb1.size (by simp [maxLen]) (by simp))
    have HB := Lib.hid (hb1.alloc hb1.size (.cells #[] 3))
    clear T hb1 ho1
    go_wp2
    refine wp_loop_rounds 1 ?_
    rw [rounds_succ]
    go_wp2
    go_ret2
    exact ⟨HB.out, _, rfl, HO.out⟩
  | some R =>
    rw [hx] at T
    have HN := Lib.hid (valid_len (tid_in hx).2.1.ok)
    have T := Lib.hid T
    clear hx
    go_enter Try.func30, Try.ntmps30
    go_wp2_with fail
    refine T.out.mono ?_; rintro e w1 ⟨hb1, v1, rfl, ho1⟩
    rw [got_some] at ho1
    obtain ⟨p, cap, rfl, hc1, hc2, hp0, hp⟩ := own_reads ho1
    have hn := HN.out
    have hm : R.length ≤ maxLen := by omega
    simp only [maxLen] at hm hc2
    have HP := Lib.hid hp
    have HB1 := Lib.hid hb1
    clear T hb1 ho1 hp
    go_wp2
    go_loopw [6, 7] (fun v' i wr => ∃ k : Nat, k ≤ R.length ∧ i = .int .i64 k ∧ OwnL encI 1 wr w1.heap.size 3 v' (spL (R.take k)) ∧ Below w1.heap.size w1 wr ∧ w1.heap.size ≤ wr.heap.size) (fun _ i _ => R.length - (intOf i).toNat)
    case atStart => exact ⟨0, Nat.zero_le _, rfl, (show OwnL _ _ _ _ _ _ _ from World.ownsRow_made w1 #[] 0 (Nat.le_refl _) (by simp [maxLen]) (by simp)), (Below.refl _ w1).alloc (Nat.le_refl _) _, by simp⟩
    case round =>
      obtain ⟨k, hk, rfl, hO, hbel, hB⟩ := hrel
      by_cases hlt : k < R.length
      · have hkz : (k : Int) < (R.length : Int) := by omega
        have hk0 : (0 : Int) ≤ (k : Int) := by omega
        obtain ⟨c, hc⟩ : ∃ c, R[k]? = some c := ⟨_, List.getElem?_eq_getElem hlt⟩
        obtain ⟨g, o, rfl, hg, hr⟩ := HP.out (by rintro rfl; have := hp0 rfl; omega)
        have c0 := range_speed (range_part (range_below hr hg hbel) hc)
        have HO := Lib.hid hO
        have HL := Lib.hid hbel
        have HB := Lib.hid hB
        have HC := Lib.hid hc
        have hsl : (spL (R.take k)).length ≤ 12 := by rw [spL_len, List.length_take]; omega
        clear hr hO hbel hB hc hg
        go_wp2_with (at_builtin; refine appendL tyI encI_ok rfl rfl rfl rfl (xs := spL (R.take k)) (World.ownsRow.alloc HO.out _) (lit1 _ _ _) (by simp; omega) (HL.out.alloc HB.out _) (by simp; have := HB.out; omega) ?_; intro v2 w4 ho4 hb4 hB4 hgr4)
        go_roundw
        case rel => exact ⟨k + 1, by omega, by go_num, by rw [spL_next HC.out]; exact ho4, hb4, hB4⟩
        case measure => simp [intOf]; omega
      · obtain rfl : k = R.length := by omega
        have HO := Lib.hid hO
        have HL := Lib.hid hbel
        clear hO hbel hB
        go_wp2
        go_ret2
        have ho := HO.out
        rw [List.take_length] at ho
        exact ⟨below_next HB1.out HL.out, _, rfl, rows_mono ho HB1.out.size⟩

theorem headC {R : List Wh} (h : 0 < R.length) : ∃ c, R[0]? = some c ∧ c.s = headS R := by
  cases R with
  | nil => simp at h
  | cons c R => exact ⟨c, rfl, rfl⟩
theorem gcdL_first (R : List Wh) : gcdL (gapW (headS R)) (R.take 1) = 0 := by
  cases R with
  | nil => rfl
  | cons c R =>
    show Nat.gcd 0 (gapW c.s c) = 0
    simp [gapW]

set_option maxHeartbeats 1000000 in
theorem specDesignFold_any (v : Value) (ws : List Wh) (w : World) (hv : Reads w v ws) : Calls Try.prog 19 #[v] w fun e w' => e = .returned (.int .i64 (foldO ws)) ∧ Below w.heap.size w w' := by
  have T := specTidyOf_any v ws w hv
  clear hv
  unfold foldO
  cases hx : tid ws with
  | none =>
    rw [hx] at T
    have T := Lib.hid T
    clear hx
    go_enter Try.func19, Try.ntmps19
    go_wp2_with fail
    refine T.out.mono ?_; rintro e w1 ⟨hb1, v1, rfl, -⟩
    have HB := Lib.hid hb1
    clear T hb1
    go_wp2
    go_ret
    exact ⟨rfl, HB.out⟩
  | some R =>
    rw [hx] at T
    have hT := (tid_in hx).2.1
    have HN := Lib.hid (valid_len hT.ok)
    have HT := Lib.hid hT
    have T := Lib.hid T
    clear hx hT
    go_enter Try.func19, Try.ntmps19
    go_wp2_with fail
    refine T.out.mono ?_; rintro e w1 ⟨hb1, v1, rfl, ho1⟩
    rw [got_some] at ho1
    obtain ⟨p, cap, rfl, hc1, hc2, hp0, hp⟩ := own_reads ho1
    have hn := HN.out
    simp only [maxLen] at hc2
    have HP := Lib.hid hp
    have HB1 := Lib.hid hb1
    clear T hb1 ho1 hp
    go_wp2_with fail
    go_loopw [5, 6] (fun f i wr => ∃ (k m : Nat), 1 ≤ k ∧ (k ≤ R.length ∨ k = 1) ∧ i = .int .i64 k ∧ f = .int .i64 (gcdL (gapW (headS R)) (R.take k)) ∧ wr = w1.drewN m) (fun _ i _ => R.length + 1 - (intOf i).toNat)
    case atStart => exact ⟨1, 0, Nat.le_refl _, .inr rfl, rfl, by rw [gcdL_first]; rfl, rfl⟩
    case round =>
      obtain ⟨k, m, hk1, hk, rfl, rfl, rfl⟩ := hrel
      by_cases hlt : k < R.length
      · have hkz : (k : Int) < (R.length : Int) := by omega
        have hkz2 : (0 : Int) < (R.length : Int) := by omega
        have hkz3 : 0 < R.length := by omega
        have hkz4 : R ≠ [] := by rintro rfl; simp at hkz3
        have hk0 : (0 : Int) ≤ (k : Int) := by omega
        obtain ⟨c, hc⟩ : ∃ c, R[k]? = some c := ⟨_, List.getElem?_eq_getElem hlt⟩
        obtain ⟨g, o, rfl, hg, hr⟩ := HP.out (by rintro rfl; have := hp0 rfl; omega)
        have hcm := List.mem_of_getElem? hc
        obtain ⟨d, hd, hds⟩ := headC (R := R) (by omega)
        have hdm := List.mem_of_getElem? hd
        have hle := headS_least HT.out.asc hcm
        have c1 := range_speed (range_part hr hc)
        have c2 := range_speed (range_part hr hd)
        rw [hds] at c2
        rw [Nat.zero_mul, Nat.add_zero] at c2
        have b1 := tidy_speed HT.out hcm
        have b2 := tidy_speed HT.out hdm
        rw [hds] at b2
        have hf : ((gapW (headS R) c : Nat) : Int) = c.s - headS R := by unfold gapW; omega
        have hq1 := fold_most HT.out hdm k
        rw [hds] at hq1
        have G : ∀ w, Calls Try.prog 59 #[.int .i64 ((gcdL (gapW (headS R)) (R.take k) : Nat) : Int), .int .i64 (c.s - headS R)] w fun e w' => e = .returned (.int .i64 ((gcdL (gapW (headS R)) (R.take (k + 1)) : Nat) : Int)) ∧ w = w' := fun w => by
          have := specGcdZ ((gcdL (gapW (headS R)) (R.take k) : Nat) : Int) (c.s - headS R) (by omega) (by omega) w
          rw [gcdL_next (gapW (headS R)) hc]
          rw [← hf] at this ⊢
          exact this
        have w5 : IntKind.i64.wrap (c.s - headS R) = c.s - headS R := by rw [IntKind.wrap_i64]; omega
        clear hc hr hg hcm hdm hds hle hf hd hq1
        obtain ⟨a', ha'⟩ : ∃ a', gcdL (gapW (headS R)) (R.take (k + 1)) = a' := ⟨_, rfl⟩
        rw [ha'] at G
        have HA := Lib.hid ha'
        clear ha'
        generalize gcdL (gapW (headS R)) (R.take k) = a at *
        obtain ⟨s0, hs0⟩ : ∃ s0, headS R = s0 := ⟨_, rfl⟩
        rw [hs0] at G c2 w5 b2
        clear hs0
        go_wp2_with fail
        go_quiet (first | (go_at_call 59; exact calm ⟨_, rfl⟩ (G _)) | (go_at_call 59; exact calm2 (G _)))
        clear G c1 c2
        go_wp2_with fail
        go_roundw
        case rel => exact ⟨k + 1, _, by omega, .inl (by omega), by go_num, by rw [HA.out], rfl⟩
        case measure => simp [intOf]; omega
      · have hkz : ¬ (k : Int) < (R.length : Int) := by omega
        rw [List.take_of_length_le (by omega), ← foldW_head]
        go_wp2
        go_ret
        exact ⟨rfl, below_drewN HB1.out m⟩

set_option maxHeartbeats 1000000 in
theorem specDesignPeriod_any (v : Value) (ws : List Wh) (w : World) (hv : Reads w v ws) : Calls Try.prog 26 #[v] w fun e w' => e = .returned (.int .i64 (perO ws)) ∧ Below w.heap.size w w' := by
  have T := specTidyOf_any v ws w hv
  clear hv
  unfold perO
  cases hx : tid ws with
  | none =>
    rw [hx] at T
    have T := Lib.hid T
    clear hx
    go_enter Try.func26, Try.ntmps26
    go_wp2_with fail
    refine T.out.mono ?_; rintro e w1 ⟨hb1, v1, rfl, -⟩
    have HB := Lib.hid hb1
    clear T hb1
    go_wp2
    go_ret
    exact ⟨rfl, HB.out⟩
  | some R =>
    rw [hx] at T
    have hT := (tid_in hx).2.1
    have HN := Lib.hid (valid_len hT.ok)
    have HT := Lib.hid hT
    have T := Lib.hid T
    clear hx hT
    go_enter Try.func26, Try.ntmps26
    go_wp2_with fail
    refine T.out.mono ?_; rintro e w1 ⟨hb1, v1, rfl, ho1⟩
    rw [got_some] at ho1
    obtain ⟨p, cap, rfl, hc1, hc2, hp0, hp⟩ := own_reads ho1
    have hn := HN.out
    simp only [maxLen] at hc2
    have HP := Lib.hid hp
    have HB1 := Lib.hid hb1
    clear T hb1 ho1 hp
    go_wp2_with fail
    go_loop [5, 6] (fun f i => ∃ (k : Nat), k ≤ R.length ∧ i = .int .i64 k ∧ f = .int .i64 (gcdL (fun c => c.s.natAbs) (R.take k))) (fun _ i => R.length - (intOf i).toNat)
    case atStart => exact ⟨0, Nat.zero_le _, rfl, rfl⟩
    case round =>
      obtain ⟨k, hk, rfl, rfl⟩ := hrel
      by_cases hlt : k < R.length
      · have hkz : (k : Int) < (R.length : Int) := by omega
        have hk0 : (0 : Int) ≤ (k : Int) := by omega
        obtain ⟨c, hc⟩ : ∃ c, R[k]? = some c := ⟨_, List.getElem?_eq_getElem hlt⟩
        obtain ⟨g, o, rfl, hg, hr⟩ := HP.out (by rintro rfl; have := hp0 rfl; omega)
        have hcm := List.mem_of_getElem? hc
        have c1 := range_speed (range_part hr hc)
        have b1 := tidy_speed HT.out hcm
        have hq1 := per_most HT.out k
        have G : ∀ w, Calls Try.prog 59 #[.int .i64 ((gcdL (fun c => c.s.natAbs) (R.take k) : Nat) : Int), .int .i64 c.s] w fun e w' => e = .returned (.int .i64 ((gcdL (fun c => c.s.natAbs) (R.take (k + 1)) : Nat) : Int)) ∧ w = w' := fun w => by
          have := specGcdZ ((gcdL (fun c => c.s.natAbs) (R.take k) : Nat) : Int) c.s (by omega) (by omega) w
          rw [gcdL_next (fun c => c.s.natAbs) hc]
          exact this
        clear hc hr hg hcm hq1
        generalize gcdL (fun c => c.s.natAbs) (R.take k) = a at *
        obtain ⟨a', ha'⟩ : ∃ a', gcdL (fun c => c.s.natAbs) (R.take (k + 1)) = a' := ⟨_, rfl⟩
        rw [ha'] at G
        have HA := Lib.hid ha'
        clear ha'
        go_wp2_with fail
        refine (G _).mono ?_; rintro e w2 ⟨rfl, rfl⟩
        clear G c1
        go_wp2_with fail
        go_round
        case rel => exact ⟨k + 1, by omega, by go_num, by rw [HA.out]⟩
        case measure => simp [intOf]; omega
      · obtain rfl : k = R.length := by omega
        rw [List.take_length]
        go_wp2
        go_ret
        exact ⟨rfl, HB1.out⟩

end Go.Proofs.Ytdbokcbbpegilaa
/- The model's designs turned and later, its akin designs, its turns that change nothing. -/
namespace Go.Proofs.Ytdbokcbbpegilaa
set_option maxRecDepth 20000
open Go.ChangeShapes Go.WideShapes Go.ChangeAt Go.RowKit
set_option linter.unusedVariables false
set_option linter.unusedSimpArgs false

/-- Turned by t, and later by u. -/
def tlW (t u : Int) (c : Wh) : Wh := ⟨c.s, tV ((t + u * c.s) % 24).toNat c.r⟩
theorem tlW_turn {t : Nat} (ht : t ≤ 23) : tlW t 0 = turnW t := funext fun c => by
  unfold tlW turnW
  rw [Int.zero_mul, Int.add_zero]
  congr 2
  omega
theorem tlW_later (u : Int) : tlW 0 u = laterW u := funext fun c => by
  unfold tlW laterW tm
  rw [Int.zero_add]
theorem tlW_big {t u : Int} {ws : List Wh} (hv : valid ws = true) : ∀ c ∈ ws.map (tlW t u), Big c.r 4000000 := fun c hc => by
  obtain ⟨d, hd, rfl⟩ := List.mem_map.1 hc
  exact big_tV (valid_ok hv d hd).2 (show ((t + u * d.s) % 24).toNat ≤ 23 by omega)

set_option maxHeartbeats 4000000 in
theorem l5EachT_any (v : Value) (ws : List Wh) (t u : Int) (w : World) (hv : Reads w v ws) (ht : 0 ≤ t ∧ t ≤ 23) (hu : 0 ≤ u ∧ u ≤ 23) :
    Calls Try.prog 113 #[v, .int .i64 1, .int .i64 t, .int .i64 u, .bool false] w (Told w (sOf (tlW t u) ws)) := by
  have C := specDesignValid_any v ws w hv
  obtain ⟨p, cap, rfl, hc1, hc2, hp0, hp⟩ := hv
  simp only [maxLen] at hc2
  cases hvd : valid ws
  · rw [hvd] at C
    have HF : Aside (sOf (tlW t u) ws = none) := (show _ = _ from by unfold sOf; rw [hvd]; rfl)
    have C := Lib.hid C
    clear hvd hp
    go_enter Try.func113, Try.ntmps113
    go_wp2_with fail
    refine C.out.mono ?_; rintro e w2 ⟨rfl, hb2⟩
    have HQ : Aside (Told w none (.returned (.tuple #[.slice (some ⟨w2.heap.size, 0, none⟩) 0 0, .bool false])) (w2.alloc (.cells #[] 43))) := ⟨hb2.alloc hb2.size _, _, rfl, own_lit w2 w.heap.size 43 hb2.size⟩
    clear C hb2
    go_wp2
    go_ret2
    rw [HF.out]
    exact HQ.out
  · rw [hvd] at C
    have IS := fun w => is_yes t ht.1 ht.2 w
    have IS2 := fun w => is_yes u hu.1 hu.2 w
    have HV := Lib.hid hvd
    have HP := Lib.hid hp
    have C := Lib.hid C
    have HR : Aside (sOf (tlW t u) ws = tidy true (ws.map (tlW t u))) := (show _ = _ from by
      unfold sOf
      rw [hvd, if_pos rfl])
    have HLN : Aside (ws.length ≤ 12) := (show ws.length ≤ 12 from valid_len hvd)
    clear hvd hp
    go_enter Try.func113, Try.ntmps113
    go_wp2_with fail
    refine C.out.mono ?_; rintro e w2 ⟨rfl, hb2⟩
    have HB2 := Lib.hid hb2
    clear C hb2
    go_wp2_with fail
    refine (IS _).mono ?_; rintro e w3 ⟨rfl, rfl⟩
    go_wp2_with fail
    refine (IS2 _).mono ?_; rintro e w3 ⟨rfl, rfl⟩
    clear IS IS2
    go_wp2
    go_loopw [12, 13] (fun s12 i wr => ∃ k : Nat, k ≤ ws.length ∧ i = .int .i64 k ∧ Own wr w.heap.size 43 s12 ((ws.take k).map (tlW t u)) ∧ Below w.heap.size w wr ∧ w.heap.size ≤ wr.heap.size) (fun _ i _ => ws.length - (intOf i).toNat)
    case atStart => exact ⟨0, Nat.zero_le _, rfl, own_lit w2 w.heap.size 43 HB2.out.size, HB2.out.alloc HB2.out.size _, by simp; have := HB2.out.size; omega⟩
    case round =>
      obtain ⟨k, hk, rfl, hO, hbel, hB⟩ := hrel
      by_cases hlt : k < ws.length
      · have hkz : (k : Int) < (ws.length : Int) := by omega
        have hk0 : (0 : Int) ≤ (k : Int) := by omega
        obtain ⟨c, hc⟩ : ∃ c, ws[k]? = some c := ⟨_, List.getElem?_eq_getElem hlt⟩
        obtain ⟨g, o, rfl, hg, hr⟩ := HP.out (by rintro rfl; have := hp0 rfl; omega)
        have hcv := valid_ok HV.out c (List.mem_of_getElem? hc)
        have sb := inS_bound hcv.1
        have q0 : IntKind.i64.wrap c.s = c.s := by rw [IntKind.wrap_i64]; omega
        have hm0 := mul_in2 (x := u) (y := c.s) 23 1000 (by omega) (by omega)
        obtain ⟨m1, hm1⟩ : ∃ m1 : Int, u * c.s = m1 := ⟨_, rfl⟩
        rw [hm1] at hm0
        obtain ⟨m2, hm2⟩ : ∃ m2 : Int, t + m1 = m2 := ⟨_, rfl⟩
        have q1 : IntKind.i64.wrap m1 = m1 := by rw [IntKind.wrap_i64]; omega
        have q2 : IntKind.i64.wrap m2 = m2 := by rw [IntKind.wrap_i64]; omega
        obtain ⟨tt, htt⟩ : ∃ tt : Nat, m2 % 24 = (tt : Int) := ⟨(m2 % 24).toNat, by omega⟩
        have ht2 : tt ≤ 23 := by omega
        have HTL : Aside (tlW t u c = ⟨c.s, tV tt c.r⟩) := (show _ = _ from by
          unfold tlW
          rw [hm1, hm2, htt]; rfl)
        have M : ∀ w, Calls Try.prog 87 #[.int .i64 m2] w fun e w' => e = .returned (.int .i64 tt) ∧ w = w' := fun w => by
          have := mod_any m2 (by omega) (by omega) w
          rwa [htt] at this
        have HE0 : Aside (w.rangeAt g (o + k * 9) (enc c)) := range_part hr hc
        have HG : Aside (g < w.heap.size) := hg
        have HE : Aside (wr.rangeAt g (o + k * 9) (enc c)) := range_kept HE0.out hg hbel
        have HO : Aside (Own (wr.alloc (.cells (vec 8 c.r.up) 41)) w.heap.size 43 u12 ((ws.take k).map (tlW t u))) := (show World.ownsRow _ _ _ _ _ _ _ from World.ownsRow.alloc hO _)
        have HNB : Aside (some wr.heap.size ≠ u12.ownBlock) := own_not hO (Nat.le_refl _)
        have HL : Aside (Below w.heap.size w (wr.alloc (.cells (vec 8 c.r.up) 41))) := hbel.alloc hB _
        have HX : Aside (RowAt (wr.alloc (.cells (vec 8 c.r.up) 41)) wr.heap.size 8 41 c.r.up) := RowAt.new wr 8 _ _
        have HC := Lib.hid hc
        have HB : Aside (w.heap.size ≤ wr.heap.size) := hB
        have T : ∀ w, Calls Try.prog 88 #[pt c.r.up, .int .i64 tt] w fun e w' => e = .returned (pt (tV tt c.r).up) ∧ Below w.heap.size w w' := fun w => by
          have := specTurned_any c.r.up tt ht2 (inR_bound hcv.2) w
          rwa [pt_tV c.r ht2] at this
        clear htt
        clear hr hc hO hbel hB hcv hg
        go_upto_region 10 with (first | (refine load_part (T := 41) rfl rfl rfl (range_radius HE.out) Try.underlying41 rfl info_cyc ?_; clear HE) | (refine store_new (ty := 41) rfl rfl rfl rfl zero8 info_cyc ?_))
        show Code.wp _ _ _ _ (wr.alloc (.cells (vec 8 c.r.up) 41))
        generalize wr.alloc (.cells (vec 8 c.r.up) 41) = W at *
        generalize wr.heap.size = bx at *
        refine wp_region_held_drew (S := fun w' => Below w.heap.size w w' ∧ RowAt w' bx 8 41 c.r.up) (by kernel_rfl) ⟨HL.out.drew, HX.out⟩ (fun hHeld => ?_)
        refine wpAnyH_take (i := 0) (oi := _) (v := u12) rfl (by kernel_rfl) (by kernel_rfl) (by kernel_rfl) (fun _ _ _ h => h) (Or.inl ⟨by rfl, fun w h => by go_simp⟩) hHeld ?_
        try simp only [Act.put, List.setIfInBounds_toArray, List.set_cons_zero, List.set_cons_succ, List.getElem_toArray, List.getElem_cons_succ, List.getElem_cons_zero]
        refine wpAnyH_take (i := 1) (oi := _) (v := .int .i64 1) rfl (by kernel_rfl) (by kernel_rfl) (by kernel_rfl) (fun _ _ _ h => h) (Or.inl ⟨by rfl, fun w h => by go_simp⟩) hHeld ?_
        try simp only [Act.put, List.setIfInBounds_toArray, List.set_cons_zero, List.set_cons_succ, List.getElem_toArray, List.getElem_cons_succ, List.getElem_cons_zero]
        refine wpAnyH_take (i := 2) (oi := _) (v := .slice (some ⟨g, o, none⟩) ws.length cap) rfl (by kernel_rfl) (by kernel_rfl) (by kernel_rfl) (fun _ _ _ h => h) (Or.inl ⟨by rfl, fun w h => by go_simp⟩) hHeld ?_
        try simp only [Act.put, List.setIfInBounds_toArray, List.set_cons_zero, List.set_cons_succ, List.getElem_toArray, List.getElem_cons_succ, List.getElem_cons_zero]
        refine wpAnyH_take (i := 3) (oi := _) (v := .int .i64 k) rfl (by kernel_rfl) (by kernel_rfl) (by kernel_rfl) (fun _ _ _ h => h) (Or.inl ⟨by rfl, fun w h => by go_simp⟩) hHeld ?_
        try simp only [Act.put, List.setIfInBounds_toArray, List.set_cons_zero, List.set_cons_succ, List.getElem_toArray, List.getElem_cons_succ, List.getElem_cons_zero]
        refine wpAnyH_take (i := 4) (oi := _) (v := .pointer (some ⟨g, o + k * 9, none⟩)) rfl (by kernel_rfl) (by kernel_rfl) (by kernel_rfl) (fun _ _ _ h => h) (Or.inl ⟨by rfl, fun w h => by go_simp⟩) hHeld ?_
        try simp only [Act.put, List.setIfInBounds_toArray, List.set_cons_zero, List.set_cons_succ, List.getElem_toArray, List.getElem_cons_succ, List.getElem_cons_zero]
        refine wpAnyH_take (i := 5) (oi := _) (v := .pointer (some ⟨g, o + k * 9, none⟩)) rfl (by kernel_rfl) (by kernel_rfl) (by kernel_rfl) (fun _ _ _ h => h) (Or.inl ⟨by rfl, fun w h => by go_simp⟩) hHeld ?_
        try simp only [Act.put, List.setIfInBounds_toArray, List.set_cons_zero, List.set_cons_succ, List.getElem_toArray, List.getElem_cons_succ, List.getElem_cons_zero]
        refine wpAnyH_take (i := 6) (oi := _) (v := .int .i64 c.s) rfl (by kernel_rfl) (by kernel_rfl) (by kernel_rfl) (fun _ _ _ h => h) (Or.inl ⟨by rfl, fun w h => by have hcell := (range_speed (range_kept HE0.out HG.out h.1)); go_simp⟩) hHeld ?_
        try simp only [Act.put, List.setIfInBounds_toArray, List.set_cons_zero, List.set_cons_succ, List.getElem_toArray, List.getElem_cons_succ, List.getElem_cons_zero]
        refine wpAnyH_take (i := 7) (oi := _) (v := .int .i64 c.s) rfl (by kernel_rfl) (by kernel_rfl) (by kernel_rfl) (fun _ _ _ h => h) (Or.inl ⟨by rfl, fun w h => by go_simp⟩) hHeld ?_
        try simp only [Act.put, List.setIfInBounds_toArray, List.set_cons_zero, List.set_cons_succ, List.getElem_toArray, List.getElem_cons_succ, List.getElem_cons_zero]
        refine wpAnyH_take (i := 8) (oi := _) (v := .agg (vec 8 c.r.up)) rfl (by kernel_rfl) (by kernel_rfl) (by kernel_rfl) (fun _ _ _ h => h) (yieldsIf_load_mid (by rfl) _ _ rfl _ _ rfl _ _ ((fun w h => h.2.range)) Try.underlying41 rfl (size_cyc8 _)) hHeld ?_
        try simp only [Act.put, List.setIfInBounds_toArray, List.set_cons_zero, List.set_cons_succ, List.getElem_toArray, List.getElem_cons_succ, List.getElem_cons_zero]
        refine wpAnyH_take (i := 9) (oi := _) (v := .int .i64 t) rfl (by kernel_rfl) (by kernel_rfl) (by kernel_rfl) (fun _ _ _ h => h) (Or.inl ⟨by rfl, fun w h => by go_simp⟩) hHeld ?_
        try simp only [Act.put, List.setIfInBounds_toArray, List.set_cons_zero, List.set_cons_succ, List.getElem_toArray, List.getElem_cons_succ, List.getElem_cons_zero]
        refine wpAnyH_take (i := 10) (oi := _) (v := .int .i64 u) rfl (by kernel_rfl) (by kernel_rfl) (by kernel_rfl) (fun _ _ _ h => h) (Or.inl ⟨by rfl, fun w h => by go_simp⟩) hHeld ?_
        try simp only [Act.put, List.setIfInBounds_toArray, List.set_cons_zero, List.set_cons_succ, List.getElem_toArray, List.getElem_cons_succ, List.getElem_cons_zero]
        refine wpAnyH_take (i := 11) (oi := _) (v := .slice (some ⟨g, o, none⟩) ws.length cap) rfl (by kernel_rfl) (by kernel_rfl) (by kernel_rfl) (fun _ _ _ h => h) (Or.inl ⟨by rfl, fun w h => by go_simp⟩) hHeld ?_
        try simp only [Act.put, List.setIfInBounds_toArray, List.set_cons_zero, List.set_cons_succ, List.getElem_toArray, List.getElem_cons_succ, List.getElem_cons_zero]
        refine wpAnyH_take (i := 12) (oi := _) (v := .int .i64 k) rfl (by kernel_rfl) (by kernel_rfl) (by kernel_rfl) (fun _ _ _ h => h) (Or.inl ⟨by rfl, fun w h => by go_simp⟩) hHeld ?_
        try simp only [Act.put, List.setIfInBounds_toArray, List.set_cons_zero, List.set_cons_succ, List.getElem_toArray, List.getElem_cons_succ, List.getElem_cons_zero]
        refine wpAnyH_take (i := 13) (oi := _) (v := .pointer (some ⟨g, o + k * 9, none⟩)) rfl (by kernel_rfl) (by kernel_rfl) (by kernel_rfl) (fun _ _ _ h => h) (Or.inl ⟨by rfl, fun w h => by go_simp⟩) hHeld ?_
        try simp only [Act.put, List.setIfInBounds_toArray, List.set_cons_zero, List.set_cons_succ, List.getElem_toArray, List.getElem_cons_succ, List.getElem_cons_zero]
        refine wpAnyH_take (i := 14) (oi := _) (v := .pointer (some ⟨g, o + k * 9, none⟩)) rfl (by kernel_rfl) (by kernel_rfl) (by kernel_rfl) (fun _ _ _ h => h) (Or.inl ⟨by rfl, fun w h => by go_simp⟩) hHeld ?_
        try simp only [Act.put, List.setIfInBounds_toArray, List.set_cons_zero, List.set_cons_succ, List.getElem_toArray, List.getElem_cons_succ, List.getElem_cons_zero]
        refine wpAnyH_take (i := 15) (oi := _) (v := .int .i64 c.s) rfl (by kernel_rfl) (by kernel_rfl) (by kernel_rfl) (fun _ _ _ h => h) (Or.inl ⟨by rfl, fun w h => by have hcell := (range_speed (range_kept HE0.out HG.out h.1)); go_simp⟩) hHeld ?_
        try simp only [Act.put, List.setIfInBounds_toArray, List.set_cons_zero, List.set_cons_succ, List.getElem_toArray, List.getElem_cons_succ, List.getElem_cons_zero]
        refine wpAnyH_take (i := 16) (oi := _) (v := .int .i64 m1) rfl (by kernel_rfl) (by kernel_rfl) (by kernel_rfl) (fun _ _ _ h => h) (Or.inl ⟨by rfl, fun w h => by go_simp⟩) hHeld ?_
        try simp only [Act.put, List.setIfInBounds_toArray, List.set_cons_zero, List.set_cons_succ, List.getElem_toArray, List.getElem_cons_succ, List.getElem_cons_zero]
        refine wpAnyH_take (i := 17) (oi := _) (v := .int .i64 m2) rfl (by kernel_rfl) (by kernel_rfl) (by kernel_rfl) (fun _ _ _ h => h) (Or.inl ⟨by rfl, fun w h => by go_simp⟩) hHeld ?_
        try simp only [Act.put, List.setIfInBounds_toArray, List.set_cons_zero, List.set_cons_succ, List.getElem_toArray, List.getElem_cons_succ, List.getElem_cons_zero]
        refine wpAnyH_ready (rs := [18]) (by kernel_rfl) (by simp) ?_
        refine AllReadyH.cons (o := _) rfl (fun K hK => ?_) AllReadyH.nil
        go_simp
        refine (M _).mono ?_; rintro e w5 ⟨rfl, rfl⟩
        go_wp2_with fail
        refine hK.out _ _ hHeld (fun hHeld => ?_)
        clear hK K
        try simp only [Act.put, List.setIfInBounds_toArray, List.set_cons_zero, List.set_cons_succ, List.getElem_toArray, List.getElem_cons_succ, List.getElem_cons_zero]
        refine wpAnyH_ready (rs := [19]) (by kernel_rfl) (by simp) ?_
        refine AllReadyH.cons (o := _) rfl (fun K hK => ?_) AllReadyH.nil
        go_simp
        refine (T _).mono ?_; rintro e w5 ⟨rfl, hb5⟩
        go_wp2_with fail
        have hO5 : Own w5 w.heap.size 43 u12 ((ws.take k).map (tlW t u)) := own_below (show Own W.drew _ _ _ _ from HO.out) hb5
        have hz5 : w.heap.size ≤ w5.heap.size := Nat.le_trans hHeld.1.size hb5.size
        refine hK.out _ _ ⟨below_next hHeld.1 hb5, hHeld.2.below hb5⟩ (fun hHeld => ?_)
        clear hK K
        try simp only [Act.put, List.setIfInBounds_toArray, List.set_cons_zero, List.set_cons_succ, List.getElem_toArray, List.getElem_cons_succ, List.getElem_cons_zero]
        clear hb5 T HO
        refine wpAnyH_take (i := 20) (oi := _) (v := .agg (vec 9 (wf (tlW t u c)))) rfl (by kernel_rfl) (by kernel_rfl) (by kernel_rfl) (fun _ _ _ h => h) (Or.inl ⟨by rfl, fun w h => by have e : wh (tlW t u c) = wh ⟨c.s, dn (tV tt c.r).up⟩ := (by rw [dn_up, HTL.out]); show _ = Result.ok (Next.value (wh (tlW t u c))) w; rw [e]; exact yields_build built_wheel rfl rfl rfl⟩) hHeld ?_
        try simp only [Act.put, List.setIfInBounds_toArray, List.set_cons_zero, List.set_cons_succ, List.getElem_toArray, List.getElem_cons_succ, List.getElem_cons_zero]
        refine wpAnyH_ready (rs := [21]) (by kernel_rfl) (by simp) ?_
        refine AllReadyH.cons (o := _) rfl (fun K hK => ?_) AllReadyH.nil
        rw [if_pos (by rfl)]
        refine wp_one9 tyW rfl rfl ?_
        have hlit := reads_lit w5 (tlW t u c) 43
        have hO6 : Own (w5.alloc (.cells (vec 9 (wf (tlW t u c))) 43)) w.heap.size 43 u12 ((ws.take k).map (tlW t u)) := (show World.ownsRow _ _ _ _ _ _ _ from World.ownsRow.alloc hO5 _)
        refine hK.out _ _ ⟨hHeld.1.alloc hz5 _, hHeld.2.alloc _⟩ (fun hHeld => ?_)
        clear hK K
        try simp only [Act.put, List.setIfInBounds_toArray, List.set_cons_zero, List.set_cons_succ, List.getElem_toArray, List.getElem_cons_succ, List.getElem_cons_zero]
        clear hO5
        have hz6 := hHeld.1.size
        refine wpAnyH_ready (rs := [22]) (by kernel_rfl) (by simp) ?_
        refine AllReadyH.cons (o := _) rfl (fun K hK => ?_) AllReadyH.nil
        refine wp_append_list2 tyW rfl (xs := (ws.take k).map (tlW t u)) (ys := [tlW t u c]) rfl rfl hO6 hlit (by simp; have := HLN.out; omega) hHeld.1 hz6 ?_; intro v2 w6 ho6 hb6 hB6 hgr
        refine hK.out _ _ ⟨hb6, row_grown hHeld.2 hgr HNB.out⟩ (fun hHeld => ?_)
        clear hK K
        try simp only [Act.put, List.setIfInBounds_toArray, List.set_cons_zero, List.set_cons_succ, List.getElem_toArray, List.getElem_cons_succ, List.getElem_cons_zero]
        clear hlit hO6 hgr
        refine wpAnyH_take (i := 23) (oi := _) (v := v2) rfl (by kernel_rfl) (by kernel_rfl) (by kernel_rfl) (fun _ _ _ h => h) (Or.inl ⟨by rfl, fun w h => by go_simp⟩) hHeld ?_
        try simp only [Act.put, List.setIfInBounds_toArray, List.set_cons_zero, List.set_cons_succ, List.getElem_toArray, List.getElem_cons_succ, List.getElem_cons_zero]
        refine wpAnyH_done (by kernel_rfl) ?_ _
        have HO6 := Lib.hid ho6
        have HB6 := Lib.hid hb6
        have HZ6 := Lib.hid hB6
        clear ho6 hb6 hB6 hHeld
        go_wp2
        go_roundw
        case rel =>
          refine ⟨k + 1, by omega, by go_num, ?_, HB6.out, HZ6.out⟩
          rw [take_next HC.out, List.map_append]; exact HO6.out
        case measure => simp [intOf]; omega
      · obtain rfl : k = ws.length := by omega
        rw [List.take_length] at hO
        have TT := l5Tidy_any u12 (ws.map (tlW t u)) wr (own_reads hO) (by rw [List.length_map]; have := HLN.out; omega) (fun c hc => tlW_big HV.out c hc)
        generalize hres : tidy true (ws.map (tlW t u)) = res at TT
        have HRES := Lib.hid hres
        have HL := Lib.hid hbel
        have HB := Lib.hid hB
        clear hO hbel hB hres
        go_wp2_with fail
        refine TT.mono ?_; rintro e w7 ⟨hb7, v7, rfl, ho7⟩
        have HQ : Aside (Told w res (.returned (.tuple #[v7, .bool res.isSome])) w7) := ⟨below_next HL.out hb7, _, rfl, own_mono ho7 HB.out⟩
        clear TT hb7 ho7
        go_wp2
        go_ret2
        rw [HR.out, HRES.out]
        exact HQ.out

theorem specLater_yes (v : Value) (u : Nat) (hu : u ≤ 23) (ws : List Wh) (w : World) (hv : Reads w v ws) : Calls Try.prog 70 #[v, .int .i64 u] w (Told w (sOf (laterW u) ws)) := by
  have C := l5EachT_any v ws 0 u w hv (by omega) (by omega)
  rw [tlW_later] at C
  have C := Lib.hid C
  clear hv
  generalize sOf (laterW u) ws = o at *
  go_enter Try.func70, Try.ntmps70
  go_wp2_with fail
  refine C.out.mono ?_; rintro e w2 ⟨hb2, v2, rfl, ho2⟩
  have HQ : Aside (Told w o (.returned (.tuple #[v2, .bool o.isSome])) w2) := ⟨hb2, _, rfl, ho2⟩
  clear C hb2 ho2
  go_wp2
  go_ret2
  exact HQ.out
theorem specTurned_yes (v : Value) (t : Nat) (ht : t ≤ 23) (ws : List Wh) (w : World) (hv : Reads w v ws) : Calls Try.prog 72 #[v, .int .i64 t] w (Told w (sOf (turnW t) ws)) := by
  have C := l5EachT_any v ws t 0 w hv (by omega) (by omega)
  rw [tlW_turn ht] at C
  have C := Lib.hid C
  clear hv
  generalize sOf (turnW t) ws = o at *
  go_enter Try.func72, Try.ntmps72
  go_wp2_with fail
  refine C.out.mono ?_; rintro e w2 ⟨hb2, v2, rfl, ho2⟩
  have HQ : Aside (Told w o (.returned (.tuple #[v2, .bool o.isSome])) w2) := ⟨hb2, _, rfl, ho2⟩
  clear C hb2 ho2
  go_wp2
  go_ret2
  exact HQ.out

theorem akinS_none {a b : Nat} {X Y : List Wh} (h : sOf (laterW a) X = none) : akinS a b X Y = false := by unfold akinS; rw [h]
theorem akinS_none2 {a b : Nat} {X X1 Y : List Wh} (h : sOf (laterW a) X = some X1) (h2 : sOf (turnW b) X1 = none) : akinS a b X Y = false := by unfold akinS; rw [h]; simp only []; rw [h2]
theorem akinS_some {a b : Nat} {X X1 X2 Y : List Wh} (h : sOf (laterW a) X = some X1) (h2 : sOf (turnW b) X1 = some X2) : akinS a b X Y = eqL X2 Y := by unfold akinS; rw [h]; simp only []; rw [h2]

set_option maxHeartbeats 1000000 in
theorem l7Akin_any (va vb : Value) (X Y : List Wh) (a b : Nat) (ha : a ≤ 23) (hb : b ≤ 23) (w : World) (h1 : Reads w va X) (h2 : Reads w vb Y) :
    Calls Try.prog 75 #[va, vb, .int .i64 a, .int .i64 b] w fun e w' => e = .returned (.bool (akinS a b X Y)) ∧ Below w.heap.size w w' := by
  have L := specLater_yes va a ha X w h1
  cases hx : sOf (laterW a) X with
  | none =>
    rw [hx] at L
    rw [akinS_none hx]
    have L := Lib.hid L
    clear hx h1 h2
    go_enter Try.func75, Try.ntmps75
    go_wp2_with fail
    refine L.out.mono ?_; rintro e w1 ⟨hb1, v1, rfl, -⟩
    have HB := Lib.hid hb1
    clear L hb1
    go_wp2
    go_ret
    exact ⟨rfl, HB.out⟩
  | some X1 =>
    rw [hx] at L
    have T := fun v1 w1 h => specTurned_yes v1 b hb X1 w1 h
    cases hy : sOf (turnW b) X1 with
    | none =>
      rw [hy] at T
      rw [akinS_none2 hx hy]
      have L := Lib.hid L
      clear hx hy h1 h2
      go_enter Try.func75, Try.ntmps75
      go_wp2_with fail
      refine L.out.mono ?_; rintro e w1 ⟨hb1, v1, rfl, ho1⟩
      have T := Lib.hid (T v1 w1 (own_reads ho1))
      have HB := Lib.hid hb1
      clear L hb1 ho1
      go_wp2_with fail
      refine T.out.mono ?_; rintro e w2 ⟨hb2, v2, rfl, -⟩
      have HB2 := Lib.hid (below_next HB.out hb2)
      clear T hb2 HB
      go_wp2
      go_ret
      exact ⟨rfl, HB2.out⟩
    | some X2 =>
      rw [hy] at T
      rw [akinS_some hx hy]
      have E := fun v1 v2 w2 h1 h2 => l5Equal_any v1 v2 X2 Y w2 h1 h2
      generalize eqL X2 Y = r at *
      have L := Lib.hid L
      have H2 := Lib.hid h2
      clear hx hy h1 h2
      go_enter Try.func75, Try.ntmps75
      go_wp2_with fail
      refine L.out.mono ?_; rintro e w1 ⟨hb1, v1, rfl, ho1⟩
      have T := Lib.hid (T v1 w1 (own_reads ho1))
      have HB := Lib.hid hb1
      clear L hb1 ho1
      go_wp2_with fail
      refine T.out.mono ?_; rintro e w2 ⟨hb2, v2, rfl, ho2⟩
      have HB2 := Lib.hid (below_next HB.out hb2)
      have E := Lib.hid (E v2 vb w2 (own_reads ho2) (H2.out.below (below_next HB.out hb2)))
      clear T hb2 HB ho2
      go_wp2_with fail
      refine E.out.mono ?_; rintro e w3 ⟨rfl, hb3⟩
      have HB3 := Lib.hid (below_next HB2.out hb3)
      clear E hb3 HB2
      go_wp2
      go_ret
      exact ⟨rfl, HB3.out⟩

/-- What a design's akin pair is told as. -/
def akinV (o : Option Nat) : Value := .tuple #[.int .i64 ((o.getD 0 : Nat) : Int), .bool o.isSome]
theorem akinD_one {A B : List Wh} (h : tid A = none) : akinD A B = none := by unfold akinD; rw [h]
theorem akinD_two {A B : List Wh} (h : tid B = none) : akinD A B = none := by
  unfold akinD
  cases tid A with
  | none => rfl
  | some X => simp only []; rw [h]
theorem akinD_both {A B X Y : List Wh} (h : tid A = some X) (h2 : tid B = some Y) : akinD A B = akinO X Y := by unfold akinD; rw [h]; simp only []; rw [h2]

set_option maxHeartbeats 2000000 in
theorem specDesignAkin_any (va vb : Value) (A B : List Wh) (w : World) (h1 : Reads w va A) (h2 : Reads w vb B) :
    Calls Try.prog 34 #[va, vb] w fun e w' => e = .returned (akinV (akinD A B)) ∧ Below w.heap.size w w' := by
  have TA := specTidyOf_any va A w h1
  have TB : ∀ w2 (h : Below w.heap.size w w2), Calls Try.prog 58 #[vb] w2 (Told w2 (tid B)) := fun w2 h => specTidyOf_any vb B w2 (h2.below h)
  clear h1 h2
  cases hx : tid A with
  | none =>
    rw [akinD_one hx]
    rw [hx] at TA
    generalize tid B = y at *
    have TA := Lib.hid TA
    have TB := Lib.hid TB
    clear hx
    go_enter Try.func34, Try.ntmps34
    go_wp2_with fail
    refine TA.out.mono ?_; rintro e w1 ⟨hb1, v1, rfl, -⟩
    go_wp2_with fail
    refine (TB.out _ hb1).mono ?_; rintro e w2 ⟨hb2, v2, rfl, -⟩
    have HB := Lib.hid (below_next hb1 hb2)
    clear TA TB hb1 hb2
    go_wp2
    go_ret2
    exact ⟨rfl, HB.out⟩
  | some X =>
    cases hy : tid B with
    | none =>
      rw [akinD_two hy]
      rw [hx] at TA
      rw [hy] at TB
      have TA := Lib.hid TA
      have TB := Lib.hid TB
      clear hx hy
      go_enter Try.func34, Try.ntmps34
      go_wp2_with fail
      refine TA.out.mono ?_; rintro e w1 ⟨hb1, v1, rfl, -⟩
      go_wp2_with fail
      refine (TB.out _ hb1).mono ?_; rintro e w2 ⟨hb2, v2, rfl, -⟩
      have HB := Lib.hid (below_next hb1 hb2)
      clear TA TB hb1 hb2
      go_wp2
      go_ret2
      exact ⟨rfl, HB.out⟩
    | some Y =>
      rw [akinD_both hx hy]
      have HX := Lib.hid (tid_in hx).2.1
      have HY := Lib.hid (tid_in hy).2.1
      rw [hx] at TA
      rw [hy] at TB
      have TA := Lib.hid TA
      have TB := Lib.hid TB
      clear hx hy
      go_enter Try.func34, Try.ntmps34
      go_wp2_with fail
      refine TA.out.mono ?_; rintro e w1 ⟨hb1, v1, rfl, ho1⟩
      rw [got_some] at ho1
      go_wp2_with fail
      refine (TB.out _ hb1).mono ?_; rintro e w2 ⟨hb2, v2, rfl, ho2⟩
      rw [got_some] at ho2
      have HB := Lib.hid (below_next hb1 hb2)
      have HR1 := Lib.hid (own_reads (own_below ho1 hb2))
      have HR2 := Lib.hid (own_reads ho2)
      clear TA TB hb1 hb2 ho1 ho2
      go_wp2
      go_loopw [10] (fun i wr => ∃ n : Nat, n ≤ 576 ∧ i = .int .i64 n ∧ Aside (firstP (akinP X Y) n = none) ∧ Below w2.heap.size w2 wr) (fun i _ => 576 - (intOf i).toNat)
      case atStart => exact ⟨0, by omega, rfl, Lib.hid rfl, Below.refl _ _⟩
      case round =>
        obtain ⟨n, hn, rfl, hf, hbel⟩ := hrel
        by_cases hlt : n < 576
        · have hnz : (n : Int) < 576 := by omega
          obtain ⟨a, ha0⟩ : ∃ a : Nat, n / 24 = a := ⟨_, rfl⟩
          obtain ⟨b, hb0⟩ : ∃ b : Nat, n % 24 = b := ⟨_, rfl⟩
          have q1 : (n : Int).tdiv 24 = (a : Int) := by rw [Int.tdiv_eq_ediv_of_nonneg (by omega)]; omega
          have q2 : (n : Int).tmod 24 = (b : Int) := by rw [Int.tmod_eq_emod_of_nonneg (by omega)]; omega
          have q3 : IntKind.i64.wrap (a : Int) = (a : Int) := by rw [IntKind.wrap_i64]; omega
          have q4 : IntKind.i64.wrap (b : Int) = (b : Int) := by rw [IntKind.wrap_i64]; omega
          have q5 : (n : Int) / 24 = (a : Int) := by omega
          have q6 : (n : Int) % 24 = (b : Int) := by omega
          have K := Lib.hid (l7Akin_any v1 v2 X Y a b (by omega) (by omega) wr (HR1.out.below hbel) (HR2.out.below hbel))
          have HE : Aside (akinS a b X Y = akinP X Y n) := (show _ = _ from by
            rw [akinS_eq (by omega) HX.out HY.out, ← ha0, ← hb0]; rfl)
          have HL := Lib.hid hbel
          have HF := hf
          clear hbel hf ha0 hb0
          generalize akinS a b X Y = r at *
          cases r
          · go_wp2_with fail
            refine K.out.mono ?_; rintro e w3 ⟨rfl, hb3⟩
            have HL3 := Lib.hid (below_next HL.out hb3)
            clear K hb3 HL
            go_wp2
            go_roundw
            case rel => exact ⟨n + 1, by omega, by go_num, Lib.hid (firstP_no HF.out HE.out.symm), HL3.out⟩
            case measure => simp [intOf]; omega
          · go_wp2_with fail
            refine K.out.mono ?_; rintro e w3 ⟨rfl, hb3⟩
            have HL3 := Lib.hid (below_next HB.out (below_next HL.out hb3))
            clear K hb3 HL
            go_wp2
            go_ret2
            have e1 : akinO X Y = some n := firstP_on (firstP_yes HF.out HE.out.symm) (by omega)
            rw [e1]
            exact ⟨rfl, HL3.out⟩
        · obtain rfl : n = 576 := by omega
          have HL := Lib.hid (below_next HB.out hbel)
          have HF := hf
          clear hbel hf
          go_wp2
          go_ret2
          have e1 : akinO X Y = none := HF.out
          rw [e1]
          exact ⟨rfl, HL.out⟩

end Go.Proofs.Ytdbokcbbpegilaa
