/-
  impl's swings: their numbers as a list.
  impl's swings: the first number that is looked for: at rest, with a subnormal part; paths and sums.
  impl's swings: paths and sums.
  spec's swings: the first number that is looked for; paths and sums.
-/
import Derived.Test.YtpbppgaohfgpbaaM30
import Derived.Test.YtpbppgaohfgpbaaM22
/- impl's swings: their numbers as a list. -/
namespace Go.Proofs.Ytpbppgaohfgpbaa
set_option maxRecDepth 20000
open Go.ChangeShapes Go.WideShapes Go.ChangeAt Go.RowKit
set_option linter.unusedVariables false
set_option linter.unusedSimpArgs false
attribute [local go_sem] run_store_fl run_store_cx

/-- The numbers behind 0 to n - 1 steps. -/
def nums (t h n : Nat) (a : Pn) : List Pn := (List.range n).map fun k => rnS t h k a
theorem nums_len (t h n : Nat) (a : Pn) : (nums t h n a).length = n := by simp [nums]
theorem nums_next (t h n : Nat) (a : Pn) : nums t h (n + 1) a = nums t h n a ++ [rnS t h n a] := by simp [nums, List.range_succ]
theorem nums_at {t h n k : Nat} {a : Pn} (hk : k < n) : (nums t h n a)[k]? = some (rnS t h k a) := by simp [nums, hk]
theorem BlkAt.grown {w w' : World} {g G : Nat} {T : TypeId} {cs : Array Value} (h : BlkAt w g T cs) (hg : w.grownBy w' (some G)) (hne : g ≠ G) : BlkAt w' g T cs := (hg.block g h.lt (fun e => by cases e; exact hne rfl)).trans h
theorem own_other {w : World} {B T g n cap K : Nat} {cs : List Value} {G k : Nat} {v : Value} (h : w.ownsRow B T K (.slice (some ⟨g, 0, none⟩) n cap) n cs) (hne : g ≠ G) : (w.setCell ⟨G, k, none⟩ v).ownsRow B T K (.slice (some ⟨g, 0, none⟩) n cap) n cs := by
  refine h.kept ⟨rfl, rfl, rfl, by simp, fun q _ hq => heap_setCell_other w ⟨G, k, none⟩ q v (fun e => hq (by rw [e]))⟩ (.inr (by simp [Value.ownBlock]; exact hne))
def swB (a : Pn) (t h : Nat) : Array Value := #[.complex .f32 a.1 a.2, .int .i64 t, .int .i64 h]
def nuB (a : Pn) : Array Value := #[.float .f32 a.1, .float .f32 a.2]
set_option maxHeartbeats 4000000 in
theorem numbers_any (a : Pn) (t h n : Nat) (ha : FinS a) (w : World) (ht : t ≤ 3) (hh : h ≤ 4) (hn : n ≤ 1000) :
    Calls Try.prog 58 #[sW a t h, .int .i64 n] w fun e w' => ∃ v', e = .returned v' ∧ OwnL encC 1 w' w.heap.size 23 v' (nums t h n a) ∧ Below w.heap.size w w' := by
  have C1 := fun w => single_any a t h w
  have HL : Hid (BlkAt (w.alloc (.cells #[.complex .f32 a.1 a.2, .int .i64 t, .int .i64 h] 25)) w.heap.size 25 (swB a t h)) := BlkAt.newAt rfl rfl
  go_enter Try.func58, Try.ntmps58
  go_upto_region 1 with fail
  show Code.wp _ _ _ _ (w.alloc (.cells #[.complex .f32 a.1 a.2, .int .i64 t, .int .i64 h] 25))
  have hW : Hid ((w.alloc (.cells #[.complex .f32 a.1 a.2, .int .i64 t, .int .i64 h] 25)).heap.size = w.heap.size + 1) := by exact World.size_alloc _ _
  have HB0 := Lib.hid (bel1 w (.cells #[.complex .f32 a.1 a.2, .int .i64 t, .int .i64 h] 25))
  generalize (w.alloc (.cells #[.complex .f32 a.1 a.2, .int .i64 t, .int .i64 h] 25)) = W at *
  go_upto_region 2 with (refine makeL (en := encC) tyZ rfl rfl n rfl rfl (by omega) (Below.refl _ W) (Nat.le_refl _) ?_; intro w2 ho1 hb1 hB1)
  have hL2 := HL.out.below hb1
  have hB2 := belT HB0.out hb1
  have HO2 := Lib.hid ho1
  have hW2 : W.heap.size < w2.heap.size := by
    rcases ho1.2 with h0 | ⟨g, cap, cur, e, _, hg, _⟩
    · cases h0.1
    · cases e
      exact Nat.lt_of_not_le fun hle => by rw [Array.getElem?_eq_none hle] at hg; cases hg
  have HL2 := Lib.hid hL2
  have HB2 := Lib.hid hB2
  have HW2 := Lib.hid hW2
  clear ho1 hb1 hB1 HL HB0 hL2 hB2 hW2
  go_cut [6] (fun s6 wr => ∃ g : Nat, s6 = .pointer (some ⟨g, 0, none⟩) ∧ Aside (W.heap.size < g) ∧ Aside (BlkAt wr g 52 (nuB a)) ∧ Aside (BlkAt wr w.heap.size 25 (swB a t h)) ∧ Aside (OwnL encC 1 wr W.heap.size 23 (.slice (some ⟨W.heap.size, 0, none⟩) 0 n) []) ∧ Aside (Below w.heap.size w wr))
  case first =>
    have c0 := HL2.out.cell (k := 0) (v := .complex .f32 a.1 a.2) rfl
    have c1 := HL2.out.cell (k := 1) (v := .int .i64 t) rfl
    have c2 := HL2.out.cell (k := 2) (v := .int .i64 h) rfl
    go_wp2_with fail
    refine (C1 _).mono ?_; rintro e w3 ⟨rfl, hb⟩
    have H1 := Lib.hid (HL2.out.below hb)
    have H2 := Lib.hid (belT HB2.out hb)
    have H3 := Lib.hid (rows_below HO2.out hb)
    have H4 := Lib.hid (Nat.lt_of_lt_of_le HW2.out hb.size)
    clear c0 c1 c2 hb HL2 HB2 HO2 HW2 C1
    go_wp2
    go_meet
    case rel => exact ⟨_, rfl, H4.out, (BlkAt.newAt rfl rfl : BlkAt _ _ _ (nuB a)), H1.out.alloc _, World.ownsRow.alloc H3.out _, belA H2.out _⟩
  case rest =>
  obtain ⟨gz, rfl, hgz, hZ, hS, hO, hB⟩ := hcut
  have HGZ := Lib.hid hgz
  have HZ := Lib.hid hZ
  have HS := Lib.hid hS
  have HO := Lib.hid hO
  have HB := Lib.hid hB
  clear hgz hZ hS hO hB HL2 HB2 HW2 HO2 C1
  go_wp2_with fail
  go_loopw [5, 12] (fun v' u wr => ∃ k : Nat, k ≤ n ∧ u = .int .i64 k ∧ v' = .slice (some ⟨W.heap.size, 0, none⟩) k n ∧ Aside (OwnL encC 1 wr W.heap.size 23 v' (nums t h k a)) ∧ Aside (BlkAt wr gz 52 (nuB (rnS t h k a))) ∧ Aside (BlkAt wr w.heap.size 25 (swB a t h)) ∧ Aside (Below w.heap.size w wr)) (fun _ u _ => n - (intOf u).toNat)
  case atStart => exact ⟨0, Nat.zero_le _, rfl, rfl, HO.out, HZ.out, HS.out, HB.out⟩
  case round =>
    clear HO HZ HS HB
    obtain ⟨k, hk, rfl, rfl, hO, hZ, hS, hB⟩ := hrel
    by_cases hlt : k < n
    · have hf := rnS_fin (t := t) (h := h) k ha
      have C := fun w => nextS_any _ t h hf a w ht hh
      have HN := Lib.hid (nums_next t h k a)
      have HR := Lib.hid (rnS_next t h k a)
      have hlen := nums_len t h k a
      generalize nums t h k a = L at *
      generalize rnS t h k a = z at *
      obtain rfl : L.length = k := hlen
      have c0 := BlkAt.cell hZ (k := 0) (v := .float .f32 z.1) rfl
      have c1 := BlkAt.cell hZ (k := 1) (v := .float .f32 z.2) rfl
      have HZ := Lib.hid (show BlkAt _ _ _ _ from hZ)
      have HS := Lib.hid (show BlkAt _ _ _ _ from hS)
      have HB := Lib.hid (show Below _ _ _ from hB)
      have HO := Lib.hid (show OwnL encC 1 _ _ _ _ _ from hO)
      clear hf hZ hS hB hO
      go_upto_region 6 with (at_builtin; refine append_fitL tyZ encC_ok rfl rfl (xs := L) (ys := [z]) (g := W.heap.size) (cap := n) rfl rfl (World.ownsRow.alloc HO.out _) (litL_range _ _ _) (by simp; omega) ?_; intro w5 ho5 hg5)
      have h3 : W.heap.size < gz := HGZ.out
      have h4 := hW.out
      have hZ := (HZ.out.alloc _).grown hg5 (by omega)
      have hS := (HS.out.alloc _).grown hg5 (by omega)
      have hB := (belA HB.out _).grown hg5 (by rw [World.size_alloc]; have := HB.out.size; omega) (fun k e => by cases e; omega)
      have d0 := hZ.cell (k := 0) (v := .float .f32 z.1) rfl
      have d1 := hZ.cell (k := 1) (v := .float .f32 z.2) rfl
      have e0 := hS.cell (k := 0) (v := .complex .f32 a.1 a.2) rfl
      have e1 := hS.cell (k := 1) (v := .int .i64 t) rfl
      have e2 := hS.cell (k := 2) (v := .int .i64 h) rfl
      have HZ5 := Lib.hid hZ
      have HS5 := Lib.hid hS
      have HB5 := Lib.hid hB
      have HO5 := Lib.hid ho5
      clear c0 c1 hZ hS hB ho5 hg5 HZ HS HB HO h3 h4
      go_wp2_with fail
      refine (C _).mono ?_; rintro e w6 ⟨rfl, hb⟩
      have hZ := HZ5.out.below hb
      have hS := HS5.out.below hb
      have hB := belT HB5.out hb
      have hO := rows_below HO5.out hb
      clear d0 d1 e0 e1 e2 hb HZ5 HS5 HB5 HO5 C
      generalize stS t h z = y at *
      have c0 := hZ.cell (k := 0) (v := .float .f32 z.1) rfl
      have c1 := hZ.cell (k := 1) (v := .float .f32 z.2) rfl
      have f0 := hZ.free 0
      have f1 := hZ.free 1
      have HZ := Lib.hid hZ
      have HS := Lib.hid hS
      have HB := Lib.hid hB
      have HO := Lib.hid hO
      clear hZ hS hB hO
      go_wp2
      go_roundw
      case rel =>
        have h3 : W.heap.size < gz := HGZ.out
        have h4 := hW.out
        refine ⟨L.length + 1, by omega, by go_num, rfl, ?_, ?_, (HS.out.other _ _ (by simp; omega)).other _ _ (by simp; omega), (HB.out.setCell (by simp; omega) _).setCell (by simp; omega) _⟩
        · rw [HN.out]
          have ho := HO.out
          rw [List.length_append] at ho
          have hf := own_other (G := gz) (k := 1) (v := .float .f32 y.2) (own_other (G := gz) (k := 0) (v := .float .f32 y.1) ho (by omega)) (by omega)
          show World.ownsRow _ _ _ _ _ (L ++ [z]).length _
          rw [List.length_append]
          exact hf
        · rw [HR.out]; exact (HZ.out.set 0 _).set 1 _
      case measure => simp [intOf]; omega
    · obtain rfl : k = n := by omega
      have HB := Lib.hid (show Below _ _ _ from hB)
      have HO := Lib.hid (show OwnL encC 1 _ _ _ _ _ from hO)
      clear hZ hS hB hO
      go_wp2
      go_ret
      exact ⟨_, rfl, rows_mono HO.out (by rw [hW.out]; omega), HB.out⟩
end Go.Proofs.Ytpbppgaohfgpbaa
/- impl's swings: the first number that is looked for: at rest, with a subnormal part; paths and sums. -/
namespace Go.Proofs.Ytpbppgaohfgpbaa
set_option maxRecDepth 20000
open Go.ChangeShapes Go.WideShapes Go.ChangeAt Go.RowKit
set_option linter.unusedVariables false
set_option linter.unusedSimpArgs false
attribute [local go_sem] run_store_fl run_store_cx

theorem nums_mem {t h n : Nat} {a z : Pn} (ha : FinS a) (hz : z ∈ nums t h n a) : FinS z := by
  unfold nums at hz
  rw [List.mem_map] at hz
  obtain ⟨k, -, rfl⟩ := hz
  exact rnS_fin k ha
set_option maxHeartbeats 1000000 in
theorem first_any (F : Nat) (p : Pn → Bool) (eg : ∀ args w, (callFunc F args).run Try.prog w = .ok (.enter F args) w) (hF : ∀ z, FinS z → ∀ w, Calls Try.prog F #[cs z.1 z.2] w fun e w' => e = .returned (.bool (p z)) ∧ Below w.heap.size w w')
    (a : Pn) (t h : Nat) (ha : FinS a) (w : World) (ht : t ≤ 3) (hh : h ≤ 4) :
    Calls Try.prog 52 #[sW a t h, .func (.func F) #[] #[]] w fun e w' => e = .returned (.int .i64 (ordN (fstN (fun k => p (rnS t h k a)) 0 401))) ∧ Below w.heap.size w w' := by
  have C := fun w => numbers_any a t h 401 ha w ht hh (by omega)
  have hx : Hid (∀ k, k < 401 → (nums t h 401 a)[k]? = some (rnS t h k a)) := fun k hk => nums_at hk
  have hf : Hid (∀ k, FinS (rnS t h k a)) := fun k => rnS_fin k ha
  have hlen := nums_len t h 401 a
  generalize nums t h 401 a = L at *
  generalize hr : (fun k => rnS t h k a) = r at *
  have hx : Hid (∀ k, k < 401 → L[k]? = some (r k)) := by rw [← hr]; exact hx
  have hf : Hid (∀ k, FinS (r k)) := by rw [← hr]; exact hf
  have he : (fun k => p (rnS t h k a)) = fun k => p (r k) := by rw [← hr]
  rw [he]
  clear he hr
  have HS := Lib.hid (rfl : fstN (fun k => p (r k)) 0 401 = fstN (fun k => p (r k)) 0 401)
  generalize hres : ordN (fstN (fun k => p (r k)) 0 401) = res
  have HRES := Lib.hid hres
  have HLEN := Lib.hid hlen
  clear hres hlen HS
  go_enter Try.func52, Try.ntmps52
  go_wp2_with fail
  refine (C _).mono ?_; rintro e w2 ⟨v, rfl, ho, hb⟩
  obtain ⟨q, cap, rfl, hc1, hc2, hp0, hp⟩ := ownL_reads ho
  have HP := Lib.hid hp
  have HB := Lib.hid (belT (bel1 _ _) hb)
  clear ho hb hp C
  simp only [maxLen] at hc2
  have hl := HLEN.out
  go_wp2_with fail
  go_loopw [10] (fun u wr => ∃ k : Nat, k ≤ 401 ∧ u = .int .i64 k ∧ Aside (fstN (fun k => p (r k)) 0 401 = fstN (fun k => p (r k)) k (401 - k)) ∧ Below w2.heap.size w2 wr) (fun u _ => 401 - (intOf u).toNat)
  case atStart => exact ⟨0, Nat.zero_le _, rfl, rfl, Below.refl _ _⟩
  case round =>
    obtain ⟨k, hk, rfl, hq, hbel⟩ := hrel
    by_cases hlt : k < 401
    · have hkz : (k : Int) < 401 := by omega
      have hk0 : (0 : Int) ≤ (k : Int) := by omega
      obtain ⟨g, o, rfl, hg, hrg⟩ := HP.out (by rintro rfl; have := hp0 rfl; omega)
      have c0 := pt_cell (cells_below hrg hg hbel) (hx.out k (by omega))
      have CF := fun w => hF _ (hf.out k) w
      have HQ := Lib.hid hq
      have HBW := Lib.hid hbel
      clear hrg hg hbel hq
      unfold cs at c0 CF
      have hn : 401 - k = (401 - (k + 1)) + 1 := by omega
      rw [hn] at HQ
      have HN := Lib.hid hn
      clear hn hl
      cases hpk : p (r k) with
      | true =>
        rw [hpk] at CF
        have HE := Lib.hid (HQ.out.trans (fstN_yes (p := fun k => p (r k)) hpk))
        clear hpk HQ
        generalize r k = z at *
        go_wp2_with fail
        refine (CF _).mono ?_; rintro e w3 ⟨rfl, hb3⟩
        have HB3 := Lib.hid (belT HB.out (belT HBW.out hb3))
        clear hb3 CF c0
        go_wp2_with fail
        go_ret
        exact ⟨by rw [← HRES.out, HE.out]; rfl, HB3.out⟩
      | false =>
        rw [hpk] at CF
        have HE := Lib.hid (HQ.out.trans (fstN_no (p := fun k => p (r k)) hpk))
        clear hpk HQ
        generalize r k = z at *
        go_wp2_with fail
        refine (CF _).mono ?_; rintro e w3 ⟨rfl, hb3⟩
        have HB3 := Lib.hid (belT HBW.out hb3)
        clear hb3 CF c0
        go_wp2_with fail
        go_roundw
        case rel => exact ⟨k + 1, by omega, by go_num, HE.out, HB3.out⟩
        case measure => simp [intOf]; omega
    · obtain rfl : k = 401 := by omega
      have HQ := Lib.hid hq
      have HBW := Lib.hid (belT HB.out hbel)
      clear hq hbel hl
      go_wp2_with fail
      go_ret
      refine ⟨?_, HBW.out⟩
      have hq := HQ.out
      have hq : fstN (fun k => p (r k)) 0 401 = none := hq
      rw [← HRES.out, hq]; rfl
theorem run_ceqSw {p q x y : Nat} {o1 o2 : Ordering} (h1 : FloatKind.f32.format.order p x = some o1) (h2 : FloatKind.f32.format.order q y = some o2) (t : TypeId) (w : World) :
    (binOp .eql t (.complex .f32 p q) (.complex .f32 x y)).run Try.prog w = .ok (.bool (o1 == .eq && o2 == .eq)) w := by
  cases o1 <;> cases o2 <;> simp [binOp, Op.complexOp, Op.Complex.cmp, Op.floatCmp, h1, h2, go_sem, asBool]
theorem cmp_nil (s : Bool) (V : Nat) : (compare (sgnd s V) (sgnd false 0) == .eq) = decide (V = 0) := by
  rw [sgnd_zero]
  rcases Int.lt_trichotomy (sgnd s V) 0 with h | h | h
  · rw [Int.compare_eq_lt.2 h, decide_eq_false (by rintro rfl; rw [sgnd_zero] at h; omega)]; rfl
  · rw [Int.compare_eq_eq.2 h, decide_eq_true (by cases s <;> simp [sgnd] at h <;> omega)]; rfl
  · rw [Int.compare_eq_gt.2 h, decide_eq_false (by rintro rfl; rw [sgnd_zero] at h; omega)]; rfl
theorem run_czero {z : Pn} (hz : FinS z) (t : TypeId) (w : World) : (binOp .eql t (.complex .f32 z.1 z.2) (.complex .f32 0 0)).run Try.prog w = .ok (.bool (zeroS z)) w := by
  obtain ⟨s, V, s', W, h1, h2⟩ := hz
  have := run_ceqSw (fs_order h1 fs_nil) (fs_order h2 fs_nil) t w
  rw [cmp_nil, cmp_nil, ← (fs_fin h1).2.2, ← (fs_fin h2).2.2] at this
  exact this
theorem isRest_any (z : Pn) (hz : FinS z) (w : World) : Calls Try.prog 53 #[cs z.1 z.2] w fun e w' => e = .returned (.bool (zeroS z)) ∧ Below w.heap.size w w' := by
  have R := fun t w => run_czero hz t w
  generalize zeroS z = b at *
  unfold cs
  go_enter Try.func53, Try.ntmps53
  go_wp2_with (rw [R])
  go_ret
  exact ⟨rfl, Below.refl _ _⟩
abbrev wLeast : Nat := 4039728865751334912
theorem fd_least : FD wLeast false (8388608 * 2 ^ gapSD) := by
  refine ⟨4503599627370496, gapSD - 29, ?_, ?_⟩
  · rw [loD_eq, gapSD_eq]; decide +kernel
  · have e : gapSD = gapSD - 29 + 29 := by rw [gapSD_eq]
    conv => rhs; rw [e, Nat.pow_add, Nat.mul_comm (2 ^ (gapSD - 29)), ← Nat.mul_assoc]
theorem isSub_any (x : Nat) (hx : finS x = true) (w : World) : Calls Try.prog 56 #[.float .f32 x] w fun e w' => e = .returned (.bool (tnS x)) ∧ w' = w := by
  have h := fin_fs hx
  have O0 := fs_order h fs_nil
  have hc := cmp_nil (sgS x) (szS x)
  by_cases h0 : szS x = 0
  · have ht : tnS x = false := by unfold tnS; simp [h0]
    rw [decide_eq_true h0] at hc
    have hce : compare (sgnd (sgS x) (szS x)) (sgnd false 0) = .eq := by simpa using hc
    rw [hce] at O0
    rw [ht]
    clear h hc hce h0 ht hx
    go_enter Try.func56, Try.ntmps56
    go_wp2_with fail
    go_ret
    exact ⟨rfl, rfl⟩
  · obtain ⟨z1, hd⟩ := wdW_fd h
    have R := fun w => run_convert_float_float (P := Try.prog) w 40 56 .f32 .f64 _ _ (by kernel_rfl) (by kernel_rfl) z1
    have A1 := fun w => abs_any (wdW x) w
    have hm : FD (mgn (wdW x)) false (szS x * 2 ^ gapSD) := by
      obtain ⟨m, b, r, e⟩ := hd
      exact ⟨m, b, by rw [mgn_read, r], e⟩
    have O1 := ed_fin_order hm fd_least
    have hp := Nat.two_pow_pos gapSD
    have ht : tnS x = decide (szS x < 8388608) := by unfold tnS; simp [h0]
    have hlt : szS x * 2 ^ gapSD < 8388608 * 2 ^ gapSD ↔ szS x < 8388608 := ⟨fun h => Nat.lt_of_mul_lt_mul_right h, fun h => Nat.mul_lt_mul_of_pos_right h hp⟩
    have hO : ∃ o, FloatKind.f64.format.order (mgn (wdW x)) wLeast = some o ∧ (o == .lt) = tnS x := by
      refine ⟨_, O1, ?_⟩
      rw [ht]
      rcases Int.lt_trichotomy ((szS x * 2 ^ gapSD : Nat) : Int) ((8388608 * 2 ^ gapSD : Nat) : Int) with h | h | h
      · rw [Int.compare_eq_lt.2 h, decide_eq_true (hlt.1 (by omega))]; rfl
      · rw [Int.compare_eq_eq.2 h, decide_eq_false (fun k => by have := hlt.2 k; omega)]; rfl
      · rw [Int.compare_eq_gt.2 h, decide_eq_false (fun k => by have := hlt.2 k; omega)]; rfl
    rw [decide_eq_false h0] at hc
    obtain ⟨o, hO1, ho⟩ := hO
    have hne : ∃ o0, FloatKind.f32.format.order x 0 = some o0 ∧ o0 ≠ .eq := ⟨_, O0, fun e => by rw [e] at hc; cases hc⟩
    obtain ⟨o0, hO0, hn0⟩ := hne
    rw [← ho]
    clear h hc h0 ht hx O0 O1 hd hm hlt ho z1 hp
    generalize mgn (wdW x) = M at *
    generalize wdW x = W at *
    have HN := Lib.hid hn0
    clear hn0
    cases o0 with
    | eq => exact absurd rfl HN.out
    | lt =>
      clear HN
      go_enter Try.func56, Try.ntmps56
      cases o <;>
      · go_wp2_with (first | rw [R] | (go_at_call 74; refine (A1 _).mono ?_; rintro e w2 ⟨rfl, rfl⟩))
        go_ret
        exact ⟨rfl, rfl⟩
    | gt =>
      clear HN
      go_enter Try.func56, Try.ntmps56
      cases o <;>
      · go_wp2_with (first | rw [R] | (go_at_call 74; refine (A1 _).mono ?_; rintro e w2 ⟨rfl, rfl⟩))
        go_ret
        exact ⟨rfl, rfl⟩
theorem isSmall_any (z : Pn) (hz : FinS z) (w : World) : Calls Try.prog 55 #[cs z.1 z.2] w fun e w' => e = .returned (.bool (smallS z)) ∧ Below w.heap.size w w' := by
  have hf := finS_pt.1 hz
  unfold ptF at hf
  rw [Bool.and_eq_true] at hf
  have C1 := fun w => isSub_any z.1 hf.1 w
  have C2 := fun w => isSub_any z.2 hf.2 w
  unfold smallS
  clear hf hz
  generalize tnS z.2 = b at *
  unfold cs
  cases h : tnS z.1 with
  | true =>
    rw [h] at C1
    go_enter Try.func55, Try.ntmps55
    go_wp2_with fail
    refine (C1 _).mono ?_; rintro e w2 ⟨rfl, rfl⟩
    clear C1 C2
    go_wp2_with fail
    go_ret
    exact ⟨rfl, Below.refl _ _⟩
  | false =>
    rw [h] at C1
    go_enter Try.func55, Try.ntmps55
    go_wp2_with fail
    refine (C1 _).mono ?_; rintro e w2 ⟨rfl, rfl⟩
    clear C1
    go_wp2_with fail
    refine (C2 _).mono ?_; rintro e w3 ⟨rfl, rfl⟩
    clear C2
    go_wp2_with fail
    go_ret
    exact ⟨rfl, Below.refl _ _⟩
/-- What is answered by the first number that is looked for. -/
def firstN (p : Pn → Bool) (a : Pn) (t h : Int) : Int := if okW a t h then ordN (fstN (fun k => p (rnS t.toNat h.toNat k a)) 0 401) else 0
theorem SwingRest_any (a : Pn) (t h : Int) (w : World) : Calls Try.prog 24 #[sW a t h] w fun e w' => e = .returned (.tuple #[.int .i64 (firstN zeroS a t h), .bool (okW a t h)]) ∧ Below w.heap.size w w' := by
  have C := fun w => swValid_any a t h w
  unfold firstN
  cases o : okW a t h with
  | false =>
    rw [o] at C
    rw [if_neg (by decide)]
    clear o
    go_enter Try.func24, Try.ntmps24
    go_wp2_with fail
    refine (C _).mono ?_; rintro e w2 ⟨rfl, hb⟩
    have HB := Lib.hid (belT (bel1 _ _) hb)
    clear hb C
    go_wp2_with fail
    go_ret2
    exact ⟨rfl, HB.out⟩
  | true =>
    obtain ⟨ha, ht, hh⟩ := okW_parts o
    rw [o] at C
    rw [if_pos rfl]
    clear o
    obtain ⟨T, rfl⟩ : ∃ T : Nat, t = T := ⟨t.toNat, by omega⟩
    obtain ⟨H, rfl⟩ : ∃ H : Nat, h = H := ⟨h.toNat, by omega⟩
    have C1 := fun w => first_any 53 zeroS (fun args w => rfl) (fun z hz w => isRest_any z hz w) a T H ha w (by omega) (by omega)
    rw [Int.toNat_natCast, Int.toNat_natCast]
    generalize ordN (fstN (fun k => zeroS (rnS T H k a)) 0 401) = R at *
    have HL : Hid (BlkAt (w.alloc (.cells #[.complex .f32 a.1 a.2, .int .i64 T, .int .i64 H] 25)) w.heap.size 25 #[.complex .f32 a.1 a.2, .int .i64 T, .int .i64 H]) := BlkAt.newAt rfl rfl
    clear ht hh ha
    go_enter Try.func24, Try.ntmps24
    go_wp2_with fail
    refine (C _).mono ?_; rintro e w2 ⟨rfl, hb⟩
    have HB := Lib.hid (belT (bel1 _ _) hb)
    have hL := HL.out.below hb
    have c0 := hL.cell (k := 0) rfl
    have c1 := hL.cell (k := 1) rfl
    have c2 := hL.cell (k := 2) rfl
    clear hb C hL HL
    go_wp2_with fail
    refine (C1 _).mono ?_; rintro e w3 ⟨rfl, hb⟩
    have HB3 := Lib.hid (belT HB.out hb)
    clear hb C1 c0 c1 c2 HB
    go_wp2_with fail
    go_ret2
    exact ⟨rfl, HB3.out⟩
theorem SwingSmall_any (a : Pn) (t h : Int) (w : World) : Calls Try.prog 27 #[sW a t h] w fun e w' => e = .returned (.tuple #[.int .i64 (firstN smallS a t h), .bool (okW a t h)]) ∧ Below w.heap.size w w' := by
  have C := fun w => swValid_any a t h w
  unfold firstN
  cases o : okW a t h with
  | false =>
    rw [o] at C
    rw [if_neg (by decide)]
    clear o
    go_enter Try.func27, Try.ntmps27
    go_wp2_with fail
    refine (C _).mono ?_; rintro e w2 ⟨rfl, hb⟩
    have HB := Lib.hid (belT (bel1 _ _) hb)
    clear hb C
    go_wp2_with fail
    go_ret2
    exact ⟨rfl, HB.out⟩
  | true =>
    obtain ⟨ha, ht, hh⟩ := okW_parts o
    rw [o] at C
    rw [if_pos rfl]
    clear o
    obtain ⟨T, rfl⟩ : ∃ T : Nat, t = T := ⟨t.toNat, by omega⟩
    obtain ⟨H, rfl⟩ : ∃ H : Nat, h = H := ⟨h.toNat, by omega⟩
    have C1 := fun w => first_any 55 smallS (fun args w => rfl) (fun z hz w => isSmall_any z hz w) a T H ha w (by omega) (by omega)
    rw [Int.toNat_natCast, Int.toNat_natCast]
    generalize ordN (fstN (fun k => smallS (rnS T H k a)) 0 401) = R at *
    have HL : Hid (BlkAt (w.alloc (.cells #[.complex .f32 a.1 a.2, .int .i64 T, .int .i64 H] 25)) w.heap.size 25 #[.complex .f32 a.1 a.2, .int .i64 T, .int .i64 H]) := BlkAt.newAt rfl rfl
    clear ht hh ha
    go_enter Try.func27, Try.ntmps27
    go_wp2_with fail
    refine (C _).mono ?_; rintro e w2 ⟨rfl, hb⟩
    have HB := Lib.hid (belT (bel1 _ _) hb)
    have hL := HL.out.below hb
    have c0 := hL.cell (k := 0) rfl
    have c1 := hL.cell (k := 1) rfl
    have c2 := hL.cell (k := 2) rfl
    clear hb C hL HL
    go_wp2_with fail
    refine (C1 _).mono ?_; rintro e w3 ⟨rfl, hb⟩
    have HB3 := Lib.hid (belT HB.out hb)
    clear hb C1 c0 c1 c2 HB
    go_wp2_with fail
    go_ret2
    exact ⟨rfl, HB3.out⟩
end Go.Proofs.Ytpbppgaohfgpbaa
/- impl's swings: paths and sums. -/
namespace Go.Proofs.Ytpbppgaohfgpbaa
set_option maxRecDepth 20000
open Go.ChangeShapes Go.WideShapes Go.ChangeAt Go.RowKit
set_option linter.unusedVariables false
set_option linter.unusedSimpArgs false
attribute [local go_sem] run_store_fl run_store_cx

def pthO (a : Pn) (t h n : Int) : Option (List Pn) := if okW a t h && decide (1 ≤ n ∧ n ≤ 100) && pvB (nums t.toNat h.toNat n.toNat a) then some (nums t.toNat h.toNat n.toNat a) else none
theorem pthO_bad {a : Pn} {t h n : Int} (v : ¬ (okW a t h = true ∧ 1 ≤ n ∧ n ≤ 100)) : pthO a t h n = none := by
  unfold pthO
  rw [if_neg]
  intro e
  simp only [Bool.and_eq_true, decide_eq_true_eq] at e
  exact v ⟨e.1.1, e.1.2⟩
set_option maxHeartbeats 1000000 in
theorem SwingPath_any (a : Pn) (t h n : Int) (w : World) : Calls Try.prog 32 #[sW a t h, .int .i64 n] w (ToldC w (pthO a t h n)) := by
  have C := fun w => swValid_any a t h w
  cases o : okW a t h with
  | false =>
    rw [pthO_bad (by rw [o]; simp)]
    rw [o] at C
    clear o
    go_enter Try.func32, Try.ntmps32
    go_wp2_with fail
    refine (C _).mono ?_; rintro e w2 ⟨rfl, hb⟩
    have HB := Lib.hid (belT (bel1 _ _) hb)
    clear hb C
    go_wp2_with fail
    go_ret2
    exact ⟨HB.out, _, rfl, ownC_none _ _ _⟩
  | true =>
    by_cases q1 : n < 1
    · rw [pthO_bad (by rintro ⟨-, h1, h2⟩; omega)]
      rw [o] at C
      clear o
      go_enter Try.func32, Try.ntmps32
      go_wp2_with fail
      refine (C _).mono ?_; rintro e w2 ⟨rfl, hb⟩
      have HB := Lib.hid (belT (bel1 _ _) hb)
      clear hb C
      go_wp2_with fail
      go_ret2
      exact ⟨HB.out, _, rfl, ownC_none _ _ _⟩
    by_cases q2 : 100 < n
    · rw [pthO_bad (by rintro ⟨-, h1, h2⟩; omega)]
      rw [o] at C
      clear o
      go_enter Try.func32, Try.ntmps32
      go_wp2_with fail
      refine (C _).mono ?_; rintro e w2 ⟨rfl, hb⟩
      have HB := Lib.hid (belT (bel1 _ _) hb)
      clear hb C
      go_wp2_with fail
      go_ret2
      exact ⟨HB.out, _, rfl, ownC_none _ _ _⟩
    obtain ⟨ha, ht, hh⟩ := okW_parts o
    generalize hres : pthO a t h n = res
    unfold pthO at hres
    rw [o, Bool.true_and, decide_eq_true (by omega), Bool.true_and] at hres
    rw [o] at C
    clear o
    obtain ⟨T, rfl⟩ : ∃ T : Nat, t = T := ⟨t.toNat, by omega⟩
    obtain ⟨H, rfl⟩ : ∃ H : Nat, h = H := ⟨h.toNat, by omega⟩
    obtain ⟨k, rfl⟩ : ∃ k : Nat, n = k := ⟨n.toNat, by omega⟩
    rw [Int.toNat_natCast, Int.toNat_natCast, Int.toNat_natCast] at hres
    have C1 := fun w => numbers_any a T H k ha w (by omega) (by omega) (by omega)
    generalize nums T H k a = L at *
    have HRES := Lib.hid hres
    have HL : Hid (BlkAt (w.alloc (.cells #[.complex .f32 a.1 a.2, .int .i64 T, .int .i64 H] 25)) w.heap.size 25 #[.complex .f32 a.1 a.2, .int .i64 T, .int .i64 H]) := BlkAt.newAt rfl rfl
    clear ht hh ha hres
    go_enter Try.func32, Try.ntmps32
    go_wp2_with fail
    refine (C _).mono ?_; rintro e w2 ⟨rfl, hb⟩
    have HB := Lib.hid (belT (bel1 _ _) hb)
    have hL := HL.out.below hb
    have c0 := hL.cell (k := 0) rfl
    have c1 := hL.cell (k := 1) rfl
    have c2 := hL.cell (k := 2) rfl
    clear hb C hL HL
    go_wp2_with fail
    refine (C1 _).mono ?_; rintro e w3 ⟨v, rfl, ho, hb⟩
    have HB3 := Lib.hid (belT HB.out hb)
    have HO3 := Lib.hid (rows_mono ho HB.out.size)
    have D := pathTold_any v L w3 (ownL_reads ho)
    clear hb ho C1 c0 c1 c2 HB
    cases hp : pvB L with
    | true =>
      rw [hp, if_pos rfl] at D
      have hres := HRES.out
      rw [hp, if_pos rfl] at hres
      subst hres
      go_wp2_with fail
      refine D.mono ?_; rintro e w4 ⟨rfl, hb⟩
      have HB4 := Lib.hid (belT HB3.out hb)
      have HO4 := Lib.hid (rows_below HO3.out hb)
      clear hb D HB3 HO3
      go_wp2_with fail
      go_ret2
      exact ⟨HB4.out, _, rfl, HO4.out⟩
    | false =>
      rw [hp, if_neg (by decide)] at D
      have hres := HRES.out
      rw [hp, if_neg (by decide)] at hres
      subst hres
      go_wp2_with fail
      refine D.mono ?_; rintro e w4 ⟨rfl, hb⟩
      have HB4 := Lib.hid (belT HB3.out hb)
      clear hb D HB3 HO3
      go_wp2_with fail
      go_ret2
      exact ⟨HB4.out, _, rfl, ownC_none _ _ _⟩
/-- The sum of the numbers behind 0 to n - 1 steps. -/
def sumSw (a : Pn) (t h n : Int) : Pn := if mkW' a t h n then smP (nums t.toNat h.toNat n.toNat a) else (0, 0)
theorem run_cadd {s z : Pn} (hs : NaS s) (hz : FinS z) (t : TypeId) (w : World) : (binOp .add t (.complex .f32 s.1 s.2) (.complex .f32 z.1 z.2)).run Try.prog w = .ok (.complex .f32 (adP s z).1 (adP s z).2) w := by
  have h1 : floatBits .add .f32 s.1 z.1 = some (adP s z).1 := (adP_nas hs hz).1.1
  have h2 : floatBits .add .f32 s.2 z.2 = some (adP s z).2 := (adP_nas hs hz).1.2
  exact run_complex_sum w .add (Or.inl rfl) t .f32 _ _ _ _ _ _ (by unfold cSumBits; rw [h1, h2]; rfl)
set_option maxHeartbeats 2000000 in
theorem SwingSum_any (a : Pn) (t h n : Int) (w : World) : Calls Try.prog 36 #[sW a t h, .int .i64 n] w fun e w' => e = .returned (.tuple #[cs (sumSw a t h n).1 (sumSw a t h n).2, .bool (mkW' a t h n)]) ∧ Below w.heap.size w w' := by
  have C := fun w => swMakes_any a t h n w
  unfold cs
  cases o : mkW' a t h n with
  | false =>
    have hr : sumSw a t h n = (0, 0) := by unfold sumSw; rw [o]; rfl
    rw [hr]
    rw [o] at C
    clear o hr
    go_enter Try.func36, Try.ntmps36
    go_wp2_with fail
    refine (C _).mono ?_; rintro e w2 ⟨rfl, hb⟩
    have HB := Lib.hid (belT (bel1 _ _) hb)
    clear hb C
    go_wp2_with fail
    go_ret2
    exact ⟨rfl, HB.out⟩
  | true =>
    obtain ⟨v1, v2⟩ := mkW_parts o
    obtain ⟨ha, ht, hh⟩ := okW_parts v1
    generalize hres : sumSw a t h n = res
    unfold sumSw at hres
    rw [o, if_pos rfl] at hres
    rw [o] at C
    clear o v1
    obtain ⟨T, rfl⟩ : ∃ T : Nat, t = T := ⟨t.toNat, by omega⟩
    obtain ⟨H, rfl⟩ : ∃ H : Nat, h = H := ⟨h.toNat, by omega⟩
    obtain ⟨m, rfl⟩ : ∃ k : Nat, n = k := ⟨n.toNat, by omega⟩
    rw [Int.toNat_natCast, Int.toNat_natCast, Int.toNat_natCast] at hres
    have C1 := fun w => numbers_any a T H m ha w (by omega) (by omega) (by omega)
    have hlen := nums_len T H m a
    have hfin : ∀ z ∈ nums T H m a, FinS z := fun z hz => nums_mem ha hz
    generalize nums T H m a = L at *
    obtain rfl : L.length = m := hlen
    have HRES := Lib.hid hres
    have HFIN := Lib.hid hfin
    have HL : Hid (BlkAt (w.alloc (.cells #[.complex .f32 a.1 a.2, .int .i64 T, .int .i64 H] 25)) w.heap.size 25 #[.complex .f32 a.1 a.2, .int .i64 T, .int .i64 H]) := BlkAt.newAt rfl rfl
    clear ht hh ha hres hfin
    go_enter Try.func36, Try.ntmps36
    go_wp2_with fail
    refine (C _).mono ?_; rintro e w2 ⟨rfl, hb⟩
    have HB := Lib.hid (belT (bel1 _ _) hb)
    have hL := HL.out.below hb
    have c0 := hL.cell (k := 0) rfl
    have c1 := hL.cell (k := 1) rfl
    have c2 := hL.cell (k := 2) rfl
    clear hb C hL HL
    go_wp2_with fail
    refine (C1 _).mono ?_; rintro e w3 ⟨v, rfl, ho, hb⟩
    have HB3 := Lib.hid (belT HB.out hb)
    obtain ⟨p, cap, rfl, hc1, hc2, hp0, hp⟩ := ownL_reads ho
    have HP := Lib.hid hp
    clear hb ho C1 c0 c1 c2 HB hp
    simp only [maxLen] at hc2
    go_wp2_with fail
    go_loop [6, 17] (fun s u => ∃ k : Nat, k ≤ L.length ∧ u = .int .i64 k ∧ s = .complex .f32 (smP (L.take k)).1 (smP (L.take k)).2) (fun _ u => L.length - (intOf u).toNat)
    case atStart => exact ⟨0, Nat.zero_le _, rfl, rfl⟩
    case round =>
      obtain ⟨k, hk, rfl, rfl⟩ := hrel
      by_cases hlt : k < L.length
      · have hkz : (k : Int) < (L.length : Int) := by omega
        have hk0 : (0 : Int) ≤ (k : Int) := by omega
        obtain ⟨z, hz⟩ : ∃ z, L[k]? = some z := ⟨_, List.getElem?_eq_getElem hlt⟩
        obtain ⟨g, o, rfl, hg, hrg⟩ := HP.out (by rintro rfl; have := hp0 rfl; omega)
        have c0 := pt_cell hrg hz
        have hs := smP_nas (L := L.take k) (fun y hy => HFIN.out y (List.mem_of_mem_take hy))
        have R := fun t w => run_cadd hs (HFIN.out z (List.mem_of_getElem? hz)) t w
        have HN := Lib.hid (show smP (L.take (k + 1)) = adP (smP (L.take k)) z by rw [take_nextL hz, smP_next])
        clear hrg hg hs hz
        unfold cs at c0
        generalize smP (L.take k) = s at *
        generalize adP s z = y at *
        go_wp2_with (first | rw [R])
        go_round
        case rel => exact ⟨k + 1, by omega, by go_num, by rw [HN.out]⟩
        case measure => simp [intOf]; omega
      · obtain rfl : k = L.length := by omega
        rw [List.take_length, HRES.out]
        clear HP
        go_wp2_with fail
        go_ret2
        exact ⟨rfl, HB3.out⟩
end Go.Proofs.Ytpbppgaohfgpbaa
/- spec's swings: the first number that is looked for; paths and sums. -/
namespace Go.Proofs.Ytpbppgaohfgpbaa
set_option maxRecDepth 20000
open Go.ChangeShapes Go.WideShapes Go.ChangeAt Go.RowKit
set_option linter.unusedVariables false
set_option linter.unusedSimpArgs false
attribute [local go_sem] run_store_fl run_store_cx

theorem fs_small : FS 8388608 false 8388608 := ⟨8388608, 0, by rw [loS_eq]; decide +kernel, rfl⟩
theorem fs_nsmall : FS 2155872256 true 8388608 := ⟨8388608, 0, by rw [loS_eq]; decide +kernel, rfl⟩
theorem cmp_gtB (a b : Int) : (compare a b == .gt) = decide (b < a) := by
  rcases Int.lt_trichotomy a b with h | h | h
  · rw [Int.compare_eq_lt.2 h, decide_eq_false (by omega)]; rfl
  · rw [Int.compare_eq_eq.2 h, decide_eq_false (by omega)]; rfl
  · rw [Int.compare_eq_gt.2 h, decide_eq_true (by omega)]; rfl
theorem cmp_ltB (a b : Int) : (compare a b == .lt) = decide (a < b) := by
  rcases Int.lt_trichotomy a b with h | h | h
  · rw [Int.compare_eq_lt.2 h, decide_eq_true (by omega)]; rfl
  · rw [Int.compare_eq_eq.2 h, decide_eq_false (by omega)]; rfl
  · rw [Int.compare_eq_gt.2 h, decide_eq_false (by omega)]; rfl
theorem specTiny_any (x : Nat) (hx : finS x = true) (w : World) : Calls Try.prog 73 #[.float .f32 x] w fun e w' => e = .returned (.bool (tnS x)) ∧ w' = w := by
  have h := fin_fs hx
  have hO : ∃ o0 o1 o2, FloatKind.f32.format.order x 0 = some o0 ∧ FloatKind.f32.format.order x 2155872256 = some o1 ∧ FloatKind.f32.format.order x 8388608 = some o2 ∧ (!(o0 == .eq) && (o1 == .gt) && (o2 == .lt)) = tnS x := by
    refine ⟨_, _, _, fs_order h fs_nil, fs_order h fs_nsmall, fs_order h fs_small, ?_⟩
    rw [cmp_nil, cmp_gtB, cmp_ltB]
    unfold tnS
    rw [Bool.eq_iff_iff]
    generalize szS x = V
    cases sgS x <;> simp [sgnd] <;> omega
  obtain ⟨o0, o1, o2, O0, O1, O2, ho⟩ := hO
  rw [← ho]
  clear h hx ho
  cases o0 with
  | eq =>
    go_enter Try.func73, Try.ntmps73
    go_wp2_with fail
    go_ret
    exact ⟨rfl, rfl⟩
  | lt =>
    cases o1 <;> cases o2 <;>
    · go_enter Try.func73, Try.ntmps73
      go_wp2_with fail
      go_ret
      exact ⟨rfl, rfl⟩
  | gt =>
    cases o1 <;> cases o2 <;>
    · go_enter Try.func73, Try.ntmps73
      go_wp2_with fail
      go_ret
      exact ⟨rfl, rfl⟩
/-- A number of the swing, widened, is another one than the wide swing's. -/
def neW (z w : Pn) : Bool := !((FloatKind.f64.format.order (wdW z.1) w.1 == some .eq) && (FloatKind.f64.format.order (wdW z.2) w.2 == some .eq))
theorem run_neW {z w : Pn} (hz : FinS z) (hw : FinD w) (t : TypeId) (W : World) : (binOp .neq t (.complex .f64 (wdW z.1) (wdW z.2)) (.complex .f64 w.1 w.2)).run Try.prog W = .ok (.bool (neW z w)) W := by
  obtain ⟨s, V, s', U, h1, h2⟩ := hz
  obtain ⟨t1, V', t2, U', g1, g2⟩ := hw
  have o1 : FloatKind.f64.format.order (wdW z.1) w.1 = _ := fv_order (wdW_fd h1).2 g1
  have o2 : FloatKind.f64.format.order (wdW z.2) w.2 = _ := fv_order (wdW_fd h2).2 g2
  unfold neW
  rw [o1, o2]
  generalize compare (sgnd s (V * 2 ^ gapSD)) (sgnd t1 V') = c1 at *
  generalize compare (sgnd s' (U * 2 ^ gapSD)) (sgnd t2 U') = c2 at *
  cases c1 <;> cases c2 <;> simp [binOp, Op.complexOp, Op.Complex.cmp, Op.floatCmp, o1, o2, go_sem, asBool] <;> rfl
/-- Whether the swing is lost behind k steps. -/
def lostB (a : Pn) (t h : Nat) (k : Nat) : Bool := neW (rnS t h k a) (rnD t h k (wdP a))
def firstL (a : Pn) (t h : Int) : Int := if okW a t h then ordN (fstN (lostB a t.toNat h.toNat) 0 401) else 0
theorem hQ_yes {p : Nat → Bool} {k : Nat} {o : Option Nat} (h : o = fstN p k ((401 - (k + 1)) + 1)) (hp : p k = true) : o = some k := h.trans (fstN_yes hp)
theorem hQ_no {p : Nat → Bool} {k : Nat} {o : Option Nat} (h : o = fstN p k ((401 - (k + 1)) + 1)) (hp : p k = false) : o = fstN p (k + 1) (401 - (k + 1)) := h.trans (fstN_no hp)
set_option maxHeartbeats 2000000 in
theorem specFirst0_any (a : Pn) (t h : Int) (w : World) : Calls Try.prog 54 #[sW a t h, .int .i64 0] w fun e w' => e = .returned (.tuple #[.int .i64 (firstN zeroS a t h), .bool (okW a t h)]) ∧ Below w.heap.size w w' := by
  have C := fun w => specSwingValid_any a t h w
  generalize hres : firstN zeroS a t h = res
  unfold firstN at hres
  cases o : okW a t h with
  | false =>
    rw [o, if_neg (by decide)] at hres
    subst hres
    rw [o] at C
    clear o
    go_enter Try.func54, Try.ntmps54
    go_wp2_with fail
    refine (C _).mono ?_; rintro e w2 ⟨rfl, hb⟩
    have HB := Lib.hid (belT (bel1 _ _) hb)
    clear hb C
    go_wp2_with fail
    go_ret2
    exact ⟨rfl, HB.out⟩
  | true =>
    rw [o, if_pos rfl] at hres
    obtain ⟨ha, ht, hh⟩ := okW_parts o
    rw [o] at C
    clear o
    obtain ⟨T, rfl⟩ : ∃ T : Nat, t = T := ⟨t.toNat, by omega⟩
    obtain ⟨H, rfl⟩ : ∃ H : Nat, h = H := ⟨h.toNat, by omega⟩
    rw [Int.toNat_natCast, Int.toNat_natCast] at hres
    have HRES := Lib.hid hres
    have hT : T ≤ 3 := by omega
    have hH : H ≤ 4 := by omega
    have hd := wdP_fin ha
    have RW : ∀ w, (convert 23 34 (.complex .f32 a.1 a.2)).run Try.prog w = .ok (.complex .f64 (wdP a).1 (wdP a).2) w := by
      obtain ⟨s, V, s', U, h1, h2⟩ := ha
      exact fun w => run_wider (wdW_fd h1).1 (wdW_fd h2).1 w
    have HL : Hid (BlkAt (w.alloc (.cells #[.complex .f32 a.1 a.2, .int .i64 T, .int .i64 H] 25)) w.heap.size 25 #[.complex .f32 a.1 a.2, .int .i64 T, .int .i64 H]) := BlkAt.newAt rfl rfl
    clear ht hh hres
    go_enter Try.func54, Try.ntmps54
    go_wp2_with fail
    refine (C _).mono ?_; rintro e w2 ⟨rfl, hb⟩
    have HB := Lib.hid (belT (bel1 _ _) hb)
    have hL := HL.out.below hb
    have c0 := hL.cell (k := 0) rfl
    have HL2 := Lib.hid hL
    clear hb C hL HL
    go_wp2_with (first | rw [RW])
    clear RW
    go_loopw [6, 7, 8] (fun z x u wr => ∃ k : Nat, k ≤ 401 ∧ u = .int .i64 k ∧ z = .complex .f32 (rnS T H k a).1 (rnS T H k a).2 ∧ x = .complex .f64 (rnD T H k (wdP a)).1 (rnD T H k (wdP a)).2 ∧ Aside (fstN (fun k => zeroS (rnS T H k a)) 0 401 = fstN (fun k => zeroS (rnS T H k a)) k (401 - k)) ∧ Aside (BlkAt wr w.heap.size 25 #[.complex .f32 a.1 a.2, .int .i64 T, .int .i64 H]) ∧ Aside (Below w.heap.size w wr)) (fun _ _ u _ => 401 - (intOf u).toNat)
    case atStart => exact ⟨0, Nat.zero_le _, rfl, rfl, rfl, rfl, HL2.out, HB.out⟩
    case round =>
      clear c0 HL2 HB
      obtain ⟨k, hk, rfl, rfl, rfl, hq, hL, hB⟩ := hrel
      have hL : BlkAt _ _ _ _ := hL
      have hB : Below _ _ _ := hB
      by_cases hlt : k < 401
      · have hk2 : (k : Int) ≤ 400 := by omega
        have hn : 401 - k = (401 - (k + 1)) + 1 := by omega
        rw [hn] at hq
        have HQ := Lib.hid hq
        have HN := Lib.hid hn
        clear hn hq
        have hf := rnS_fin (t := T) (h := H) k ha
        have hg := rnD_fin (t := T) (h := H) k hd
        have C1 := fun w => specSingle_any _ T H hf a w hT hH
        have C2 := fun w => specWide_any _ T H hg a w hT hH
        have HN1 := Lib.hid (rnS_next T H k a)
        have HN2 := Lib.hid (rnD_next T H k (wdP a))
        have R := fun t w => run_czero hf t w
        clear hf hg
        cases hp : zeroS (rnS T H k a) with
        | true =>
          rw [hp] at R
          have HE := Lib.hid (hQ_yes HQ.out hp)
          have HB := Lib.hid hB
          clear hp HQ hL hB C1 C2 HN1 HN2
          generalize rnS T H k a = z at *
          generalize rnD T H k (wdP a) = x at *
          go_wp2_with (first | rw [R])
          go_ret2
          exact ⟨by rw [← HRES.out, HE.out]; rfl, HB.out⟩
        | false =>
          rw [hp] at R
          have HE := Lib.hid (hQ_no HQ.out hp)
          clear hp HQ
          generalize rnS T H k a = z at *
          generalize rnD T H k (wdP a) = x at *
          generalize stS T H z = y1 at *
          generalize stD T H x = y2 at *
          have HL := Lib.hid hL
          have HB := Lib.hid hB
          have d0 := hL.cell (k := 0) rfl
          have d1 := hL.cell (k := 1) rfl
          have d2 := hL.cell (k := 2) rfl
          clear hL hB
          go_wp2_with (first | rw [R])
          clear R
          refine (C1 _).mono ?_; rintro e w4 ⟨rfl, hb⟩
          have hL := HL.out.below hb
          have HL4 := Lib.hid hL
          have HB4 := Lib.hid (belT HB.out hb)
          have e0 := hL.cell (k := 0) rfl
          have e1 := hL.cell (k := 1) rfl
          have e2 := hL.cell (k := 2) rfl
          clear d0 d1 d2 hb HL HB C1 hL
          go_wp2_with fail
          refine (C2 _).mono ?_; rintro e w5 ⟨rfl, hb⟩
          have HL5 := Lib.hid (HL4.out.below hb)
          have HB5 := Lib.hid (belT HB4.out hb)
          clear e0 e1 e2 hb HL4 HB4 C2
          go_wp2
          go_roundw
          case rel => exact ⟨k + 1, by omega, by go_num, by rw [HN1.out], by rw [HN2.out], HE.out, HL5.out, HB5.out⟩
          case measure => simp [intOf]; omega
      · have h0 : 401 - k = 0 := by omega
        have hk2 : decide ((k : Int) ≤ 400) = false := by simp; omega
        have HB := Lib.hid hB
        have HE : Hid (ordN (fstN (fun k => zeroS (rnS T H k a)) 0 401) = -1) := by rw [hq, h0]; exact Lib.hid rfl
        clear hL hB hq h0
        go_wp2
        go_ret2
        exact ⟨by rw [← HRES.out, HE.out]; rfl, HB.out⟩
set_option maxHeartbeats 2000000 in
theorem specFirst1_any (a : Pn) (t h : Int) (w : World) : Calls Try.prog 54 #[sW a t h, .int .i64 1] w fun e w' => e = .returned (.tuple #[.int .i64 (firstN smallS a t h), .bool (okW a t h)]) ∧ Below w.heap.size w w' := by
  have C := fun w => specSwingValid_any a t h w
  generalize hres : firstN smallS a t h = res
  unfold firstN at hres
  cases o : okW a t h with
  | false =>
    rw [o, if_neg (by decide)] at hres
    subst hres
    rw [o] at C
    clear o
    go_enter Try.func54, Try.ntmps54
    go_wp2_with fail
    refine (C _).mono ?_; rintro e w2 ⟨rfl, hb⟩
    have HB := Lib.hid (belT (bel1 _ _) hb)
    clear hb C
    go_wp2_with fail
    go_ret2
    exact ⟨rfl, HB.out⟩
  | true =>
    rw [o, if_pos rfl] at hres
    obtain ⟨ha, ht, hh⟩ := okW_parts o
    rw [o] at C
    clear o
    obtain ⟨T, rfl⟩ : ∃ T : Nat, t = T := ⟨t.toNat, by omega⟩
    obtain ⟨H, rfl⟩ : ∃ H : Nat, h = H := ⟨h.toNat, by omega⟩
    rw [Int.toNat_natCast, Int.toNat_natCast] at hres
    have HRES := Lib.hid hres
    have hT : T ≤ 3 := by omega
    have hH : H ≤ 4 := by omega
    have hd := wdP_fin ha
    have RW : ∀ w, (convert 23 34 (.complex .f32 a.1 a.2)).run Try.prog w = .ok (.complex .f64 (wdP a).1 (wdP a).2) w := by
      obtain ⟨s, V, s', U, h1, h2⟩ := ha
      exact fun w => run_wider (wdW_fd h1).1 (wdW_fd h2).1 w
    have HL : Hid (BlkAt (w.alloc (.cells #[.complex .f32 a.1 a.2, .int .i64 T, .int .i64 H] 25)) w.heap.size 25 #[.complex .f32 a.1 a.2, .int .i64 T, .int .i64 H]) := BlkAt.newAt rfl rfl
    clear ht hh hres
    go_enter Try.func54, Try.ntmps54
    go_wp2_with fail
    refine (C _).mono ?_; rintro e w2 ⟨rfl, hb⟩
    have HB := Lib.hid (belT (bel1 _ _) hb)
    have hL := HL.out.below hb
    have c0 := hL.cell (k := 0) rfl
    have HL2 := Lib.hid hL
    clear hb C hL HL
    go_wp2_with (first | rw [RW])
    clear RW
    go_loopw [6, 7, 8] (fun z x u wr => ∃ k : Nat, k ≤ 401 ∧ u = .int .i64 k ∧ z = .complex .f32 (rnS T H k a).1 (rnS T H k a).2 ∧ x = .complex .f64 (rnD T H k (wdP a)).1 (rnD T H k (wdP a)).2 ∧ Aside (fstN (fun k => smallS (rnS T H k a)) 0 401 = fstN (fun k => smallS (rnS T H k a)) k (401 - k)) ∧ Aside (BlkAt wr w.heap.size 25 #[.complex .f32 a.1 a.2, .int .i64 T, .int .i64 H]) ∧ Aside (Below w.heap.size w wr)) (fun _ _ u _ => 401 - (intOf u).toNat)
    case atStart => exact ⟨0, Nat.zero_le _, rfl, rfl, rfl, rfl, HL2.out, HB.out⟩
    case round =>
      clear c0 HL2 HB
      obtain ⟨k, hk, rfl, rfl, rfl, hq, hL, hB⟩ := hrel
      have hL : BlkAt _ _ _ _ := hL
      have hB : Below _ _ _ := hB
      by_cases hlt : k < 401
      · have hk2 : (k : Int) ≤ 400 := by omega
        have hn : 401 - k = (401 - (k + 1)) + 1 := by omega
        rw [hn] at hq
        have HQ := Lib.hid hq
        have HN := Lib.hid hn
        clear hn hq
        have hf := rnS_fin (t := T) (h := H) k ha
        have hg := rnD_fin (t := T) (h := H) k hd
        have C1 := fun w => specSingle_any _ T H hf a w hT hH
        have C2 := fun w => specWide_any _ T H hg a w hT hH
        have HN1 := Lib.hid (rnS_next T H k a)
        have HN2 := Lib.hid (rnD_next T H k (wdP a))
        have hpt := finS_pt.1 hf
        unfold ptF at hpt
        rw [Bool.and_eq_true] at hpt
        have D1 := fun w => specTiny_any _ hpt.1 w
        have D2 := fun w => specTiny_any _ hpt.2 w
        clear hf hg hpt
        cases hp1 : tnS (rnS T H k a).1 with
        | true =>
          rw [hp1] at D1
          have HE := Lib.hid (hQ_yes (p := (fun k => smallS (rnS T H k a))) HQ.out (show smallS (rnS T H k a) = true by unfold smallS; rw [hp1]; rfl))
          have HB := Lib.hid hB
          clear hp1 HQ hL hB C1 C2 HN1 HN2 D2
          generalize rnS T H k a = z at *
          generalize rnD T H k (wdP a) = x at *
          go_wp2_with fail
          refine (D1 _).mono ?_; rintro e w4 ⟨rfl, rfl⟩
          clear D1
          go_wp2_with fail
          go_ret2
          exact ⟨by rw [← HRES.out, HE.out]; rfl, HB.out⟩
        | false =>
        cases hp2 : tnS (rnS T H k a).2 with
        | true =>
          rw [hp1] at D1
          rw [hp2] at D2
          have HE := Lib.hid (hQ_yes (p := (fun k => smallS (rnS T H k a))) HQ.out (show smallS (rnS T H k a) = true by unfold smallS; rw [hp1, hp2]; rfl))
          have HB := Lib.hid hB
          clear hp1 hp2 HQ hL hB C1 C2 HN1 HN2
          generalize rnS T H k a = z at *
          generalize rnD T H k (wdP a) = x at *
          go_wp2_with fail
          refine (D1 _).mono ?_; rintro e w4 ⟨rfl, rfl⟩
          clear D1
          go_wp2_with fail
          refine (D2 _).mono ?_; rintro e w4 ⟨rfl, rfl⟩
          clear D2
          go_wp2_with fail
          go_ret2
          exact ⟨by rw [← HRES.out, HE.out]; rfl, HB.out⟩
        | false =>
          rw [hp1] at D1
          rw [hp2] at D2
          have HE := Lib.hid (hQ_no (p := (fun k => smallS (rnS T H k a))) HQ.out (show smallS (rnS T H k a) = false by unfold smallS; rw [hp1, hp2]; rfl))
          clear hp1 hp2 HQ
          generalize rnS T H k a = z at *
          generalize rnD T H k (wdP a) = x at *
          generalize stS T H z = y1 at *
          generalize stD T H x = y2 at *
          have HL := Lib.hid hL
          have HB := Lib.hid hB
          have d0 := hL.cell (k := 0) rfl
          have d1 := hL.cell (k := 1) rfl
          have d2 := hL.cell (k := 2) rfl
          clear hL hB
          go_wp2_with fail
          refine (D1 _).mono ?_; rintro e w4 ⟨rfl, rfl⟩
          clear D1
          go_wp2_with fail
          refine (D2 _).mono ?_; rintro e w4 ⟨rfl, rfl⟩
          clear D2
          go_wp2_with fail
          refine (C1 _).mono ?_; rintro e w4 ⟨rfl, hb⟩
          have hL := HL.out.below hb
          have HL4 := Lib.hid hL
          have HB4 := Lib.hid (belT HB.out hb)
          have e0 := hL.cell (k := 0) rfl
          have e1 := hL.cell (k := 1) rfl
          have e2 := hL.cell (k := 2) rfl
          clear d0 d1 d2 hb HL HB C1 hL
          go_wp2_with fail
          refine (C2 _).mono ?_; rintro e w5 ⟨rfl, hb⟩
          have HL5 := Lib.hid (HL4.out.below hb)
          have HB5 := Lib.hid (belT HB4.out hb)
          clear e0 e1 e2 hb HL4 HB4 C2
          go_wp2
          go_roundw
          case rel => exact ⟨k + 1, by omega, by go_num, by rw [HN1.out], by rw [HN2.out], HE.out, HL5.out, HB5.out⟩
          case measure => simp [intOf]; omega
      · have h0 : 401 - k = 0 := by omega
        have hk2 : decide ((k : Int) ≤ 400) = false := by simp; omega
        have HB := Lib.hid hB
        have HE : Hid (ordN (fstN (fun k => smallS (rnS T H k a)) 0 401) = -1) := by rw [hq, h0]; exact Lib.hid rfl
        clear hL hB hq h0
        go_wp2
        go_ret2
        exact ⟨by rw [← HRES.out, HE.out]; rfl, HB.out⟩
set_option maxHeartbeats 2000000 in
theorem specFirst2_any (a : Pn) (t h : Int) (w : World) : Calls Try.prog 54 #[sW a t h, .int .i64 2] w fun e w' => e = .returned (.tuple #[.int .i64 (firstL a t h), .bool (okW a t h)]) ∧ Below w.heap.size w w' := by
  have C := fun w => specSwingValid_any a t h w
  generalize hres : firstL a t h = res
  unfold firstL at hres
  cases o : okW a t h with
  | false =>
    rw [o, if_neg (by decide)] at hres
    subst hres
    rw [o] at C
    clear o
    go_enter Try.func54, Try.ntmps54
    go_wp2_with fail
    refine (C _).mono ?_; rintro e w2 ⟨rfl, hb⟩
    have HB := Lib.hid (belT (bel1 _ _) hb)
    clear hb C
    go_wp2_with fail
    go_ret2
    exact ⟨rfl, HB.out⟩
  | true =>
    rw [o, if_pos rfl] at hres
    obtain ⟨ha, ht, hh⟩ := okW_parts o
    rw [o] at C
    clear o
    obtain ⟨T, rfl⟩ : ∃ T : Nat, t = T := ⟨t.toNat, by omega⟩
    obtain ⟨H, rfl⟩ : ∃ H : Nat, h = H := ⟨h.toNat, by omega⟩
    rw [Int.toNat_natCast, Int.toNat_natCast] at hres
    have HRES := Lib.hid hres
    have hT : T ≤ 3 := by omega
    have hH : H ≤ 4 := by omega
    have hd := wdP_fin ha
    have RW : ∀ w, (convert 23 34 (.complex .f32 a.1 a.2)).run Try.prog w = .ok (.complex .f64 (wdP a).1 (wdP a).2) w := by
      obtain ⟨s, V, s', U, h1, h2⟩ := ha
      exact fun w => run_wider (wdW_fd h1).1 (wdW_fd h2).1 w
    have HL : Hid (BlkAt (w.alloc (.cells #[.complex .f32 a.1 a.2, .int .i64 T, .int .i64 H] 25)) w.heap.size 25 #[.complex .f32 a.1 a.2, .int .i64 T, .int .i64 H]) := BlkAt.newAt rfl rfl
    clear ht hh hres
    go_enter Try.func54, Try.ntmps54
    go_wp2_with fail
    refine (C _).mono ?_; rintro e w2 ⟨rfl, hb⟩
    have HB := Lib.hid (belT (bel1 _ _) hb)
    have hL := HL.out.below hb
    have c0 := hL.cell (k := 0) rfl
    have HL2 := Lib.hid hL
    clear hb C hL HL
    go_wp2_with (first | rw [RW])
    clear RW
    go_loopw [6, 7, 8] (fun z x u wr => ∃ k : Nat, k ≤ 401 ∧ u = .int .i64 k ∧ z = .complex .f32 (rnS T H k a).1 (rnS T H k a).2 ∧ x = .complex .f64 (rnD T H k (wdP a)).1 (rnD T H k (wdP a)).2 ∧ Aside (fstN (lostB a T H) 0 401 = fstN (lostB a T H) k (401 - k)) ∧ Aside (BlkAt wr w.heap.size 25 #[.complex .f32 a.1 a.2, .int .i64 T, .int .i64 H]) ∧ Aside (Below w.heap.size w wr)) (fun _ _ u _ => 401 - (intOf u).toNat)
    case atStart => exact ⟨0, Nat.zero_le _, rfl, rfl, rfl, rfl, HL2.out, HB.out⟩
    case round =>
      clear c0 HL2 HB
      obtain ⟨k, hk, rfl, rfl, rfl, hq, hL, hB⟩ := hrel
      have hL : BlkAt _ _ _ _ := hL
      have hB : Below _ _ _ := hB
      by_cases hlt : k < 401
      · have hk2 : (k : Int) ≤ 400 := by omega
        have hn : 401 - k = (401 - (k + 1)) + 1 := by omega
        rw [hn] at hq
        have HQ := Lib.hid hq
        have HN := Lib.hid hn
        clear hn hq
        have hf := rnS_fin (t := T) (h := H) k ha
        have hg := rnD_fin (t := T) (h := H) k hd
        have C1 := fun w => specSingle_any _ T H hf a w hT hH
        have C2 := fun w => specWide_any _ T H hg a w hT hH
        have HN1 := Lib.hid (rnS_next T H k a)
        have HN2 := Lib.hid (rnD_next T H k (wdP a))
        have R := fun t W => run_neW hf hg t W
        have RZ : ∀ w, (convert 23 34 (.complex .f32 (rnS T H k a).1 (rnS T H k a).2)).run Try.prog w = .ok (.complex .f64 (wdW (rnS T H k a).1) (wdW (rnS T H k a).2)) w := by
          obtain ⟨s, V, s', U, h1, h2⟩ := hf
          exact fun w => run_wider (wdW_fd h1).1 (wdW_fd h2).1 w
        have hl : lostB a T H k = neW (rnS T H k a) (rnD T H k (wdP a)) := rfl
        clear hf hg
        cases hp : neW (rnS T H k a) (rnD T H k (wdP a)) with
        | true =>
          rw [hp] at R hl
          have HE := Lib.hid (hQ_yes HQ.out hl)
          have HB := Lib.hid hB
          clear hp HQ hL hB C1 C2 HN1 HN2 hl
          generalize rnS T H k a = z at *
          generalize rnD T H k (wdP a) = x at *
          go_wp2_with (first | rw [RZ] | rw [R])
          go_ret2
          exact ⟨by rw [← HRES.out, HE.out]; rfl, HB.out⟩
        | false =>
          rw [hp] at R hl
          have HE := Lib.hid (hQ_no HQ.out hl)
          clear hp HQ hl
          generalize rnS T H k a = z at *
          generalize rnD T H k (wdP a) = x at *
          generalize stS T H z = y1 at *
          generalize stD T H x = y2 at *
          have HL := Lib.hid hL
          have HB := Lib.hid hB
          have d0 := hL.cell (k := 0) rfl
          have d1 := hL.cell (k := 1) rfl
          have d2 := hL.cell (k := 2) rfl
          clear hL hB
          go_wp2_with (first | rw [RZ] | rw [R])
          clear R RZ
          refine (C1 _).mono ?_; rintro e w4 ⟨rfl, hb⟩
          have hL := HL.out.below hb
          have HL4 := Lib.hid hL
          have HB4 := Lib.hid (belT HB.out hb)
          have e0 := hL.cell (k := 0) rfl
          have e1 := hL.cell (k := 1) rfl
          have e2 := hL.cell (k := 2) rfl
          clear d0 d1 d2 hb HL HB C1 hL
          go_wp2_with fail
          refine (C2 _).mono ?_; rintro e w5 ⟨rfl, hb⟩
          have HL5 := Lib.hid (HL4.out.below hb)
          have HB5 := Lib.hid (belT HB4.out hb)
          clear e0 e1 e2 hb HL4 HB4 C2
          go_wp2
          go_roundw
          case rel => exact ⟨k + 1, by omega, by go_num, by rw [HN1.out], by rw [HN2.out], HE.out, HL5.out, HB5.out⟩
          case measure => simp [intOf]; omega
      · have h0 : 401 - k = 0 := by omega
        have hk2 : decide ((k : Int) ≤ 400) = false := by simp; omega
        have HB := Lib.hid hB
        have HE : Hid (ordN (fstN (lostB a T H) 0 401) = -1) := by rw [hq, h0]; exact Lib.hid rfl
        clear hL hB hq h0
        go_wp2
        go_ret2
        exact ⟨by rw [← HRES.out, HE.out]; rfl, HB.out⟩
theorem specSwingRest_any (a : Pn) (t h : Int) (w : World) : Calls Try.prog 25 #[sW a t h] w fun e w' => e = .returned (.tuple #[.int .i64 (firstN zeroS a t h), .bool (okW a t h)]) ∧ Below w.heap.size w w' := by
  have C := fun w => specFirst0_any a t h w
  generalize firstN zeroS a t h = r at *
  generalize okW a t h = o at *
  go_enter Try.func25, Try.ntmps25
  go_wp2_with fail
  refine (C _).mono ?_; rintro e w2 ⟨rfl, hb⟩
  have HB := Lib.hid (belT (bel1 _ _) hb)
  clear hb C
  go_wp2_with fail
  go_ret2
  exact ⟨rfl, HB.out⟩
theorem specSwingSmall_any (a : Pn) (t h : Int) (w : World) : Calls Try.prog 28 #[sW a t h] w fun e w' => e = .returned (.tuple #[.int .i64 (firstN smallS a t h), .bool (okW a t h)]) ∧ Below w.heap.size w w' := by
  have C := fun w => specFirst1_any a t h w
  generalize firstN smallS a t h = r at *
  generalize okW a t h = o at *
  go_enter Try.func28, Try.ntmps28
  go_wp2_with fail
  refine (C _).mono ?_; rintro e w2 ⟨rfl, hb⟩
  have HB := Lib.hid (belT (bel1 _ _) hb)
  clear hb C
  go_wp2_with fail
  go_ret2
  exact ⟨rfl, HB.out⟩
theorem specSwingLost_any (a : Pn) (t h : Int) (w : World) : Calls Try.prog 30 #[sW a t h] w fun e w' => e = .returned (.tuple #[.int .i64 (firstL a t h), .bool (okW a t h)]) ∧ Below w.heap.size w w' := by
  have C := fun w => specFirst2_any a t h w
  generalize firstL a t h = r at *
  generalize okW a t h = o at *
  go_enter Try.func30, Try.ntmps30
  go_wp2_with fail
  refine (C _).mono ?_; rintro e w2 ⟨rfl, hb⟩
  have HB := Lib.hid (belT (bel1 _ _) hb)
  clear hb C
  go_wp2_with fail
  go_ret2
  exact ⟨rfl, HB.out⟩
end Go.Proofs.Ytpbppgaohfgpbaa
