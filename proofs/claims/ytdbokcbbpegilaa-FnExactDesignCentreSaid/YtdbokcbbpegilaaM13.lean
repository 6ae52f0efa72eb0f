/-
  Equality of wheels and of designs.
  Designs compared.
  Where the wheels of a design point together.
-/
import Derived.Test.YtdbokcbbpegilaaM12
/- Equality of wheels and of designs. -/
namespace Go.Proofs.Ytdbokcbbpegilaa
set_option maxRecDepth 20000
open Go.ChangeShapes Go.WideShapes Go.ChangeAt Go.RowKit
set_option linter.unusedVariables false
set_option linter.unusedSimpArgs false

theorem equal_cyc9 (a b : Nat → Int) (w : World) : (Op.equalIn 9999 41 (.agg (vec 8 a)) (.agg (vec 8 b))).run Try.prog w = .ok (eqv 8 a b) w := by
  obtain ⟨i, hi⟩ := Option.isSome_iff_exists.1 some_int
  obtain ⟨j, hj⟩ := Option.isSome_iff_exists.1 some_arr8
  exact equal_one (d := 9996) Try.underlying41 (by kernel_rfl) (fun d xs ys => by unfold Op.eqFields; exact if_pos (by decide)) rfl rfl Try.underlying39 hj cells_arr8 hi cells_int Try.underlying3 key_int w
theorem vec_tail (f : Nat → Int) : (vec 9 f).extract 1 (1 + 8) = vec 8 (fun j => f (j + 1)) := by
  refine Array.ext (by simp [vec_size]) fun i h1 h2 => ?_
  rw [vec_size] at h2
  have e1 := vec_at f (k := 1 + i) (n := 9) (by omega)
  have e2 := vec_at (fun j => f (j + 1)) (k := i) (n := 8) h2
  rw [Array.getElem_extract]
  have := (Array.getElem?_eq_some_iff.1 e1).2
  have h3 := (Array.getElem?_eq_some_iff.1 e2).2
  rw [this, h3, Nat.add_comm]
theorem agg_cyc (w : World) : (isAgg 41).run Try.prog w = .ok true w := by rfl
theorem sizeof_cyc (w : World) : (Go.sizeOf 41).run Try.prog w = .ok 8 w := by rfl
theorem part_cyc (f : Nat → Int) (w : World) : (part 41 (vec 9 f) 1).run Try.prog w = .ok (.agg (vec 8 (fun j => f (j + 1)))) w := by
  simp [part, Sem.run_bind, agg_cyc, sizeof_cyc, vec_tail]
theorem eqv_nine (f g : Nat → Int) : eqv 9 f g = (f 0 == g 0 && eqv 8 (fun j => f (j + 1)) (fun j => g (j + 1))) := by
  have e : List.range 9 = 0 :: (List.range 8).map (· + 1) := by decide
  unfold eqv
  rw [e, List.all_cons, List.all_map]
  rfl
theorem equal_wheel (f g : Nat → Int) (w : World) : (Op.equalIn 10000 43 (.agg (vec 9 f)) (.agg (vec 9 g))).run Try.prog w = .ok (eqv 9 f g) w := by
  have hF := Try.underlying43
  have hf : Try.prog.underlying 43 = some (.struct (Try.prog.fieldsOf 43)) := by simp [Program.fieldsOf, hF]
  rw [run_equalIn_struct w 9999 43 _ _ hf (by kernel_rfl)]
  simp only [Program.fieldsOf, hF]
  simp only [Op.eqFields]
  rw [if_pos (by decide), if_pos (by decide)]
  simp only [Sem.run_bind, run_part_plain (w := w) key_int (vec_at f (k := 0) (n := 9) (by omega)), run_part_plain (w := w) key_int (vec_at g (k := 0) (n := 9) (by omega)), Result.andThen_ok, run_equalIn_int w 9998 3 .i64 .i64 (f 0) (g 0) Try.underlying3]
  rw [eqv_nine]
  cases h : (f 0 == g 0)
  · simp
  · simp [part_cyc, equal_cyc9]
    cases eqv 8 (fun j => f (j + 1)) (fun j => g (j + 1)) <;> simp
/-- Whether two wheels are the same. -/
def eqW (a b : Wh) : Bool := eqv 9 (wf a) (wf b)
theorem eqW_true {a b : Wh} : eqW a b = true ↔ a = b := by
  constructor
  · intro h
    have h' := eqv_same h
    refine Wh.same (h' 0 (by omega)) (V.ext fun j hj => ?_)
    have := h' (j + 1) (by omega)
    simpa [wf] using this
  · rintro rfl
    exact eqv_true fun _ _ => rfl
theorem equal_wh (a b : Wh) (w : World) : (Op.equalIn 10000 43 (wh a) (wh b)).run Try.prog w = .ok (eqW a b) w := equal_wheel _ _ w
/-- Whether two lists are the same. -/
def eqL : List Wh → List Wh → Bool
  | [], [] => true
  | a :: l, b :: m => eqW a b && eqL l m
  | _, _ => false
theorem eqL_true : ∀ {a b : List Wh}, eqL a b = true ↔ a = b
  | [], [] => by simp [eqL]
  | [], b :: m => by simp [eqL]
  | a :: l, [] => by simp [eqL]
  | a :: l, b :: m => by
    unfold eqL
    rw [Bool.and_eq_true, eqW_true, eqL_true (a := l) (b := m)]
    simp
theorem eqL_same {a b : List Wh} (h : a = b) : eqL a b = true := eqL_true.2 h
theorem eqL_not {a b : List Wh} (h : ¬ a = b) : eqL a b = false := by
  cases e : eqL a b
  · rfl
  · exact absurd (eqL_true.1 e) h

end Go.Proofs.Ytdbokcbbpegilaa
/- Designs compared. -/
namespace Go.Proofs.Ytdbokcbbpegilaa
set_option maxRecDepth 20000
open Go.ChangeShapes Go.WideShapes Go.ChangeAt Go.RowKit
set_option linter.unusedVariables false
set_option linter.unusedSimpArgs false

theorem equal_nine (a b : Wh) (w : World) : (Op.equalIn 10000 43 (.agg (vec 9 (wf a))) (.agg (vec 9 (wf b)))).run Try.prog w = .ok (eqW a b) w := equal_wheel _ _ w
theorem take_same {a b : List Wh} {k : Nat} {c d : Wh} (h : a.take k = b.take k) (hc : a[k]? = some c) (hd : b[k]? = some d) (e : eqW c d = true) : a.take (k + 1) = b.take (k + 1) := by
  rw [take_next hc, take_next hd, h, eqW_true.1 e]
theorem not_same {a b : List Wh} {k : Nat} {c d : Wh} (hc : a[k]? = some c) (hd : b[k]? = some d) (e : eqW c d = false) : eqL a b = false := eqL_not (by
  rintro rfl
  rw [hc] at hd
  obtain rfl := Option.some.inj hd
  rw [eqW_true.2 rfl] at e
  cases e)
theorem len_same {a b : List Wh} (h : ¬ a.length = b.length) : eqL a b = false := eqL_not (by rintro rfl; exact h rfl)
/-- The tidy form of a design. -/
def tid (ws : List Wh) : Option (List Wh) := if valid ws then tidy false ws else none
/-- Whether two designs are the same when tidy. -/
def sameD (a b : List Wh) : Bool := (tid a).isSome && (tid b).isSome && eqL (got (tid a)) (got (tid b))

set_option maxHeartbeats 2000000 in
theorem l5Equal_any (va vb : Value) (a b : List Wh) (w : World) (ha : Reads w va a) (hb : Reads w vb b) : Calls Try.prog 77 #[va, vb] w fun e w' => e = .returned (.bool (eqL a b)) ∧ Below w.heap.size w w' := by
  obtain ⟨p, cap, rfl, hc1, hc2, hp0, hp⟩ := ha
  obtain ⟨q, cap2, rfl, hd1, hd2, hq0, hq⟩ := hb
  simp only [maxLen] at hc2 hd2
  by_cases hl : a.length = b.length
  · have hlz : (a.length : Int) = (b.length : Int) := by omega
    have hlb : ((a.length : Int) == (b.length : Int)) = true := by simpa using hlz
    have HP := Lib.hid hp
    have HQ := Lib.hid hq
    generalize hres : eqL a b = res
    have HRES := Lib.hid hres
    clear hp hq hres hlz
    have HLL := Lib.hid hl
    clear hl
    go_enter Try.func77, Try.ntmps77
    go_wp2
    go_loopw [5] (fun i wr => ∃ k : Nat, k ≤ a.length ∧ i = .int .i64 k ∧ a.take k = b.take k ∧ Below w.heap.size w wr) (fun i _ => a.length - (intOf i).toNat)
    case atStart => exact ⟨0, Nat.zero_le _, rfl, rfl, Below.refl _ _⟩
    case round =>
      obtain ⟨k, hk, rfl, hall, hbel⟩ := hrel
      have HA := Lib.hid hall
      have HL := Lib.hid hbel
      clear hall hbel
      by_cases hlt : k < a.length
      · have hkz : (k : Int) < (a.length : Int) := by omega
        have hkb : (k : Int) < (b.length : Int) := by have := HLL.out; omega
        have hk0 : (0 : Int) ≤ (k : Int) := by omega
        have hlt2 : k < b.length := by have := HLL.out; omega
        obtain ⟨c, hc⟩ : ∃ c, a[k]? = some c := ⟨_, List.getElem?_eq_getElem hlt⟩
        obtain ⟨d, hd⟩ : ∃ d, b[k]? = some d := ⟨_, List.getElem?_eq_getElem hlt2⟩
        obtain ⟨g, o, rfl, hg, hr⟩ := HP.out (by rintro rfl; have := hp0 rfl; omega)
        obtain ⟨g2, o2, rfl, hg2, hr2⟩ := HQ.out (by rintro rfl; have := hq0 rfl; omega)
        have HE := Lib.hid (range_part (range_below hr hg HL.out) hc)
        have HE2 := Lib.hid (range_part (range_below hr2 hg2 HL.out) hd)
        have HC := Lib.hid hc
        have HD := Lib.hid hd
        have E := equal_nine c d
        clear hr hr2 hc hd hlt2
        generalize hcd : eqW c d = bit at *
        have HCD := Lib.hid hcd
        clear hcd
        go_upto_region 6 with fail
        refine wp_region_held_drew (S := fun w' => w' = wr.drew) (by kernel_rfl) rfl (fun hHeld => ?_)
        refine wpAnyH_take (i := 0) (oi := _) (v := .slice (some ⟨g, o, none⟩) a.length cap) rfl (by kernel_rfl) (by kernel_rfl) (by kernel_rfl) (fun _ _ _ h => h) (Or.inl ⟨by rfl, fun w h => by go_simp⟩) hHeld ?_
        try simp only [Act.put, List.setIfInBounds_toArray, List.set_cons_zero, List.set_cons_succ, List.getElem_toArray, List.getElem_cons_succ, List.getElem_cons_zero]
        refine wpAnyH_take (i := 1) (oi := _) (v := .int .i64 k) rfl (by kernel_rfl) (by kernel_rfl) (by kernel_rfl) (fun _ _ _ h => h) (Or.inl ⟨by rfl, fun w h => by go_simp⟩) hHeld ?_
        try simp only [Act.put, List.setIfInBounds_toArray, List.set_cons_zero, List.set_cons_succ, List.getElem_toArray, List.getElem_cons_succ, List.getElem_cons_zero]
        refine wpAnyH_take (i := 2) (oi := _) (v := .pointer (some ⟨g, o + k * 9, none⟩)) rfl (by kernel_rfl) (by kernel_rfl) (by kernel_rfl) (fun _ _ _ h => h) (Or.inl ⟨by rfl, fun w h => by go_simp⟩) hHeld ?_
        try simp only [Act.put, List.setIfInBounds_toArray, List.set_cons_zero, List.set_cons_succ, List.getElem_toArray, List.getElem_cons_succ, List.getElem_cons_zero]
        refine wpAnyH_take (i := 3) (oi := _) (v := .agg (vec 9 (wf c))) rfl (by kernel_rfl) (by kernel_rfl) (by kernel_rfl) (fun _ _ _ h => h) (yieldsIf_load_mid (by rfl) _ _ rfl _ _ rfl _ _ ((fun w h => by rw [h]; exact HE.out)) Try.underlying43 rfl (size_wheel c)) hHeld ?_
        try simp only [Act.put, List.setIfInBounds_toArray, List.set_cons_zero, List.set_cons_succ, List.getElem_toArray, List.getElem_cons_succ, List.getElem_cons_zero]
        refine wpAnyH_take (i := 4) (oi := _) (v := .slice (some ⟨g2, o2, none⟩) b.length cap2) rfl (by kernel_rfl) (by kernel_rfl) (by kernel_rfl) (fun _ _ _ h => h) (Or.inl ⟨by rfl, fun w h => by go_simp⟩) hHeld ?_
        try simp only [Act.put, List.setIfInBounds_toArray, List.set_cons_zero, List.set_cons_succ, List.getElem_toArray, List.getElem_cons_succ, List.getElem_cons_zero]
        refine wpAnyH_take (i := 5) (oi := _) (v := .int .i64 k) rfl (by kernel_rfl) (by kernel_rfl) (by kernel_rfl) (fun _ _ _ h => h) (Or.inl ⟨by rfl, fun w h => by go_simp⟩) hHeld ?_
        try simp only [Act.put, List.setIfInBounds_toArray, List.set_cons_zero, List.set_cons_succ, List.getElem_toArray, List.getElem_cons_succ, List.getElem_cons_zero]
        refine wpAnyH_take (i := 6) (oi := _) (v := .pointer (some ⟨g2, o2 + k * 9, none⟩)) rfl (by kernel_rfl) (by kernel_rfl) (by kernel_rfl) (fun _ _ _ h => h) (Or.inl ⟨by rfl, fun w h => by go_simp⟩) hHeld ?_
        try simp only [Act.put, List.setIfInBounds_toArray, List.set_cons_zero, List.set_cons_succ, List.getElem_toArray, List.getElem_cons_succ, List.getElem_cons_zero]
        refine wpAnyH_take (i := 7) (oi := _) (v := .agg (vec 9 (wf d))) rfl (by kernel_rfl) (by kernel_rfl) (by kernel_rfl) (fun _ _ _ h => h) (yieldsIf_load_mid (by rfl) _ _ rfl _ _ rfl _ _ ((fun w h => by rw [h]; exact HE2.out)) Try.underlying43 rfl (size_wheel d)) hHeld ?_
        try simp only [Act.put, List.setIfInBounds_toArray, List.set_cons_zero, List.set_cons_succ, List.getElem_toArray, List.getElem_cons_succ, List.getElem_cons_zero]
        refine wpAnyH_take (i := 8) (oi := _) (v := .bool (!bit)) rfl (by kernel_rfl) (by kernel_rfl) (by kernel_rfl) (fun _ _ _ h => h) (Or.inl ⟨by rfl, fun w h => by go_simp⟩) hHeld ?_
        try simp only [Act.put, List.setIfInBounds_toArray, List.set_cons_zero, List.set_cons_succ, List.getElem_toArray, List.getElem_cons_succ, List.getElem_cons_zero]
        clear hHeld
        refine wpAnyH_done (by kernel_rfl) ?_ _
        cases bit
        · have HF : Aside (false = res) := (show false = res from by rw [← HRES.out]; exact (not_same HC.out HD.out HCD.out).symm)
          go_wp2
          go_ret
          rw [← HF.out]
          exact ⟨rfl, HL.out.drew⟩
        · go_wp2
          go_roundw
          case rel => exact ⟨k + 1, by omega, by go_num, take_same HA.out HC.out HD.out HCD.out, HL.out.drew⟩
          case measure => simp [intOf]; omega
      · obtain rfl : k = a.length := by omega
        have HF : Aside (true = res) := (show true = res from by
          have h1 := HA.out
          rw [List.take_length, HLL.out, List.take_length] at h1
          rw [← HRES.out]; exact (eqL_same h1).symm)
        go_wp2
        go_ret
        rw [← HF.out]
        exact ⟨rfl, HL.out⟩
  · have hlb : ((a.length : Int) == (b.length : Int)) = false := by simpa using (show ¬ (a.length : Int) = (b.length : Int) from by omega)
    rw [len_same hl]
    clear hp hq hl
    go_enter Try.func77, Try.ntmps77
    go_wp2
    go_ret
    exact ⟨rfl, Below.refl _ _⟩

theorem tid_eq (ws : List Wh) : tid ws = if valid ws then tidy false ws else none := rfl

end Go.Proofs.Ytdbokcbbpegilaa
/- Where the wheels of a design point together. -/
namespace Go.Proofs.Ytdbokcbbpegilaa
set_option maxRecDepth 20000
open Go.ChangeShapes Go.WideShapes Go.ChangeAt Go.RowKit
set_option linter.unusedVariables false
set_option linter.unusedSimpArgs false

/-- Whether a number is a turn. -/
def isT (t : Int) : Bool := decide (0 ≤ t) && decide (t ≤ 23)
theorem isT_yes {t : Int} (h : isT t = true) : 0 ≤ t ∧ t ≤ 23 := by unfold isT at h; simpa using h
theorem isT_no {t : Int} (h : isT t = false) : t < 0 ∨ 23 < t := by
  unfold isT at h
  simp at h
  omega
/-- The point of a design at a turn. -/
def atD (ws : List Wh) (t : Int) : Option V := if valid ws && isT t then (if okv (pAt t ws) then some (pAt t ws) else none) else none
/-- What a function hands back that answers with a point, and true. -/
def pointOf (o : Option V) : Value := .tuple #[pt (o.getD V.zero).up, .bool o.isSome]
theorem pAt_next {t : Int} {ws : List Wh} {k : Nat} {c : Wh} (hc : ws[k]? = some c) : pAt t (ws.take (k + 1)) = V.add (pAt t (ws.take k)) (tV (tm t c.s) c.r) := by
  rw [take_next hc, pAt_append]
  show V.add _ (V.add _ V.zero) = _
  rw [V.add_zero]
theorem big_pAt (t : Int) : ∀ ws : List Wh, (∀ c ∈ ws, okv c.r = true) → Big (pAt t ws) (4000000 * (ws.length : Int))
  | [], _ => big_zero.mono (by simp)
  | c :: ws, h => by
    have h1 := big_tV (h c (by simp)) (tm_lt t c.s)
    have h2 := big_pAt t ws fun d hd => h d (by simp [hd])
    exact (h1.add h2).mono (by simp only [List.length_cons]; omega)
theorem big_part {t : Int} {ws : List Wh} (hv : valid ws = true) (k : Nat) : Big (pAt t (ws.take k)) 100000000 := by
  have h1 := big_pAt t (ws.take k) fun c hc => (valid_ok hv c (List.mem_of_mem_take hc)).2
  have h2 := valid_len hv
  exact h1.mono (by rw [List.length_take]; omega)
theorem speed_times {t s : Int} (ht : 0 ≤ t ∧ t ≤ 23) (hs : -1000 ≤ s ∧ s ≤ 1000) : -23000 ≤ t * s ∧ t * s ≤ 23000 := by
  have h1 : t * s ≤ t * 1000 := Int.mul_le_mul_of_nonneg_left hs.2 ht.1
  have h2 : t * (-1000) ≤ t * s := Int.mul_le_mul_of_nonneg_left hs.1 ht.1
  omega
theorem range_kept {B : Nat} {w w' : World} {g o : Nat} {cs : List Value} (h : w.rangeAt g o cs) (hg : g < B) (hb : Below B w w') : w'.rangeAt g o cs := fun j v hv => (World.cell?_of_block (hb.block g hg)).trans (h j v hv)
theorem row_kept {B : Nat} {w w' : World} {g n : Nat} {T : TypeId} {f : Nat → Int} (h : RowAt w g n T f) (hg : g < B) (hb : Below B w w') : RowAt w' g n T f := (hb.block g hg).trans h
theorem below_on {s : Nat} {W c w : World} (h : Below s W c) (hs : s ≤ W.heap.size) (k : Below c.heap.size c w) : Below s W w := h.trans (k.mono (Nat.le_trans hs h.size))
theorem wp_load8 {P : Program} {o : Oper} {a : Act} {w : World} {K : Act → World → Prop} {Q : Exit → Act → World → Prop} {T : TypeId} {d : TypeDesc} {g p : Nat} {f : Nat → Int} {x : Operand} (ho : o.op = .load T x) (hx : a.eval x = .pointer (some ⟨g, p, none⟩)) (hr : w.rangeAt g p (lst 8 f))
    (hu : P.underlying T = some d) (hd : d.isRow = true) (hi : (P.info? T).map (·.size) = some 8) (h : K (a.put o.dst (pt f)) w) : o.wp P a w K Q :=
  wp_load_mid T x ho g p hx (lst 8 f) d hr hu hd (by rw [lst_length]; exact hi) h

/-- Two rows of zeros. -/
def twoO (w : World) : World := (w.alloc (.cells (vec 8 nul) 41)).alloc (.cells (vec 8 nul) 41)
theorem twoO_facts (w : World) : RowAt (twoO w) w.heap.size 8 41 nul ∧ RowAt (twoO w) (w.heap.size + 1) 8 41 nul ∧ Below w.heap.size w (twoO w) ∧ (twoO w).heap.size = w.heap.size + 2 :=
  ⟨(RowAt.new w 8 _ _).alloc _, RowAt.newAt rfl (by simp), ((Below.refl _ _).alloc (Nat.le_refl _) _).alloc (by simp) _, by simp [twoO]⟩

set_option maxHeartbeats 4000000 in
theorem l5At_any (v : Value) (ws : List Wh) (t : Int) (w : World) (hv : Reads w v ws) (hd : valid ws = true) (ht : 0 ≤ t ∧ t ≤ 23) :
    Calls Try.prog 119 #[v, .int .i64 t] w fun e w' => e = .returned (pt (pAt t ws).up) ∧ Below w.heap.size w w' := by
  obtain ⟨p, cap, rfl, hc1, hc2, hp0, hp⟩ := hv
  simp only [maxLen] at hc2
  obtain ⟨hR, hS, hL, hZ⟩ := twoO_facts w
  have HP := Lib.hid hp
  have HV := Lib.hid hd
  have HT := Lib.hid ht
  have HR := Lib.hid hR
  have HS := Lib.hid hS
  have HL := Lib.hid hL
  have HZ : Aside (w.heap.size + 1 < (twoO w).heap.size) := (show _ < _ by omega)
  clear hp hd ht hR hS hL hZ
  generalize hres : pAt t ws = res
  have HRES := Lib.hid hres
  clear hres
  go_enter Try.func119, Try.ntmps119
  go_upto_region 2 with (first | (refine store_new (ty := 41) rfl rfl rfl rfl zero8 info_cyc ?_))
  show Code.wp _ _ _ _ (twoO w)
  generalize twoO w = W at *
  generalize hbw : w.heap.size = b at *
  go_wp2
  go_loopw [6] (fun i wr => ∃ k : Nat, k ≤ ws.length ∧ i = .int .i64 k ∧ RowAt wr (b + 1) 8 41 (pAt t (ws.take k)).up ∧ Below (b + 1) W wr) (fun i _ => ws.length - (intOf i).toNat)
  case atStart => exact ⟨0, Nat.zero_le _, rfl, by rw [List.take_zero]; show RowAt _ _ _ _ V.zero.up; rw [zero_up]; exact HS.out, Below.refl _ _⟩
  case round =>
    obtain ⟨k, hk, rfl, hS, hbel⟩ := hrel
    by_cases hlt : k < ws.length
    · have hkz : (k : Int) < (ws.length : Int) := by omega
      have hk0 : (0 : Int) ≤ (k : Int) := by omega
      obtain ⟨c, hc⟩ : ∃ c, ws[k]? = some c := ⟨_, List.getElem?_eq_getElem hlt⟩
      obtain ⟨g, o, rfl, hg, hr⟩ := HP.out (by rintro rfl; have := hp0 rfl; omega)
      have hcv := valid_ok HV.out c (List.mem_of_getElem? hc)
      have sb := speed_times HT.out (inS_bound hcv.1)
      have q1 : IntKind.i64.wrap (t * c.s) = t * c.s := by rw [IntKind.wrap_i64]; omega
      have HE : Aside (W.rangeAt g (o + k * 9) (enc c)) := range_part (range_below hr (by rw [hbw]; exact hg) (by rw [hbw]; exact HL.out)) hc
      have HGB : Aside (g < b + 1) := (show g < b + 1 from by omega)
      have HB := Lib.hid hbel
      have HC := Lib.hid hc
      have M : ∀ w, Calls Try.prog 87 #[.int .i64 (t * c.s)] w fun e w' => e = .returned (.int .i64 (tm t c.s : Nat)) ∧ w = w' := fun w => by
        refine (mod_any (t * c.s) (by omega) (by omega) w).mono ?_
        rintro e w' ⟨rfl, h⟩
        refine ⟨?_, h⟩
        have e : ((tm t c.s : Nat) : Int) = t * c.s % 24 := by unfold tm; omega
        rw [e]
      have T : ∀ w, Calls Try.prog 88 #[pt c.r.up, .int .i64 (tm t c.s : Nat)] w fun e w' => e = .returned (pt (tV (tm t c.s) c.r).up) ∧ Below w.heap.size w w' := fun w => by
        rw [← pt_tV c.r (tm_lt t c.s)]
        exact specTurned_any c.r.up (tm t c.s) (tm_lt t c.s) (inR_bound hcv.2) w
      have PL : ∀ w, Calls Try.prog 138 #[pt (pAt t (ws.take k)).up, .int .i64 1, pt (tV (tm t c.s) c.r).up] w fun e w' => e = .returned (pt (pAt t (ws.take (k + 1))).up) ∧ Below w.heap.size w w' := fun w => by
        have b1 := big_part (t := t) HV.out k
        have b2 := big_tV hcv.2 (tm_lt t c.s)
        refine (specSum_any (pAt t (ws.take k)).up (tV (tm t c.s) c.r).up 1 (by omega) (fun j hj => by have := b1 j hj; omega) (fun j hj => by have := b2 j hj; omega) w).mono ?_
        rintro e w' ⟨rfl, h⟩
        refine ⟨?_, h⟩
        rw [pAt_next hc]
        have : pt (mul1 (pAt t (ws.take k)).up 1 (tV (tm t c.s) c.r).up) = pt (V.add (pAt t (ws.take k)) (tV (tm t c.s) c.r)).up := pt_same fun j hj => by
          rw [add_up]; unfold mul1 add; omega
        rw [this]
      generalize pAt t (ws.take k) = S0 at *
      have HNX : Aside (pAt t (ws.take (k + 1)) = pAt t (ws.take (k + 1))) := rfl
      generalize hS1 : pAt t (ws.take (k + 1)) = S1 at *
      generalize tm t c.s = q at *
      generalize tV q c.r = r at *
      have HS1 := Lib.hid hS1
      clear hr hc hcv sb hS1 HNX
      have HZ2 : Aside (b + 1 ≤ W.heap.size) := Nat.le_of_lt HZ.out
      go_upto_region 5 with fail
      have hG : RowAt wr.drew (b + 1) 8 41 S0.up := hS
      refine wp_region_held_drew (S := fun w' => Below (b + 1) W w') (by kernel_rfl) HB.out.drew (fun hHeld => ?_)
      refine wpAnyH_take (i := 1) (oi := _) (v := .slice (some ⟨g, o, none⟩) ws.length cap) rfl (by kernel_rfl) (by kernel_rfl) (by kernel_rfl) (fun _ _ _ h => h) (Or.inl ⟨by rfl, fun w h => by go_simp⟩) hHeld ?_
      try simp only [Act.put, List.setIfInBounds_toArray, List.set_cons_zero, List.set_cons_succ, List.getElem_toArray, List.getElem_cons_succ, List.getElem_cons_zero]
      refine wpAnyH_take (i := 2) (oi := _) (v := .int .i64 k) rfl (by kernel_rfl) (by kernel_rfl) (by kernel_rfl) (fun _ _ _ h => h) (Or.inl ⟨by rfl, fun w h => by go_simp⟩) hHeld ?_
      try simp only [Act.put, List.setIfInBounds_toArray, List.set_cons_zero, List.set_cons_succ, List.getElem_toArray, List.getElem_cons_succ, List.getElem_cons_zero]
      refine wpAnyH_take (i := 3) (oi := _) (v := .pointer (some ⟨g, o + k * 9, none⟩)) rfl (by kernel_rfl) (by kernel_rfl) (by kernel_rfl) (fun _ _ _ h => h) (Or.inl ⟨by rfl, fun w h => by go_simp⟩) hHeld ?_
      try simp only [Act.put, List.setIfInBounds_toArray, List.set_cons_zero, List.set_cons_succ, List.getElem_toArray, List.getElem_cons_succ, List.getElem_cons_zero]
      refine wpAnyH_take (i := 4) (oi := _) (v := .pointer (some ⟨g, o + k * 9 + 1, none⟩)) rfl (by kernel_rfl) (by kernel_rfl) (by kernel_rfl) (fun _ _ _ h => h) (Or.inl ⟨by rfl, fun w h => by go_simp⟩) hHeld ?_
      try simp only [Act.put, List.setIfInBounds_toArray, List.set_cons_zero, List.set_cons_succ, List.getElem_toArray, List.getElem_cons_succ, List.getElem_cons_zero]
      refine wpAnyH_take (i := 5) (oi := _) (v := .agg (vec 8 c.r.up)) rfl (by kernel_rfl) (by kernel_rfl) (by kernel_rfl) (fun _ _ _ h => h) (yieldsIf_load_mid (by rfl) _ _ rfl _ _ rfl _ _ ((fun w h => range_radius (range_kept HE.out HGB.out h))) Try.underlying41 rfl (size_cyc8 _)) hHeld ?_
      try simp only [Act.put, List.setIfInBounds_toArray, List.set_cons_zero, List.set_cons_succ, List.getElem_toArray, List.getElem_cons_succ, List.getElem_cons_zero]
      refine wpAnyH_take (i := 6) (oi := _) (v := .int .i64 t) rfl (by kernel_rfl) (by kernel_rfl) (by kernel_rfl) (fun _ _ _ h => h) (Or.inl ⟨by rfl, fun w h => by go_simp⟩) hHeld ?_
      try simp only [Act.put, List.setIfInBounds_toArray, List.set_cons_zero, List.set_cons_succ, List.getElem_toArray, List.getElem_cons_succ, List.getElem_cons_zero]
      refine wpAnyH_take (i := 7) (oi := _) (v := .slice (some ⟨g, o, none⟩) ws.length cap) rfl (by kernel_rfl) (by kernel_rfl) (by kernel_rfl) (fun _ _ _ h => h) (Or.inl ⟨by rfl, fun w h => by go_simp⟩) hHeld ?_
      try simp only [Act.put, List.setIfInBounds_toArray, List.set_cons_zero, List.set_cons_succ, List.getElem_toArray, List.getElem_cons_succ, List.getElem_cons_zero]
      refine wpAnyH_take (i := 8) (oi := _) (v := .int .i64 k) rfl (by kernel_rfl) (by kernel_rfl) (by kernel_rfl) (fun _ _ _ h => h) (Or.inl ⟨by rfl, fun w h => by go_simp⟩) hHeld ?_
      try simp only [Act.put, List.setIfInBounds_toArray, List.set_cons_zero, List.set_cons_succ, List.getElem_toArray, List.getElem_cons_succ, List.getElem_cons_zero]
      refine wpAnyH_take (i := 9) (oi := _) (v := .pointer (some ⟨g, o + k * 9, none⟩)) rfl (by kernel_rfl) (by kernel_rfl) (by kernel_rfl) (fun _ _ _ h => h) (Or.inl ⟨by rfl, fun w h => by go_simp⟩) hHeld ?_
      try simp only [Act.put, List.setIfInBounds_toArray, List.set_cons_zero, List.set_cons_succ, List.getElem_toArray, List.getElem_cons_succ, List.getElem_cons_zero]
      refine wpAnyH_take (i := 10) (oi := _) (v := .pointer (some ⟨g, o + k * 9, none⟩)) rfl (by kernel_rfl) (by kernel_rfl) (by kernel_rfl) (fun _ _ _ h => h) (Or.inl ⟨by rfl, fun w h => by go_simp⟩) hHeld ?_
      try simp only [Act.put, List.setIfInBounds_toArray, List.set_cons_zero, List.set_cons_succ, List.getElem_toArray, List.getElem_cons_succ, List.getElem_cons_zero]
      refine wpAnyH_take (i := 11) (oi := _) (v := .int .i64 c.s) rfl (by kernel_rfl) (by kernel_rfl) (by kernel_rfl) (fun _ _ _ h => h) (Or.inl ⟨by rfl, fun w h => by have hcell := (range_speed (range_kept HE.out HGB.out h)); go_simp⟩) hHeld ?_
      try simp only [Act.put, List.setIfInBounds_toArray, List.set_cons_zero, List.set_cons_succ, List.getElem_toArray, List.getElem_cons_succ, List.getElem_cons_zero]
      refine wpAnyH_take (i := 12) (oi := _) (v := .int .i64 (t * c.s)) rfl (by kernel_rfl) (by kernel_rfl) (by kernel_rfl) (fun _ _ _ h => h) (Or.inl ⟨by rfl, fun w h => by go_simp⟩) hHeld ?_
      try simp only [Act.put, List.setIfInBounds_toArray, List.set_cons_zero, List.set_cons_succ, List.getElem_toArray, List.getElem_cons_succ, List.getElem_cons_zero]
      refine wpAnyH_ready (rs := [0, 13]) (by kernel_rfl) (by simp) ?_
      refine AllReadyH.cons (o := _) rfl (fun K hK => ?_) (AllReadyH.cons (o := _) rfl (fun K hK => ?_) AllReadyH.nil)
      · rw [if_pos (by rfl)]
        refine wp_load8 (T := 41) rfl rfl hG.range Try.underlying41 rfl info_cyc ?_
        refine hK.out _ _ hHeld (fun hHeld => ?_)
        clear hK K
        try simp only [Act.put, List.setIfInBounds_toArray, List.set_cons_zero, List.set_cons_succ, List.getElem_toArray, List.getElem_cons_succ, List.getElem_cons_zero]
        refine wpAnyH_ready (rs := [13]) (by kernel_rfl) (by simp) ?_
        refine AllReadyH.cons (o := _) rfl (fun K hK => ?_) AllReadyH.nil
        go_simp
        refine (M _).mono ?_; rintro e w5 ⟨rfl, rfl⟩
        go_wp2_with fail
        refine hK.out _ _ hHeld (fun hHeld => ?_)
        clear hK K
        try simp only [Act.put, List.setIfInBounds_toArray, List.set_cons_zero, List.set_cons_succ, List.getElem_toArray, List.getElem_cons_succ, List.getElem_cons_zero]
        clear M
        refine wpAnyH_ready (rs := [14]) (by kernel_rfl) (by simp) ?_
        refine AllReadyH.cons (o := _) rfl (fun K hK => ?_) AllReadyH.nil
        go_simp
        refine (T _).mono ?_; rintro e w5 ⟨rfl, hb5⟩
        go_wp2_with fail
        replace hG := hG.below hb5
        refine hK.out _ _ (below_on hHeld HZ2.out hb5) (fun hHeld => ?_)
        clear hK K
        try simp only [Act.put, List.setIfInBounds_toArray, List.set_cons_zero, List.set_cons_succ, List.getElem_toArray, List.getElem_cons_succ, List.getElem_cons_zero]
        clear hb5 T
        refine wpAnyH_ready (rs := [15]) (by kernel_rfl) (by simp) ?_
        refine AllReadyH.cons (o := _) rfl (fun K hK => ?_) AllReadyH.nil
        go_simp
        refine (PL _).mono ?_; rintro e w6 ⟨rfl, hb6⟩
        go_wp2_with fail
        replace hG := hG.below hb6
        refine hK.out _ _ (below_on hHeld HZ2.out hb6) (fun hHeld => ?_)
        clear hK K
        try simp only [Act.put, List.setIfInBounds_toArray, List.set_cons_zero, List.set_cons_succ, List.getElem_toArray, List.getElem_cons_succ, List.getElem_cons_zero]
        clear hb6 PL
        refine wpAnyH_ready (rs := [16]) (by kernel_rfl) (by simp) ?_
        refine AllReadyH.cons (o := _) rfl (fun K hK => ?_) AllReadyH.nil
        rw [if_pos (by rfl)]
        refine store_step (f' := S1.up) rfl rfl rfl hG info_cyc ?_
        have hG2 := hG.setRow (f' := S1.up)
        refine hK.out _ _ (below_setRow hHeld (Nat.le_refl _) _) (fun hHeld => ?_)
        clear hK K
        try simp only [Act.put, List.setIfInBounds_toArray, List.set_cons_zero, List.set_cons_succ, List.getElem_toArray, List.getElem_cons_succ, List.getElem_cons_zero]
        clear hG
        refine wpAnyH_done (by kernel_rfl) ?_ _
        have HG2 := Lib.hid hG2
        have HB2 := Lib.hid hHeld
        clear hG2 hHeld
        go_wp2
        go_roundw
        case rel => exact ⟨k + 1, by omega, by go_num, by rw [HS1.out]; exact HG2.out, HB2.out⟩
        case measure => simp [intOf]; omega
      · go_simp
        refine (M _).mono ?_; rintro e w5 ⟨rfl, rfl⟩
        go_wp2_with fail
        refine hK.out _ _ hHeld (fun hHeld => ?_)
        clear hK K
        try simp only [Act.put, List.setIfInBounds_toArray, List.set_cons_zero, List.set_cons_succ, List.getElem_toArray, List.getElem_cons_succ, List.getElem_cons_zero]
        clear M
        refine wpAnyH_ready (rs := [0, 14]) (by kernel_rfl) (by simp) ?_
        refine AllReadyH.cons (o := _) rfl (fun K hK => ?_) (AllReadyH.cons (o := _) rfl (fun K hK => ?_) AllReadyH.nil)
        · rw [if_pos (by rfl)]
          refine wp_load8 (T := 41) rfl rfl hG.range Try.underlying41 rfl info_cyc ?_
          refine hK.out _ _ hHeld (fun hHeld => ?_)
          clear hK K
          try simp only [Act.put, List.setIfInBounds_toArray, List.set_cons_zero, List.set_cons_succ, List.getElem_toArray, List.getElem_cons_succ, List.getElem_cons_zero]
          refine wpAnyH_ready (rs := [14]) (by kernel_rfl) (by simp) ?_
          refine AllReadyH.cons (o := _) rfl (fun K hK => ?_) AllReadyH.nil
          go_simp
          refine (T _).mono ?_; rintro e w5 ⟨rfl, hb5⟩
          go_wp2_with fail
          replace hG := hG.below hb5
          refine hK.out _ _ (below_on hHeld HZ2.out hb5) (fun hHeld => ?_)
          clear hK K
          try simp only [Act.put, List.setIfInBounds_toArray, List.set_cons_zero, List.set_cons_succ, List.getElem_toArray, List.getElem_cons_succ, List.getElem_cons_zero]
          clear hb5 T
          refine wpAnyH_ready (rs := [15]) (by kernel_rfl) (by simp) ?_
          refine AllReadyH.cons (o := _) rfl (fun K hK => ?_) AllReadyH.nil
          go_simp
          refine (PL _).mono ?_; rintro e w6 ⟨rfl, hb6⟩
          go_wp2_with fail
          replace hG := hG.below hb6
          refine hK.out _ _ (below_on hHeld HZ2.out hb6) (fun hHeld => ?_)
          clear hK K
          try simp only [Act.put, List.setIfInBounds_toArray, List.set_cons_zero, List.set_cons_succ, List.getElem_toArray, List.getElem_cons_succ, List.getElem_cons_zero]
          clear hb6 PL
          refine wpAnyH_ready (rs := [16]) (by kernel_rfl) (by simp) ?_
          refine AllReadyH.cons (o := _) rfl (fun K hK => ?_) AllReadyH.nil
          rw [if_pos (by rfl)]
          refine store_step (f' := S1.up) rfl rfl rfl hG info_cyc ?_
          have hG2 := hG.setRow (f' := S1.up)
          refine hK.out _ _ (below_setRow hHeld (Nat.le_refl _) _) (fun hHeld => ?_)
          clear hK K
          try simp only [Act.put, List.setIfInBounds_toArray, List.set_cons_zero, List.set_cons_succ, List.getElem_toArray, List.getElem_cons_succ, List.getElem_cons_zero]
          clear hG
          refine wpAnyH_done (by kernel_rfl) ?_ _
          have HG2 := Lib.hid hG2
          have HB2 := Lib.hid hHeld
          clear hG2 hHeld
          go_wp2
          go_roundw
          case rel => exact ⟨k + 1, by omega, by go_num, by rw [HS1.out]; exact HG2.out, HB2.out⟩
          case measure => simp [intOf]; omega
        · go_simp
          refine (T _).mono ?_; rintro e w5 ⟨rfl, hb5⟩
          go_wp2_with fail
          replace hG := hG.below hb5
          refine hK.out _ _ (below_on hHeld HZ2.out hb5) (fun hHeld => ?_)
          clear hK K
          try simp only [Act.put, List.setIfInBounds_toArray, List.set_cons_zero, List.set_cons_succ, List.getElem_toArray, List.getElem_cons_succ, List.getElem_cons_zero]
          clear hb5 T
          refine wpAnyH_ready (rs := [0]) (by kernel_rfl) (by simp) ?_
          refine AllReadyH.cons (o := _) rfl (fun K hK => ?_) AllReadyH.nil
          rw [if_pos (by rfl)]
          refine wp_load8 (T := 41) rfl rfl hG.range Try.underlying41 rfl info_cyc ?_
          refine hK.out _ _ hHeld (fun hHeld => ?_)
          clear hK K
          try simp only [Act.put, List.setIfInBounds_toArray, List.set_cons_zero, List.set_cons_succ, List.getElem_toArray, List.getElem_cons_succ, List.getElem_cons_zero]
          refine wpAnyH_ready (rs := [15]) (by kernel_rfl) (by simp) ?_
          refine AllReadyH.cons (o := _) rfl (fun K hK => ?_) AllReadyH.nil
          go_simp
          refine (PL _).mono ?_; rintro e w6 ⟨rfl, hb6⟩
          go_wp2_with fail
          replace hG := hG.below hb6
          refine hK.out _ _ (below_on hHeld HZ2.out hb6) (fun hHeld => ?_)
          clear hK K
          try simp only [Act.put, List.setIfInBounds_toArray, List.set_cons_zero, List.set_cons_succ, List.getElem_toArray, List.getElem_cons_succ, List.getElem_cons_zero]
          clear hb6 PL
          refine wpAnyH_ready (rs := [16]) (by kernel_rfl) (by simp) ?_
          refine AllReadyH.cons (o := _) rfl (fun K hK => ?_) AllReadyH.nil
          rw [if_pos (by rfl)]
          refine store_step (f' := S1.up) rfl rfl rfl hG info_cyc ?_
          have hG2 := hG.setRow (f' := S1.up)
          refine hK.out _ _ (below_setRow hHeld (Nat.le_refl _) _) (fun hHeld => ?_)
          clear hK K
          try simp only [Act.put, List.setIfInBounds_toArray, List.set_cons_zero, List.set_cons_succ, List.getElem_toArray, List.getElem_cons_succ, List.getElem_cons_zero]
          clear hG
          refine wpAnyH_done (by kernel_rfl) ?_ _
          have HG2 := Lib.hid hG2
          have HB2 := Lib.hid hHeld
          clear hG2 hHeld
          go_wp2
          go_roundw
          case rel => exact ⟨k + 1, by omega, by go_num, by rw [HS1.out]; exact HG2.out, HB2.out⟩
          case measure => simp [intOf]; omega
    · obtain rfl : k = ws.length := by omega
      have HF : Aside (RowAt wr (b + 1) 8 41 res.up) := (show RowAt _ _ _ _ _ from by rw [← HRES.out]; rw [List.take_length] at hS; exact hS)
      have HO : Aside (RowAt wr b 8 41 nul) := row_kept HR.out (by omega) hbel
      have HQ : Aside (Below b w wr) := (show Below b w wr from HL.out.trans (hbel.mono (by omega)))
      clear hS hbel
      go_wp2_with (first | (refine load_row (ty := 41) (g := b + 1) rfl rfl rfl HF.out Try.underlying41 rfl info_cyc ?_) | (refine store_row (ty := 41) rfl rfl rfl rfl HO.out info_cyc ?_))
      refine bodyPost_ret (results_row rfl rfl HO.out.setRow Try.underlying41 rfl info_cyc) rfl ?_
      exact ⟨rfl, by rw [hbw]; exact below_setRow HQ.out (Nat.le_refl _) _⟩
theorem pointOf_none : pointOf none = .tuple #[pt nul, .bool false] := by show Value.tuple #[pt V.zero.up, .bool false] = _; rw [zero_up]
theorem atD_bad {ws : List Wh} {t : Int} (h : valid ws = false) : atD ws t = none := by unfold atD; rw [h]; rfl
theorem atD_not {ws : List Wh} {t : Int} (h : isT t = false) : atD ws t = none := by unfold atD; rw [h, Bool.and_false]; rfl
theorem atD_ok {ws : List Wh} {t : Int} (h : valid ws = true) (k : isT t = true) (l : okv (pAt t ws) = true) : atD ws t = some (pAt t ws) := by unfold atD; rw [h, k, l]; rfl
theorem atD_no {ws : List Wh} {t : Int} (l : okv (pAt t ws) = false) : atD ws t = none := by unfold atD; rw [l]; simp

set_option maxHeartbeats 2000000 in
theorem specDesignAt_any (v : Value) (ws : List Wh) (t : Int) (w : World) (hv : Reads w v ws) :
    Calls Try.prog 86 #[v, .int .i64 t] w fun e w' => e = .returned (pointOf (atD ws t)) ∧ Below w.heap.size w w' := by
  have hO : RowAt (w.alloc (.cells (vec 8 nul) 41)) w.heap.size 8 41 nul := RowAt.new w 8 _ _
  have hL : Below w.heap.size w (w.alloc (.cells (vec 8 nul) 41)) := (Below.refl _ _).alloc (Nat.le_refl _) _
  have hv1 := hv.below hL
  have C := specDesignValid_any v ws _ hv1
  clear hv
  have HV1 := Lib.hid hv1
  clear hv1
  cases hvd : valid ws
  · rw [hvd] at C
    have HF : Aside (atD ws t = none) := atD_bad hvd
    have C := Lib.hid C
    clear hvd
    go_enter Try.func86, Try.ntmps86
    go_upto_region 1 with fail
    show Code.wp _ _ _ _ (w.alloc (.cells (vec 8 nul) 41))
    generalize w.alloc (.cells (vec 8 nul) 41) = W at *
    go_wp2_with fail
    refine C.out.mono ?_; rintro e w2 ⟨rfl, hb2⟩
    have hO3 := hO.below hb2
    have hL3 := below_next hL hb2
    clear hO hL hb2 C
    go_wp2_with (refine store_row (ty := 41) rfl rfl rfl (show _ = Value.agg (vec 8 nul) from rfl) hO3 info_cyc ?_)
    refine bodyPost_ret (results_row_tmp rfl rfl hO3.setRow Try.underlying41 rfl info_cyc) rfl ?_
    rw [HF.out, pointOf_none]
    exact ⟨rfl, below_setRow hL3 (by omega) _⟩
  · rw [hvd] at C
    cases hT : isT t
    · have HF : Aside (atD ws t = none) := atD_not hT
      have IS := fun w => is_no t (isT_no hT) w
      have C := Lib.hid C
      clear hvd hT
      go_enter Try.func86, Try.ntmps86
      go_upto_region 1 with fail
      show Code.wp _ _ _ _ (w.alloc (.cells (vec 8 nul) 41))
      generalize w.alloc (.cells (vec 8 nul) 41) = W at *
      go_wp2_with fail
      refine C.out.mono ?_; rintro e w2 ⟨rfl, hb2⟩
      have hO3 := hO.below hb2
      have hL3 := below_next hL hb2
      clear hO hL hb2 C
      go_wp2_with fail
      refine (IS _).mono ?_; rintro e w3 ⟨rfl, rfl⟩
      clear IS
      go_wp2_with (refine store_row (ty := 41) rfl rfl rfl (show _ = Value.agg (vec 8 nul) from rfl) hO3 info_cyc ?_)
      refine bodyPost_ret (results_row_tmp rfl rfl hO3.setRow Try.underlying41 rfl info_cyc) rfl ?_
      rw [HF.out, pointOf_none]
      exact ⟨rfl, below_setRow hL3 (by omega) _⟩
    · have ht := isT_yes hT
      have IS := fun w => is_yes t ht.1 ht.2 w
      have A := fun w2 (hb2 : Below (w.alloc (.cells (vec 8 nul) 41)).heap.size (w.alloc (.cells (vec 8 nul) 41)) w2) => l5At_any v ws t w2 (HV1.out.below hb2) hvd ht
      have D := fun w => specDone_any (pAt t ws).up w
      have HF : Aside (pointOf (atD ws t) = ans true (pAt t ws).up) := (show _ = _ from by
        cases hok : okv (pAt t ws)
        · rw [atD_no hok, pointOf_none, ans_bad hok]
        · rw [atD_ok hvd hT hok, ans_yes hok]; rfl)
      generalize (pAt t ws).up = f at *
      have C := Lib.hid C
      have A := Lib.hid A
      clear hvd hT ht
      cases hok : okc f
      · rw [ans_bad hok] at HF D
        go_enter Try.func86, Try.ntmps86
        go_upto_region 1 with fail
        show Code.wp _ _ _ _ (w.alloc (.cells (vec 8 nul) 41))
        generalize w.alloc (.cells (vec 8 nul) 41) = W at *
        go_wp2_with fail
        refine C.out.mono ?_; rintro e w2 ⟨rfl, hb2⟩
        go_wp2_with fail
        refine (IS _).mono ?_; rintro e w3 ⟨rfl, rfl⟩
        clear IS
        go_wp2_with fail
        refine (A.out _ hb2).mono ?_; rintro e w4 ⟨rfl, hb4⟩
        go_wp2_with fail
        refine (D _).mono ?_; rintro e w5 ⟨rfl, hb5⟩
        have hb6 := below_next hb2 (below_next hb4 hb5)
        have hO3 := hO.below hb6
        have hL3 := below_next hL hb6
        clear hO hL hb2 hb4 hb5 hb6 C A D
        go_wp2_with (refine store_row (ty := 41) rfl rfl rfl rfl hO3 info_cyc ?_)
        refine bodyPost_ret (results_row_tmp rfl rfl hO3.setRow Try.underlying41 rfl info_cyc) rfl ?_
        rw [HF.out]
        exact ⟨rfl, below_setRow hL3 (by omega) _⟩
      · rw [ans_yes hok] at HF D
        go_enter Try.func86, Try.ntmps86
        go_upto_region 1 with fail
        show Code.wp _ _ _ _ (w.alloc (.cells (vec 8 nul) 41))
        generalize w.alloc (.cells (vec 8 nul) 41) = W at *
        go_wp2_with fail
        refine C.out.mono ?_; rintro e w2 ⟨rfl, hb2⟩
        go_wp2_with fail
        refine (IS _).mono ?_; rintro e w3 ⟨rfl, rfl⟩
        clear IS
        go_wp2_with fail
        refine (A.out _ hb2).mono ?_; rintro e w4 ⟨rfl, hb4⟩
        go_wp2_with fail
        refine (D _).mono ?_; rintro e w5 ⟨rfl, hb5⟩
        have hb6 := below_next hb2 (below_next hb4 hb5)
        have hO3 := hO.below hb6
        have hL3 := below_next hL hb6
        clear hO hL hb2 hb4 hb5 hb6 C A D
        go_wp2_with (refine store_row (ty := 41) rfl rfl rfl rfl hO3 info_cyc ?_)
        refine bodyPost_ret (results_row_tmp rfl rfl hO3.setRow Try.underlying41 rfl info_cyc) rfl ?_
        rw [HF.out]
        exact ⟨rfl, below_setRow hL3 (by omega) _⟩

set_option maxHeartbeats 4000000 in
theorem DesignAt_any (v : Value) (ws : List Wh) (t : Int) (w : World) (hv : Reads w v ws) :
    Calls Try.prog 44 #[v, .int .i64 t] w fun e w' => e = .returned (pointOf (atD ws t)) ∧ Below w.heap.size w w' := by
  have hO : RowAt (w.alloc (.cells (vec 8 nul) 41)) w.heap.size 8 41 nul := RowAt.new w 8 _ _
  have hL : Below w.heap.size w (w.alloc (.cells (vec 8 nul) 41)) := (Below.refl _ _).alloc (Nat.le_refl _) _
  have hZ : w.heap.size < (w.alloc (.cells (vec 8 nul) 41)).heap.size := by simp
  have hv1 := hv.below hL
  have C := circlesOf_any v ws _ hv1
  clear hv hv1
  cases hvd : valid ws
  · rw [hvd] at C
    have HF : Aside (atD ws t = none) := atD_bad hvd
    have C := Lib.hid C
    clear hvd
    go_enter Try.func44, Try.ntmps44
    go_upto_region 1 with fail
    show Code.wp _ _ _ _ (w.alloc (.cells (vec 8 nul) 41))
    generalize w.alloc (.cells (vec 8 nul) 41) = W at *
    go_wp2_with fail
    refine C.out.mono ?_; rintro e w2 ⟨hb2, v2, rfl, -⟩
    have hO3 := hO.below hb2
    have hL3 := below_next hL hb2
    clear hO hL hb2 C
    go_wp2_with (refine store_row (ty := 41) rfl rfl rfl (show _ = Value.agg (vec 8 nul) from rfl) hO3 info_cyc ?_)
    refine bodyPost_ret (results_row_tmp rfl rfl hO3.setRow Try.underlying41 rfl info_cyc) rfl ?_
    rw [HF.out, pointOf_none]
    exact ⟨rfl, below_setRow hL3 (by omega) _⟩
  · rw [hvd, only_yes] at C
    cases hT : isT t
    · have HF : Aside (atD ws t = none) := atD_not hT
      have IS := fun w => isTurn_no t (isT_no hT) w
      have C := Lib.hid C
      clear hvd hT
      go_enter Try.func44, Try.ntmps44
      go_upto_region 1 with fail
      show Code.wp _ _ _ _ (w.alloc (.cells (vec 8 nul) 41))
      generalize w.alloc (.cells (vec 8 nul) 41) = W at *
      go_wp2_with fail
      refine C.out.mono ?_; rintro e w2 ⟨hb2, v2, rfl, -⟩
      have hO3 := hO.below hb2
      have hL3 := below_next hL hb2
      clear hO hL hb2 C
      go_wp2_with fail
      refine (IS _).mono ?_; rintro e w3 ⟨rfl, rfl⟩
      clear IS
      go_wp2_with (refine store_row (ty := 41) rfl rfl rfl (show _ = Value.agg (vec 8 nul) from rfl) hO3 info_cyc ?_)
      refine bodyPost_ret (results_row_tmp rfl rfl hO3.setRow Try.underlying41 rfl info_cyc) rfl ?_
      rw [HF.out, pointOf_none]
      exact ⟨rfl, below_setRow hL3 (by omega) _⟩
    · have ht := isT_yes hT
      have IS := fun w => isTurn_yes t ht.1 ht.2 w
      obtain ⟨n, rfl⟩ : ∃ n : Nat, t = (n : Int) := ⟨t.toNat, by omega⟩
      have hn : n ≤ 23 := by omega
      have HV := Lib.hid hvd
      have HF : Aside (pointOf (atD ws n) = .tuple #[pt (if okv (pAt n ws) then pAt n ws else V.zero).up, .bool (okv (pAt n ws))]) := (show _ = _ from by
        cases hok : okv (pAt n ws)
        · rw [atD_no hok, pointOf_none]
          show _ = Value.tuple #[pt V.zero.up, _]
          rw [zero_up]
        · rw [atD_ok hvd hT hok]; rfl)
      have TD := fun w => toldV (pAt n ws) w
      generalize hres : pAt n ws = res at HF TD
      have HRES := Lib.hid hres
      have C := Lib.hid C
      clear hvd hT ht hres
      go_enter Try.func44, Try.ntmps44
      go_upto_region 1 with fail
      show Code.wp _ _ _ _ (w.alloc (.cells (vec 8 nul) 41))
      generalize w.alloc (.cells (vec 8 nul) 41) = W0 at *
      generalize hbw : w.heap.size = b at *
      go_wp2_with fail
      refine C.out.mono ?_; rintro e w1 ⟨hb1, v1, rfl, ho1⟩
      obtain ⟨p, cap, rfl, hc1, hc2, hp0, hp⟩ := own_reads ho1
      simp only [maxLen] at hc2
      have HP : Aside (p ≠ none → ∃ g o, p = some ⟨g, o, none⟩ ∧ g < w1.heap.size ∧ (w1.alloc (.cells (vec 8 nul) 70)).rangeAt g o (flat ws)) := (show _ → _ from fun h => by
        obtain ⟨g, o, e, hg, hr⟩ := hp h
        exact ⟨g, o, e, hg, range_below hr hg ((Below.refl _ _).alloc (Nat.le_refl _) _)⟩)
      have HO : Aside (RowAt (w1.alloc (.cells (vec 8 nul) 70)) b 8 41 nul) := (hO.below hb1).alloc _
      have HS : Aside (RowAt (w1.alloc (.cells (vec 8 nul) 70)) w1.heap.size 8 70 nul) := RowAt.new w1 8 _ _
      have hl1 : Below b w w1 := hL.trans (hb1.mono (Nat.le_of_lt hZ))
      have hbs : b < w1.heap.size := Nat.lt_of_lt_of_le hZ hb1.size
      have HL : Aside (Below b w (w1.alloc (.cells (vec 8 nul) 70))) := hl1.alloc (Nat.le_of_lt hbs) _
      have HZ2 : Aside (w1.heap.size ≤ (w1.alloc (.cells (vec 8 nul) 70)).heap.size) := (show _ ≤ _ by simp)
      have HZ3 : Aside (w1.heap.size < (w1.alloc (.cells (vec 8 nul) 70)).heap.size) := (show _ < _ by simp)
      have HBS := Lib.hid hbs
      clear hO hL hZ C hb1 ho1 hp hl1 hbs
      go_wp2_with fail
      refine (IS _).mono ?_; rintro e w3 ⟨rfl, rfl⟩
      clear IS
      go_upto_region 5 with fail
      show Code.wp _ _ _ _ (w1.alloc (.cells (vec 8 nul) 70))
      generalize w1.alloc (.cells (vec 8 nul) 70) = W at *
      generalize w1.heap.size = s at *
      go_wp2
      go_loopw [26] (fun i wr => ∃ k : Nat, k ≤ ws.length ∧ i = .int .i64 k ∧ RowAt wr s 8 70 (pAt n (ws.take k)).up ∧ Below s W wr) (fun i _ => ws.length - (intOf i).toNat)
      case atStart => exact ⟨0, Nat.zero_le _, rfl, by rw [List.take_zero]; show RowAt _ _ _ _ V.zero.up; rw [zero_up]; exact HS.out, Below.refl _ _⟩
      case round =>
        obtain ⟨k, hk, rfl, hS, hbel⟩ := hrel
        by_cases hlt : k < ws.length
        · have hkz : (k : Int) < (ws.length : Int) := by omega
          have hk0 : (0 : Int) ≤ (k : Int) := by omega
          obtain ⟨c, hc⟩ : ∃ c, ws[k]? = some c := ⟨_, List.getElem?_eq_getElem hlt⟩
          obtain ⟨g, o, rfl, hg, hr⟩ := HP.out (by rintro rfl; have := hp0 rfl; omega)
          have hcv := valid_ok HV.out c (List.mem_of_getElem? hc)
          have HE : Aside (wr.rangeAt g (o + k * 9) (enc c)) := range_kept (range_part hr hc) hg hbel
          have HB : Aside (Below s W (wr.alloc (.cells (vec 9 (wf c)) 72))) := below_on hbel HZ2.out ((Below.refl _ _).alloc (Nat.le_refl _) _)
          have HX : Aside (RowAt (wr.alloc (.cells (vec 9 (wf c)) 72)) wr.heap.size 9 72 (wf c)) := RowAt.new wr 9 _ _
          have HSS : Aside (RowAt (wr.alloc (.cells (vec 9 (wf c)) 72)) s 8 70 (pAt n (ws.take k)).up) := hS.alloc _
          have HBX : Aside (s < wr.heap.size) := (show s < wr.heap.size from Nat.lt_of_lt_of_le HZ3.out hbel.size)
          have HC := Lib.hid hc
          have AT := fun w => at_any c n hn hcv.1 hcv.2 w
          have PL : ∀ w, Calls Try.prog 89 #[pt (pAt n (ws.take k)).up, pt (tV (tm n c.s) c.r).up] w fun e w' => e = .returned (pt (pAt n (ws.take (k + 1))).up) ∧ Below w.heap.size w w' := fun w => by
            have b1 := big_part (t := n) HV.out k
            have b2 := big_tV hcv.2 (tm_lt n c.s)
            rw [pAt_next hc]
            exact plusV _ _ (b1.mono (by omega)) (b2.mono (by omega)) w
          generalize pAt n (ws.take k) = S0 at *
          generalize hS1 : pAt n (ws.take (k + 1)) = S1 at *
          generalize tV (tm n c.s) c.r = r at *
          have HS1 := Lib.hid hS1
          clear hr hc hcv hS1 hbel hS
          go_upto_region 8 with (first | (refine load_wheel (T := 72) (g := g) rfl rfl rfl HE.out Try.underlying72 rfl info_circle ?_; clear HE) | (refine store_new (ty := 72) rfl rfl rfl rfl zero9 info_circle ?_))
          show Code.wp _ _ _ _ (wr.alloc (.cells (vec 9 (wf c)) 72))
          generalize wr.alloc (.cells (vec 9 (wf c)) 72) = WR at *
          generalize wr.heap.size = bx at *
          have hG : RowAt WR.drew s 8 70 S0.up := HSS.out
          refine wp_region_held_drew (S := fun w' => Below s W w' ∧ RowAt w' bx 9 72 (wf c)) (by kernel_rfl) ⟨HB.out.drew, HX.out⟩ (fun hHeld => ?_)
          refine wpAnyH_take (i := 1) (oi := _) (v := .agg (vec 9 (wf c))) rfl (by kernel_rfl) (by kernel_rfl) (by kernel_rfl) (fun _ _ _ h => h) (yieldsIf_load_mid (by rfl) _ _ rfl _ _ rfl _ _ ((fun w h => row_wheel h.2)) Try.underlying72 rfl (size_circle c)) hHeld ?_
          try simp only [Act.put, List.setIfInBounds_toArray, List.set_cons_zero, List.set_cons_succ, List.getElem_toArray, List.getElem_cons_succ, List.getElem_cons_zero]
          refine wpAnyH_take (i := 2) (oi := _) (v := .int .i64 n) rfl (by kernel_rfl) (by kernel_rfl) (by kernel_rfl) (fun _ _ _ h => h) (Or.inl ⟨by rfl, fun w h => by go_simp⟩) hHeld ?_
          try simp only [Act.put, List.setIfInBounds_toArray, List.set_cons_zero, List.set_cons_succ, List.getElem_toArray, List.getElem_cons_succ, List.getElem_cons_zero]
          refine wpAnyH_ready (rs := [0, 3]) (by kernel_rfl) (by simp) ?_
          refine AllReadyH.cons (o := _) rfl (fun K hK => ?_) (AllReadyH.cons (o := _) rfl (fun K hK => ?_) AllReadyH.nil)
          · rw [if_pos (by rfl)]
            refine wp_load8 (T := 70) rfl rfl hG.range Try.underlying70 rfl info_exact ?_
            refine hK.out _ _ hHeld (fun hHeld => ?_)
            clear hK K
            try simp only [Act.put, List.setIfInBounds_toArray, List.set_cons_zero, List.set_cons_succ, List.getElem_toArray, List.getElem_cons_succ, List.getElem_cons_zero]
            refine wpAnyH_ready (rs := [3]) (by kernel_rfl) (by simp) ?_
            refine AllReadyH.cons (o := _) rfl (fun K hK => ?_) AllReadyH.nil
            go_simp
            refine (AT _).mono ?_; rintro e w5 ⟨rfl, hb5⟩
            go_wp2_with fail
            replace hG := hG.below hb5
            refine hK.out _ _ ⟨below_on hHeld.1 HZ2.out hb5, hHeld.2.below hb5⟩ (fun hHeld => ?_)
            clear hK K
            try simp only [Act.put, List.setIfInBounds_toArray, List.set_cons_zero, List.set_cons_succ, List.getElem_toArray, List.getElem_cons_succ, List.getElem_cons_zero]
            clear hb5 AT
            refine wpAnyH_ready (rs := [4]) (by kernel_rfl) (by simp) ?_
            refine AllReadyH.cons (o := _) rfl (fun K hK => ?_) AllReadyH.nil
            go_simp
            refine (PL _).mono ?_; rintro e w6 ⟨rfl, hb6⟩
            go_wp2_with fail
            replace hG := hG.below hb6
            refine hK.out _ _ ⟨below_on hHeld.1 HZ2.out hb6, hHeld.2.below hb6⟩ (fun hHeld => ?_)
            clear hK K
            try simp only [Act.put, List.setIfInBounds_toArray, List.set_cons_zero, List.set_cons_succ, List.getElem_toArray, List.getElem_cons_succ, List.getElem_cons_zero]
            clear hb6 PL
            refine wpAnyH_ready (rs := [5]) (by kernel_rfl) (by simp) ?_
            refine AllReadyH.cons (o := _) rfl (fun K hK => ?_) AllReadyH.nil
            rw [if_pos (by rfl)]
            refine store_step (f' := S1.up) rfl rfl rfl hG info_exact ?_
            have hG2 := hG.setRow (f' := S1.up)
            refine hK.out _ _ ⟨below_setRow hHeld.1 (Nat.le_refl _) _, hHeld.2.rowOther _ _ (by have := HBX.out; omega)⟩ (fun hHeld => ?_)
            clear hK K
            try simp only [Act.put, List.setIfInBounds_toArray, List.set_cons_zero, List.set_cons_succ, List.getElem_toArray, List.getElem_cons_succ, List.getElem_cons_zero]
            clear hG
            refine wpAnyH_done (by kernel_rfl) ?_ _
            have HG2 := Lib.hid hG2
            have HB2 := Lib.hid hHeld.1
            clear hG2 hHeld
            go_wp2
            go_roundw
            case rel => exact ⟨k + 1, by omega, by go_num, by rw [HS1.out]; exact HG2.out, HB2.out⟩
            case measure => simp [intOf]; omega
          · go_simp
            refine (AT _).mono ?_; rintro e w5 ⟨rfl, hb5⟩
            go_wp2_with fail
            replace hG := hG.below hb5
            refine hK.out _ _ ⟨below_on hHeld.1 HZ2.out hb5, hHeld.2.below hb5⟩ (fun hHeld => ?_)
            clear hK K
            try simp only [Act.put, List.setIfInBounds_toArray, List.set_cons_zero, List.set_cons_succ, List.getElem_toArray, List.getElem_cons_succ, List.getElem_cons_zero]
            clear hb5 AT
            refine wpAnyH_ready (rs := [0]) (by kernel_rfl) (by simp) ?_
            refine AllReadyH.cons (o := _) rfl (fun K hK => ?_) AllReadyH.nil
            rw [if_pos (by rfl)]
            refine wp_load8 (T := 70) rfl rfl hG.range Try.underlying70 rfl info_exact ?_
            refine hK.out _ _ hHeld (fun hHeld => ?_)
            clear hK K
            try simp only [Act.put, List.setIfInBounds_toArray, List.set_cons_zero, List.set_cons_succ, List.getElem_toArray, List.getElem_cons_succ, List.getElem_cons_zero]
            refine wpAnyH_ready (rs := [4]) (by kernel_rfl) (by simp) ?_
            refine AllReadyH.cons (o := _) rfl (fun K hK => ?_) AllReadyH.nil
            go_simp
            refine (PL _).mono ?_; rintro e w6 ⟨rfl, hb6⟩
            go_wp2_with fail
            replace hG := hG.below hb6
            refine hK.out _ _ ⟨below_on hHeld.1 HZ2.out hb6, hHeld.2.below hb6⟩ (fun hHeld => ?_)
            clear hK K
            try simp only [Act.put, List.setIfInBounds_toArray, List.set_cons_zero, List.set_cons_succ, List.getElem_toArray, List.getElem_cons_succ, List.getElem_cons_zero]
            clear hb6 PL
            refine wpAnyH_ready (rs := [5]) (by kernel_rfl) (by simp) ?_
            refine AllReadyH.cons (o := _) rfl (fun K hK => ?_) AllReadyH.nil
            rw [if_pos (by rfl)]
            refine store_step (f' := S1.up) rfl rfl rfl hG info_exact ?_
            have hG2 := hG.setRow (f' := S1.up)
            refine hK.out _ _ ⟨below_setRow hHeld.1 (Nat.le_refl _) _, hHeld.2.rowOther _ _ (by have := HBX.out; omega)⟩ (fun hHeld => ?_)
            clear hK K
            try simp only [Act.put, List.setIfInBounds_toArray, List.set_cons_zero, List.set_cons_succ, List.getElem_toArray, List.getElem_cons_succ, List.getElem_cons_zero]
            clear hG
            refine wpAnyH_done (by kernel_rfl) ?_ _
            have HG2 := Lib.hid hG2
            have HB2 := Lib.hid hHeld.1
            clear hG2 hHeld
            go_wp2
            go_roundw
            case rel => exact ⟨k + 1, by omega, by go_num, by rw [HS1.out]; exact HG2.out, HB2.out⟩
            case measure => simp [intOf]; omega
        · obtain rfl : k = ws.length := by omega
          have HFR : Aside (RowAt wr s 8 70 res.up) := (show RowAt _ _ _ _ _ from by rw [← HRES.out]; rw [List.take_length] at hS; exact hS)
          have HOR : Aside (RowAt wr b 8 41 nul) := row_kept HO.out HBS.out hbel
          have HQ : Aside (Below b w wr) := (show Below b w wr from HL.out.trans (hbel.mono (Nat.le_of_lt HBS.out)))
          have HBR : Aside (b < wr.heap.size) := (show b < wr.heap.size from Nat.lt_trans HBS.out (Nat.lt_of_lt_of_le HZ3.out hbel.size))
          clear hS hbel
          have HF2 := HF.out
          clear HF
          cases hok : okv res
          · rw [hok] at TD HF2
            simp only [Bool.false_eq_true, if_false, zero_up] at TD HF2
            have HF := Lib.hid HF2
            clear HF2
            go_wp2_with (first | (refine load_row (ty := 70) (g := s) rfl rfl rfl HFR.out Try.underlying70 rfl info_exact ?_; clear HFR))
            refine (TD _).mono ?_; rintro e w7 ⟨rfl, hb7⟩
            have HO7 : Aside (RowAt w7 b 8 41 nul) := HOR.out.below hb7
            have HQ7 : Aside (Below b w w7) := HQ.out.trans (hb7.mono (Nat.le_of_lt HBR.out))
            clear hb7 TD
            go_wp2_with (refine store_row (ty := 41) rfl rfl rfl rfl HO7.out info_cyc ?_)
            refine bodyPost_ret (results_row_tmp rfl rfl HO7.out.setRow Try.underlying41 rfl info_cyc) rfl ?_
            rw [HF.out]
            exact ⟨rfl, by rw [hbw]; exact below_setRow HQ7.out (Nat.le_refl _) _⟩
          · rw [hok] at TD HF2
            simp only [if_true] at TD HF2
            have HF := Lib.hid HF2
            clear HF2
            go_wp2_with (first | (refine load_row (ty := 70) (g := s) rfl rfl rfl HFR.out Try.underlying70 rfl info_exact ?_; clear HFR))
            refine (TD _).mono ?_; rintro e w7 ⟨rfl, hb7⟩
            have HO7 : Aside (RowAt w7 b 8 41 nul) := HOR.out.below hb7
            have HQ7 : Aside (Below b w w7) := HQ.out.trans (hb7.mono (Nat.le_of_lt HBR.out))
            clear hb7 TD
            go_wp2_with (refine store_row (ty := 41) rfl rfl rfl rfl HO7.out info_cyc ?_)
            refine bodyPost_ret (results_row_tmp rfl rfl HO7.out.setRow Try.underlying41 rfl info_cyc) rfl ?_
            rw [HF.out]
            exact ⟨rfl, by rw [hbw]; exact below_setRow HQ7.out (Nat.le_refl _) _⟩

end Go.Proofs.Ytdbokcbbpegilaa
