/-
  Out of the text WheelJ: what the draws of polygons need.
  Out of the text WheelK: what the draws of polygons need.
  Out of the text WheelS: what the draws of polygons need.
  Out of the text WheelT: what the draws of polygons need.
-/
import Derived.Test.YtibhlaojinedoaaM17
import Derived.Test.YtibhlaojinedoaaM01
import Derived.Test.YtibhlaojinedoaaM03
/- Out of the text WheelJ: what the draws of polygons need. -/
namespace Go.Proofs.Ytibhlaojinedoaa
set_option maxRecDepth 20000
open Go.ChangeShapes Go.WideShapes Go.ChangeAt Go.RowKit
set_option linter.unusedVariables false
set_option linter.unusedSimpArgs false
def got (o : Option (List Wh)) : List Wh := o.getD []
theorem own_form {w : World} {B T : Nat} {v : Value} {ws : List Wh} (h : Own w B T v ws) : ∃ p cap, v = .slice p ws.length cap ∧ cap ≤ 9223372036854775807 ∧ ws.length ≤ cap ∧ (ws ≠ [] → ∃ g, p = some ⟨g, 0, none⟩ ∧ B ≤ g) := by
  rcases h.2 with ⟨rfl, h0⟩ | ⟨g, cap, cur, rfl, hg0, hg, h1, h2, h3, h4⟩
  · exact ⟨none, 0, by rw [h0], by omega, by omega, fun hn => absurd (List.length_eq_zero_iff.1 h0) hn⟩
  · exact ⟨_, cap, rfl, by simpa [maxLen] using h2, h1, fun _ => ⟨g, rfl, hg0⟩⟩

end Go.Proofs.Ytibhlaojinedoaa
/- Out of the text WheelK: what the draws of polygons need. -/
namespace Go.Proofs.Ytibhlaojinedoaa
set_option maxRecDepth 20000
open Go.ChangeShapes Go.WideShapes Go.ChangeAt Go.RowKit
set_option linter.unusedVariables false
set_option linter.unusedSimpArgs false
/-- What a function hands back that answers with a design, and true. -/
def Told (w : World) (o : Option (List Wh)) (e : Ending) (w' : World) : Prop :=
  Below w.heap.size w w' ∧ ∃ v', e = .returned (.tuple #[v', .bool o.isSome]) ∧ Own w' w.heap.size 87 v' (got o)
theorem ins_len (c : Wh) : ∀ out : List Wh, (ins out c).length ≤ out.length + 1
  | [] => by simp [ins]
  | d :: out => by
    unfold ins
    have := ins_len c out
    split
    · simp only [List.length_cons]; omega
    · split <;> simp
end Go.Proofs.Ytibhlaojinedoaa
/- Out of the text WheelS: what the draws of polygons need. -/
namespace Go.Proofs.Ytibhlaojinedoaa
set_option maxRecDepth 20000
open Go.ChangeShapes Go.WideShapes Go.ChangeAt Go.RowKit
set_option linter.unusedVariables false
set_option linter.unusedSimpArgs false
section
variable {P : Program} {ops : Array Oper} {rest : List Oper} {o : Oper} {a : Act} {Q : Exit → Act → World → Prop} {w : World}
/-- A radius that is read behind '&&' or '||'. -/
theorem load_part_on {T : TypeId} {d : TypeDesc} {g p : Nat} {f : Nat → Int} (hw : Region.wanted o (yielded ops a.tmps) = true) {x : Operand} (ho : o.op = .load T x) (hx : a.eval x = .pointer (some ⟨g, p, none⟩)) (hr : w.rangeAt g p (lst 8 f))
    (hu : P.underlying T = some d) (hd : d.isRow = true) (hi : (P.info? T).map (·.size) = some 8)
    (h : wpList P ops Q rest (a.put o.dst (pt f)) w) : wpList P ops Q (o :: rest) a w :=
  wpList_step fun K hK => by
    rw [if_pos hw]
    exact wp_load_mid T x ho g p hx (lst 8 f) d hr hu hd (by rw [lst_length]; exact hi) (hK _ _ h)
end
set_option maxHeartbeats 2000000 in
theorem specDesignValid_any (v : Value) (ws : List Wh) (w : World) (hv : Reads w v ws) :
    Calls Try.prog 40 #[v] w fun e w' => e = .returned (.bool (valid ws)) ∧ Below w.heap.size w w' := by
  obtain ⟨p, cap, rfl, hc1, hc2, hp0, hp⟩ := hv
  simp only [maxLen] at hc2
  by_cases hl : 12 < ws.length
  · rw [valid_long hl]
    have hlz : (12 : Int) < (ws.length : Int) := by omega
    clear hp
    go_enter Try.func40, Try.ntmps40
    go_wp2
    go_ret
    exact ⟨rfl, Below.refl _ _⟩
  · have hlz : ¬ (12 : Int) < (ws.length : Int) := by omega
    have HP := Lib.hid hp
    clear hp
    go_enter Try.func40, Try.ntmps40
    go_wp2
    go_loopw [3] (fun i wr => ∃ k : Nat, k ≤ ws.length ∧ i = .int .i64 k ∧ (ws.take k).all wOk = true ∧ Below w.heap.size w wr) (fun i _ => ws.length - (intOf i).toNat)
    case atStart => exact ⟨0, Nat.zero_le _, rfl, rfl, Below.refl _ _⟩
    case round =>
      obtain ⟨k, hk, rfl, hall, hbel⟩ := hrel
      by_cases hlt : k < ws.length
      · have hkz : (k : Int) < (ws.length : Int) := by omega
        have hk0 : (0 : Int) ≤ (k : Int) := by omega
        obtain ⟨c, hc⟩ : ∃ c, ws[k]? = some c := ⟨_, List.getElem?_eq_getElem hlt⟩
        obtain ⟨g, o, rfl, hg, hr⟩ := HP.out (by rintro rfl; have := hp0 rfl; omega)
        have hre := range_part (range_below hr hg hbel) hc
        have c0 := range_speed hre
        have HE := Lib.hid hre
        have HL := Lib.hid hbel
        have HA := Lib.hid hall
        have HC := Lib.hid hc
        clear hr hre hbel hall hc
        by_cases h1 : inS c.s = true
        · have sb := inS_bound h1
          have I := fun w => in_yes c.s (-1000) 1000 sb.1 sb.2 w
          have V := fun w => specValid_any c.r.up w
          have hok : okc c.r.up = okv c.r := rfl
          rw [hok] at V
          clear sb hok
          cases h2 : okv c.r
          · rw [h2] at V
            go_wp2_with fail
            refine (I _).mono ?_; rintro e w1 ⟨rfl, rfl⟩
            clear I c0
            go_wp2_with (first | (refine load_part_on (T := 80) (by rfl) rfl rfl (range_radius HE.out) Try.underlying80 rfl info_cyc ?_))
            refine (V _).mono ?_; rintro e w2 ⟨rfl, hb2⟩
            have HL2 := Lib.hid (below_next HL.out hb2)
            clear V hb2
            go_wp2
            go_ret
            refine ⟨?_, HL2.out⟩
            rw [valid_bad HC.out (by unfold wOk; rw [h2, Bool.and_false])]; rfl
          · rw [h2] at V
            go_wp2_with fail
            refine (I _).mono ?_; rintro e w1 ⟨rfl, rfl⟩
            clear I c0
            go_wp2_with (first | (refine load_part_on (T := 80) (by rfl) rfl rfl (range_radius HE.out) Try.underlying80 rfl info_cyc ?_))
            refine (V _).mono ?_; rintro e w2 ⟨rfl, hb2⟩
            have HL2 := Lib.hid (below_next HL.out hb2)
            clear V hb2
            go_wp2
            go_roundw
            case rel => exact ⟨k + 1, by omega, by go_num, all_take HA.out HC.out (by unfold wOk; rw [h1, h2]; rfl), HL2.out⟩
            case measure => simp [intOf]; omega
        · have h1 : inS c.s = false := by simpa using h1
          have I := fun w => in_no c.s (-1000) 1000 (by unfold inS at h1; simp at h1; omega) w
          go_wp2_with fail
          refine (I _).mono ?_; rintro e w1 ⟨rfl, rfl⟩
          clear I c0
          go_wp2
          go_ret
          refine ⟨?_, HL.out⟩
          rw [valid_bad HC.out (by unfold wOk; rw [h1]; rfl)]; rfl
      · obtain rfl : k = ws.length := by omega
        have HL := Lib.hid hbel
        have HA := Lib.hid hall
        clear hbel hall
        go_wp2
        go_ret
        refine ⟨?_, HL.out⟩
        have hv : valid ws = true := by
          unfold valid
          have := HA.out
          rw [List.take_length] at this
          rw [this, decide_eq_true (by omega)]; rfl
        rw [hv]; rfl

theorem ins_split (b : Bool) (c : Wh) (B : List Wh) : ∀ A : List Wh, (∀ d ∈ A, d.s < c.s) → ins (A ++ B) c = A ++ ins B c ∧ insOk b (A ++ B) c = insOk b B c
  | [], _ => ⟨rfl, rfl⟩
  | d :: A, h => by
    obtain ⟨h1, h2⟩ := ins_split b c B A fun e he => h e (by simp [he])
    rw [List.cons_append]
    constructor
    · conv => lhs; unfold ins
      rw [if_pos (h d (by simp)), h1]; rfl
    · conv => lhs; unfold insOk
      rw [if_pos (h d (by simp)), h2]
theorem ins_new (c : Wh) : ∀ B : List Wh, (∀ d, B[0]? = some d → c.s < d.s) → ins B c = c :: B ∧ insOk true B c = okv c.r
  | [], _ => ⟨rfl, rfl⟩
  | d :: B, h => by
    have := h d rfl
    unfold ins insOk
    rw [if_neg (by omega), if_neg (by omega), if_neg (by omega), if_neg (by omega)]
    exact ⟨rfl, rfl⟩
theorem ins_same (b : Bool) (c l : Wh) (hl : l.s = c.s) (B : List Wh) : ins (l :: B) c = ⟨l.s, V.add l.r c.r⟩ :: B ∧ insOk b (l :: B) c = okv (V.add l.r c.r) := by
  unfold ins insOk
  rw [if_neg (by omega), if_pos hl, if_neg (by omega), if_pos hl]
  exact ⟨rfl, rfl⟩
theorem reads_take {w : World} {g o cap k : Nat} {ws : List Wh} (hk : k ≤ ws.length) (hc1 : ws.length ≤ cap) (hc2 : cap ≤ maxLen) (hg : g < w.heap.size) (h : w.rangeAt g o (flat ws)) : Reads w (.slice (some ⟨g, o, none⟩) k cap) (ws.take k) :=
  ⟨_, cap, by rw [List.length_take, Nat.min_eq_left hk], by rw [List.length_take]; omega, hc2, (fun h => by cases h), fun _ => ⟨g, o, rfl, hg, fun j v hv => by
    rw [flat_take, List.getElem?_take] at hv
    split at hv
    · exact h j v hv
    · cases hv⟩⟩
theorem reads_drop {w : World} {g o cap k : Nat} {ws : List Wh} (hk : k ≤ ws.length) (hc1 : ws.length ≤ cap) (hc2 : cap ≤ maxLen) (hg : g < w.heap.size) (h : w.rangeAt g o (flat ws)) : Reads w (.slice (some ⟨g, o + k * 9, none⟩) (ws.length - k) (cap - k)) (ws.drop k) :=
  ⟨_, cap - k, by rw [List.length_drop], by rw [List.length_drop]; omega, by omega, (fun h => by cases h), fun _ => ⟨g, _, rfl, hg, fun j v hv => by
    rw [flat_drop, List.getElem?_drop] at hv
    rw [Nat.add_assoc]
    exact h _ v hv⟩⟩
theorem reads_off {w : World} {g o off cap k : Nat} {ws : List Wh} (hk : k ≤ ws.length) (hc1 : ws.length ≤ cap) (hc2 : cap ≤ maxLen) (hg : g < w.heap.size) (h : w.rangeAt g o (flat ws)) (hoff : (cap = k → off = o) ∧ (¬ cap = k → off = o + k * 9)) :
    Reads w (.slice (some ⟨g, off, none⟩) (ws.length - k) (cap - k)) (ws.drop k) := by
  by_cases hck : cap = k
  · have e : ws.drop k = [] := List.drop_of_length_le (by omega)
    have e2 : ws.length - k = 0 := by omega
    rw [e, e2]
    exact ⟨_, cap - k, rfl, by simp, by omega, (fun h => by cases h), fun _ => ⟨g, off, rfl, hg, fun j v hv => by simp [flat] at hv⟩⟩
  · rw [hoff.2 hck]; exact reads_drop hk hc1 hc2 hg h
theorem wp_one9 {P : Program} {o : Oper} {a : Act} {w : World} {K : Act → World → Prop} {Q : Exit → Act → World → Prop} {t e : TypeId} (ty : Ty9 P t e) {x : Operand} {f : Nat → Int} (ho : o.op = .buildSlice t 1 #[(0, x)]) (hx : a.eval x = .agg (vec 9 f))
    (h : K (a.put o.dst (.slice (some ⟨w.heap.size, 0, none⟩) 1 1)) (w.alloc (.cells (vec 9 f) e))) : o.wp P a w K Q := by
  unfold Oper.wp execOp
  simp [ho, hx, Sem.run_bind, run_one ty f w, Result.andThen]
  exact h
theorem reads_kept {w w' : World} {row : Option Nat} {g o n cap : Nat} {ws : List Wh} (h : Reads w (.slice (some ⟨g, o, none⟩) n cap) ws) (hg : w.grownBy w' row) (hne : some g ≠ row) : Reads w' (.slice (some ⟨g, o, none⟩) n cap) ws := by
  obtain ⟨p, cap', e, h2, h3, h4, h5⟩ := h
  refine ⟨p, cap', e, h2, h3, h4, fun hn => ?_⟩
  obtain ⟨g', o', e', hg', hr⟩ := h5 hn
  refine ⟨g', o', e', Nat.lt_of_lt_of_le hg' hg.size, fun j v hv => hg.cell (hr j v hv) ?_⟩
  simp only [Value.slice.injEq] at e
  have := e.1.trans e'
  simp only [Option.some.injEq, Addr.mk.injEq] at this
  rw [← this.1]; exact hne
theorem wp_append_list2 {P : Program} {t e : TypeId} {o : Oper} {a : Act} {Q : Exit → Act → World → Prop} {w0 w : World} {B : Nat} {K : Act → World → Prop} (ty : Ty9 P t e) {s x : Operand} (hop : o.op = .call { callee := .builtin .append, args := #[s, x], argTypes := #[t, t] })
    {v x' : Value} {xs ys : List Wh} (hs : a.eval s = v) (hx : a.eval x = x') (hown : Own w B e v xs) (hr : Reads w x' ys) (hlen : xs.length + ys.length ≤ 1000000000000) (hb : Below B w0 w) (hB : B ≤ w.heap.size)
    (h : ∀ v' w', Own w' B e v' (xs ++ ys) → Below B w0 w' → B ≤ w'.heap.size → w.grownBy w' v.ownBlock → K (a.put o.dst v') w') : o.wp P a w K Q := by
  obtain ⟨i, z, hi, hz, hsz, hby, hzs⟩ := ty.inf
  obtain ⟨v', w', hr1, ho, hg⟩ := run_append_list (P := P) w B t o.type e i z i.bytes ty.sl hi hz hsz rfl hzs hby v x' xs ys hown hr hlen hB
  unfold Oper.wp execOp
  simp only [hop, resolve, invoke, builtin, Sem.run_bind, Sem.run_pure, Result.andThen_ok, List.map_toArray, List.map_cons, List.map_nil, hs, hx, hr1]
  exact h v' w' ho (below_grown hb hg hB (own_block hown)) (Nat.le_trans hB hg.size) hg
/-- What l5Add hands back. -/
def Added (w : World) (R : List Wh) (c : Wh) (e : Ending) (w' : World) : Prop :=
  Below w.heap.size w w' ∧ ∃ v', e = .returned (.tuple #[v', .bool (insOk true R c)]) ∧ Own w' w.heap.size 87 v' (ins R c)

set_option maxHeartbeats 4000000 in
theorem l5Add_any (g o cap : Nat) (R : List Wh) (c : Wh) (w : World) (hg : g < w.heap.size) (hr : w.rangeAt g o (flat R)) (hc1 : R.length ≤ cap) (hc2 : cap ≤ maxLen) (hn : R.length ≤ 1000) (hbig : ∀ d ∈ R, Big d.r 4000000) (hcb : Big c.r 4000000) :
    Calls Try.prog 70 #[.slice (some ⟨g, o, none⟩) R.length cap, wh c] w (Added w R c) := by
  have hcm : cap ≤ 9223372036854775807 := by simpa [maxLen] using hc2
  have HM := Lib.hid hc2
  clear hc2
  have hX : RowAt (w.alloc (.cells (vec 9 (wf c)) 87)) w.heap.size 9 87 (wf c) := RowAt.new w 9 _ _
  have hL : Below w.heap.size w (w.alloc (.cells (vec 9 (wf c)) 87)) := (Below.refl _ _).alloc (Nat.le_refl _) _
  have hZ : w.heap.size < (w.alloc (.cells (vec 9 (wf c)) 87)).heap.size := by simp
  have hR := range_below hr hg hL
  have HX0 := Lib.hid hX
  have HL0 := Lib.hid hL
  have HR0 := Lib.hid hR
  have HZ0 := Lib.hid hZ
  have HBG := Lib.hid hbig
  have HCB := Lib.hid hcb
  have HG0 : Aside (g < w.heap.size) := hg
  clear hX hL hR hZ hbig hcb hr hg
  go_enter Try.func70, Try.ntmps70
  go_upto_region 1 with fail
  show Code.wp _ _ _ _ (w.alloc (.cells (vec 9 (wf c)) 87))
  generalize w.alloc (.cells (vec 9 (wf c)) 87) = W at *
  have HGW : Aside (g < W.heap.size) := Nat.lt_trans HG0.out HZ0.out
  generalize hbw : w.heap.size = b at *
  go_wp2
  go_loopw [6] (fun i wr => ∃ k : Nat, k ≤ R.length ∧ i = .int .i64 k ∧ (∀ d ∈ R.take k, d.s < c.s) ∧ Below W.heap.size W wr) (fun i _ => R.length - (intOf i).toNat)
  case atStart => exact ⟨0, Nat.zero_le _, rfl, by simp, Below.refl _ _⟩
  case round =>
    obtain ⟨k, hk, rfl, hfa, hbel⟩ := hrel
    have hk0 : (0 : Int) ≤ (k : Int) := by omega
    have HL : Aside (Below W.heap.size W wr) := hbel
    have HX : Aside (RowAt wr b 9 87 (wf c)) := HX0.out.below hbel
    have HRD : Aside (wr.rangeAt g o (flat R)) := range_below HR0.out HGW.out hbel
    have HFA := Lib.hid hfa
    clear hfa hbel
    by_cases hlt : k < R.length
    · have hkz : (k : Int) < (R.length : Int) := by omega
      obtain ⟨l, hl⟩ : ∃ l, R[k]? = some l := ⟨_, List.getElem?_eq_getElem hlt⟩
      have HE : Aside (wr.rangeAt g (o + k * 9) (enc l)) := range_part HRD.out hl
      have HC := Lib.hid hl
      clear hl
      by_cases hls : l.s < c.s
      · have hls2 : l.s < c.s := hls
        go_upto_region 2 with fail
        refine wp_region_held_drew (S := fun w' => w' = wr.drew) (by kernel_rfl) rfl (fun hHeld => ?_)
        refine wpAnyH_take (i := 0) (oi := _) (v := .int .i64 k) rfl (by kernel_rfl) (by kernel_rfl) (by kernel_rfl) (fun _ _ _ h => h) (Or.inl ⟨by rfl, fun w h => by go_simp⟩) hHeld ?_
        try simp only [Act.put, List.setIfInBounds_toArray, List.set_cons_zero, List.set_cons_succ, List.getElem_toArray, List.getElem_cons_succ, List.getElem_cons_zero]
        refine wpAnyH_take (i := 1) (oi := _) (v := .slice (some ⟨g, o, none⟩) R.length cap) rfl (by kernel_rfl) (by kernel_rfl) (by kernel_rfl) (fun _ _ _ h => h) (Or.inl ⟨by rfl, fun w h => by go_simp⟩) hHeld ?_
        try simp only [Act.put, List.setIfInBounds_toArray, List.set_cons_zero, List.set_cons_succ, List.getElem_toArray, List.getElem_cons_succ, List.getElem_cons_zero]
        refine wpAnyH_take (i := 2) (oi := _) (v := .int .i64 R.length) rfl (by kernel_rfl) (by kernel_rfl) (by kernel_rfl) (fun _ _ _ h => h) (Or.inl ⟨by rfl, fun w h => by go_simp⟩) hHeld ?_
        try simp only [Act.put, List.setIfInBounds_toArray, List.set_cons_zero, List.set_cons_succ, List.getElem_toArray, List.getElem_cons_succ, List.getElem_cons_zero]
        refine wpAnyH_take (i := 3) (oi := _) (v := .bool true) rfl (by kernel_rfl) (by kernel_rfl) (by kernel_rfl) (fun _ _ _ h => h) (Or.inl ⟨by rfl, fun w h => by go_simp⟩) hHeld ?_
        try simp only [Act.put, List.setIfInBounds_toArray, List.set_cons_zero, List.set_cons_succ, List.getElem_toArray, List.getElem_cons_succ, List.getElem_cons_zero]
        refine wpAnyH_take (i := 4) (oi := _) (v := .bool true) rfl (by kernel_rfl) (by kernel_rfl) (by kernel_rfl) (fun _ _ _ h => h) (Or.inl ⟨by rfl, fun w h => by go_simp⟩) hHeld ?_
        try simp only [Act.put, List.setIfInBounds_toArray, List.set_cons_zero, List.set_cons_succ, List.getElem_toArray, List.getElem_cons_succ, List.getElem_cons_zero]
        refine wpAnyH_take (i := 5) (oi := _) (v := .slice (some ⟨g, o, none⟩) R.length cap) rfl (by kernel_rfl) (by kernel_rfl) (by kernel_rfl) (fun _ _ _ h => h) (Or.inl ⟨by rfl, fun w h => by go_simp⟩) hHeld ?_
        try simp only [Act.put, List.setIfInBounds_toArray, List.set_cons_zero, List.set_cons_succ, List.getElem_toArray, List.getElem_cons_succ, List.getElem_cons_zero]
        refine wpAnyH_take (i := 6) (oi := _) (v := .int .i64 k) rfl (by kernel_rfl) (by kernel_rfl) (by kernel_rfl) (fun _ _ _ h => h) (Or.inl ⟨by rfl, fun w h => by go_simp⟩) hHeld ?_
        try simp only [Act.put, List.setIfInBounds_toArray, List.set_cons_zero, List.set_cons_succ, List.getElem_toArray, List.getElem_cons_succ, List.getElem_cons_zero]
        refine wpAnyH_take (i := 7) (oi := _) (v := .pointer (some ⟨g, o + k * 9, none⟩)) rfl (by kernel_rfl) (by kernel_rfl) (by kernel_rfl) (fun _ _ _ h => h) (Or.inl ⟨by rfl, fun w h => by go_simp⟩) hHeld ?_
        try simp only [Act.put, List.setIfInBounds_toArray, List.set_cons_zero, List.set_cons_succ, List.getElem_toArray, List.getElem_cons_succ, List.getElem_cons_zero]
        refine wpAnyH_take (i := 8) (oi := _) (v := .pointer (some ⟨g, o + k * 9, none⟩)) rfl (by kernel_rfl) (by kernel_rfl) (by kernel_rfl) (fun _ _ _ h => h) (Or.inl ⟨by rfl, fun w h => by go_simp⟩) hHeld ?_
        try simp only [Act.put, List.setIfInBounds_toArray, List.set_cons_zero, List.set_cons_succ, List.getElem_toArray, List.getElem_cons_succ, List.getElem_cons_zero]
        refine wpAnyH_take (i := 9) (oi := _) (v := .int .i64 l.s) rfl (by kernel_rfl) (by kernel_rfl) (by kernel_rfl) (fun _ _ _ h => h) (Or.inl ⟨by rfl, fun w h => by have hcell := (show wr.drew.cell? ⟨g, o + k * 9, none⟩ = some (.int .i64 l.s) from range_speed HE.out); go_simp⟩) hHeld ?_
        try simp only [Act.put, List.setIfInBounds_toArray, List.set_cons_zero, List.set_cons_succ, List.getElem_toArray, List.getElem_cons_succ, List.getElem_cons_zero]
        refine wpAnyH_take (i := 10) (oi := _) (v := .pointer (some ⟨b, 0, none⟩)) rfl (by kernel_rfl) (by kernel_rfl) (by kernel_rfl) (fun _ _ _ h => h) (Or.inl ⟨by rfl, fun w h => by go_simp⟩) hHeld ?_
        try simp only [Act.put, List.setIfInBounds_toArray, List.set_cons_zero, List.set_cons_succ, List.getElem_toArray, List.getElem_cons_succ, List.getElem_cons_zero]
        refine wpAnyH_take (i := 11) (oi := _) (v := .int .i64 c.s) rfl (by kernel_rfl) (by kernel_rfl) (by kernel_rfl) (fun _ _ _ h => h) (Or.inl ⟨by rfl, fun w h => by have hcell := (show wr.drew.cell? ⟨b, 0, none⟩ = some (.int .i64 c.s) from row_speed HX.out); go_simp⟩) hHeld ?_
        try simp only [Act.put, List.setIfInBounds_toArray, List.set_cons_zero, List.set_cons_succ, List.getElem_toArray, List.getElem_cons_succ, List.getElem_cons_zero]
        refine wpAnyH_take (i := 12) (oi := _) (v := .bool true) rfl (by kernel_rfl) (by kernel_rfl) (by kernel_rfl) (fun _ _ _ h => h) (Or.inl ⟨by rfl, fun w h => by go_simp⟩) hHeld ?_
        try simp only [Act.put, List.setIfInBounds_toArray, List.set_cons_zero, List.set_cons_succ, List.getElem_toArray, List.getElem_cons_succ, List.getElem_cons_zero]
        refine wpAnyH_take (i := 13) (oi := _) (v := .bool true) rfl (by kernel_rfl) (by kernel_rfl) (by kernel_rfl) (fun _ _ _ h => h) (Or.inl ⟨by rfl, fun w h => by go_simp⟩) hHeld ?_
        try simp only [Act.put, List.setIfInBounds_toArray, List.set_cons_zero, List.set_cons_succ, List.getElem_toArray, List.getElem_cons_succ, List.getElem_cons_zero]
        clear hHeld
        refine wpAnyH_done (by kernel_rfl) ?_ _
        replace HL : Aside (Below W.heap.size W wr.drew) := HL.out.drew
        replace HX : Aside (RowAt wr.drew b 9 87 (wf c)) := HX.out.drew1
        replace HRD : Aside (wr.drew.rangeAt g o (flat R)) := HRD.out
        replace HE : Aside (wr.drew.rangeAt g (o + k * 9) (enc l)) := HE.out
        generalize wr.drew = wrx at *
        go_wp2
        go_roundw
        case rel => exact ⟨k + 1, by omega, by go_num, fun d hd => by
          rw [take_next HC.out] at hd
          rcases List.mem_append.1 hd with h | h
          · exact HFA.out d h
          · rw [List.mem_singleton.1 h]; exact hls, HL.out⟩
        case measure => simp [intOf]; omega
      · skip
        go_upto_region 2 with fail
        refine wp_region_held_drew (S := fun w' => w' = wr.drew) (by kernel_rfl) rfl (fun hHeld => ?_)
        refine wpAnyH_take (i := 0) (oi := _) (v := .int .i64 k) rfl (by kernel_rfl) (by kernel_rfl) (by kernel_rfl) (fun _ _ _ h => h) (Or.inl ⟨by rfl, fun w h => by go_simp⟩) hHeld ?_
        try simp only [Act.put, List.setIfInBounds_toArray, List.set_cons_zero, List.set_cons_succ, List.getElem_toArray, List.getElem_cons_succ, List.getElem_cons_zero]
        refine wpAnyH_take (i := 1) (oi := _) (v := .slice (some ⟨g, o, none⟩) R.length cap) rfl (by kernel_rfl) (by kernel_rfl) (by kernel_rfl) (fun _ _ _ h => h) (Or.inl ⟨by rfl, fun w h => by go_simp⟩) hHeld ?_
        try simp only [Act.put, List.setIfInBounds_toArray, List.set_cons_zero, List.set_cons_succ, List.getElem_toArray, List.getElem_cons_succ, List.getElem_cons_zero]
        refine wpAnyH_take (i := 2) (oi := _) (v := .int .i64 R.length) rfl (by kernel_rfl) (by kernel_rfl) (by kernel_rfl) (fun _ _ _ h => h) (Or.inl ⟨by rfl, fun w h => by go_simp⟩) hHeld ?_
        try simp only [Act.put, List.setIfInBounds_toArray, List.set_cons_zero, List.set_cons_succ, List.getElem_toArray, List.getElem_cons_succ, List.getElem_cons_zero]
        refine wpAnyH_take (i := 3) (oi := _) (v := .bool true) rfl (by kernel_rfl) (by kernel_rfl) (by kernel_rfl) (fun _ _ _ h => h) (Or.inl ⟨by rfl, fun w h => by go_simp⟩) hHeld ?_
        try simp only [Act.put, List.setIfInBounds_toArray, List.set_cons_zero, List.set_cons_succ, List.getElem_toArray, List.getElem_cons_succ, List.getElem_cons_zero]
        refine wpAnyH_take (i := 4) (oi := _) (v := .bool true) rfl (by kernel_rfl) (by kernel_rfl) (by kernel_rfl) (fun _ _ _ h => h) (Or.inl ⟨by rfl, fun w h => by go_simp⟩) hHeld ?_
        try simp only [Act.put, List.setIfInBounds_toArray, List.set_cons_zero, List.set_cons_succ, List.getElem_toArray, List.getElem_cons_succ, List.getElem_cons_zero]
        refine wpAnyH_take (i := 5) (oi := _) (v := .slice (some ⟨g, o, none⟩) R.length cap) rfl (by kernel_rfl) (by kernel_rfl) (by kernel_rfl) (fun _ _ _ h => h) (Or.inl ⟨by rfl, fun w h => by go_simp⟩) hHeld ?_
        try simp only [Act.put, List.setIfInBounds_toArray, List.set_cons_zero, List.set_cons_succ, List.getElem_toArray, List.getElem_cons_succ, List.getElem_cons_zero]
        refine wpAnyH_take (i := 6) (oi := _) (v := .int .i64 k) rfl (by kernel_rfl) (by kernel_rfl) (by kernel_rfl) (fun _ _ _ h => h) (Or.inl ⟨by rfl, fun w h => by go_simp⟩) hHeld ?_
        try simp only [Act.put, List.setIfInBounds_toArray, List.set_cons_zero, List.set_cons_succ, List.getElem_toArray, List.getElem_cons_succ, List.getElem_cons_zero]
        refine wpAnyH_take (i := 7) (oi := _) (v := .pointer (some ⟨g, o + k * 9, none⟩)) rfl (by kernel_rfl) (by kernel_rfl) (by kernel_rfl) (fun _ _ _ h => h) (Or.inl ⟨by rfl, fun w h => by go_simp⟩) hHeld ?_
        try simp only [Act.put, List.setIfInBounds_toArray, List.set_cons_zero, List.set_cons_succ, List.getElem_toArray, List.getElem_cons_succ, List.getElem_cons_zero]
        refine wpAnyH_take (i := 8) (oi := _) (v := .pointer (some ⟨g, o + k * 9, none⟩)) rfl (by kernel_rfl) (by kernel_rfl) (by kernel_rfl) (fun _ _ _ h => h) (Or.inl ⟨by rfl, fun w h => by go_simp⟩) hHeld ?_
        try simp only [Act.put, List.setIfInBounds_toArray, List.set_cons_zero, List.set_cons_succ, List.getElem_toArray, List.getElem_cons_succ, List.getElem_cons_zero]
        refine wpAnyH_take (i := 9) (oi := _) (v := .int .i64 l.s) rfl (by kernel_rfl) (by kernel_rfl) (by kernel_rfl) (fun _ _ _ h => h) (Or.inl ⟨by rfl, fun w h => by have hcell := (show wr.drew.cell? ⟨g, o + k * 9, none⟩ = some (.int .i64 l.s) from range_speed HE.out); go_simp⟩) hHeld ?_
        try simp only [Act.put, List.setIfInBounds_toArray, List.set_cons_zero, List.set_cons_succ, List.getElem_toArray, List.getElem_cons_succ, List.getElem_cons_zero]
        refine wpAnyH_take (i := 10) (oi := _) (v := .pointer (some ⟨b, 0, none⟩)) rfl (by kernel_rfl) (by kernel_rfl) (by kernel_rfl) (fun _ _ _ h => h) (Or.inl ⟨by rfl, fun w h => by go_simp⟩) hHeld ?_
        try simp only [Act.put, List.setIfInBounds_toArray, List.set_cons_zero, List.set_cons_succ, List.getElem_toArray, List.getElem_cons_succ, List.getElem_cons_zero]
        refine wpAnyH_take (i := 11) (oi := _) (v := .int .i64 c.s) rfl (by kernel_rfl) (by kernel_rfl) (by kernel_rfl) (fun _ _ _ h => h) (Or.inl ⟨by rfl, fun w h => by have hcell := (show wr.drew.cell? ⟨b, 0, none⟩ = some (.int .i64 c.s) from row_speed HX.out); go_simp⟩) hHeld ?_
        try simp only [Act.put, List.setIfInBounds_toArray, List.set_cons_zero, List.set_cons_succ, List.getElem_toArray, List.getElem_cons_succ, List.getElem_cons_zero]
        refine wpAnyH_take (i := 12) (oi := _) (v := .bool false) rfl (by kernel_rfl) (by kernel_rfl) (by kernel_rfl) (fun _ _ _ h => h) (Or.inl ⟨by rfl, fun w h => by go_simp⟩) hHeld ?_
        try simp only [Act.put, List.setIfInBounds_toArray, List.set_cons_zero, List.set_cons_succ, List.getElem_toArray, List.getElem_cons_succ, List.getElem_cons_zero]
        refine wpAnyH_take (i := 13) (oi := _) (v := .bool false) rfl (by kernel_rfl) (by kernel_rfl) (by kernel_rfl) (fun _ _ _ h => h) (Or.inl ⟨by rfl, fun w h => by go_simp⟩) hHeld ?_
        try simp only [Act.put, List.setIfInBounds_toArray, List.set_cons_zero, List.set_cons_succ, List.getElem_toArray, List.getElem_cons_succ, List.getElem_cons_zero]
        clear hHeld
        refine wpAnyH_done (by kernel_rfl) ?_ _
        replace HL : Aside (Below W.heap.size W wr.drew) := HL.out.drew
        replace HX : Aside (RowAt wr.drew b 9 87 (wf c)) := HX.out.drew1
        replace HRD : Aside (wr.drew.rangeAt g o (flat R)) := HRD.out
        replace HE : Aside (wr.drew.rangeAt g (o + k * 9) (enc l)) := HE.out
        generalize wr.drew = wrx at *
        go_wp2
        by_cases heq : l.s = c.s
        · have heq2 : (l.s == c.s) = true := by simpa using heq
          go_upto_region 4 with fail
          refine wp_region_held_drew (S := fun w' => w' = wrx.drew) (by kernel_rfl) rfl (fun hHeld => ?_)
          refine wpAnyH_take (i := 0) (oi := _) (v := .int .i64 k) rfl (by kernel_rfl) (by kernel_rfl) (by kernel_rfl) (fun _ _ _ h => h) (Or.inl ⟨by rfl, fun w h => by go_simp⟩) hHeld ?_
          try simp only [Act.put, List.setIfInBounds_toArray, List.set_cons_zero, List.set_cons_succ, List.getElem_toArray, List.getElem_cons_succ, List.getElem_cons_zero]
          refine wpAnyH_take (i := 1) (oi := _) (v := .slice (some ⟨g, o, none⟩) R.length cap) rfl (by kernel_rfl) (by kernel_rfl) (by kernel_rfl) (fun _ _ _ h => h) (Or.inl ⟨by rfl, fun w h => by go_simp⟩) hHeld ?_
          try simp only [Act.put, List.setIfInBounds_toArray, List.set_cons_zero, List.set_cons_succ, List.getElem_toArray, List.getElem_cons_succ, List.getElem_cons_zero]
          refine wpAnyH_take (i := 2) (oi := _) (v := .int .i64 R.length) rfl (by kernel_rfl) (by kernel_rfl) (by kernel_rfl) (fun _ _ _ h => h) (Or.inl ⟨by rfl, fun w h => by go_simp⟩) hHeld ?_
          try simp only [Act.put, List.setIfInBounds_toArray, List.set_cons_zero, List.set_cons_succ, List.getElem_toArray, List.getElem_cons_succ, List.getElem_cons_zero]
          refine wpAnyH_take (i := 3) (oi := _) (v := .bool true) rfl (by kernel_rfl) (by kernel_rfl) (by kernel_rfl) (fun _ _ _ h => h) (Or.inl ⟨by rfl, fun w h => by go_simp⟩) hHeld ?_
          try simp only [Act.put, List.setIfInBounds_toArray, List.set_cons_zero, List.set_cons_succ, List.getElem_toArray, List.getElem_cons_succ, List.getElem_cons_zero]
          refine wpAnyH_take (i := 4) (oi := _) (v := .bool true) rfl (by kernel_rfl) (by kernel_rfl) (by kernel_rfl) (fun _ _ _ h => h) (Or.inl ⟨by rfl, fun w h => by go_simp⟩) hHeld ?_
          try simp only [Act.put, List.setIfInBounds_toArray, List.set_cons_zero, List.set_cons_succ, List.getElem_toArray, List.getElem_cons_succ, List.getElem_cons_zero]
          refine wpAnyH_take (i := 5) (oi := _) (v := .slice (some ⟨g, o, none⟩) R.length cap) rfl (by kernel_rfl) (by kernel_rfl) (by kernel_rfl) (fun _ _ _ h => h) (Or.inl ⟨by rfl, fun w h => by go_simp⟩) hHeld ?_
          try simp only [Act.put, List.setIfInBounds_toArray, List.set_cons_zero, List.set_cons_succ, List.getElem_toArray, List.getElem_cons_succ, List.getElem_cons_zero]
          refine wpAnyH_take (i := 6) (oi := _) (v := .int .i64 k) rfl (by kernel_rfl) (by kernel_rfl) (by kernel_rfl) (fun _ _ _ h => h) (Or.inl ⟨by rfl, fun w h => by go_simp⟩) hHeld ?_
          try simp only [Act.put, List.setIfInBounds_toArray, List.set_cons_zero, List.set_cons_succ, List.getElem_toArray, List.getElem_cons_succ, List.getElem_cons_zero]
          refine wpAnyH_take (i := 7) (oi := _) (v := .pointer (some ⟨g, o + k * 9, none⟩)) rfl (by kernel_rfl) (by kernel_rfl) (by kernel_rfl) (fun _ _ _ h => h) (Or.inl ⟨by rfl, fun w h => by go_simp⟩) hHeld ?_
          try simp only [Act.put, List.setIfInBounds_toArray, List.set_cons_zero, List.set_cons_succ, List.getElem_toArray, List.getElem_cons_succ, List.getElem_cons_zero]
          refine wpAnyH_take (i := 8) (oi := _) (v := .pointer (some ⟨g, o + k * 9, none⟩)) rfl (by kernel_rfl) (by kernel_rfl) (by kernel_rfl) (fun _ _ _ h => h) (Or.inl ⟨by rfl, fun w h => by go_simp⟩) hHeld ?_
          try simp only [Act.put, List.setIfInBounds_toArray, List.set_cons_zero, List.set_cons_succ, List.getElem_toArray, List.getElem_cons_succ, List.getElem_cons_zero]
          refine wpAnyH_take (i := 9) (oi := _) (v := .int .i64 l.s) rfl (by kernel_rfl) (by kernel_rfl) (by kernel_rfl) (fun _ _ _ h => h) (Or.inl ⟨by rfl, fun w h => by have hcell := (show wrx.drew.cell? ⟨g, o + k * 9, none⟩ = some (.int .i64 l.s) from range_speed HE.out); go_simp⟩) hHeld ?_
          try simp only [Act.put, List.setIfInBounds_toArray, List.set_cons_zero, List.set_cons_succ, List.getElem_toArray, List.getElem_cons_succ, List.getElem_cons_zero]
          refine wpAnyH_take (i := 10) (oi := _) (v := .pointer (some ⟨b, 0, none⟩)) rfl (by kernel_rfl) (by kernel_rfl) (by kernel_rfl) (fun _ _ _ h => h) (Or.inl ⟨by rfl, fun w h => by go_simp⟩) hHeld ?_
          try simp only [Act.put, List.setIfInBounds_toArray, List.set_cons_zero, List.set_cons_succ, List.getElem_toArray, List.getElem_cons_succ, List.getElem_cons_zero]
          refine wpAnyH_take (i := 11) (oi := _) (v := .int .i64 c.s) rfl (by kernel_rfl) (by kernel_rfl) (by kernel_rfl) (fun _ _ _ h => h) (Or.inl ⟨by rfl, fun w h => by have hcell := (show wrx.drew.cell? ⟨b, 0, none⟩ = some (.int .i64 c.s) from row_speed HX.out); go_simp⟩) hHeld ?_
          try simp only [Act.put, List.setIfInBounds_toArray, List.set_cons_zero, List.set_cons_succ, List.getElem_toArray, List.getElem_cons_succ, List.getElem_cons_zero]
          refine wpAnyH_take (i := 12) (oi := _) (v := .bool true) rfl (by kernel_rfl) (by kernel_rfl) (by kernel_rfl) (fun _ _ _ h => h) (Or.inl ⟨by rfl, fun w h => by go_simp⟩) hHeld ?_
          try simp only [Act.put, List.setIfInBounds_toArray, List.set_cons_zero, List.set_cons_succ, List.getElem_toArray, List.getElem_cons_succ, List.getElem_cons_zero]
          refine wpAnyH_take (i := 13) (oi := _) (v := .bool true) rfl (by kernel_rfl) (by kernel_rfl) (by kernel_rfl) (fun _ _ _ h => h) (Or.inl ⟨by rfl, fun w h => by go_simp⟩) hHeld ?_
          try simp only [Act.put, List.setIfInBounds_toArray, List.set_cons_zero, List.set_cons_succ, List.getElem_toArray, List.getElem_cons_succ, List.getElem_cons_zero]
          clear hHeld
          refine wpAnyH_done (by kernel_rfl) ?_ _
          replace HL : Aside (Below W.heap.size W wrx.drew) := HL.out.drew
          replace HX : Aside (RowAt wrx.drew b 9 87 (wf c)) := HX.out.drew1
          replace HRD : Aside (wrx.drew.rangeAt g o (flat R)) := HRD.out
          replace HE : Aside (wrx.drew.rangeAt g (o + k * 9) (enc l)) := HE.out
          generalize wrx.drew = wrxx at *
          generalize wrxx = WR at *
          have HZR : Aside (g < WR.heap.size ∧ b < WR.heap.size) := ⟨Nat.lt_of_lt_of_le HGW.out HL.out.size, Nat.lt_of_lt_of_le HZ0.out HL.out.size⟩
          have HRR : Aside (Reads WR (.slice (some ⟨g, o, none⟩) R.length cap) R) := (show Reads WR (.slice (some ⟨g, o, none⟩) R.length cap) R from by
            have := reads_take (Nat.le_refl R.length) hc1 HM.out HZR.out.1 HRD.out
            rwa [List.take_length] at this)
          have S : ∀ w, Calls Try.prog 66 #[pt l.r.up, .int .i64 1, pt c.r.up] w fun e w' => e = .returned (pt (V.add l.r c.r).up) ∧ Below w.heap.size w w' := fun w => by
            refine (specSum_any l.r.up c.r.up 1 (by omega) (fun j hj => by have := HBG.out l (List.mem_of_getElem? HC.out) j hj; omega) (fun j hj => by have := HCB.out j hj; omega) w).mono ?_
            rintro e w' ⟨rfl, h⟩
            refine ⟨?_, h⟩
            have : pt (mul1 l.r.up 1 c.r.up) = pt (V.add l.r c.r).up := pt_same fun j hj => by
              rw [add_up]; unfold mul1 add; omega
            rw [this]
          have VC : ∀ w, Calls Try.prog 52 #[pt (V.add l.r c.r).up] w fun e w' => e = .returned (.bool (okv (V.add l.r c.r))) ∧ Below w.heap.size w w' := fun w => specValid_any (V.add l.r c.r).up w
          have HF : Aside (ins R c = R.set k ⟨l.s, V.add l.r c.r⟩ ∧ insOk true R c = okv (V.add l.r c.r)) := (show _ from by
            have hR : R = R.take k ++ l :: R.drop (k + 1) := by
              conv => lhs; rw [← List.take_append_drop k R, List.drop_eq_getElem_cons hlt]
              have := List.getElem?_eq_getElem hlt
              rw [HC.out] at this
              rw [← Option.some.inj this]
            have hi := ins_split true c (l :: R.drop (k + 1)) (R.take k) HFA.out
            rw [← hR] at hi
            obtain ⟨h1, h2⟩ := ins_same true c l heq (R.drop (k + 1))
            rw [h1, h2] at hi
            refine ⟨?_, hi.2⟩
            rw [hi.1]
            conv => rhs; rw [hR]
            rw [List.set_append_right _ _ (by rw [List.length_take]; omega), List.length_take, Nat.min_eq_left (by omega), Nat.sub_self]
            rfl)
          go_upto_region 6 with (first | (refine append9 tyW rfl rfl (w0 := WR) (B := WR.heap.size) (xs := []) (ys := R) rfl rfl (own_lit WR WR.heap.size 87 (Nat.le_refl _)) (HRR.out.below ((Below.refl _ _).alloc (Nat.le_refl _) _)) (by simp; omega) ((Below.refl _ _).alloc (Nat.le_refl _) _) (by simp) ?_; intro v2 w2 ho2 hb2 hB2; rw [List.nil_append] at ho2))
          obtain ⟨p2, cap2, rfl, hq1, hq2, hne⟩ := own_form ho2
          obtain ⟨g2, rfl, hg2⟩ := hne (by rintro rfl; simp at hlt)
          have hq2z : (R.length : Int) ≤ (cap2 : Int) := by omega
          have HO : Aside (Own w2.drew WR.heap.size 87 (.slice (some ⟨g2, 0, none⟩) R.length cap2) R) := (show Own w2 _ _ _ _ from ho2)
          have HL2 := Lib.hid hb2
          clear ho2 hb2 hB2 hne
          refine wp_region_held_drew (S := fun w' => Below WR.heap.size WR w') (by kernel_rfl) HL2.out.drew (fun hHeld => ?_)
          refine wpAnyH_take (i := 0) (oi := _) (v := .slice (some ⟨g2, 0, none⟩) R.length cap2) rfl (by kernel_rfl) (by kernel_rfl) (by kernel_rfl) (fun _ _ _ h => h) (Or.inl ⟨by rfl, fun w h => by go_simp⟩) hHeld ?_
          try simp only [Act.put, List.setIfInBounds_toArray, List.set_cons_zero, List.set_cons_succ, List.getElem_toArray, List.getElem_cons_succ, List.getElem_cons_zero]
          refine wpAnyH_take (i := 1) (oi := _) (v := .int .i64 k) rfl (by kernel_rfl) (by kernel_rfl) (by kernel_rfl) (fun _ _ _ h => h) (Or.inl ⟨by rfl, fun w h => by go_simp⟩) hHeld ?_
          try simp only [Act.put, List.setIfInBounds_toArray, List.set_cons_zero, List.set_cons_succ, List.getElem_toArray, List.getElem_cons_succ, List.getElem_cons_zero]
          refine wpAnyH_take (i := 2) (oi := _) (v := .slice (some ⟨g, o, none⟩) R.length cap) rfl (by kernel_rfl) (by kernel_rfl) (by kernel_rfl) (fun _ _ _ h => h) (Or.inl ⟨by rfl, fun w h => by go_simp⟩) hHeld ?_
          try simp only [Act.put, List.setIfInBounds_toArray, List.set_cons_zero, List.set_cons_succ, List.getElem_toArray, List.getElem_cons_succ, List.getElem_cons_zero]
          refine wpAnyH_take (i := 3) (oi := _) (v := .int .i64 k) rfl (by kernel_rfl) (by kernel_rfl) (by kernel_rfl) (fun _ _ _ h => h) (Or.inl ⟨by rfl, fun w h => by go_simp⟩) hHeld ?_
          try simp only [Act.put, List.setIfInBounds_toArray, List.set_cons_zero, List.set_cons_succ, List.getElem_toArray, List.getElem_cons_succ, List.getElem_cons_zero]
          refine wpAnyH_take (i := 4) (oi := _) (v := .pointer (some ⟨g, o + k * 9, none⟩)) rfl (by kernel_rfl) (by kernel_rfl) (by kernel_rfl) (fun _ _ _ h => h) (Or.inl ⟨by rfl, fun w h => by go_simp⟩) hHeld ?_
          try simp only [Act.put, List.setIfInBounds_toArray, List.set_cons_zero, List.set_cons_succ, List.getElem_toArray, List.getElem_cons_succ, List.getElem_cons_zero]
          refine wpAnyH_take (i := 5) (oi := _) (v := .pointer (some ⟨g, o + k * 9 + 1, none⟩)) rfl (by kernel_rfl) (by kernel_rfl) (by kernel_rfl) (fun _ _ _ h => h) (Or.inl ⟨by rfl, fun w h => by go_simp⟩) hHeld ?_
          try simp only [Act.put, List.setIfInBounds_toArray, List.set_cons_zero, List.set_cons_succ, List.getElem_toArray, List.getElem_cons_succ, List.getElem_cons_zero]
          refine wpAnyH_take (i := 6) (oi := _) (v := .agg (vec 8 l.r.up)) rfl (by kernel_rfl) (by kernel_rfl) (by kernel_rfl) (fun _ _ _ h => h) (yieldsIf_load_mid (by rfl) _ _ rfl _ _ rfl _ _ ((fun w h => range_radius (range_below HE.out HZR.out.1 h))) Try.underlying80 rfl (size_cyc8 _)) hHeld ?_
          try simp only [Act.put, List.setIfInBounds_toArray, List.set_cons_zero, List.set_cons_succ, List.getElem_toArray, List.getElem_cons_succ, List.getElem_cons_zero]
          refine wpAnyH_take (i := 7) (oi := _) (v := .pointer (some ⟨b, 1, none⟩)) rfl (by kernel_rfl) (by kernel_rfl) (by kernel_rfl) (fun _ _ _ h => h) (Or.inl ⟨by rfl, fun w h => by go_simp⟩) hHeld ?_
          try simp only [Act.put, List.setIfInBounds_toArray, List.set_cons_zero, List.set_cons_succ, List.getElem_toArray, List.getElem_cons_succ, List.getElem_cons_zero]
          refine wpAnyH_take (i := 8) (oi := _) (v := .agg (vec 8 c.r.up)) rfl (by kernel_rfl) (by kernel_rfl) (by kernel_rfl) (fun _ _ _ h => h) (yieldsIf_load_mid (by rfl) _ _ rfl _ _ rfl _ _ ((fun w h => row_radius (HX.out.below h))) Try.underlying80 rfl (size_cyc8 _)) hHeld ?_
          try simp only [Act.put, List.setIfInBounds_toArray, List.set_cons_zero, List.set_cons_succ, List.getElem_toArray, List.getElem_cons_succ, List.getElem_cons_zero]
          refine wpAnyH_ready (rs := [9]) (by kernel_rfl) (by simp) ?_
          refine AllReadyH.cons (o := _) rfl (fun K hK => ?_) AllReadyH.nil
          go_simp
          refine (S _).mono ?_; rintro e w5 ⟨rfl, hb5⟩
          go_wp2_with fail
          refine hK.out _ _ (below_next hHeld hb5) (fun hHeld => ?_)
          clear hK K
          try simp only [Act.put, List.setIfInBounds_toArray, List.set_cons_zero, List.set_cons_succ, List.getElem_toArray, List.getElem_cons_succ, List.getElem_cons_zero]
          have HO5 := Lib.hid (own_below HO.out hb5)
          clear hb5 S HO
          refine wpAnyH_take (i := 10) (oi := _) (v := .pointer (some ⟨g2, k * 9, none⟩)) rfl (by kernel_rfl) (by kernel_rfl) (by kernel_rfl) (fun _ _ _ h => h) (Or.inl ⟨by rfl, fun w h => by go_simp⟩) hHeld ?_
          try simp only [Act.put, List.setIfInBounds_toArray, List.set_cons_zero, List.set_cons_succ, List.getElem_toArray, List.getElem_cons_succ, List.getElem_cons_zero]
          refine wpAnyH_take (i := 11) (oi := _) (v := .pointer (some ⟨g2, k * 9 + 1, none⟩)) rfl (by kernel_rfl) (by kernel_rfl) (by kernel_rfl) (fun _ _ _ h => h) (Or.inl ⟨by rfl, fun w h => by go_simp⟩) hHeld ?_
          try simp only [Act.put, List.setIfInBounds_toArray, List.set_cons_zero, List.set_cons_succ, List.getElem_toArray, List.getElem_cons_succ, List.getElem_cons_zero]
          refine wpAnyH_ready (rs := [12]) (by kernel_rfl) (by simp) ?_
          refine AllReadyH.cons (o := _) rfl (fun K hK => ?_) AllReadyH.nil
          rw [if_pos (by rfl)]
          have ht := own_there (k := k) (o := 1) (n := 8) HO5.out (by omega) (by omega)
          have hn := own_radius (V.add l.r c.r) HO5.out HC.out
          have hb6 := below_setCells (G := g2) hg2 (lst 8 (V.add l.r c.r).up) (k * 9 + 1) w5 hHeld
          refine wp_store_mid 80 _ _ rfl g2 (k * 9 + 1) (vec 8 (V.add l.r c.r).up) rfl rfl (by rw [vec_size]; exact ht) (by rw [vec_size]; exact info_cyc) (vec_one 8 _) ?_
          show K _ (w5.setCells g2 (k * 9 + 1) (lst 8 (V.add l.r c.r).up))
          refine hK.out _ _ hb6 (fun hHeld => ?_)
          clear hK K
          try simp only [Act.put, List.setIfInBounds_toArray, List.set_cons_zero, List.set_cons_succ, List.getElem_toArray, List.getElem_cons_succ, List.getElem_cons_zero]
          refine wpAnyH_done (by kernel_rfl) ?_ _
          have HN : Aside (Own (w5.setCells g2 (k * 9 + 1) (lst 8 (V.add l.r c.r).up)) WR.heap.size 87 (.slice (some ⟨g2, 0, none⟩) R.length cap2) (R.set k ⟨l.s, V.add l.r c.r⟩)) := (show World.ownsRow _ _ _ _ _ (R.set k ⟨l.s, V.add l.r c.r⟩).length _ from by
            rw [List.length_set]; exact hn)
          have HB6 := Lib.hid hb6
          clear hn hb6 ht hHeld HO5
          generalize w5.setCells g2 (k * 9 + 1) (lst 8 (V.add l.r c.r).up) = W6 at *
          have HRG : Aside (W6.rangeAt g2 (k * 9 + 1) (lst 8 (V.add l.r c.r).up)) := (show _ from range_radius (c := ⟨l.s, V.add l.r c.r⟩) (range_own (cap := cap2) (by rw [List.length_set]; exact HN.out) (by rw [List.getElem?_set_self hlt])))
          go_wp2_with (first | (refine load_part (T := 80) rfl rfl rfl HRG.out Try.underlying80 rfl info_cyc ?_))
          refine (VC _).mono ?_; rintro e w7 ⟨rfl, hb7⟩
          have HQ : Aside (Added w R c (.returned (.tuple #[.slice (some ⟨g2, 0, none⟩) R.length cap2, .bool (okv (V.add l.r c.r))])) w7) := (show Added w R c _ w7 from by
            subst hbw
            have hz := Nat.le_of_lt (Nat.lt_of_lt_of_le HZ0.out HL.out.size)
            refine ⟨below_next HL0.out (below_next HL.out (below_next HB6.out hb7)), _, by rw [HF.out.2], ?_⟩
            rw [HF.out.1]
            exact own_mono (own_below HN.out hb7) hz)
          clear hb7 VC
          go_wp2
          go_ret2
          exact HQ.out
        · have heq2 : (l.s == c.s) = false := by simpa using heq
          go_upto_region 4 with fail
          refine wp_region_held_drew (S := fun w' => w' = wrx.drew) (by kernel_rfl) rfl (fun hHeld => ?_)
          refine wpAnyH_take (i := 0) (oi := _) (v := .int .i64 k) rfl (by kernel_rfl) (by kernel_rfl) (by kernel_rfl) (fun _ _ _ h => h) (Or.inl ⟨by rfl, fun w h => by go_simp⟩) hHeld ?_
          try simp only [Act.put, List.setIfInBounds_toArray, List.set_cons_zero, List.set_cons_succ, List.getElem_toArray, List.getElem_cons_succ, List.getElem_cons_zero]
          refine wpAnyH_take (i := 1) (oi := _) (v := .slice (some ⟨g, o, none⟩) R.length cap) rfl (by kernel_rfl) (by kernel_rfl) (by kernel_rfl) (fun _ _ _ h => h) (Or.inl ⟨by rfl, fun w h => by go_simp⟩) hHeld ?_
          try simp only [Act.put, List.setIfInBounds_toArray, List.set_cons_zero, List.set_cons_succ, List.getElem_toArray, List.getElem_cons_succ, List.getElem_cons_zero]
          refine wpAnyH_take (i := 2) (oi := _) (v := .int .i64 R.length) rfl (by kernel_rfl) (by kernel_rfl) (by kernel_rfl) (fun _ _ _ h => h) (Or.inl ⟨by rfl, fun w h => by go_simp⟩) hHeld ?_
          try simp only [Act.put, List.setIfInBounds_toArray, List.set_cons_zero, List.set_cons_succ, List.getElem_toArray, List.getElem_cons_succ, List.getElem_cons_zero]
          refine wpAnyH_take (i := 3) (oi := _) (v := .bool true) rfl (by kernel_rfl) (by kernel_rfl) (by kernel_rfl) (fun _ _ _ h => h) (Or.inl ⟨by rfl, fun w h => by go_simp⟩) hHeld ?_
          try simp only [Act.put, List.setIfInBounds_toArray, List.set_cons_zero, List.set_cons_succ, List.getElem_toArray, List.getElem_cons_succ, List.getElem_cons_zero]
          refine wpAnyH_take (i := 4) (oi := _) (v := .bool true) rfl (by kernel_rfl) (by kernel_rfl) (by kernel_rfl) (fun _ _ _ h => h) (Or.inl ⟨by rfl, fun w h => by go_simp⟩) hHeld ?_
          try simp only [Act.put, List.setIfInBounds_toArray, List.set_cons_zero, List.set_cons_succ, List.getElem_toArray, List.getElem_cons_succ, List.getElem_cons_zero]
          refine wpAnyH_take (i := 5) (oi := _) (v := .slice (some ⟨g, o, none⟩) R.length cap) rfl (by kernel_rfl) (by kernel_rfl) (by kernel_rfl) (fun _ _ _ h => h) (Or.inl ⟨by rfl, fun w h => by go_simp⟩) hHeld ?_
          try simp only [Act.put, List.setIfInBounds_toArray, List.set_cons_zero, List.set_cons_succ, List.getElem_toArray, List.getElem_cons_succ, List.getElem_cons_zero]
          refine wpAnyH_take (i := 6) (oi := _) (v := .int .i64 k) rfl (by kernel_rfl) (by kernel_rfl) (by kernel_rfl) (fun _ _ _ h => h) (Or.inl ⟨by rfl, fun w h => by go_simp⟩) hHeld ?_
          try simp only [Act.put, List.setIfInBounds_toArray, List.set_cons_zero, List.set_cons_succ, List.getElem_toArray, List.getElem_cons_succ, List.getElem_cons_zero]
          refine wpAnyH_take (i := 7) (oi := _) (v := .pointer (some ⟨g, o + k * 9, none⟩)) rfl (by kernel_rfl) (by kernel_rfl) (by kernel_rfl) (fun _ _ _ h => h) (Or.inl ⟨by rfl, fun w h => by go_simp⟩) hHeld ?_
          try simp only [Act.put, List.setIfInBounds_toArray, List.set_cons_zero, List.set_cons_succ, List.getElem_toArray, List.getElem_cons_succ, List.getElem_cons_zero]
          refine wpAnyH_take (i := 8) (oi := _) (v := .pointer (some ⟨g, o + k * 9, none⟩)) rfl (by kernel_rfl) (by kernel_rfl) (by kernel_rfl) (fun _ _ _ h => h) (Or.inl ⟨by rfl, fun w h => by go_simp⟩) hHeld ?_
          try simp only [Act.put, List.setIfInBounds_toArray, List.set_cons_zero, List.set_cons_succ, List.getElem_toArray, List.getElem_cons_succ, List.getElem_cons_zero]
          refine wpAnyH_take (i := 9) (oi := _) (v := .int .i64 l.s) rfl (by kernel_rfl) (by kernel_rfl) (by kernel_rfl) (fun _ _ _ h => h) (Or.inl ⟨by rfl, fun w h => by have hcell := (show wrx.drew.cell? ⟨g, o + k * 9, none⟩ = some (.int .i64 l.s) from range_speed HE.out); go_simp⟩) hHeld ?_
          try simp only [Act.put, List.setIfInBounds_toArray, List.set_cons_zero, List.set_cons_succ, List.getElem_toArray, List.getElem_cons_succ, List.getElem_cons_zero]
          refine wpAnyH_take (i := 10) (oi := _) (v := .pointer (some ⟨b, 0, none⟩)) rfl (by kernel_rfl) (by kernel_rfl) (by kernel_rfl) (fun _ _ _ h => h) (Or.inl ⟨by rfl, fun w h => by go_simp⟩) hHeld ?_
          try simp only [Act.put, List.setIfInBounds_toArray, List.set_cons_zero, List.set_cons_succ, List.getElem_toArray, List.getElem_cons_succ, List.getElem_cons_zero]
          refine wpAnyH_take (i := 11) (oi := _) (v := .int .i64 c.s) rfl (by kernel_rfl) (by kernel_rfl) (by kernel_rfl) (fun _ _ _ h => h) (Or.inl ⟨by rfl, fun w h => by have hcell := (show wrx.drew.cell? ⟨b, 0, none⟩ = some (.int .i64 c.s) from row_speed HX.out); go_simp⟩) hHeld ?_
          try simp only [Act.put, List.setIfInBounds_toArray, List.set_cons_zero, List.set_cons_succ, List.getElem_toArray, List.getElem_cons_succ, List.getElem_cons_zero]
          refine wpAnyH_take (i := 12) (oi := _) (v := .bool false) rfl (by kernel_rfl) (by kernel_rfl) (by kernel_rfl) (fun _ _ _ h => h) (Or.inl ⟨by rfl, fun w h => by go_simp⟩) hHeld ?_
          try simp only [Act.put, List.setIfInBounds_toArray, List.set_cons_zero, List.set_cons_succ, List.getElem_toArray, List.getElem_cons_succ, List.getElem_cons_zero]
          refine wpAnyH_take (i := 13) (oi := _) (v := .bool false) rfl (by kernel_rfl) (by kernel_rfl) (by kernel_rfl) (fun _ _ _ h => h) (Or.inl ⟨by rfl, fun w h => by go_simp⟩) hHeld ?_
          try simp only [Act.put, List.setIfInBounds_toArray, List.set_cons_zero, List.set_cons_succ, List.getElem_toArray, List.getElem_cons_succ, List.getElem_cons_zero]
          clear hHeld
          refine wpAnyH_done (by kernel_rfl) ?_ _
          replace HL : Aside (Below W.heap.size W wrx.drew) := HL.out.drew
          replace HX : Aside (RowAt wrx.drew b 9 87 (wf c)) := HX.out.drew1
          replace HRD : Aside (wrx.drew.rangeAt g o (flat R)) := HRD.out
          replace HE : Aside (wrx.drew.rangeAt g (o + k * 9) (enc l)) := HE.out
          generalize wrx.drew = wrxx at *
          generalize wrxx = WR at *
          have HNW : Aside (∀ d, (R.drop k)[0]? = some d → c.s < d.s) := (show ∀ d, (R.drop k)[0]? = some d → c.s < d.s from fun d hd => by
            rw [List.getElem?_drop, Nat.add_zero, HC.out] at hd
            obtain rfl := Option.some.inj hd
            omega)
          clear HE
          have HZR : Aside (g < WR.heap.size ∧ b < WR.heap.size) := ⟨Nat.lt_of_lt_of_le HGW.out HL.out.size, Nat.lt_of_lt_of_le HZ0.out HL.out.size⟩
          have HT := Lib.hid (reads_take hk hc1 HM.out HZR.out.1 HRD.out)
          obtain ⟨off, hoff⟩ : ∃ off, (cap = k → off = o) ∧ (¬ cap = k → off = o + k * 9) := by
            by_cases h : cap = k
            · exact ⟨o, fun _ => rfl, fun h' => absurd h h'⟩
            · exact ⟨o + k * 9, fun h' => absurd h' h, fun _ => rfl⟩
          have HD : Aside (Reads WR (.slice (some ⟨g, off, none⟩) (R.length - k) (cap - k)) (R.drop k)) := reads_off hk hc1 HM.out HZR.out.1 HRD.out hoff
          have HOFF := Lib.hid hoff
          clear hoff
          have hkle : (k : Int) ≤ (R.length : Int) := by omega
          have hkc : (k : Int) ≤ (cap : Int) := by omega
          have hlc : (R.length : Int) ≤ (cap : Int) := by omega
          have VC : ∀ w, Calls Try.prog 52 #[.agg (vec 8 c.r.up)] w fun e w' => e = .returned (.bool (okv c.r)) ∧ Below w.heap.size w w' := fun w => specValid_any c.r.up w
          go_upto_region 8 with fail
          refine wp_region_held_drew (S := fun w' => Below WR.heap.size WR w') (by kernel_rfl) (Below.refl _ _).drew (fun hHeld => ?_)
          refine wpAnyH_take (i := 1) (oi := _) (v := .slice (some ⟨g, o, none⟩) R.length cap) rfl (by kernel_rfl) (by kernel_rfl) (by kernel_rfl) (fun _ _ _ h => h) (Or.inl ⟨by rfl, fun w h => by go_simp⟩) hHeld ?_
          try simp only [Act.put, List.setIfInBounds_toArray, List.set_cons_zero, List.set_cons_succ, List.getElem_toArray, List.getElem_cons_succ, List.getElem_cons_zero]
          refine wpAnyH_take (i := 2) (oi := _) (v := .int .i64 k) rfl (by kernel_rfl) (by kernel_rfl) (by kernel_rfl) (fun _ _ _ h => h) (Or.inl ⟨by rfl, fun w h => by go_simp⟩) hHeld ?_
          try simp only [Act.put, List.setIfInBounds_toArray, List.set_cons_zero, List.set_cons_succ, List.getElem_toArray, List.getElem_cons_succ, List.getElem_cons_zero]
          refine wpAnyH_take (i := 3) (oi := _) (v := .slice (some ⟨g, o, none⟩) k cap) rfl (by kernel_rfl) (by kernel_rfl) (by kernel_rfl) (fun _ _ _ h => h) (Or.inl ⟨by rfl, fun w h => by go_simp⟩) hHeld ?_
          try simp only [Act.put, List.setIfInBounds_toArray, List.set_cons_zero, List.set_cons_succ, List.getElem_toArray, List.getElem_cons_succ, List.getElem_cons_zero]
          refine wpAnyH_take (i := 5) (oi := _) (v := .agg (vec 9 (wf c))) rfl (by kernel_rfl) (by kernel_rfl) (by kernel_rfl) (fun _ _ _ h => h) (yieldsIf_load_mid (by rfl) _ _ rfl _ _ rfl _ _ ((fun w h => row_wheel (HX.out.below h))) Try.underlying87 rfl (size_wheel c)) hHeld ?_
          try simp only [Act.put, List.setIfInBounds_toArray, List.set_cons_zero, List.set_cons_succ, List.getElem_toArray, List.getElem_cons_succ, List.getElem_cons_zero]
          refine wpAnyH_take (i := 8) (oi := _) (v := .slice (some ⟨g, o, none⟩) R.length cap) rfl (by kernel_rfl) (by kernel_rfl) (by kernel_rfl) (fun _ _ _ h => h) (Or.inl ⟨by rfl, fun w h => by go_simp⟩) hHeld ?_
          try simp only [Act.put, List.setIfInBounds_toArray, List.set_cons_zero, List.set_cons_succ, List.getElem_toArray, List.getElem_cons_succ, List.getElem_cons_zero]
          refine wpAnyH_take (i := 9) (oi := _) (v := .int .i64 k) rfl (by kernel_rfl) (by kernel_rfl) (by kernel_rfl) (fun _ _ _ h => h) (Or.inl ⟨by rfl, fun w h => by go_simp⟩) hHeld ?_
          try simp only [Act.put, List.setIfInBounds_toArray, List.set_cons_zero, List.set_cons_succ, List.getElem_toArray, List.getElem_cons_succ, List.getElem_cons_zero]
          refine wpAnyH_take (i := 10) (oi := _) (v := .slice (some ⟨g, off, none⟩) (R.length - k) (cap - k)) rfl (by kernel_rfl) (by kernel_rfl) (by kernel_rfl) (fun _ _ _ h => h) (Or.inl ⟨by rfl, fun w h => (Decidable.em (cap = k)).elim (fun hck => by have ho := HOFF.out.1 hck; go_simp) (fun hck => by have ho := HOFF.out.2 hck; go_simp)⟩) hHeld ?_
          try simp only [Act.put, List.setIfInBounds_toArray, List.set_cons_zero, List.set_cons_succ, List.getElem_toArray, List.getElem_cons_succ, List.getElem_cons_zero]
          refine wpAnyH_take (i := 12) (oi := _) (v := .pointer (some ⟨b, 1, none⟩)) rfl (by kernel_rfl) (by kernel_rfl) (by kernel_rfl) (fun _ _ _ h => h) (Or.inl ⟨by rfl, fun w h => by go_simp⟩) hHeld ?_
          try simp only [Act.put, List.setIfInBounds_toArray, List.set_cons_zero, List.set_cons_succ, List.getElem_toArray, List.getElem_cons_succ, List.getElem_cons_zero]
          refine wpAnyH_take (i := 13) (oi := _) (v := .agg (vec 8 c.r.up)) rfl (by kernel_rfl) (by kernel_rfl) (by kernel_rfl) (fun _ _ _ h => h) (yieldsIf_load_mid (by rfl) _ _ rfl _ _ rfl _ _ ((fun w h => row_radius (HX.out.below h))) Try.underlying80 rfl (size_cyc8 _)) hHeld ?_
          try simp only [Act.put, List.setIfInBounds_toArray, List.set_cons_zero, List.set_cons_succ, List.getElem_toArray, List.getElem_cons_succ, List.getElem_cons_zero]
          refine wpAnyH_ready (rs := [0, 6]) (by kernel_rfl) (by simp) ?_
          refine AllReadyH.cons (o := _) rfl (fun K hK => ?_) (AllReadyH.cons (o := _) rfl (fun K hK => ?_) AllReadyH.nil)
          · rw [if_pos (by rfl)]
            go_simp
            have hown := own_lit WR.drew WR.heap.size 87 (Nat.le_refl _)
            refine hK.out _ _ (hHeld.alloc hHeld.size _) (fun hHeld => ?_)
            clear hK K
            try simp only [Act.put, List.setIfInBounds_toArray, List.set_cons_zero, List.set_cons_succ, List.getElem_toArray, List.getElem_cons_succ, List.getElem_cons_zero]
            refine wpAnyH_ready (rs := [4, 6]) (by kernel_rfl) (by simp) ?_
            refine AllReadyH.cons (o := _) rfl (fun K hK => ?_) (AllReadyH.cons (o := _) rfl (fun K hK => ?_) AllReadyH.nil)
            · refine wp_append_list tyW rfl (xs := []) (ys := R.take k) rfl rfl hown ((HT.out).below hHeld) (by simp; omega) hHeld hHeld.size ?_; intro v2 w2 ho2 hb2 hB2
              refine hK.out _ _ hb2 (fun hHeld => ?_)
              clear hK K
              try simp only [Act.put, List.setIfInBounds_toArray, List.set_cons_zero, List.set_cons_succ, List.getElem_toArray, List.getElem_cons_succ, List.getElem_cons_zero]
              clear hown
              rw [List.nil_append] at ho2
              refine wpAnyH_ready (rs := [6]) (by kernel_rfl) (by simp) ?_
              refine AllReadyH.cons (o := _) rfl (fun K hK => ?_) AllReadyH.nil
              rw [if_pos (by rfl)]
              refine wp_one9 tyW rfl rfl ?_
              have hlit := reads_lit w2 c 87
              have hown : Own (w2.alloc (.cells (vec 9 (wf c)) 87)) WR.heap.size 87 v2 (R.take k) := (show World.ownsRow _ _ _ _ _ _ _ from World.ownsRow.alloc ho2 _)
              refine hK.out _ _ (hb2.alloc hB2 _) (fun hHeld => ?_)
              clear hK K
              try simp only [Act.put, List.setIfInBounds_toArray, List.set_cons_zero, List.set_cons_succ, List.getElem_toArray, List.getElem_cons_succ, List.getElem_cons_zero]
              clear ho2 hb2 hB2
              refine wpAnyH_ready (rs := [7]) (by kernel_rfl) (by simp) ?_
              refine AllReadyH.cons (o := _) rfl (fun K hK => ?_) AllReadyH.nil
              refine wp_append_list tyW rfl (xs := R.take k) (ys := [c]) rfl rfl hown hlit (by simp; omega) hHeld hHeld.size ?_; intro v3 w3 ho3 hb3 hB3
              refine hK.out _ _ hb3 (fun hHeld => ?_)
              clear hK K
              try simp only [Act.put, List.setIfInBounds_toArray, List.set_cons_zero, List.set_cons_succ, List.getElem_toArray, List.getElem_cons_succ, List.getElem_cons_zero]
              clear hown hlit
              refine wpAnyH_ready (rs := [11]) (by kernel_rfl) (by simp) ?_
              refine AllReadyH.cons (o := _) rfl (fun K hK => ?_) AllReadyH.nil
              refine wp_append_list tyW rfl (xs := R.take k ++ [c]) (ys := R.drop k) rfl rfl ho3 ((HD.out).below hb3) (by simp; omega) hb3 hB3 ?_; intro v4 w4 ho4 hb4 hB4
              refine hK.out _ _ hb4 (fun hHeld => ?_)
              clear hK K
              try simp only [Act.put, List.setIfInBounds_toArray, List.set_cons_zero, List.set_cons_succ, List.getElem_toArray, List.getElem_cons_succ, List.getElem_cons_zero]
              clear ho3 hb3 hB3
              refine wpAnyH_ready (rs := [14]) (by kernel_rfl) (by simp) ?_
              refine AllReadyH.cons (o := _) rfl (fun K hK => ?_) AllReadyH.nil
              go_simp
              refine (VC _).mono ?_; rintro e w5 ⟨rfl, hb5⟩
              go_wp2_with fail
              refine hK.out _ _ (below_next hb4 hb5) (fun hHeld => ?_)
              clear hK K
              try simp only [Act.put, List.setIfInBounds_toArray, List.set_cons_zero, List.set_cons_succ, List.getElem_toArray, List.getElem_cons_succ, List.getElem_cons_zero]
              have ho5 := own_below ho4 hb5
              clear ho4 hb4 hB4 hb5 VC
              refine wpAnyH_take (i := 15) (oi := _) (v := v4) rfl (by kernel_rfl) (by kernel_rfl) (by kernel_rfl) (fun _ _ _ h => h) (Or.inl ⟨by rfl, fun w h => by go_simp⟩) hHeld ?_
              try simp only [Act.put, List.setIfInBounds_toArray, List.set_cons_zero, List.set_cons_succ, List.getElem_toArray, List.getElem_cons_succ, List.getElem_cons_zero]
              refine wpAnyH_take (i := 16) (oi := _) (v := .bool (okv c.r)) rfl (by kernel_rfl) (by kernel_rfl) (by kernel_rfl) (fun _ _ _ h => h) (Or.inl ⟨by rfl, fun w h => by go_simp⟩) hHeld ?_
              try simp only [Act.put, List.setIfInBounds_toArray, List.set_cons_zero, List.set_cons_succ, List.getElem_toArray, List.getElem_cons_succ, List.getElem_cons_zero]
              refine wpAnyH_done (by kernel_rfl) ?_ _
              have HF : Aside (Added w R c (.returned (.tuple #[v4, .bool (okv c.r)])) w5) := (show Added w R c _ w5 from by
                subst hbw
                have hi := ins_split true c (R.drop k) (R.take k) HFA.out
                rw [List.take_append_drop] at hi
                have hj := ins_new c (R.drop k) HNW.out
                have hz := Nat.le_of_lt (Nat.lt_of_lt_of_le HZ0.out HL.out.size)
                refine ⟨below_next HL0.out (below_next HL.out hHeld), v4, by rw [hi.2, hj.2], ?_⟩
                rw [hi.1, hj.1]
                have e : R.take k ++ c :: R.drop k = (R.take k ++ [c]) ++ R.drop k := by simp
                rw [e]
                exact own_mono ho5 hz)
              clear ho5 hHeld
              go_wp2
              go_ret2
              exact HF.out
            · rw [if_pos (by rfl)]
              refine wp_one9 tyW rfl rfl ?_
              have hz1 := hHeld.size
              have hlit2 := reads_lit (WR.drew.alloc (.cells #[] 87)) c 87
              have hown2 : Own ((WR.drew.alloc (.cells #[] 87)).alloc (.cells (vec 9 (wf c)) 87)) WR.heap.size 87 _ [] := (show World.ownsRow _ _ _ _ _ _ _ from World.ownsRow.alloc hown _)
              refine hK.out _ _ (hHeld.alloc hz1 _) (fun hHeld => ?_)
              clear hK K
              try simp only [Act.put, List.setIfInBounds_toArray, List.set_cons_zero, List.set_cons_succ, List.getElem_toArray, List.getElem_cons_succ, List.getElem_cons_zero]
              clear hown
              refine wpAnyH_ready (rs := [4]) (by kernel_rfl) (by simp) ?_
              refine AllReadyH.cons (o := _) rfl (fun K hK => ?_) AllReadyH.nil
              refine wp_append_list2 tyW rfl (xs := []) (ys := R.take k) rfl rfl hown2 ((HT.out).below hHeld) (by simp; omega) hHeld hHeld.size ?_; intro v2 w2 ho2 hb2 hB2 hgr
              refine hK.out _ _ hb2 (fun hHeld => ?_)
              clear hK K
              try simp only [Act.put, List.setIfInBounds_toArray, List.set_cons_zero, List.set_cons_succ, List.getElem_toArray, List.getElem_cons_succ, List.getElem_cons_zero]
              rw [List.nil_append] at ho2
              have hlit := reads_kept hlit2 hgr (by show ¬ some _ = some _; simp)
              clear hlit2 hown2 hgr
              have hown := ho2
              clear ho2 hb2 hB2
              refine wpAnyH_ready (rs := [7]) (by kernel_rfl) (by simp) ?_
              refine AllReadyH.cons (o := _) rfl (fun K hK => ?_) AllReadyH.nil
              refine wp_append_list tyW rfl (xs := R.take k) (ys := [c]) rfl rfl hown hlit (by simp; omega) hHeld hHeld.size ?_; intro v3 w3 ho3 hb3 hB3
              refine hK.out _ _ hb3 (fun hHeld => ?_)
              clear hK K
              try simp only [Act.put, List.setIfInBounds_toArray, List.set_cons_zero, List.set_cons_succ, List.getElem_toArray, List.getElem_cons_succ, List.getElem_cons_zero]
              clear hown hlit
              refine wpAnyH_ready (rs := [11]) (by kernel_rfl) (by simp) ?_
              refine AllReadyH.cons (o := _) rfl (fun K hK => ?_) AllReadyH.nil
              refine wp_append_list tyW rfl (xs := R.take k ++ [c]) (ys := R.drop k) rfl rfl ho3 ((HD.out).below hb3) (by simp; omega) hb3 hB3 ?_; intro v4 w4 ho4 hb4 hB4
              refine hK.out _ _ hb4 (fun hHeld => ?_)
              clear hK K
              try simp only [Act.put, List.setIfInBounds_toArray, List.set_cons_zero, List.set_cons_succ, List.getElem_toArray, List.getElem_cons_succ, List.getElem_cons_zero]
              clear ho3 hb3 hB3
              refine wpAnyH_ready (rs := [14]) (by kernel_rfl) (by simp) ?_
              refine AllReadyH.cons (o := _) rfl (fun K hK => ?_) AllReadyH.nil
              go_simp
              refine (VC _).mono ?_; rintro e w5 ⟨rfl, hb5⟩
              go_wp2_with fail
              refine hK.out _ _ (below_next hb4 hb5) (fun hHeld => ?_)
              clear hK K
              try simp only [Act.put, List.setIfInBounds_toArray, List.set_cons_zero, List.set_cons_succ, List.getElem_toArray, List.getElem_cons_succ, List.getElem_cons_zero]
              have ho5 := own_below ho4 hb5
              clear ho4 hb4 hB4 hb5 VC
              refine wpAnyH_take (i := 15) (oi := _) (v := v4) rfl (by kernel_rfl) (by kernel_rfl) (by kernel_rfl) (fun _ _ _ h => h) (Or.inl ⟨by rfl, fun w h => by go_simp⟩) hHeld ?_
              try simp only [Act.put, List.setIfInBounds_toArray, List.set_cons_zero, List.set_cons_succ, List.getElem_toArray, List.getElem_cons_succ, List.getElem_cons_zero]
              refine wpAnyH_take (i := 16) (oi := _) (v := .bool (okv c.r)) rfl (by kernel_rfl) (by kernel_rfl) (by kernel_rfl) (fun _ _ _ h => h) (Or.inl ⟨by rfl, fun w h => by go_simp⟩) hHeld ?_
              try simp only [Act.put, List.setIfInBounds_toArray, List.set_cons_zero, List.set_cons_succ, List.getElem_toArray, List.getElem_cons_succ, List.getElem_cons_zero]
              refine wpAnyH_done (by kernel_rfl) ?_ _
              have HF : Aside (Added w R c (.returned (.tuple #[v4, .bool (okv c.r)])) w5) := (show Added w R c _ w5 from by
                subst hbw
                have hi := ins_split true c (R.drop k) (R.take k) HFA.out
                rw [List.take_append_drop] at hi
                have hj := ins_new c (R.drop k) HNW.out
                have hz := Nat.le_of_lt (Nat.lt_of_lt_of_le HZ0.out HL.out.size)
                refine ⟨below_next HL0.out (below_next HL.out hHeld), v4, by rw [hi.2, hj.2], ?_⟩
                rw [hi.1, hj.1]
                have e : R.take k ++ c :: R.drop k = (R.take k ++ [c]) ++ R.drop k := by simp
                rw [e]
                exact own_mono ho5 hz)
              clear ho5 hHeld
              go_wp2
              go_ret2
              exact HF.out
          · rw [if_pos (by rfl)]
            refine wp_one9 tyW rfl rfl ?_
            have hlit1 := reads_lit WR.drew c 87
            refine hK.out _ _ (hHeld.alloc hHeld.size _) (fun hHeld => ?_)
            clear hK K
            try simp only [Act.put, List.setIfInBounds_toArray, List.set_cons_zero, List.set_cons_succ, List.getElem_toArray, List.getElem_cons_succ, List.getElem_cons_zero]
            refine wpAnyH_ready (rs := [0]) (by kernel_rfl) (by simp) ?_
            refine AllReadyH.cons (o := _) rfl (fun K hK => ?_) AllReadyH.nil
            rw [if_pos (by rfl)]
            go_simp
            have hz1 := hHeld.size
            have hown3 := own_lit (WR.drew.alloc (.cells (vec 9 (wf c)) 87)) WR.heap.size 87 hz1
            have hsz : (WR.drew.alloc (.cells (vec 9 (wf c)) 87)).heap.size = WR.heap.size + 1 := by simp
            rw [hsz] at hown3
            have hown2 : Own ((WR.alloc (.cells (vec 9 (wf c)) 87)).alloc (.cells #[] 87)).drew WR.heap.size 87 (.slice (some ⟨WR.heap.size + 1, 0, none⟩) 0 0) [] := (show Own _ _ _ _ _ from hown3)
            clear hown3 hsz
            have hlit2 := hlit1.below ((Below.refl _ _).alloc (Nat.le_refl _) (.cells #[] 87))
            refine hK.out _ _ (hHeld.alloc hz1 _) (fun hHeld => ?_)
            clear hK K
            try simp only [Act.put, List.setIfInBounds_toArray, List.set_cons_zero, List.set_cons_succ, List.getElem_toArray, List.getElem_cons_succ, List.getElem_cons_zero]
            clear hlit1
            refine wpAnyH_ready (rs := [4]) (by kernel_rfl) (by simp) ?_
            refine AllReadyH.cons (o := _) rfl (fun K hK => ?_) AllReadyH.nil
            refine wp_append_list2 tyW rfl (xs := []) (ys := R.take k) rfl rfl hown2 ((HT.out).below hHeld) (by simp; omega) hHeld hHeld.size ?_; intro v2 w2 ho2 hb2 hB2 hgr
            refine hK.out _ _ hb2 (fun hHeld => ?_)
            clear hK K
            try simp only [Act.put, List.setIfInBounds_toArray, List.set_cons_zero, List.set_cons_succ, List.getElem_toArray, List.getElem_cons_succ, List.getElem_cons_zero]
            rw [List.nil_append] at ho2
            have hlit := reads_kept hlit2 hgr (by show ¬ some _ = some _; simp)
            clear hlit2 hown2 hgr
            have hown := ho2
            clear ho2 hb2 hB2
            refine wpAnyH_ready (rs := [7]) (by kernel_rfl) (by simp) ?_
            refine AllReadyH.cons (o := _) rfl (fun K hK => ?_) AllReadyH.nil
            refine wp_append_list tyW rfl (xs := R.take k) (ys := [c]) rfl rfl hown hlit (by simp; omega) hHeld hHeld.size ?_; intro v3 w3 ho3 hb3 hB3
            refine hK.out _ _ hb3 (fun hHeld => ?_)
            clear hK K
            try simp only [Act.put, List.setIfInBounds_toArray, List.set_cons_zero, List.set_cons_succ, List.getElem_toArray, List.getElem_cons_succ, List.getElem_cons_zero]
            clear hown hlit
            refine wpAnyH_ready (rs := [11]) (by kernel_rfl) (by simp) ?_
            refine AllReadyH.cons (o := _) rfl (fun K hK => ?_) AllReadyH.nil
            refine wp_append_list tyW rfl (xs := R.take k ++ [c]) (ys := R.drop k) rfl rfl ho3 ((HD.out).below hb3) (by simp; omega) hb3 hB3 ?_; intro v4 w4 ho4 hb4 hB4
            refine hK.out _ _ hb4 (fun hHeld => ?_)
            clear hK K
            try simp only [Act.put, List.setIfInBounds_toArray, List.set_cons_zero, List.set_cons_succ, List.getElem_toArray, List.getElem_cons_succ, List.getElem_cons_zero]
            clear ho3 hb3 hB3
            refine wpAnyH_ready (rs := [14]) (by kernel_rfl) (by simp) ?_
            refine AllReadyH.cons (o := _) rfl (fun K hK => ?_) AllReadyH.nil
            go_simp
            refine (VC _).mono ?_; rintro e w5 ⟨rfl, hb5⟩
            go_wp2_with fail
            refine hK.out _ _ (below_next hb4 hb5) (fun hHeld => ?_)
            clear hK K
            try simp only [Act.put, List.setIfInBounds_toArray, List.set_cons_zero, List.set_cons_succ, List.getElem_toArray, List.getElem_cons_succ, List.getElem_cons_zero]
            have ho5 := own_below ho4 hb5
            clear ho4 hb4 hB4 hb5 VC
            refine wpAnyH_take (i := 15) (oi := _) (v := v4) rfl (by kernel_rfl) (by kernel_rfl) (by kernel_rfl) (fun _ _ _ h => h) (Or.inl ⟨by rfl, fun w h => by go_simp⟩) hHeld ?_
            try simp only [Act.put, List.setIfInBounds_toArray, List.set_cons_zero, List.set_cons_succ, List.getElem_toArray, List.getElem_cons_succ, List.getElem_cons_zero]
            refine wpAnyH_take (i := 16) (oi := _) (v := .bool (okv c.r)) rfl (by kernel_rfl) (by kernel_rfl) (by kernel_rfl) (fun _ _ _ h => h) (Or.inl ⟨by rfl, fun w h => by go_simp⟩) hHeld ?_
            try simp only [Act.put, List.setIfInBounds_toArray, List.set_cons_zero, List.set_cons_succ, List.getElem_toArray, List.getElem_cons_succ, List.getElem_cons_zero]
            refine wpAnyH_done (by kernel_rfl) ?_ _
            have HF : Aside (Added w R c (.returned (.tuple #[v4, .bool (okv c.r)])) w5) := (show Added w R c _ w5 from by
              subst hbw
              have hi := ins_split true c (R.drop k) (R.take k) HFA.out
              rw [List.take_append_drop] at hi
              have hj := ins_new c (R.drop k) HNW.out
              have hz := Nat.le_of_lt (Nat.lt_of_lt_of_le HZ0.out HL.out.size)
              refine ⟨below_next HL0.out (below_next HL.out hHeld), v4, by rw [hi.2, hj.2], ?_⟩
              rw [hi.1, hj.1]
              have e : R.take k ++ c :: R.drop k = (R.take k ++ [c]) ++ R.drop k := by simp
              rw [e]
              exact own_mono ho5 hz)
            clear ho5 hHeld
            go_wp2
            go_ret2
            exact HF.out
    · have HKR : Aside (k = R.length) := (show k = R.length from by omega)
      have hkz : ¬ (k : Int) < (R.length : Int) := by omega
      go_upto_region 2 with fail
      refine wp_region_held_drew (S := fun w' => w' = wr.drew) (by kernel_rfl) rfl (fun hHeld => ?_)
      refine wpAnyH_take (i := 0) (oi := _) (v := .int .i64 k) rfl (by kernel_rfl) (by kernel_rfl) (by kernel_rfl) (fun _ _ _ h => h) (Or.inl ⟨by rfl, fun w h => by go_simp⟩) hHeld ?_
      try simp only [Act.put, List.setIfInBounds_toArray, List.set_cons_zero, List.set_cons_succ, List.getElem_toArray, List.getElem_cons_succ, List.getElem_cons_zero]
      refine wpAnyH_take (i := 1) (oi := _) (v := .slice (some ⟨g, o, none⟩) R.length cap) rfl (by kernel_rfl) (by kernel_rfl) (by kernel_rfl) (fun _ _ _ h => h) (Or.inl ⟨by rfl, fun w h => by go_simp⟩) hHeld ?_
      try simp only [Act.put, List.setIfInBounds_toArray, List.set_cons_zero, List.set_cons_succ, List.getElem_toArray, List.getElem_cons_succ, List.getElem_cons_zero]
      refine wpAnyH_take (i := 2) (oi := _) (v := .int .i64 R.length) rfl (by kernel_rfl) (by kernel_rfl) (by kernel_rfl) (fun _ _ _ h => h) (Or.inl ⟨by rfl, fun w h => by go_simp⟩) hHeld ?_
      try simp only [Act.put, List.setIfInBounds_toArray, List.set_cons_zero, List.set_cons_succ, List.getElem_toArray, List.getElem_cons_succ, List.getElem_cons_zero]
      refine wpAnyH_take (i := 3) (oi := _) (v := .bool false) rfl (by kernel_rfl) (by kernel_rfl) (by kernel_rfl) (fun _ _ _ h => h) (Or.inl ⟨by rfl, fun w h => by go_simp⟩) hHeld ?_
      try simp only [Act.put, List.setIfInBounds_toArray, List.set_cons_zero, List.set_cons_succ, List.getElem_toArray, List.getElem_cons_succ, List.getElem_cons_zero]
      refine wpAnyH_take (i := 4) (oi := _) (v := .bool false) rfl (by kernel_rfl) (by kernel_rfl) (by kernel_rfl) (fun _ _ _ h => h) (Or.inl ⟨by rfl, fun w h => by go_simp⟩) hHeld ?_
      try simp only [Act.put, List.setIfInBounds_toArray, List.set_cons_zero, List.set_cons_succ, List.getElem_toArray, List.getElem_cons_succ, List.getElem_cons_zero]
      refine wpAnyH_take (i := 5) (oi := _) (v := undef) rfl (by kernel_rfl) (by kernel_rfl) (by kernel_rfl) (fun _ _ _ h => h) (Or.inr ⟨by rfl, rfl⟩) hHeld ?_
      try simp only [Act.put, List.setIfInBounds_toArray, List.set_cons_zero, List.set_cons_succ, List.getElem_toArray, List.getElem_cons_succ, List.getElem_cons_zero]
      refine wpAnyH_take (i := 6) (oi := _) (v := undef) rfl (by kernel_rfl) (by kernel_rfl) (by kernel_rfl) (fun _ _ _ h => h) (Or.inr ⟨by rfl, rfl⟩) hHeld ?_
      try simp only [Act.put, List.setIfInBounds_toArray, List.set_cons_zero, List.set_cons_succ, List.getElem_toArray, List.getElem_cons_succ, List.getElem_cons_zero]
      refine wpAnyH_take (i := 7) (oi := _) (v := undef) rfl (by kernel_rfl) (by kernel_rfl) (by kernel_rfl) (fun _ _ _ h => h) (Or.inr ⟨by rfl, rfl⟩) hHeld ?_
      try simp only [Act.put, List.setIfInBounds_toArray, List.set_cons_zero, List.set_cons_succ, List.getElem_toArray, List.getElem_cons_succ, List.getElem_cons_zero]
      refine wpAnyH_take (i := 8) (oi := _) (v := undef) rfl (by kernel_rfl) (by kernel_rfl) (by kernel_rfl) (fun _ _ _ h => h) (Or.inr ⟨by rfl, rfl⟩) hHeld ?_
      try simp only [Act.put, List.setIfInBounds_toArray, List.set_cons_zero, List.set_cons_succ, List.getElem_toArray, List.getElem_cons_succ, List.getElem_cons_zero]
      refine wpAnyH_take (i := 9) (oi := _) (v := undef) rfl (by kernel_rfl) (by kernel_rfl) (by kernel_rfl) (fun _ _ _ h => h) (Or.inr ⟨by rfl, rfl⟩) hHeld ?_
      try simp only [Act.put, List.setIfInBounds_toArray, List.set_cons_zero, List.set_cons_succ, List.getElem_toArray, List.getElem_cons_succ, List.getElem_cons_zero]
      refine wpAnyH_take (i := 10) (oi := _) (v := undef) rfl (by kernel_rfl) (by kernel_rfl) (by kernel_rfl) (fun _ _ _ h => h) (Or.inr ⟨by rfl, rfl⟩) hHeld ?_
      try simp only [Act.put, List.setIfInBounds_toArray, List.set_cons_zero, List.set_cons_succ, List.getElem_toArray, List.getElem_cons_succ, List.getElem_cons_zero]
      refine wpAnyH_take (i := 11) (oi := _) (v := undef) rfl (by kernel_rfl) (by kernel_rfl) (by kernel_rfl) (fun _ _ _ h => h) (Or.inr ⟨by rfl, rfl⟩) hHeld ?_
      try simp only [Act.put, List.setIfInBounds_toArray, List.set_cons_zero, List.set_cons_succ, List.getElem_toArray, List.getElem_cons_succ, List.getElem_cons_zero]
      refine wpAnyH_take (i := 12) (oi := _) (v := undef) rfl (by kernel_rfl) (by kernel_rfl) (by kernel_rfl) (fun _ _ _ h => h) (Or.inr ⟨by rfl, rfl⟩) hHeld ?_
      try simp only [Act.put, List.setIfInBounds_toArray, List.set_cons_zero, List.set_cons_succ, List.getElem_toArray, List.getElem_cons_succ, List.getElem_cons_zero]
      refine wpAnyH_take (i := 13) (oi := _) (v := .bool false) rfl (by kernel_rfl) (by kernel_rfl) (by kernel_rfl) (fun _ _ _ h => h) (Or.inl ⟨by rfl, fun w h => by go_simp⟩) hHeld ?_
      try simp only [Act.put, List.setIfInBounds_toArray, List.set_cons_zero, List.set_cons_succ, List.getElem_toArray, List.getElem_cons_succ, List.getElem_cons_zero]
      clear hHeld
      refine wpAnyH_done (by kernel_rfl) ?_ _
      replace HL : Aside (Below W.heap.size W wr.drew) := HL.out.drew
      replace HX : Aside (RowAt wr.drew b 9 87 (wf c)) := HX.out.drew1
      replace HRD : Aside (wr.drew.rangeAt g o (flat R)) := HRD.out
      generalize wr.drew = wrx at *
      go_wp2
      go_upto_region 4 with fail
      refine wp_region_held_drew (S := fun w' => w' = wrx.drew) (by kernel_rfl) rfl (fun hHeld => ?_)
      refine wpAnyH_take (i := 0) (oi := _) (v := .int .i64 k) rfl (by kernel_rfl) (by kernel_rfl) (by kernel_rfl) (fun _ _ _ h => h) (Or.inl ⟨by rfl, fun w h => by go_simp⟩) hHeld ?_
      try simp only [Act.put, List.setIfInBounds_toArray, List.set_cons_zero, List.set_cons_succ, List.getElem_toArray, List.getElem_cons_succ, List.getElem_cons_zero]
      refine wpAnyH_take (i := 1) (oi := _) (v := .slice (some ⟨g, o, none⟩) R.length cap) rfl (by kernel_rfl) (by kernel_rfl) (by kernel_rfl) (fun _ _ _ h => h) (Or.inl ⟨by rfl, fun w h => by go_simp⟩) hHeld ?_
      try simp only [Act.put, List.setIfInBounds_toArray, List.set_cons_zero, List.set_cons_succ, List.getElem_toArray, List.getElem_cons_succ, List.getElem_cons_zero]
      refine wpAnyH_take (i := 2) (oi := _) (v := .int .i64 R.length) rfl (by kernel_rfl) (by kernel_rfl) (by kernel_rfl) (fun _ _ _ h => h) (Or.inl ⟨by rfl, fun w h => by go_simp⟩) hHeld ?_
      try simp only [Act.put, List.setIfInBounds_toArray, List.set_cons_zero, List.set_cons_succ, List.getElem_toArray, List.getElem_cons_succ, List.getElem_cons_zero]
      refine wpAnyH_take (i := 3) (oi := _) (v := .bool false) rfl (by kernel_rfl) (by kernel_rfl) (by kernel_rfl) (fun _ _ _ h => h) (Or.inl ⟨by rfl, fun w h => by go_simp⟩) hHeld ?_
      try simp only [Act.put, List.setIfInBounds_toArray, List.set_cons_zero, List.set_cons_succ, List.getElem_toArray, List.getElem_cons_succ, List.getElem_cons_zero]
      refine wpAnyH_take (i := 4) (oi := _) (v := .bool false) rfl (by kernel_rfl) (by kernel_rfl) (by kernel_rfl) (fun _ _ _ h => h) (Or.inl ⟨by rfl, fun w h => by go_simp⟩) hHeld ?_
      try simp only [Act.put, List.setIfInBounds_toArray, List.set_cons_zero, List.set_cons_succ, List.getElem_toArray, List.getElem_cons_succ, List.getElem_cons_zero]
      refine wpAnyH_take (i := 5) (oi := _) (v := undef) rfl (by kernel_rfl) (by kernel_rfl) (by kernel_rfl) (fun _ _ _ h => h) (Or.inr ⟨by rfl, rfl⟩) hHeld ?_
      try simp only [Act.put, List.setIfInBounds_toArray, List.set_cons_zero, List.set_cons_succ, List.getElem_toArray, List.getElem_cons_succ, List.getElem_cons_zero]
      refine wpAnyH_take (i := 6) (oi := _) (v := undef) rfl (by kernel_rfl) (by kernel_rfl) (by kernel_rfl) (fun _ _ _ h => h) (Or.inr ⟨by rfl, rfl⟩) hHeld ?_
      try simp only [Act.put, List.setIfInBounds_toArray, List.set_cons_zero, List.set_cons_succ, List.getElem_toArray, List.getElem_cons_succ, List.getElem_cons_zero]
      refine wpAnyH_take (i := 7) (oi := _) (v := undef) rfl (by kernel_rfl) (by kernel_rfl) (by kernel_rfl) (fun _ _ _ h => h) (Or.inr ⟨by rfl, rfl⟩) hHeld ?_
      try simp only [Act.put, List.setIfInBounds_toArray, List.set_cons_zero, List.set_cons_succ, List.getElem_toArray, List.getElem_cons_succ, List.getElem_cons_zero]
      refine wpAnyH_take (i := 8) (oi := _) (v := undef) rfl (by kernel_rfl) (by kernel_rfl) (by kernel_rfl) (fun _ _ _ h => h) (Or.inr ⟨by rfl, rfl⟩) hHeld ?_
      try simp only [Act.put, List.setIfInBounds_toArray, List.set_cons_zero, List.set_cons_succ, List.getElem_toArray, List.getElem_cons_succ, List.getElem_cons_zero]
      refine wpAnyH_take (i := 9) (oi := _) (v := undef) rfl (by kernel_rfl) (by kernel_rfl) (by kernel_rfl) (fun _ _ _ h => h) (Or.inr ⟨by rfl, rfl⟩) hHeld ?_
      try simp only [Act.put, List.setIfInBounds_toArray, List.set_cons_zero, List.set_cons_succ, List.getElem_toArray, List.getElem_cons_succ, List.getElem_cons_zero]
      refine wpAnyH_take (i := 10) (oi := _) (v := undef) rfl (by kernel_rfl) (by kernel_rfl) (by kernel_rfl) (fun _ _ _ h => h) (Or.inr ⟨by rfl, rfl⟩) hHeld ?_
      try simp only [Act.put, List.setIfInBounds_toArray, List.set_cons_zero, List.set_cons_succ, List.getElem_toArray, List.getElem_cons_succ, List.getElem_cons_zero]
      refine wpAnyH_take (i := 11) (oi := _) (v := undef) rfl (by kernel_rfl) (by kernel_rfl) (by kernel_rfl) (fun _ _ _ h => h) (Or.inr ⟨by rfl, rfl⟩) hHeld ?_
      try simp only [Act.put, List.setIfInBounds_toArray, List.set_cons_zero, List.set_cons_succ, List.getElem_toArray, List.getElem_cons_succ, List.getElem_cons_zero]
      refine wpAnyH_take (i := 12) (oi := _) (v := undef) rfl (by kernel_rfl) (by kernel_rfl) (by kernel_rfl) (fun _ _ _ h => h) (Or.inr ⟨by rfl, rfl⟩) hHeld ?_
      try simp only [Act.put, List.setIfInBounds_toArray, List.set_cons_zero, List.set_cons_succ, List.getElem_toArray, List.getElem_cons_succ, List.getElem_cons_zero]
      refine wpAnyH_take (i := 13) (oi := _) (v := .bool false) rfl (by kernel_rfl) (by kernel_rfl) (by kernel_rfl) (fun _ _ _ h => h) (Or.inl ⟨by rfl, fun w h => by go_simp⟩) hHeld ?_
      try simp only [Act.put, List.setIfInBounds_toArray, List.set_cons_zero, List.set_cons_succ, List.getElem_toArray, List.getElem_cons_succ, List.getElem_cons_zero]
      clear hHeld
      refine wpAnyH_done (by kernel_rfl) ?_ _
      replace HL : Aside (Below W.heap.size W wrx.drew) := HL.out.drew
      replace HX : Aside (RowAt wrx.drew b 9 87 (wf c)) := HX.out.drew1
      replace HRD : Aside (wrx.drew.rangeAt g o (flat R)) := HRD.out
      generalize wrx.drew = wrxx at *
      generalize wrxx = WR at *
      have HNW : Aside (∀ d, (R.drop k)[0]? = some d → c.s < d.s) := (show ∀ d, (R.drop k)[0]? = some d → c.s < d.s from fun d hd => by
        rw [List.getElem?_drop, Nat.add_zero, List.getElem?_eq_none (by have := HKR.out; omega)] at hd; cases hd)
      have HZR : Aside (g < WR.heap.size ∧ b < WR.heap.size) := ⟨Nat.lt_of_lt_of_le HGW.out HL.out.size, Nat.lt_of_lt_of_le HZ0.out HL.out.size⟩
      have HT := Lib.hid (reads_take hk hc1 HM.out HZR.out.1 HRD.out)
      obtain ⟨off, hoff⟩ : ∃ off, (cap = k → off = o) ∧ (¬ cap = k → off = o + k * 9) := by
        by_cases h : cap = k
        · exact ⟨o, fun _ => rfl, fun h' => absurd h h'⟩
        · exact ⟨o + k * 9, fun h' => absurd h' h, fun _ => rfl⟩
      have HD : Aside (Reads WR (.slice (some ⟨g, off, none⟩) (R.length - k) (cap - k)) (R.drop k)) := reads_off hk hc1 HM.out HZR.out.1 HRD.out hoff
      have HOFF := Lib.hid hoff
      clear hoff
      have hkle : (k : Int) ≤ (R.length : Int) := by omega
      have hkc : (k : Int) ≤ (cap : Int) := by omega
      have hlc : (R.length : Int) ≤ (cap : Int) := by omega
      have VC : ∀ w, Calls Try.prog 52 #[.agg (vec 8 c.r.up)] w fun e w' => e = .returned (.bool (okv c.r)) ∧ Below w.heap.size w w' := fun w => specValid_any c.r.up w
      go_upto_region 8 with fail
      refine wp_region_held_drew (S := fun w' => Below WR.heap.size WR w') (by kernel_rfl) (Below.refl _ _).drew (fun hHeld => ?_)
      refine wpAnyH_take (i := 1) (oi := _) (v := .slice (some ⟨g, o, none⟩) R.length cap) rfl (by kernel_rfl) (by kernel_rfl) (by kernel_rfl) (fun _ _ _ h => h) (Or.inl ⟨by rfl, fun w h => by go_simp⟩) hHeld ?_
      try simp only [Act.put, List.setIfInBounds_toArray, List.set_cons_zero, List.set_cons_succ, List.getElem_toArray, List.getElem_cons_succ, List.getElem_cons_zero]
      refine wpAnyH_take (i := 2) (oi := _) (v := .int .i64 k) rfl (by kernel_rfl) (by kernel_rfl) (by kernel_rfl) (fun _ _ _ h => h) (Or.inl ⟨by rfl, fun w h => by go_simp⟩) hHeld ?_
      try simp only [Act.put, List.setIfInBounds_toArray, List.set_cons_zero, List.set_cons_succ, List.getElem_toArray, List.getElem_cons_succ, List.getElem_cons_zero]
      refine wpAnyH_take (i := 3) (oi := _) (v := .slice (some ⟨g, o, none⟩) k cap) rfl (by kernel_rfl) (by kernel_rfl) (by kernel_rfl) (fun _ _ _ h => h) (Or.inl ⟨by rfl, fun w h => by go_simp⟩) hHeld ?_
      try simp only [Act.put, List.setIfInBounds_toArray, List.set_cons_zero, List.set_cons_succ, List.getElem_toArray, List.getElem_cons_succ, List.getElem_cons_zero]
      refine wpAnyH_take (i := 5) (oi := _) (v := .agg (vec 9 (wf c))) rfl (by kernel_rfl) (by kernel_rfl) (by kernel_rfl) (fun _ _ _ h => h) (yieldsIf_load_mid (by rfl) _ _ rfl _ _ rfl _ _ ((fun w h => row_wheel (HX.out.below h))) Try.underlying87 rfl (size_wheel c)) hHeld ?_
      try simp only [Act.put, List.setIfInBounds_toArray, List.set_cons_zero, List.set_cons_succ, List.getElem_toArray, List.getElem_cons_succ, List.getElem_cons_zero]
      refine wpAnyH_take (i := 8) (oi := _) (v := .slice (some ⟨g, o, none⟩) R.length cap) rfl (by kernel_rfl) (by kernel_rfl) (by kernel_rfl) (fun _ _ _ h => h) (Or.inl ⟨by rfl, fun w h => by go_simp⟩) hHeld ?_
      try simp only [Act.put, List.setIfInBounds_toArray, List.set_cons_zero, List.set_cons_succ, List.getElem_toArray, List.getElem_cons_succ, List.getElem_cons_zero]
      refine wpAnyH_take (i := 9) (oi := _) (v := .int .i64 k) rfl (by kernel_rfl) (by kernel_rfl) (by kernel_rfl) (fun _ _ _ h => h) (Or.inl ⟨by rfl, fun w h => by go_simp⟩) hHeld ?_
      try simp only [Act.put, List.setIfInBounds_toArray, List.set_cons_zero, List.set_cons_succ, List.getElem_toArray, List.getElem_cons_succ, List.getElem_cons_zero]
      refine wpAnyH_take (i := 10) (oi := _) (v := .slice (some ⟨g, off, none⟩) (R.length - k) (cap - k)) rfl (by kernel_rfl) (by kernel_rfl) (by kernel_rfl) (fun _ _ _ h => h) (Or.inl ⟨by rfl, fun w h => (Decidable.em (cap = k)).elim (fun hck => by have ho := HOFF.out.1 hck; go_simp) (fun hck => by have ho := HOFF.out.2 hck; go_simp)⟩) hHeld ?_
      try simp only [Act.put, List.setIfInBounds_toArray, List.set_cons_zero, List.set_cons_succ, List.getElem_toArray, List.getElem_cons_succ, List.getElem_cons_zero]
      refine wpAnyH_take (i := 12) (oi := _) (v := .pointer (some ⟨b, 1, none⟩)) rfl (by kernel_rfl) (by kernel_rfl) (by kernel_rfl) (fun _ _ _ h => h) (Or.inl ⟨by rfl, fun w h => by go_simp⟩) hHeld ?_
      try simp only [Act.put, List.setIfInBounds_toArray, List.set_cons_zero, List.set_cons_succ, List.getElem_toArray, List.getElem_cons_succ, List.getElem_cons_zero]
      refine wpAnyH_take (i := 13) (oi := _) (v := .agg (vec 8 c.r.up)) rfl (by kernel_rfl) (by kernel_rfl) (by kernel_rfl) (fun _ _ _ h => h) (yieldsIf_load_mid (by rfl) _ _ rfl _ _ rfl _ _ ((fun w h => row_radius (HX.out.below h))) Try.underlying80 rfl (size_cyc8 _)) hHeld ?_
      try simp only [Act.put, List.setIfInBounds_toArray, List.set_cons_zero, List.set_cons_succ, List.getElem_toArray, List.getElem_cons_succ, List.getElem_cons_zero]
      refine wpAnyH_ready (rs := [0, 6]) (by kernel_rfl) (by simp) ?_
      refine AllReadyH.cons (o := _) rfl (fun K hK => ?_) (AllReadyH.cons (o := _) rfl (fun K hK => ?_) AllReadyH.nil)
      · rw [if_pos (by rfl)]
        go_simp
        have hown := own_lit WR.drew WR.heap.size 87 (Nat.le_refl _)
        refine hK.out _ _ (hHeld.alloc hHeld.size _) (fun hHeld => ?_)
        clear hK K
        try simp only [Act.put, List.setIfInBounds_toArray, List.set_cons_zero, List.set_cons_succ, List.getElem_toArray, List.getElem_cons_succ, List.getElem_cons_zero]
        refine wpAnyH_ready (rs := [4, 6]) (by kernel_rfl) (by simp) ?_
        refine AllReadyH.cons (o := _) rfl (fun K hK => ?_) (AllReadyH.cons (o := _) rfl (fun K hK => ?_) AllReadyH.nil)
        · refine wp_append_list tyW rfl (xs := []) (ys := R.take k) rfl rfl hown ((HT.out).below hHeld) (by simp; omega) hHeld hHeld.size ?_; intro v2 w2 ho2 hb2 hB2
          refine hK.out _ _ hb2 (fun hHeld => ?_)
          clear hK K
          try simp only [Act.put, List.setIfInBounds_toArray, List.set_cons_zero, List.set_cons_succ, List.getElem_toArray, List.getElem_cons_succ, List.getElem_cons_zero]
          clear hown
          rw [List.nil_append] at ho2
          refine wpAnyH_ready (rs := [6]) (by kernel_rfl) (by simp) ?_
          refine AllReadyH.cons (o := _) rfl (fun K hK => ?_) AllReadyH.nil
          rw [if_pos (by rfl)]
          refine wp_one9 tyW rfl rfl ?_
          have hlit := reads_lit w2 c 87
          have hown : Own (w2.alloc (.cells (vec 9 (wf c)) 87)) WR.heap.size 87 v2 (R.take k) := (show World.ownsRow _ _ _ _ _ _ _ from World.ownsRow.alloc ho2 _)
          refine hK.out _ _ (hb2.alloc hB2 _) (fun hHeld => ?_)
          clear hK K
          try simp only [Act.put, List.setIfInBounds_toArray, List.set_cons_zero, List.set_cons_succ, List.getElem_toArray, List.getElem_cons_succ, List.getElem_cons_zero]
          clear ho2 hb2 hB2
          refine wpAnyH_ready (rs := [7]) (by kernel_rfl) (by simp) ?_
          refine AllReadyH.cons (o := _) rfl (fun K hK => ?_) AllReadyH.nil
          refine wp_append_list tyW rfl (xs := R.take k) (ys := [c]) rfl rfl hown hlit (by simp; omega) hHeld hHeld.size ?_; intro v3 w3 ho3 hb3 hB3
          refine hK.out _ _ hb3 (fun hHeld => ?_)
          clear hK K
          try simp only [Act.put, List.setIfInBounds_toArray, List.set_cons_zero, List.set_cons_succ, List.getElem_toArray, List.getElem_cons_succ, List.getElem_cons_zero]
          clear hown hlit
          refine wpAnyH_ready (rs := [11]) (by kernel_rfl) (by simp) ?_
          refine AllReadyH.cons (o := _) rfl (fun K hK => ?_) AllReadyH.nil
          refine wp_append_list tyW rfl (xs := R.take k ++ [c]) (ys := R.drop k) rfl rfl ho3 ((HD.out).below hb3) (by simp; omega) hb3 hB3 ?_; intro v4 w4 ho4 hb4 hB4
          refine hK.out _ _ hb4 (fun hHeld => ?_)
          clear hK K
          try simp only [Act.put, List.setIfInBounds_toArray, List.set_cons_zero, List.set_cons_succ, List.getElem_toArray, List.getElem_cons_succ, List.getElem_cons_zero]
          clear ho3 hb3 hB3
          refine wpAnyH_ready (rs := [14]) (by kernel_rfl) (by simp) ?_
          refine AllReadyH.cons (o := _) rfl (fun K hK => ?_) AllReadyH.nil
          go_simp
          refine (VC _).mono ?_; rintro e w5 ⟨rfl, hb5⟩
          go_wp2_with fail
          refine hK.out _ _ (below_next hb4 hb5) (fun hHeld => ?_)
          clear hK K
          try simp only [Act.put, List.setIfInBounds_toArray, List.set_cons_zero, List.set_cons_succ, List.getElem_toArray, List.getElem_cons_succ, List.getElem_cons_zero]
          have ho5 := own_below ho4 hb5
          clear ho4 hb4 hB4 hb5 VC
          refine wpAnyH_take (i := 15) (oi := _) (v := v4) rfl (by kernel_rfl) (by kernel_rfl) (by kernel_rfl) (fun _ _ _ h => h) (Or.inl ⟨by rfl, fun w h => by go_simp⟩) hHeld ?_
          try simp only [Act.put, List.setIfInBounds_toArray, List.set_cons_zero, List.set_cons_succ, List.getElem_toArray, List.getElem_cons_succ, List.getElem_cons_zero]
          refine wpAnyH_take (i := 16) (oi := _) (v := .bool (okv c.r)) rfl (by kernel_rfl) (by kernel_rfl) (by kernel_rfl) (fun _ _ _ h => h) (Or.inl ⟨by rfl, fun w h => by go_simp⟩) hHeld ?_
          try simp only [Act.put, List.setIfInBounds_toArray, List.set_cons_zero, List.set_cons_succ, List.getElem_toArray, List.getElem_cons_succ, List.getElem_cons_zero]
          refine wpAnyH_done (by kernel_rfl) ?_ _
          have HF : Aside (Added w R c (.returned (.tuple #[v4, .bool (okv c.r)])) w5) := (show Added w R c _ w5 from by
            subst hbw
            have hi := ins_split true c (R.drop k) (R.take k) HFA.out
            rw [List.take_append_drop] at hi
            have hj := ins_new c (R.drop k) HNW.out
            have hz := Nat.le_of_lt (Nat.lt_of_lt_of_le HZ0.out HL.out.size)
            refine ⟨below_next HL0.out (below_next HL.out hHeld), v4, by rw [hi.2, hj.2], ?_⟩
            rw [hi.1, hj.1]
            have e : R.take k ++ c :: R.drop k = (R.take k ++ [c]) ++ R.drop k := by simp
            rw [e]
            exact own_mono ho5 hz)
          clear ho5 hHeld
          go_wp2
          go_ret2
          exact HF.out
        · rw [if_pos (by rfl)]
          refine wp_one9 tyW rfl rfl ?_
          have hz1 := hHeld.size
          have hlit2 := reads_lit (WR.drew.alloc (.cells #[] 87)) c 87
          have hown2 : Own ((WR.drew.alloc (.cells #[] 87)).alloc (.cells (vec 9 (wf c)) 87)) WR.heap.size 87 _ [] := (show World.ownsRow _ _ _ _ _ _ _ from World.ownsRow.alloc hown _)
          refine hK.out _ _ (hHeld.alloc hz1 _) (fun hHeld => ?_)
          clear hK K
          try simp only [Act.put, List.setIfInBounds_toArray, List.set_cons_zero, List.set_cons_succ, List.getElem_toArray, List.getElem_cons_succ, List.getElem_cons_zero]
          clear hown
          refine wpAnyH_ready (rs := [4]) (by kernel_rfl) (by simp) ?_
          refine AllReadyH.cons (o := _) rfl (fun K hK => ?_) AllReadyH.nil
          refine wp_append_list2 tyW rfl (xs := []) (ys := R.take k) rfl rfl hown2 ((HT.out).below hHeld) (by simp; omega) hHeld hHeld.size ?_; intro v2 w2 ho2 hb2 hB2 hgr
          refine hK.out _ _ hb2 (fun hHeld => ?_)
          clear hK K
          try simp only [Act.put, List.setIfInBounds_toArray, List.set_cons_zero, List.set_cons_succ, List.getElem_toArray, List.getElem_cons_succ, List.getElem_cons_zero]
          rw [List.nil_append] at ho2
          have hlit := reads_kept hlit2 hgr (by show ¬ some _ = some _; simp)
          clear hlit2 hown2 hgr
          have hown := ho2
          clear ho2 hb2 hB2
          refine wpAnyH_ready (rs := [7]) (by kernel_rfl) (by simp) ?_
          refine AllReadyH.cons (o := _) rfl (fun K hK => ?_) AllReadyH.nil
          refine wp_append_list tyW rfl (xs := R.take k) (ys := [c]) rfl rfl hown hlit (by simp; omega) hHeld hHeld.size ?_; intro v3 w3 ho3 hb3 hB3
          refine hK.out _ _ hb3 (fun hHeld => ?_)
          clear hK K
          try simp only [Act.put, List.setIfInBounds_toArray, List.set_cons_zero, List.set_cons_succ, List.getElem_toArray, List.getElem_cons_succ, List.getElem_cons_zero]
          clear hown hlit
          refine wpAnyH_ready (rs := [11]) (by kernel_rfl) (by simp) ?_
          refine AllReadyH.cons (o := _) rfl (fun K hK => ?_) AllReadyH.nil
          refine wp_append_list tyW rfl (xs := R.take k ++ [c]) (ys := R.drop k) rfl rfl ho3 ((HD.out).below hb3) (by simp; omega) hb3 hB3 ?_; intro v4 w4 ho4 hb4 hB4
          refine hK.out _ _ hb4 (fun hHeld => ?_)
          clear hK K
          try simp only [Act.put, List.setIfInBounds_toArray, List.set_cons_zero, List.set_cons_succ, List.getElem_toArray, List.getElem_cons_succ, List.getElem_cons_zero]
          clear ho3 hb3 hB3
          refine wpAnyH_ready (rs := [14]) (by kernel_rfl) (by simp) ?_
          refine AllReadyH.cons (o := _) rfl (fun K hK => ?_) AllReadyH.nil
          go_simp
          refine (VC _).mono ?_; rintro e w5 ⟨rfl, hb5⟩
          go_wp2_with fail
          refine hK.out _ _ (below_next hb4 hb5) (fun hHeld => ?_)
          clear hK K
          try simp only [Act.put, List.setIfInBounds_toArray, List.set_cons_zero, List.set_cons_succ, List.getElem_toArray, List.getElem_cons_succ, List.getElem_cons_zero]
          have ho5 := own_below ho4 hb5
          clear ho4 hb4 hB4 hb5 VC
          refine wpAnyH_take (i := 15) (oi := _) (v := v4) rfl (by kernel_rfl) (by kernel_rfl) (by kernel_rfl) (fun _ _ _ h => h) (Or.inl ⟨by rfl, fun w h => by go_simp⟩) hHeld ?_
          try simp only [Act.put, List.setIfInBounds_toArray, List.set_cons_zero, List.set_cons_succ, List.getElem_toArray, List.getElem_cons_succ, List.getElem_cons_zero]
          refine wpAnyH_take (i := 16) (oi := _) (v := .bool (okv c.r)) rfl (by kernel_rfl) (by kernel_rfl) (by kernel_rfl) (fun _ _ _ h => h) (Or.inl ⟨by rfl, fun w h => by go_simp⟩) hHeld ?_
          try simp only [Act.put, List.setIfInBounds_toArray, List.set_cons_zero, List.set_cons_succ, List.getElem_toArray, List.getElem_cons_succ, List.getElem_cons_zero]
          refine wpAnyH_done (by kernel_rfl) ?_ _
          have HF : Aside (Added w R c (.returned (.tuple #[v4, .bool (okv c.r)])) w5) := (show Added w R c _ w5 from by
            subst hbw
            have hi := ins_split true c (R.drop k) (R.take k) HFA.out
            rw [List.take_append_drop] at hi
            have hj := ins_new c (R.drop k) HNW.out
            have hz := Nat.le_of_lt (Nat.lt_of_lt_of_le HZ0.out HL.out.size)
            refine ⟨below_next HL0.out (below_next HL.out hHeld), v4, by rw [hi.2, hj.2], ?_⟩
            rw [hi.1, hj.1]
            have e : R.take k ++ c :: R.drop k = (R.take k ++ [c]) ++ R.drop k := by simp
            rw [e]
            exact own_mono ho5 hz)
          clear ho5 hHeld
          go_wp2
          go_ret2
          exact HF.out
      · rw [if_pos (by rfl)]
        refine wp_one9 tyW rfl rfl ?_
        have hlit1 := reads_lit WR.drew c 87
        refine hK.out _ _ (hHeld.alloc hHeld.size _) (fun hHeld => ?_)
        clear hK K
        try simp only [Act.put, List.setIfInBounds_toArray, List.set_cons_zero, List.set_cons_succ, List.getElem_toArray, List.getElem_cons_succ, List.getElem_cons_zero]
        refine wpAnyH_ready (rs := [0]) (by kernel_rfl) (by simp) ?_
        refine AllReadyH.cons (o := _) rfl (fun K hK => ?_) AllReadyH.nil
        rw [if_pos (by rfl)]
        go_simp
        have hz1 := hHeld.size
        have hown3 := own_lit (WR.drew.alloc (.cells (vec 9 (wf c)) 87)) WR.heap.size 87 hz1
        have hsz : (WR.drew.alloc (.cells (vec 9 (wf c)) 87)).heap.size = WR.heap.size + 1 := by simp
        rw [hsz] at hown3
        have hown2 : Own ((WR.alloc (.cells (vec 9 (wf c)) 87)).alloc (.cells #[] 87)).drew WR.heap.size 87 (.slice (some ⟨WR.heap.size + 1, 0, none⟩) 0 0) [] := (show Own _ _ _ _ _ from hown3)
        clear hown3 hsz
        have hlit2 := hlit1.below ((Below.refl _ _).alloc (Nat.le_refl _) (.cells #[] 87))
        refine hK.out _ _ (hHeld.alloc hz1 _) (fun hHeld => ?_)
        clear hK K
        try simp only [Act.put, List.setIfInBounds_toArray, List.set_cons_zero, List.set_cons_succ, List.getElem_toArray, List.getElem_cons_succ, List.getElem_cons_zero]
        clear hlit1
        refine wpAnyH_ready (rs := [4]) (by kernel_rfl) (by simp) ?_
        refine AllReadyH.cons (o := _) rfl (fun K hK => ?_) AllReadyH.nil
        refine wp_append_list2 tyW rfl (xs := []) (ys := R.take k) rfl rfl hown2 ((HT.out).below hHeld) (by simp; omega) hHeld hHeld.size ?_; intro v2 w2 ho2 hb2 hB2 hgr
        refine hK.out _ _ hb2 (fun hHeld => ?_)
        clear hK K
        try simp only [Act.put, List.setIfInBounds_toArray, List.set_cons_zero, List.set_cons_succ, List.getElem_toArray, List.getElem_cons_succ, List.getElem_cons_zero]
        rw [List.nil_append] at ho2
        have hlit := reads_kept hlit2 hgr (by show ¬ some _ = some _; simp)
        clear hlit2 hown2 hgr
        have hown := ho2
        clear ho2 hb2 hB2
        refine wpAnyH_ready (rs := [7]) (by kernel_rfl) (by simp) ?_
        refine AllReadyH.cons (o := _) rfl (fun K hK => ?_) AllReadyH.nil
        refine wp_append_list tyW rfl (xs := R.take k) (ys := [c]) rfl rfl hown hlit (by simp; omega) hHeld hHeld.size ?_; intro v3 w3 ho3 hb3 hB3
        refine hK.out _ _ hb3 (fun hHeld => ?_)
        clear hK K
        try simp only [Act.put, List.setIfInBounds_toArray, List.set_cons_zero, List.set_cons_succ, List.getElem_toArray, List.getElem_cons_succ, List.getElem_cons_zero]
        clear hown hlit
        refine wpAnyH_ready (rs := [11]) (by kernel_rfl) (by simp) ?_
        refine AllReadyH.cons (o := _) rfl (fun K hK => ?_) AllReadyH.nil
        refine wp_append_list tyW rfl (xs := R.take k ++ [c]) (ys := R.drop k) rfl rfl ho3 ((HD.out).below hb3) (by simp; omega) hb3 hB3 ?_; intro v4 w4 ho4 hb4 hB4
        refine hK.out _ _ hb4 (fun hHeld => ?_)
        clear hK K
        try simp only [Act.put, List.setIfInBounds_toArray, List.set_cons_zero, List.set_cons_succ, List.getElem_toArray, List.getElem_cons_succ, List.getElem_cons_zero]
        clear ho3 hb3 hB3
        refine wpAnyH_ready (rs := [14]) (by kernel_rfl) (by simp) ?_
        refine AllReadyH.cons (o := _) rfl (fun K hK => ?_) AllReadyH.nil
        go_simp
        refine (VC _).mono ?_; rintro e w5 ⟨rfl, hb5⟩
        go_wp2_with fail
        refine hK.out _ _ (below_next hb4 hb5) (fun hHeld => ?_)
        clear hK K
        try simp only [Act.put, List.setIfInBounds_toArray, List.set_cons_zero, List.set_cons_succ, List.getElem_toArray, List.getElem_cons_succ, List.getElem_cons_zero]
        have ho5 := own_below ho4 hb5
        clear ho4 hb4 hB4 hb5 VC
        refine wpAnyH_take (i := 15) (oi := _) (v := v4) rfl (by kernel_rfl) (by kernel_rfl) (by kernel_rfl) (fun _ _ _ h => h) (Or.inl ⟨by rfl, fun w h => by go_simp⟩) hHeld ?_
        try simp only [Act.put, List.setIfInBounds_toArray, List.set_cons_zero, List.set_cons_succ, List.getElem_toArray, List.getElem_cons_succ, List.getElem_cons_zero]
        refine wpAnyH_take (i := 16) (oi := _) (v := .bool (okv c.r)) rfl (by kernel_rfl) (by kernel_rfl) (by kernel_rfl) (fun _ _ _ h => h) (Or.inl ⟨by rfl, fun w h => by go_simp⟩) hHeld ?_
        try simp only [Act.put, List.setIfInBounds_toArray, List.set_cons_zero, List.set_cons_succ, List.getElem_toArray, List.getElem_cons_succ, List.getElem_cons_zero]
        refine wpAnyH_done (by kernel_rfl) ?_ _
        have HF : Aside (Added w R c (.returned (.tuple #[v4, .bool (okv c.r)])) w5) := (show Added w R c _ w5 from by
          subst hbw
          have hi := ins_split true c (R.drop k) (R.take k) HFA.out
          rw [List.take_append_drop] at hi
          have hj := ins_new c (R.drop k) HNW.out
          have hz := Nat.le_of_lt (Nat.lt_of_lt_of_le HZ0.out HL.out.size)
          refine ⟨below_next HL0.out (below_next HL.out hHeld), v4, by rw [hi.2, hj.2], ?_⟩
          rw [hi.1, hj.1]
          have e : R.take k ++ c :: R.drop k = (R.take k ++ [c]) ++ R.drop k := by simp
          rw [e]
          exact own_mono ho5 hz)
        clear ho5 hHeld
        go_wp2
        go_ret2
        exact HF.out

end Go.Proofs.Ytibhlaojinedoaa
/- Out of the text WheelT: what the draws of polygons need. -/
namespace Go.Proofs.Ytibhlaojinedoaa
set_option maxRecDepth 20000
open Go.ChangeShapes Go.WideShapes Go.ChangeAt Go.RowKit
set_option linter.unusedVariables false
set_option linter.unusedSimpArgs false
theorem equal_nz (c : Wh) (w : World) : (Op.equalIn 10000 80 (.agg (vec 8 c.r.up)) (.agg #[.int .i64 0, .int .i64 0, .int .i64 0, .int .i64 0, .int .i64 0, .int .i64 0, .int .i64 0, .int .i64 0])).run Try.prog w = .ok (!nz c) w := by
  have hz : (eqv 8 c.r.up nul) = !nz c := by unfold nz; rw [Bool.not_not]
  rw [← hz, zero8]
  exact equal_cyc c.r.up nul w
theorem done_eq (R : List Wh) : done R = if valid (R.filter nz) then some (R.filter nz) else none := rfl

set_option maxHeartbeats 2000000 in
theorem l5Done_any (v : Value) (R : List Wh) (w : World) (hv : Reads w v R) (hn : R.length ≤ 1000) : Calls Try.prog 71 #[v, .bool true] w (Told w (done R)) := by
  obtain ⟨p, cap, rfl, hc1, hc2, hp0, hp⟩ := hv
  simp only [maxLen] at hc2
  have HP := Lib.hid hp
  clear hp
  generalize hD : done R = res
  have HRES := Lib.hid hD
  clear hD
  go_enter Try.func71, Try.ntmps71
  go_wp2
  go_loopw [6, 7] (fun s6 i wr => ∃ k : Nat, k ≤ R.length ∧ i = .int .i64 k ∧ Own wr w.heap.size 87 s6 ((R.take k).filter nz) ∧ Below w.heap.size w wr ∧ w.heap.size ≤ wr.heap.size) (fun _ i _ => R.length - (intOf i).toNat)
  case atStart => exact ⟨0, Nat.zero_le _, rfl, own_lit w w.heap.size 87 (Nat.le_refl _), (Below.refl _ _).alloc (Nat.le_refl _) _, by simp⟩
  case round =>
    obtain ⟨k, hk, rfl, hO, hbel, hB⟩ := hrel
    by_cases hlt : k < R.length
    · have hkz : (k : Int) < (R.length : Int) := by omega
      have hk0 : (0 : Int) ≤ (k : Int) := by omega
      obtain ⟨c, hc⟩ : ∃ c, R[k]? = some c := ⟨_, List.getElem?_eq_getElem hlt⟩
      obtain ⟨g, o, rfl, hg, hr⟩ := HP.out (by rintro rfl; have := hp0 rfl; omega)
      have HE := Lib.hid (range_part (range_below hr hg hbel) hc)
      have HO := Lib.hid hO
      have HL := Lib.hid hbel
      have HB := Lib.hid hB
      have HC := Lib.hid hc
      have E := equal_nz c
      have hln : ((R.take k).filter nz).length ≤ 1000 := Nat.le_trans (List.length_filter_le _ _) (by rw [List.length_take]; omega)
      clear hr hO hbel hB hc
      cases hz : nz c
      · rw [hz] at E
        go_wp2_with (first | (refine load_part (T := 80) rfl rfl rfl (range_radius HE.out) Try.underlying80 rfl info_cyc ?_))
        go_roundw
        case rel =>
          refine ⟨k + 1, by omega, by go_num, ?_, HL.out, HB.out⟩
          have e : (R.take (k + 1)).filter nz = (R.take k).filter nz := by
            rw [take_next HC.out, List.filter_append]
            simp [hz]
          rw [e]; exact HO.out
        case measure => simp [intOf]; omega
      · rw [hz] at E
        go_wp2_with (first | (refine load_part (T := 80) rfl rfl rfl (range_radius HE.out) Try.underlying80 rfl info_cyc ?_) | (refine load_wheel (T := 87) rfl rfl rfl HE.out Try.underlying87 rfl info_wheel ?_) | (refine one9 tyW rfl rfl rfl ?_) |
          (refine append9 tyW rfl rfl rfl rfl (HO.out.alloc _) (reads_lit _ _ _) (by simp; omega) (HL.out.alloc HB.out _) (by simp; have := HB.out; omega) ?_; intro v2 w4 ho4 hb4 hB4))
        go_roundw
        case rel =>
          refine ⟨k + 1, by omega, by go_num, ?_, hb4, hB4⟩
          have e : (R.take (k + 1)).filter nz = (R.take k).filter nz ++ [c] := by
            rw [take_next HC.out, List.filter_append]
            simp [hz]
          rw [e]; exact ho4
        case measure => simp [intOf]; omega
    · obtain rfl : k = R.length := by omega
      rw [List.take_length] at hO
      have D := specDesignValid_any u6 (R.filter nz) wr (own_reads hO)
      have HR2 := HRES.out
      rw [done_eq] at HR2
      have HR2 := Lib.hid HR2
      have HO := Lib.hid hO
      have HL := Lib.hid hbel
      have HB := Lib.hid hB
      clear hO hbel hB HRES
      cases hvd : valid (R.filter nz)
      · rw [hvd] at D
        have HR3 : Aside (none = res) := (show none = res from by have := HR2.out; rw [hvd] at this; exact this)
        clear HR2
        go_wp2_with fail
        refine (D).mono ?_; rintro e w2 ⟨rfl, hb2⟩
        have HQ : Aside (Told w res (.returned (.tuple #[.slice (some ⟨w2.heap.size, 0, none⟩) 0 0, .bool false])) (w2.alloc (.cells #[] 87))) := (show Told _ _ _ _ from by
          rw [← HR3.out]
          have hz := Nat.le_trans HB.out hb2.size
          exact ⟨below_next HL.out (hb2.alloc hb2.size _), _, rfl, own_lit w2 w.heap.size 87 hz⟩)
        clear D hb2
        go_wp2
        go_ret2
        exact HQ.out
      · rw [hvd] at D
        have HR3 : Aside (some (R.filter nz) = res) := (show some (R.filter nz) = res from by have := HR2.out; rw [hvd] at this; exact this)
        clear HR2
        go_wp2_with fail
        refine (D).mono ?_; rintro e w2 ⟨rfl, hb2⟩
        have HQ : Aside (Told w res (.returned (.tuple #[u6, .bool true])) w2) := (show Told _ _ _ _ from by
          rw [← HR3.out]
          exact ⟨below_next HL.out hb2, _, rfl, own_below HO.out hb2⟩)
        clear D hb2
        go_wp2
        go_ret2
        exact HQ.out

theorem ins_ne (R : List Wh) (c : Wh) : ins R c ≠ [] := by
  cases R with
  | nil => simp [ins]
  | cons d R =>
    unfold ins
    split
    · simp
    · split <;> simp
theorem ins_big (c : Wh) (M : Int) (hM : 1000000 ≤ M) : ∀ R : List Wh, insOk true R c = true → (∀ d ∈ R, Big d.r M) → ∀ d ∈ ins R c, Big d.r M
  | [], h, _, d, hd => by
    simp only [insOk, Bool.not_true, Bool.false_or] at h
    simp only [ins, List.mem_singleton] at hd
    rw [hd]; exact (big_ok h).mono hM
  | e :: R, h, hR, d, hd => by
    unfold insOk at h
    unfold ins at hd
    by_cases h1 : e.s < c.s
    · rw [if_pos h1] at h hd
      rcases List.mem_cons.1 hd with rfl | hd
      · exact hR _ (by simp)
      · exact ins_big c M hM R h (fun d hd => hR d (by simp [hd])) d hd
    · rw [if_neg h1] at h hd
      by_cases h2 : e.s = c.s
      · rw [if_pos h2] at h hd
        rcases List.mem_cons.1 hd with rfl | hd
        · exact (big_ok h).mono hM
        · exact hR d (by simp [hd])
      · rw [if_neg h2] at h hd
        simp only [Bool.not_true, Bool.false_or] at h
        rcases List.mem_cons.1 hd with rfl | hd
        · exact (big_ok h).mono hM
        · exact hR d hd
theorem own_parts {w : World} {B T g n cap : Nat} {ws : List Wh} (h : Own w B T (.slice (some ⟨g, 0, none⟩) n cap) ws) : g < w.heap.size ∧ w.rangeAt g 0 (flat ws) ∧ ws.length ≤ cap ∧ cap ≤ maxLen := by
  obtain ⟨p, cap', e, h2, h3, _, h5⟩ := own_reads h
  simp only [Value.slice.injEq] at e
  obtain ⟨rfl, _, rfl⟩ := e
  obtain ⟨g', o, e, hg, hr⟩ := h5 (by simp)
  simp only [Option.some.injEq, Addr.mk.injEq, and_true] at e
  obtain ⟨rfl, rfl⟩ := e
  exact ⟨hg, hr, h2, h3⟩

set_option maxHeartbeats 2000000 in
theorem l5Tidy_any (v : Value) (ws : List Wh) (w : World) (hv : Reads w v ws) (hn : ws.length ≤ 1000) (hbig : ∀ c ∈ ws, Big c.r 4000000) : Calls Try.prog 58 #[v] w (Told w (tidy true ws)) := by
  obtain ⟨p, cap, rfl, hc1, hc2, hp0, hp⟩ := hv
  simp only [maxLen] at hc2
  have HP := Lib.hid hp
  have HBG := Lib.hid hbig
  clear hp hbig
  generalize hD : tidy true ws = res
  unfold tidy at hD
  generalize hrun : run true [] ws = run0 at hD
  have HRUN := Lib.hid hrun
  have HRES := Lib.hid hD
  clear hD hrun
  go_enter Try.func58, Try.ntmps58
  go_wp2
  go_loopw [4, 5] (fun s4 i wr => ∃ (k : Nat) (R : List Wh) (g capr : Nat), k ≤ ws.length ∧ i = .int .i64 k ∧ R.length ≤ k ∧ s4 = .slice (some ⟨g, 0, none⟩) R.length capr ∧ Own wr w.heap.size 87 (.slice (some ⟨g, 0, none⟩) R.length capr) R ∧
    ((∀ d ∈ R, Big d.r 4000000) ∧ run true R (ws.drop k) = run0) ∧ Below w.heap.size w wr ∧ w.heap.size ≤ wr.heap.size) (fun _ i _ => ws.length - (intOf i).toNat)
  case atStart => exact ⟨0, [], w.heap.size, 0, Nat.zero_le _, rfl, Nat.zero_le _, rfl, own_lit w w.heap.size 87 (Nat.le_refl _), ⟨by simp, HRUN.out⟩, (Below.refl _ _).alloc (Nat.le_refl _) _, by simp⟩
  case round =>
    obtain ⟨k, R, g1, capr, hk, rfl, hRk, rfl, hO, hfacts, hbel, hB⟩ := hrel
    by_cases hlt : k < ws.length
    · have hkz : (k : Int) < (ws.length : Int) := by omega
      have hk0 : (0 : Int) ≤ (k : Int) := by omega
      obtain ⟨c, hc⟩ : ∃ c, ws[k]? = some c := ⟨_, List.getElem?_eq_getElem hlt⟩
      obtain ⟨g, o, rfl, hg, hr⟩ := HP.out (by rintro rfl; have := hp0 rfl; omega)
      have HE := Lib.hid (range_part (range_below hr hg hbel) hc)
      obtain ⟨o1, o2, o3, o4⟩ := own_parts hO
      have C := l5Add_any g1 0 capr R c wr o1 o2 o3 o4 (by omega) hfacts.1 (HBG.out c (List.mem_of_getElem? hc))
      have hdrop : ws.drop k = c :: ws.drop (k + 1) := by
        rw [List.drop_eq_getElem_cons hlt]
        have := List.getElem?_eq_getElem hlt
        rw [hc] at this
        rw [← Option.some.inj this]
      have hrn := hfacts.2
      rw [hdrop] at hrn
      unfold run at hrn
      have HRN := Lib.hid hrn
      have HFA := Lib.hid hfacts.1
      have HL := Lib.hid hbel
      have HB := Lib.hid hB
      clear hr hO hbel hB hc hfacts o1 o2 o3 o4 hdrop hrn
      cases hq : insOk true R c
      · have HN : Aside (none = run0) := (show none = run0 from by have := HRN.out; rw [hq] at this; exact this)
        go_wp2_with (first | (refine load_wheel (T := 87) rfl rfl rfl HE.out Try.underlying87 rfl info_wheel ?_))
        refine C.mono ?_; rintro e w2 ⟨hb2, v2, rfl, ho2⟩
        rw [hq]
        have HQ : Aside (Told w res (.returned (.tuple #[.slice (some ⟨w2.heap.size, 0, none⟩) 0 0, .bool false])) (w2.alloc (.cells #[] 87))) := (show Told _ _ _ _ from by
          have hr0 := HRES.out
          rw [← HN.out] at hr0
          have hr1 : none = res := hr0
          rw [← hr1]
          have hz := Nat.le_trans HB.out hb2.size
          exact ⟨below_next HL.out (hb2.alloc hb2.size _), _, rfl, own_lit w2 w.heap.size 87 hz⟩)
        clear C hb2 ho2 HE HRN
        go_wp2
        go_ret2
        exact HQ.out
      · have HN : Aside (run true (ins R c) (ws.drop (k + 1)) = run0) := (show _ from by have := HRN.out; rw [hq, if_pos rfl] at this; exact this)
        go_wp2_with (first | (refine load_wheel (T := 87) rfl rfl rfl HE.out Try.underlying87 rfl info_wheel ?_))
        refine C.mono ?_; rintro e w2 ⟨hb2, v2, rfl, ho2⟩
        rw [hq]
        obtain ⟨p2, cap2, rfl, hq1, hq2, hne⟩ := own_form ho2
        obtain ⟨g2, rfl, hg2⟩ := hne (ins_ne R c)
        have HO2 := Lib.hid (own_mono ho2 HB.out)
        have HL2 := Lib.hid (below_next HL.out hb2)
        have HB2 := Lib.hid (Nat.le_trans HB.out hb2.size)
        have HG2 := Lib.hid (ins_big c 4000000 (by omega) R hq HFA.out)
        have hln := ins_len c R
        clear C hb2 ho2 HE HRN hne
        go_wp2
        go_roundw
        case rel => exact ⟨k + 1, ins R c, g2, cap2, by omega, by go_num, by omega, rfl, HO2.out, ⟨HG2.out, HN.out⟩, HL2.out, HB2.out⟩
        case measure => simp [intOf]; omega
    · obtain rfl : k = ws.length := by omega
      have D := l5Done_any _ R wr (own_reads hO) (by omega)
      have hrn := hfacts.2
      rw [List.drop_length] at hrn
      unfold run at hrn
      have hr0 := HRES.out
      rw [← hrn] at hr0
      have hr1 : done R = res := hr0
      rw [hr1] at D
      have HL := Lib.hid hbel
      have HB := Lib.hid hB
      clear hO hbel hB hrn hr0 hr1 HRES HRUN hfacts
      go_wp2_with fail
      refine D.mono ?_; rintro e w2 ⟨hb2, v2, rfl, ho2⟩
      have HQ : Aside (Told w res (.returned (.tuple #[v2, .bool res.isSome])) w2) := ⟨below_next HL.out hb2, _, rfl, own_mono ho2 HB.out⟩
      clear D hb2 ho2
      go_wp2
      go_ret2
      exact HQ.out

end Go.Proofs.Ytibhlaojinedoaa
