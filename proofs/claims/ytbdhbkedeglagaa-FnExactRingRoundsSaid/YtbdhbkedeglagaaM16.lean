/-
  Symmetries: the mathematics (no program). Folds, periods, akin designs, turns that change nothing, closed designs, the centre.
  impl: wheels that roll.
  The draws of rings.
-/
import Derived.Test.YtbdhbkedeglagaaM15
import Derived.Test.YtbdhbkedeglagaaM10
import Derived.Test.YtbdhbkedeglagaaM06
import Derived.Test.YtbdhbkedeglagaaM01
import Derived.Test.YtbdhbkedeglagaaM13
import Derived.OwnWalk
/- Symmetries: the mathematics (no program). Folds, periods, akin designs, turns that change nothing, closed designs, the centre. -/
namespace Go.Proofs.Ytbdhbkedeglagaa
set_option maxRecDepth 20000
set_option linter.unusedVariables false
set_option linter.unusedSimpArgs false

/-! What is done to a tidy design by each of its radii. -/
theorem nz_tV {c : Wh} (n : Nat) (s : Int) (hn : n ≤ 23) : nz ⟨s, tV n c.r⟩ = nz c := by
  have h : tV n c.r = V.zero ↔ c.r = V.zero := ⟨fun h => by
    have e : tV (24 - n) (tV n c.r) = V.zero := by rw [h, tV_zero]
    rwa [tV_more, show 24 - n + n = 24 from by omega, tV_round] at e, fun h => by rw [h, tV_zero]⟩
  cases h1 : nz c with
  | false => exact nz_zero (h.2 (nz_no h1))
  | true =>
    cases h2 : nz ⟨s, tV n c.r⟩ with
    | true => rfl
    | false =>
      have := h.1 (nz_no h2)
      rw [nz_zero this] at h1
      cases h1
/-- A change that keeps each speed, and what is not 0. -/
structure Keep (f : Wh → Wh) : Prop where
  s : ∀ c, (f c).s = c.s
  z : ∀ c, nz (f c) = nz c
theorem keep_turn {t : Nat} (ht : t ≤ 23) : Keep (turnW t) := ⟨fun c => rfl, fun c => nz_tV t c.s ht⟩
theorem keep_later (u : Int) : Keep (laterW u) := ⟨fun c => rfl, fun c => nz_tV (tm u c.s) c.s (tm_lt u c.s)⟩
def okR (l : List Wh) : Bool := l.all fun c => okv c.r
theorem okR_all {l : List Wh} : okR l = true ↔ ∀ c ∈ l, okv c.r = true := List.all_eq_true
theorem asc_map {f : Wh → Wh} (hf : ∀ c, (f c).s = c.s) : ∀ {X : List Wh}, Asc X → Asc (X.map f)
  | [], _ => List.Pairwise.nil
  | c :: X, h => by
    have hc := List.pairwise_cons.1 h
    refine List.pairwise_cons.2 ⟨fun d hd => ?_, asc_map hf hc.2⟩
    obtain ⟨e, he, rfl⟩ := List.mem_map.1 hd
    rw [hf, hf]; exact hc.1 e he
theorem tidy_map {f : Wh → Wh} (hf : Keep f) {X : List Wh} (h : Tidy X) (ho : okR (X.map f) = true) : Tidy (X.map f) := by
  have hm := okR_all.1 ho
  refine ⟨asc_map hf.s h.asc, fun c hc => ?_, ?_⟩
  · obtain ⟨d, hd, rfl⟩ := List.mem_map.1 hc
    rw [hf.z]; exact h.nz d hd
  · unfold valid
    rw [Bool.and_eq_true]
    refine ⟨by rw [List.length_map]; exact decide_eq_true (valid_len h.ok), List.all_eq_true.2 fun c hc => ?_⟩
    unfold wOk
    rw [hm c hc, Bool.and_true]
    obtain ⟨d, hd, rfl⟩ := List.mem_map.1 hc
    rw [hf.s]; exact (valid_ok h.ok d hd).1
theorem pre_head {c : Wh} : ∀ {ws : List Wh}, c ∈ ws → Asc ws → pre c.s ws = [c.r]
  | [], h, _ => by cases h
  | d :: ws, h, ha => by
    have hc := List.pairwise_cons.1 ha
    rw [pre_cons]
    rcases List.mem_cons.1 h with rfl | h
    · rw [if_pos rfl]
      have : pre c.s ws = [] := by
        unfold pre
        rw [List.filter_eq_nil_iff.2 fun e he => ?_]; rfl
        have := hc.1 e he
        simp; omega
      rw [this]
    · rw [if_neg (by have := hc.1 c h; omega)]
      exact pre_head h hc.2
theorem tidy_asks {ws : List Wh} (ha : Asc ws) {c : Wh} (hc : c ∈ ws) (ho : okv c.r = false) : tidy true ws = none := by
  unfold tidy
  cases hr : run true [] ws with
  | none => rfl
  | some R =>
    have h := (run_can true ws [] List.Pairwise.nil).1 (by rw [hr]; rfl) c.s
    rw [pre_head hc ha] at h
    simp [look, gd, ho] at h
/-- What the model makes of a design, wheel by wheel: it asks the first radius of each speed too. -/
def sOf (f : Wh → Wh) (ws : List Wh) : Option (List Wh) := if valid ws then tidy true (ws.map f) else none
theorem sOf_yes {f : Wh → Wh} (hf : Keep f) {X : List Wh} (h : Tidy X) (ho : okR (X.map f) = true) : sOf f X = some (X.map f) := by
  unfold sOf
  rw [if_pos h.ok]
  exact Tidy.again true (tidy_map hf h ho)
theorem sOf_no {f : Wh → Wh} (hf : Keep f) {X : List Wh} (h : Tidy X) (ho : okR (X.map f) = false) : sOf f X = none := by
  unfold sOf
  rw [if_pos h.ok]
  have : ∃ c ∈ X.map f, okv c.r = false := by
    unfold okR at ho
    obtain ⟨c, hc, h1⟩ := List.all_eq_false.1 ho
    exact ⟨c, hc, by simpa using h1⟩
  obtain ⟨c, hc, h1⟩ := this
  exact tidy_asks (asc_map hf.s h.asc) hc h1
theorem sOf_tidy {f : Wh → Wh} (hf : Keep f) {X : List Wh} (h : Tidy X) : sOf f X = if okR (X.map f) then some (X.map f) else none := by
  cases ho : okR (X.map f) with
  | true => exact sOf_yes hf h ho
  | false => exact sOf_no hf h ho
theorem dOf_yes {f : Wh → Wh} (hf : Keep f) {X : List Wh} (h : Tidy X) (ho : okR (X.map f) = true) : dOf f X = some (X.map f) := by
  unfold dOf
  rw [if_pos h.ok]
  exact Tidy.again false (tidy_map hf h ho)

/-! The least number that fits. -/
def firstP (p : Nat → Bool) : Nat → Option Nat
  | 0 => none
  | n + 1 => match firstP p n with
    | some k => some k
    | none => if p n then some n else none
theorem firstP_yes {p : Nat → Bool} {k : Nat} (h : firstP p k = none) (hk : p k = true) : firstP p (k + 1) = some k := by simp [firstP, h, hk]
theorem firstP_no {p : Nat → Bool} {k : Nat} (h : firstP p k = none) (hk : p k = false) : firstP p (k + 1) = none := by simp [firstP, h, hk]
theorem firstP_on {p : Nat → Bool} {k j : Nat} (h : firstP p k = some j) : ∀ {n : Nat}, k ≤ n → firstP p n = some j
  | 0, hk => by obtain rfl : k = 0 := by omega
                exact h
  | n + 1, hk => by
    by_cases e : k = n + 1
    · rw [← e]; exact h
    · simp [firstP, firstP_on h (show k ≤ n by omega)]
theorem firstP_in {p : Nat → Bool} {j : Nat} : ∀ {n : Nat}, firstP p n = some j → j < n ∧ p j = true
  | 0, h => by cases h
  | n + 1, h => by
    unfold firstP at h
    cases h1 : firstP p n with
    | some k =>
      rw [h1] at h
      obtain ⟨a, b⟩ := firstP_in h1
      simp only [Option.some.injEq] at h
      subst h
      exact ⟨by omega, b⟩
    | none =>
      rw [h1] at h
      simp only at h
      split at h
      · rename_i hp
        simp only [Option.some.injEq] at h
        subst h
        exact ⟨by omega, hp⟩
      · cases h
theorem firstP_none {p : Nat → Bool} : ∀ {n : Nat}, firstP p n = none → ∀ k, k < n → p k = false
  | 0, _, k, hk => by omega
  | n + 1, h, k, hk => by
    unfold firstP at h
    cases h1 : firstP p n with
    | some j => rw [h1] at h; cases h
    | none =>
      rw [h1] at h
      simp only at h
      split at h
      · cases h
      · rename_i hp
        by_cases e : k = n
        · rw [e]; simpa using hp
        · exact firstP_none h1 k (by omega)
theorem firstP_some {p : Nat → Bool} {n k : Nat} (hk : k < n) (h : p k = true) : (firstP p n).isSome = true := by
  cases h1 : firstP p n with
  | some j => rfl
  | none => rw [firstP_none h1 k hk] at h; cases h
theorem firstP_same {p q : Nat → Bool} : ∀ {n : Nat}, (∀ k, k < n → p k = q k) → firstP p n = firstP q n
  | 0, _ => rfl
  | n + 1, h => by
    unfold firstP
    rw [firstP_same fun k hk => h k (by omega), h n (by omega)]

/-! Akin designs. -/
def leadW (a b : Nat) (c d : Wh) : Bool := okv (laterW a c).r && eqW (turnW b (laterW a c)) d
def leadL (a b : Nat) : List Wh → List Wh → Bool
  | [], [] => true
  | c :: cs, d :: ds => leadW a b c d && leadL a b cs ds
  | [], _ :: _ => false
  | _ :: _, [] => false
theorem leadL_true {a b : Nat} : ∀ {X Y : List Wh}, leadL a b X Y = true ↔ okR (X.map (laterW a)) = true ∧ (X.map (laterW a)).map (turnW b) = Y
  | [], [] => by simp [leadL, okR]
  | [], d :: ds => by simp [leadL]
  | c :: cs, [] => by simp [leadL]
  | c :: cs, d :: ds => by
    simp only [leadL, leadW, Bool.and_eq_true, leadL_true (X := cs) (Y := ds), List.map_cons, List.cons.injEq, eqW_true, okR, List.all_cons]
    constructor
    · rintro ⟨⟨h1, h2⟩, h3, h4⟩; exact ⟨⟨h1, h3⟩, h2, h4⟩
    · rintro ⟨⟨h1, h3⟩, h2, h4⟩; exact ⟨⟨h1, h2⟩, h3, h4⟩
theorem leadL_len {a b : Nat} {X Y : List Wh} (h : leadL a b X Y = true) : X.length = Y.length := by
  rw [← (leadL_true.1 h).2]; simp
/-- The model's question: later and turned it is the other one. -/
def akinS (a b : Nat) (X Y : List Wh) : Bool :=
  match sOf (laterW a) X with
  | none => false
  | some X1 => match sOf (turnW b) X1 with
    | none => false
    | some X2 => eqL X2 Y
theorem akinS_eq {a b : Nat} (hb : b ≤ 23) {X Y : List Wh} (hX : Tidy X) (hY : Tidy Y) : akinS a b X Y = leadL a b X Y := by
  unfold akinS
  rw [sOf_tidy (keep_later a) hX]
  cases ho : okR (X.map (laterW a)) with
  | false =>
    simp only [Bool.false_eq_true, if_false]
    cases h : leadL a b X Y with
    | false => rfl
    | true => rw [(leadL_true.1 h).1] at ho; cases ho
  | true =>
    simp only [if_true]
    have hX1 := tidy_map (keep_later a) hX ho
    rw [sOf_tidy (keep_turn hb) hX1]
    cases ho2 : okR ((X.map (laterW a)).map (turnW b)) with
    | false =>
      simp only [Bool.false_eq_true, if_false]
      cases h : leadL a b X Y with
      | false => rfl
      | true =>
        rw [(leadL_true.1 h).2] at ho2
        rw [okR_all.2 fun c hc => (valid_ok hY.ok c hc).2] at ho2
        cases ho2
    | true =>
      simp only [if_true]
      cases h : leadL a b X Y with
      | true => rw [(leadL_true.1 h).2]; exact eqL_same rfl
      | false => exact eqL_not fun e => by rw [leadL_true.2 ⟨ho, e⟩] at h; cases h
def akinP (X Y : List Wh) (n : Nat) : Bool := leadL (n / 24) (n % 24) X Y
def akinO (X Y : List Wh) : Option Nat := firstP (akinP X Y) 576
def akinD (A B : List Wh) : Option Nat :=
  match tid A with
  | none => none
  | some X => match tid B with
    | none => none
    | some Y => akinO X Y
theorem akinO_some {X Y : List Wh} {n : Nat} (h : akinO X Y = some n) : n < 576 ∧ leadL (n / 24) (n % 24) X Y = true := firstP_in h
theorem akinO_len {X Y : List Wh} (h : ¬ X.length = Y.length) : akinO X Y = none := by
  cases e : akinO X Y with
  | none => rfl
  | some n => exact absurd (leadL_len (akinO_some e).2) h

/-! Turns that change nothing. -/
def stillW (a b : Nat) (c : Wh) : Bool := okv (tV b c.r) && eqW (turnW b c) (laterW a c)
def stillP (X : List Wh) (a b : Nat) : Bool := X.all (stillW a b)
theorem stillP_true {X : List Wh} {a b : Nat} : stillP X a b = true ↔ okR (X.map (turnW b)) = true ∧ X.map (turnW b) = X.map (laterW a) := by
  induction X with
  | nil => simp [stillP, okR]
  | cons c X ih =>
    have e : stillP (c :: X) a b = (stillW a b c && stillP X a b) := rfl
    have e2 : okR ((c :: X).map (turnW b)) = (okv (tV b c.r) && okR (X.map (turnW b))) := rfl
    rw [e, e2]
    simp only [Bool.and_eq_true, ih, stillW, eqW_true, List.map_cons, List.cons.injEq]
    constructor
    · rintro ⟨⟨h1, h2⟩, h3, h4⟩; exact ⟨⟨h1, h3⟩, h2, h4⟩
    · rintro ⟨⟨h1, h3⟩, h2, h4⟩; exact ⟨⟨h1, h2⟩, h3, h4⟩
def stillB (X : List Wh) (b : Nat) : Bool := (firstP (fun a => stillP X a b) 24).isSome
def stillL (X : List Wh) : List Nat := (List.range 24).filter (stillB X)
/-- The model's question. -/
def stillS (X : List Wh) (a b : Nat) : Bool :=
  match sOf (laterW a) X, sOf (turnW b) X with
  | some L, some T => eqL L T
  | _, _ => false
theorem stillS_eq {X : List Wh} (hX : Tidy X) {a b : Nat} (hb : b ≤ 23) : stillS X a b = stillP X a b := by
  unfold stillS
  rw [sOf_tidy (keep_later a) hX, sOf_tidy (keep_turn hb) hX]
  cases h : stillP X a b with
  | true =>
    obtain ⟨h1, h2⟩ := stillP_true.1 h
    rw [← h2, h1]
    exact eqL_same rfl
  | false =>
    cases h1 : okR (X.map (laterW a)) with
    | false => rfl
    | true =>
      cases h2 : okR (X.map (turnW b)) with
      | false => rfl
      | true =>
        refine eqL_not fun e => ?_
        rw [stillP_true.2 ⟨h2, e.symm⟩] at h
        cases h
theorem stillB_true {X : List Wh} {b : Nat} : stillB X b = true ↔ ∃ a, a < 24 ∧ stillP X a b = true := by
  unfold stillB
  constructor
  · intro h
    cases e : firstP (fun a => stillP X a b) 24 with
    | none => rw [e] at h; cases h
    | some a => exact ⟨a, firstP_in e⟩
  · rintro ⟨a, h1, h2⟩; exact firstP_some h1 h2
theorem stillL_mem {X : List Wh} {b : Nat} : b ∈ stillL X ↔ b < 24 ∧ stillB X b = true := by simp [stillL]
theorem stillL_len (X : List Wh) : (stillL X).length ≤ 24 := Nat.le_trans (List.length_filter_le _ _) (by simp)
/-- Radii small enough to stay valid however they are turned. -/
theorem small_tV {a : V} {M : Int} (h : Big a M) (hM : 0 ≤ M) {n : Nat} (hn : n ≤ 23) : Big (tV n a) (4 * M) := fun j hj => by
  rw [← tV_trn a hn, up_dn _ j hj]
  have hp : ∀ k, -M ≤ tpow a.up n 8 k ∧ tpow a.up n 8 k ≤ M := fun k => by
    unfold tpow
    split
    · rename_i hk; exact h _ hk
    · omega
  unfold trn red
  have h1 := hp j; have h2 := hp (j + 4); have h3 := hp (j + 8); have h4 := hp (j + 12); have h5 := hp (j + 16); have h6 := hp (j + 20)
  split <;> omega
theorem big_okv {a : V} (h : Big a 1000000) : okv a = true := inR_okc fun j hj => h j hj
theorem tot_big {M : Int} (hM : 0 ≤ M) (s : Int) : ∀ ws : List Wh, (∀ c ∈ ws, Big c.r M) → Big (tot s ws) (M * (ws.length : Int))
  | [], _ => by
    show Big V.zero (M * ((0 : Nat) : Int))
    exact big_zero.mono (by simp)
  | c :: ws, h => by
    have h1 : Big (if c.s = s then c.r else V.zero) M := by
      split
      · exact h c (by simp)
      · exact big_zero.mono hM
    have h2 := h1.add (tot_big hM s ws fun d hd => h d (by simp [hd]))
    have e : M + M * (ws.length : Int) = M * (((c :: ws).length : Nat) : Int) := by
      rw [List.length_cons, Int.natCast_add, Int.mul_add, Int.add_comm]; simp
    rw [← e]; exact h2
theorem tot_head {c : Wh} : ∀ {R : List Wh}, c ∈ R → Asc R → tot c.s R = c.r
  | [], h, _ => by cases h
  | d :: R, h, ha => by
    have hc := List.pairwise_cons.1 ha
    show V.add (if d.s = c.s then d.r else V.zero) (tot c.s R) = c.r
    rcases List.mem_cons.1 h with rfl | h
    · rw [if_pos rfl, tot_none hc.1, V.add_zero]
    · rw [if_neg (by have := hc.1 c h; omega), V.zero_add]
      exact tot_head h hc.2
/-- Turned round, a turn that changes nothing changes nothing. -/
theorem tm_back {a : Nat} (ha : a < 24) (s : Int) : (tm a s + tm (((24 - a) % 24 : Nat) : Int) s) % 24 = 0 := by
  unfold tm
  by_cases h : a = 0
  · subst h; simp
  · have e : (((24 - a) % 24 : Nat) : Int) = 24 - (a : Int) := by omega
    rw [e, Int.sub_mul]
    generalize (a : Int) * s = x
    omega
theorem still_back {X : List Wh} {a b : Nat} (ha : a < 24) (hb : b < 24) (hs : ∀ c ∈ X, Big c.r 250000) (h : stillP X a b = true) : stillP X ((24 - a) % 24) ((24 - b) % 24) = true := by
  unfold stillP at *
  rw [List.all_eq_true] at *
  intro c hc
  have h1 := h c hc
  unfold stillW at *
  rw [Bool.and_eq_true] at *
  refine ⟨big_okv ((small_tV (hs c hc) (by omega) (by omega)).mono (by omega)), eqW_true.2 (Wh.same rfl ?_)⟩
  have e : tV b c.r = tV (tm a c.s) c.r := congrArg Wh.r (eqW_true.1 h1.2)
  have hm := tm_back ha c.s
  show tV ((24 - b) % 24) c.r = tV (tm (((24 - a) % 24 : Nat) : Int) c.s) c.r
  generalize tm (a : Int) c.s = m at *
  generalize tm (((24 - a) % 24 : Nat) : Int) c.s = m' at *
  have e1 : tV ((24 - b) % 24) c.r = tV ((24 - b) % 24 + m') (tV m c.r) := by
    rw [tV_more]; exact tV_same _ (by omega)
  rw [e1, ← e, tV_more]
  exact tV_same _ (by omega)
theorem still_home {X : List Wh} (hX : Tidy X) : stillP X 0 0 = true := by
  unfold stillP
  rw [List.all_eq_true]
  intro c hc
  unfold stillW
  rw [Bool.and_eq_true]
  have e : tm ((0 : Nat) : Int) c.s = 0 := by simp [tm]
  refine ⟨by rw [tV_none]; exact (valid_ok hX.ok c hc).2, eqW_true.2 (Wh.same rfl ?_)⟩
  show tV 0 c.r = tV (tm ((0 : Nat) : Int) c.s) c.r
  rw [e]
theorem stillB_home {X : List Wh} (hX : Tidy X) : stillB X 0 = true := stillB_true.2 ⟨0, by omega, still_home hX⟩
theorem stillB_back {X : List Wh} {b : Nat} (hb : b < 24) (hs : ∀ c ∈ X, Big c.r 250000) : stillB X ((24 - b) % 24) = stillB X b := by
  have go : ∀ b, b < 24 → stillB X b = true → stillB X ((24 - b) % 24) = true := fun b hb h => by
    obtain ⟨a, ha, h1⟩ := stillB_true.1 h
    exact stillB_true.2 ⟨(24 - a) % 24, by omega, still_back ha hb hs h1⟩
  apply Bool.eq_iff_iff.2
  constructor
  · intro h
    have := go _ (by omega) h
    rwa [show (24 - (24 - b) % 24) % 24 = b from by omega] at this
  · exact go b hb
theorem small_tidy {ws R : List Wh} (h : tid ws = some R) (hs : ∀ c ∈ ws, Big c.r 1000) : ∀ c ∈ R, Big c.r 250000 := fun c hc => by
  unfold tid at h
  split at h
  · rename_i hv
    obtain ⟨hT, h1, _⟩ := tidy_some h
    rw [← tot_head hc hT.asc, h1]
    have hl := valid_len hv
    refine (tot_big (by omega) c.s ws hs).mono ?_
    omega
  · cases h

/-! Greatest common divisors of many numbers. -/
def gcdL (h : Wh → Nat) (l : List Wh) : Nat := l.foldl (fun g c => Nat.gcd g (h c)) 0
theorem gcdL_next (h : Wh → Nat) {l : List Wh} {k : Nat} {c : Wh} (hc : l[k]? = some c) : gcdL h (l.take (k + 1)) = Nat.gcd (gcdL h (l.take k)) (h c) := by
  unfold gcdL
  rw [take_next hc, List.foldl_append]; rfl
theorem gcd_most {g d M : Nat} (hg : g ≤ M) (hd : d ≤ M) : Nat.gcd g d ≤ M := by
  rcases Nat.eq_zero_or_pos g with rfl | h
  · rw [Nat.gcd_zero_left]; exact hd
  · exact Nat.le_trans (Nat.gcd_le_left d h) hg
theorem gcdL_most {h : Wh → Nat} {M : Nat} : ∀ (l : List Wh) (g : Nat), g ≤ M → (∀ c ∈ l, h c ≤ M) → l.foldl (fun g c => Nat.gcd g (h c)) g ≤ M
  | [], g, hg, _ => hg
  | c :: l, g, hg, hl => gcdL_most l _ (gcd_most hg (hl c (by simp))) fun d hd => hl d (by simp [hd])
theorem gcdL_divides {h : Wh → Nat} : ∀ (l : List Wh) (g : Nat), l.foldl (fun g c => Nat.gcd g (h c)) g ∣ g ∧ ∀ c ∈ l, l.foldl (fun g c => Nat.gcd g (h c)) g ∣ h c
  | [], g => ⟨Nat.dvd_refl _, fun c hc => by cases hc⟩
  | c :: l, g => by
    obtain ⟨h1, h2⟩ := gcdL_divides l (Nat.gcd g (h c))
    refine ⟨Nat.dvd_trans h1 (Nat.gcd_dvd_left _ _), fun d hd => ?_⟩
    rcases List.mem_cons.1 hd with rfl | hd
    · exact Nat.dvd_trans h1 (Nat.gcd_dvd_right _ _)
    · exact h2 d hd
theorem gcdL_map (f : Wh → Wh) {h h' : Wh → Nat} (e : ∀ c, h' (f c) = h c) (l : List Wh) : gcdL h' (l.map f) = gcdL h l := by
  unfold gcdL
  rw [List.foldl_map]
  simp only [e]
/-- The fold. -/
def gapW (s0 : Int) (c : Wh) : Nat := (c.s - s0).toNat
def foldW (R : List Wh) : Nat := match R with
  | [] => 0
  | c :: cs => gcdL (gapW c.s) (c :: cs)
def perW (R : List Wh) : Nat := gcdL (fun c => c.s.natAbs) R
theorem tidy_speed {R : List Wh} (h : Tidy R) {c : Wh} (hc : c ∈ R) : -1000 ≤ c.s ∧ c.s ≤ 1000 := by
  have := (valid_ok h.ok c hc).1
  unfold inS at this
  simpa using this
theorem gapW_most {R : List Wh} (h : Tidy R) {c d : Wh} (hc : c ∈ R) (hd : d ∈ R) : gapW c.s d ≤ 2000 := by
  have h1 := tidy_speed h hc
  have h2 := tidy_speed h hd
  unfold gapW; omega
theorem fold_most {R : List Wh} (h : Tidy R) {c : Wh} (hc : c ∈ R) (k : Nat) : gcdL (gapW c.s) (R.take k) ≤ 2000 :=
  gcdL_most _ 0 (by omega) fun d hd => gapW_most h hc (List.mem_of_mem_take hd)
theorem per_most {R : List Wh} (h : Tidy R) (k : Nat) : gcdL (fun c => c.s.natAbs) (R.take k) ≤ 1000 :=
  gcdL_most _ 0 (by omega) fun d hd => by have := tidy_speed h (List.mem_of_mem_take hd); omega
theorem fold_parts {R : List Wh} {n : Nat} (h : n ∣ foldW R) {c d : Wh} (hc : R[0]? = some c) (hd : d ∈ R) (ha : Asc R) : ∃ q : Int, d.s = c.s + n * q := by
  cases R with
  | nil => simp at hc
  | cons e R =>
    simp only [List.getElem?_cons_zero, Option.some.injEq] at hc
    subst hc
    have h1 : n ∣ gapW e.s d := Nat.dvd_trans h ((gcdL_divides (e :: R) 0).2 d hd)
    have h2 : e.s ≤ d.s := by
      rcases List.mem_cons.1 hd with rfl | hd
      · omega
      · have := (List.pairwise_cons.1 ha).1 d hd; omega
    obtain ⟨q, hq⟩ := h1
    refine ⟨q, ?_⟩
    unfold gapW at hq
    have : (n : Int) * (q : Int) = ((n * q : Nat) : Int) := by simp
    rw [this]; omega
theorem per_parts {R : List Wh} {n : Nat} (h : n ∣ perW R) {d : Wh} (hd : d ∈ R) : ∃ q : Int, d.s = n * q := by
  have h1 : n ∣ d.s.natAbs := Nat.dvd_trans h ((gcdL_divides R 0).2 d hd)
  obtain ⟨q, hq⟩ := h1
  have e : (n : Int) * (q : Int) = ((n * q : Nat) : Int) := by simp
  rcases Int.le_total 0 d.s with h0 | h0
  · exact ⟨q, by rw [e]; omega⟩
  · exact ⟨-(q : Int), by rw [Int.mul_neg, e]; omega⟩
theorem tot_later (u s : Int) : ∀ ws : List Wh, tot s (ws.map (laterW u)) = tV (tm u s) (tot s ws)
  | [] => (tV_zero _).symm
  | c :: ws => by
    show V.add (if c.s = s then tV (tm u c.s) c.r else V.zero) (tot s (ws.map (laterW u))) = tV (tm u s) (V.add (if c.s = s then c.r else V.zero) (tot s ws))
    rw [tV_add, tot_later u s ws]
    by_cases h : c.s = s
    · rw [if_pos h, if_pos h, h]
    · rw [if_neg h, if_neg h, tV_zero]
theorem tot_turned (t : Nat) (s : Int) : ∀ ws : List Wh, tot s (ws.map (turnW t)) = tV t (tot s ws)
  | [] => (tV_zero _).symm
  | c :: ws => by
    show V.add (if c.s = s then tV t c.r else V.zero) (tot s (ws.map (turnW t))) = tV t (V.add (if c.s = s then c.r else V.zero) (tot s ws))
    rw [tV_add, tot_turned t s ws]
    by_cases h : c.s = s
    · rw [if_pos h, if_pos h]
    · rw [if_neg h, if_neg h, tV_zero]
theorem tot_there {s : Int} : ∀ {R : List Wh}, tot s R ≠ V.zero → ∃ c ∈ R, c.s = s
  | [], h => absurd rfl h
  | c :: R, h => by
    by_cases e : c.s = s
    · exact ⟨c, by simp, e⟩
    · have e2 : tot s (c :: R) = tot s R := by
        show V.add (if c.s = s then c.r else V.zero) (tot s R) = _
        rw [if_neg e, V.zero_add]
      rw [e2] at h
      obtain ⟨d, hd, h1⟩ := tot_there h
      exact ⟨d, by simp [hd], h1⟩
theorem dOf_in {f : Wh → Wh} {ws R : List Wh} (h : dOf f ws = some R) : Tidy R ∧ ∀ s, tot s R = tot s (ws.map f) := by
  unfold dOf at h
  split at h
  · exact ⟨(tidy_some h).1, (tidy_some h).2.1⟩
  · cases h
theorem tid_in {ws R : List Wh} (h : tid ws = some R) : valid ws = true ∧ Tidy R ∧ (∀ s, tot s R = tot s ws) ∧ ∀ t, pAt t R = pAt t ws := by
  unfold tid at h
  split at h
  · rename_i hv; exact ⟨hv, tidy_some h⟩
  · cases h
theorem tm_turns {n : Nat} {u : Int} {s : Int} {t : Nat} (h : (u * s) % 24 = (t : Int) % 24) (a : V) : tV (tm u s) a = tV t a := by
  refine tV_same _ ?_
  unfold tm
  omega
/-- Folds turn the curve onto itself. -/
theorem say_fold {ws R A B : List Wh} (hR : tid ws = some R) {c : Wh} (hc : R[0]? = some c) {n : Nat} (hn : n ∣ foldW R) (h24 : 24 % n = 0) (hn1 : 1 ≤ n) {u : Int} (hu : u % 24 = ((24 / n : Nat) : Int) % 24) {t : Nat} (ht : (t : Int) % 24 = (((24 / n : Nat) : Int) * c.s) % 24)
    (hA : dOf (laterW u) ws = some A) (hB : dOf (turnW t) ws = some B) : A = B := by
  obtain ⟨hv, hT, htot, _⟩ := tid_in hR
  obtain ⟨a1, a2⟩ := dOf_in hA
  obtain ⟨b1, b2⟩ := dOf_in hB
  refine Tidy.unique a1 b1 fun s => ?_
  rw [a2, b2, tot_later, tot_turned, ← htot]
  by_cases hz : tot s R = V.zero
  · rw [hz, tV_zero, tV_zero]
  · obtain ⟨d, hd, rfl⟩ := tot_there hz
    obtain ⟨q, hq⟩ := fold_parts hn hc hd hT.asc
    refine tm_turns (n := n) ?_ _
    rw [ht, Int.mul_emod, hu, ← Int.mul_emod, hq, Int.mul_add, ← Int.mul_assoc]
    have e : ((24 / n : Nat) : Int) * (n : Int) = 24 := by
      have := Nat.div_add_mod 24 n
      rw [h24, Nat.add_zero, Nat.mul_comm] at this
      rw [← Int.natCast_mul, this]; rfl
    rw [e]
    omega
/-- Periods come back. -/
theorem say_period {ws R A : List Wh} (hR : tid ws = some R) {n : Nat} (hn : n ∣ perW R) (h24 : 24 % n = 0) (hn1 : 1 ≤ n) {u : Int} (hu : u % 24 = ((24 / n : Nat) : Int) % 24) (hA : dOf (laterW u) ws = some A) : A = R := by
  obtain ⟨hv, hT, htot, _⟩ := tid_in hR
  obtain ⟨a1, a2⟩ := dOf_in hA
  refine Tidy.unique a1 hT fun s => ?_
  rw [a2, tot_later, ← htot]
  by_cases hz : tot s R = V.zero
  · rw [hz, tV_zero]
  · obtain ⟨d, hd, rfl⟩ := tot_there hz
    obtain ⟨q, hq⟩ := per_parts hn hd
    have e : ((24 / n : Nat) : Int) * (n : Int) = 24 := by
      have := Nat.div_add_mod 24 n
      rw [h24, Nat.add_zero, Nat.mul_comm] at this
      rw [← Int.natCast_mul, this]; rfl
    rw [tm_turns (n := n) (t := 0) ?_, tV_none]
    rw [Int.mul_emod, hu, ← Int.mul_emod, hq, ← Int.mul_assoc, e]
    omega
theorem tot_fast2 (s : Int) : ∀ ws : List Wh, tot s (ws.map (fastW 2)) = if s % 2 = 0 then tot (s / 2) ws else V.zero
  | [] => by split <;> rfl
  | c :: ws => by
    show V.add (if c.s * 2 = s then c.r else V.zero) (tot s (ws.map (fastW 2))) = if s % 2 = 0 then V.add (if c.s = s / 2 then c.r else V.zero) (tot (s / 2) ws) else V.zero
    rw [tot_fast2 s ws]
    by_cases h : s % 2 = 0
    · rw [if_pos h, if_pos h]
      by_cases h2 : c.s = s / 2
      · rw [if_pos h2, if_pos (by omega)]
      · rw [if_neg h2, if_neg (by omega)]
    · rw [if_neg h, if_neg h, if_neg (by omega), V.zero_add]
theorem fast2_is {ws R F : List Wh} (hR : tid ws = some R) (hF : dOf (fastW 2) ws = some F) : F = R.map (fastW 2) := by
  obtain ⟨hv, hT, htot, _⟩ := tid_in hR
  obtain ⟨f1, f2⟩ := dOf_in hF
  refine tidy_unique f1.asc ?_ f1.nz ?_ fun s => ?_
  · refine List.pairwise_map.2 (hT.asc.imp fun {a b} h => ?_)
    show a.s * 2 < b.s * 2
    omega
  · intro c hc
    obtain ⟨d, hd, rfl⟩ := List.mem_map.1 hc
    exact hT.nz d hd
  · rw [f2, tot_fast2, tot_fast2]
    split
    · exact (htot _).symm
    · rfl
theorem gcdL_twice : ∀ (l : List Wh) (g : Nat), (l.map (fastW 2)).foldl (fun g c => Nat.gcd g c.s.natAbs) (2 * g) = 2 * l.foldl (fun g c => Nat.gcd g c.s.natAbs) g
  | [], g => rfl
  | c :: l, g => by
    have e : Nat.gcd (2 * g) (fastW 2 c).s.natAbs = 2 * Nat.gcd g c.s.natAbs := by
      rw [← Nat.gcd_mul_left]
      congr 1
      show (c.s * 2).natAbs = _
      omega
    show (l.map (fastW 2)).foldl _ (Nat.gcd (2 * g) (fastW 2 c).s.natAbs) = 2 * l.foldl _ (Nat.gcd g c.s.natAbs)
    rw [e]
    exact gcdL_twice l _
theorem say_fast {ws R F : List Wh} (hR : tid ws = some R) (hF : dOf (fastW 2) ws = some F) : perW F = 2 * perW R := by
  rw [fast2_is hR hF]
  exact gcdL_twice R 0
theorem fold_keep {f : Wh → Wh} (hf : ∀ c, (f c).s = c.s) (X : List Wh) : foldW (X.map f) = foldW X := by
  cases X with
  | nil => rfl
  | cons c X =>
    show gcdL (gapW (f c).s) ((c :: X).map f) = _
    rw [gcdL_map f (h := gapW c.s) (fun d => by unfold gapW; rw [hf, hf])]
    rfl
theorem say_akin {X Y : List Wh} {n : Nat} (h : akinO X Y = some n) : foldW X = foldW Y := by
  have := (leadL_true.1 (akinO_some h).2).2
  rw [← this, fold_keep (f := turnW (n % 24)) (fun c => rfl), fold_keep (f := laterW ((n / 24 : Nat) : Int)) (fun c => rfl)]

/-! The centre. -/
def cenV (R : List Wh) : V := tot 0 R
theorem sig_tot (s : Int) : ∀ ws : List Wh, (∀ c ∈ ws, c.s % 24 = 0 → c.s = 0) → sig (fun t => pAt (t : Int) ws) 24 = mulV 24 (tot 0 ws)
  | [], _ => by
    have e : (fun t : Nat => pAt (t : Int) []) = fun _ => V.zero := rfl
    rw [e, sig_zero]
    funext j; show (0 : Int) = 24 * 0; rfl
  | c :: ws, h => by
    have e : (fun t : Nat => pAt (t : Int) (c :: ws)) = fun t : Nat => V.add (tV (tm (t : Int) c.s) c.r) (pAt (t : Int) ws) := rfl
    rw [e, sig_add, sig_tot s ws fun d hd => h d (by simp [hd])]
    have e1 : ∀ t : Nat, tV (tm (t : Int) c.s) c.r = tV ((c.s % 24).toNat * t) c.r := fun t => tV_same _ (by
      unfold tm
      have h1 : (t : Int) * c.s % 24 = (((c.s % 24).toNat * t : Nat) : Int) % 24 := by
        rw [Int.natCast_mul, Int.toNat_of_nonneg (by omega), Int.mul_comm]
        have x1 : c.s * (t : Int) % 24 = c.s % 24 * ((t : Int) % 24) % 24 := Int.mul_emod _ _ _
        have x2 : c.s % 24 * (t : Int) % 24 = c.s % 24 % 24 * ((t : Int) % 24) % 24 := Int.mul_emod _ _ _
        have x3 : c.s % 24 % 24 = c.s % 24 := by omega
        rw [x1, x2, x3]
      rw [h1]
      omega)
    have e2 : (fun t : Nat => tV (tm (t : Int) c.s) c.r) = fun t : Nat => tV ((c.s % 24).toNat * t) c.r := funext e1
    rw [e2]
    have add_mul : ∀ a b : V, mulV 24 (V.add a b) = V.add (mulV 24 a) (mulV 24 b) := fun a b => by
      funext j; show 24 * (a j + b j) = 24 * a j + 24 * b j; omega
    have e3 : tot 0 (c :: ws) = V.add (if c.s = 0 then c.r else V.zero) (tot 0 ws) := rfl
    rw [e3, add_mul]
    congr 1
    by_cases hz : c.s = 0
    · rw [if_pos hz, hz]
      have : (fun t : Nat => tV (((0 : Int) % 24).toNat * t) c.r) = fun _ => c.r := by funext t; simp [tV_none]
      rw [this, sig_const]; rfl
    · rw [if_neg hz, sig_turns c.r (by omega) (fun h0 => hz (h c (by simp) (by omega)))]
      funext j; show (0 : Int) = 24 * 0; rfl
theorem say_centre {ws R : List Wh} (hR : tid ws = some R) (hs : ∀ c ∈ R, -23 ≤ c.s ∧ c.s ≤ 23) : sig (fun t => pAt (t : Int) ws) 24 = mulV 24 (cenV R) := by
  obtain ⟨hv, hT, htot, hp⟩ := tid_in hR
  have e : (fun t : Nat => pAt (t : Int) ws) = fun t : Nat => pAt (t : Int) R := funext fun t => (hp t).symm
  rw [e]
  exact sig_tot 0 R fun c hc h => by have := hs c hc; omega

/-! Closed designs. -/
def headS (R : List Wh) : Int := match R with
  | [] => 0
  | c :: _ => c.s
def backT (step : Nat) (f : Int) : Nat := ((0 - (step : Int) * f) % 24).toNat
def onT (k step : Nat) : Int := (((k + step) % 24 : Nat) : Int)
def closedK (ws : List Wh) (step : Nat) (f : Int) (k : Nat) : Bool := okv (pAt (k : Int) ws) && okv (pAt (onT k step) ws) && eqv 8 (tV (backT step f) (pAt (onT k step) ws)).up (pAt (k : Int) ws).up
def closedD (ws : List Wh) (n : Int) : Bool :=
  match tid ws with
  | none => false
  | some R => (decide (1 ≤ n) && rowLen n.toNat) && (List.range 24).all (closedK ws (24 / n.toNat) (headS R))
theorem closedK_true {ws : List Wh} {step : Nat} {f : Int} {k : Nat} : closedK ws step f k = true ↔ okv (pAt (k : Int) ws) = true ∧ okv (pAt (onT k step) ws) = true ∧ tV (backT step f) (pAt (onT k step) ws) = pAt (k : Int) ws := by
  unfold closedK
  simp only [Bool.and_eq_true, and_assoc]
  constructor
  · rintro ⟨h1, h2, h3⟩; exact ⟨h1, h2, V.ext (eqv_same h3)⟩
  · rintro ⟨h1, h2, h3⟩; exact ⟨h1, h2, by rw [h3]; exact eqv_true fun _ _ => rfl⟩
theorem back_more (a b : Nat) (f : Int) (x : V) : tV (backT (a + b) f) x = tV (backT a f) (tV (backT b f) x) := by
  rw [tV_more]
  refine tV_same _ ?_
  unfold backT
  have e : (((a + b : Nat) : Int)) * f = (a : Int) * f + (b : Int) * f := by rw [Int.natCast_add, Int.add_mul]
  rw [e]
  generalize (a : Int) * f = p
  generalize (b : Int) * f = q
  omega
theorem closed_steps {ws : List Wh} {step : Nat} {f : Int} (h : ∀ k, k < 24 → closedK ws step f k = true) : ∀ j k, k < 24 → tV (backT (j * step) f) (pAt (onT k (j * step)) ws) = pAt (k : Int) ws
  | 0, k, hk => by
    have e : onT k (0 * step) = (k : Int) := by unfold onT; omega
    have e2 : backT (0 * step) f = 0 := by unfold backT; simp
    rw [e, e2, tV_none]
  | j + 1, k, hk => by
    have ih := closed_steps h j k hk
    have h1 := (closedK_true.1 (h ((k + j * step) % 24) (Nat.mod_lt _ (by omega)))).2.2
    have e : onT ((k + j * step) % 24) step = onT k ((j + 1) * step) := by
      unfold onT
      rw [Nat.succ_mul]
      omega
    have e2 : (((k + j * step) % 24 : Nat) : Int) = onT k (j * step) := rfl
    rw [e, e2] at h1
    rw [show (j + 1) * step = j * step + step from Nat.succ_mul _ _, back_more, ← ih, ← h1, Nat.succ_mul]
/-- What is closed is closed for each divisor. -/
theorem say_closed {ws : List Wh} {n m : Nat} (h : closedD ws n = true) (hm : 1 ≤ m) (hd : n % m = 0) : closedD ws m = true := by
  unfold closedD at *
  cases hR : tid ws with
  | none => rw [hR] at h; cases h
  | some R =>
    rw [hR] at h
    simp only [Bool.and_eq_true, Int.toNat_natCast, List.all_eq_true, List.mem_range] at h ⊢
    obtain ⟨⟨h1, h2⟩, h3⟩ := h
    obtain ⟨n1, n2, n3⟩ := rowLen_in h2
    obtain ⟨q, hq⟩ : ∃ q, n = m * q := ⟨n / m, by have := Nat.div_add_mod n m; omega⟩
    have hs := rowLen_part h2
    have e0 : 24 / n * q * m = 24 := by rw [Nat.mul_assoc, Nat.mul_comm q m, ← hq]; exact hs
    have e1 : 24 / m = q * (24 / n) := by
      have : 24 / m = 24 / n * q * m / m := by rw [e0]
      rw [this, Nat.mul_div_cancel _ (by omega), Nat.mul_comm]
    have e2 : 24 % m = 0 := by
      rw [← e0]; exact Nat.mul_mod_left _ _
    refine ⟨⟨decide_eq_true (by omega), ?_⟩, fun k hk => ?_⟩
    · unfold rowLen
      rw [Bool.and_eq_true]
      exact ⟨decide_eq_true hm, decide_eq_true e2⟩
    · rw [e1]
      refine closedK_true.2 ⟨(closedK_true.1 (h3 k hk)).1, ?_, closed_steps h3 q k hk⟩
      have := (closedK_true.1 (h3 ((k + q * (24 / n)) % 24) (Nat.mod_lt _ (by omega)))).1
      exact this
theorem closed_tid {ws : List Wh} {n : Int} (h : closedD ws n = true) : ∃ R, tid ws = some R := by
  unfold closedD at h
  cases hR : tid ws with
  | none => rw [hR] at h; cases h
  | some R => exact ⟨R, rfl⟩

end Go.Proofs.Ytbdhbkedeglagaa
/- impl: wheels that roll. -/
namespace Go.Proofs.Ytbdhbkedeglagaa
set_option maxRecDepth 20000
open Go.ChangeShapes Go.WideShapes Go.ChangeAt Go.RowKit
set_option linter.unusedVariables false
set_option linter.unusedSimpArgs false

theorem fits_yes (t m : Int) (h0 : 6 ≤ t) (h1 : t ≤ m) (w : World) : Calls Try.prog 56 #[.int .i64 t, .int .i64 m] w fun e w' => e = .returned .nilIface ∧ w = w' := by
  go_enter Try.func56, Try.ntmps56
  go_wp2
  go_ret
  exact ⟨rfl, rfl⟩
def misV (t m : Int) : Value := .iface 105 (.agg #[.int .i64 t, .int .i64 m])
theorem fits_no (t m : Int) (h : t < 6 ∨ m < t) (w : World) : Calls Try.prog 56 #[.int .i64 t, .int .i64 m] w fun e w' => e = .returned (misV t m) ∧ w = w' := by
  unfold misV
  by_cases h0 : t < 6
  · clear h
    go_enter Try.func56, Try.ntmps56
    go_wp2
    go_ret
    exact ⟨rfl, rfl⟩
  · have h1 : m < t := by omega
    clear h
    go_enter Try.func56, Try.ntmps56
    go_wp2
    go_ret
    exact ⟨rfl, rfl⟩
theorem one_below (w : World) (o : Obj) : Below w.heap.size w (w.alloc o) := (Below.refl _ _).alloc (Nat.le_refl _) _
def rollV (a b : Int) (i : Bool) : Value := .agg #[.int .i64 a, .int .i64 b, .bool i]
set_option maxHeartbeats 1000000 in
theorem rolling_yes (a b : Int) (i : Bool) (h : ringB a b i = true) (w : World) : Calls Try.prog 32 #[.int .i64 a, .int .i64 b, .bool i] w fun e w' => e = .returned (.tuple #[rollV a b i, .nilIface]) ∧ Below w.heap.size w w' := by
  obtain ⟨h1, h2, h3⟩ := ringB_true.1 h
  have F1 := fun w => fits_yes a 240 (by omega) (by omega) w
  clear h
  unfold rollV
  cases i
  · have F2 := fun w => fits_yes b 240 (by omega) (by omega) w
    clear h3
    go_enter Try.func32, Try.ntmps32
    go_wp2_with fail
    refine (F1 _).mono ?_; rintro e w1 ⟨rfl, rfl⟩
    go_wp2_with fail
    refine (F2 _).mono ?_; rintro e w1 ⟨rfl, rfl⟩
    go_wp2
    simp [bodyPost, results, Try.results32, go_sem]
    exact one_below _ _
  · have h4 := h3 rfl
    have F2 := fun w => fits_yes b (a - 1) (by omega) (by omega) w
    clear h3
    go_enter Try.func32, Try.ntmps32
    go_wp2_with fail
    refine (F1 _).mono ?_; rintro e w1 ⟨rfl, rfl⟩
    go_wp2_with fail
    refine (F2 _).mono ?_; rintro e w1 ⟨rfl, rfl⟩
    go_wp2
    simp [bodyPost, results, Try.results32, go_sem]
    exact one_below _ _
/-- A failed one. -/
def NoRoll (w : World) (e : Ending) (w' : World) : Prop := ∃ t m : Int, e = .returned (.tuple #[rollV 0 0 false, misV t m]) ∧ Below w.heap.size w w'
set_option maxHeartbeats 1000000 in
theorem rolling_no (a b : Int) (i : Bool) (h : ringB a b i = false) (w : World) : Calls Try.prog 32 #[.int .i64 a, .int .i64 b, .bool i] w (NoRoll w) := by
  unfold NoRoll
  rcases ringB_cases h with h1 | ⟨h1, h2⟩ | ⟨h1, h2, rfl, h3⟩
  · have F1 := fun w => fits_no a 240 h1 w
    clear h h1
    go_enter Try.func32, Try.ntmps32
    go_wp2_with fail
    refine (F1 _).mono ?_; rintro e w1 ⟨rfl, rfl⟩
    unfold misV
    go_wp2
    simp [bodyPost, results, Try.results32, go_sem, rollV]
    exact ⟨⟨_, _, rfl⟩, one_below _ _⟩
  · have F1 := fun w => fits_yes a 240 (by omega) (by omega) w
    cases i
    · have F2 := fun w => fits_no b 240 (by omega) w
      clear h h2
      go_enter Try.func32, Try.ntmps32
      go_wp2_with fail
      refine (F1 _).mono ?_; rintro e w1 ⟨rfl, rfl⟩
      go_wp2_with fail
      refine (F2 _).mono ?_; rintro e w1 ⟨rfl, rfl⟩
      unfold misV
      go_wp2
      simp [bodyPost, results, Try.results32, go_sem, rollV]
      exact ⟨⟨_, _, rfl⟩, one_below _ _⟩
    · have F2 := fun w => fits_no b (a - 1) (by omega) w
      clear h h2
      go_enter Try.func32, Try.ntmps32
      go_wp2_with fail
      refine (F1 _).mono ?_; rintro e w1 ⟨rfl, rfl⟩
      go_wp2_with fail
      refine (F2 _).mono ?_; rintro e w1 ⟨rfl, rfl⟩
      unfold misV
      go_wp2
      simp [bodyPost, results, Try.results32, go_sem, rollV]
      exact ⟨⟨_, _, rfl⟩, one_below _ _⟩
  · have F1 := fun w => fits_yes a 240 (by omega) (by omega) w
    have F2 := fun w => fits_no b (a - 1) (by omega) w
    clear h h2 h3
    go_enter Try.func32, Try.ntmps32
    go_wp2_with fail
    refine (F1 _).mono ?_; rintro e w1 ⟨rfl, rfl⟩
    go_wp2_with fail
    refine (F2 _).mono ?_; rintro e w1 ⟨rfl, rfl⟩
    unfold misV
    go_wp2
    simp [bodyPost, results, Try.results32, go_sem, rollV]
    exact ⟨⟨_, _, rfl⟩, one_below _ _⟩

/-- Where a rolling wheel lies. -/
def RollAt (w : World) (g : Nat) (a b : Int) (i : Bool) : Prop := g < w.heap.size ∧ w.rangeAt g 0 [.int .i64 a, .int .i64 b, .bool i]
theorem RollAt.below {w w' : World} {g : Nat} {a b : Int} {i : Bool} (h : RollAt w g a b i) (hb : Below w.heap.size w w') : RollAt w' g a b i :=
  ⟨Nat.lt_of_lt_of_le h.1 hb.size, fun j v hv => (World.cell?_of_block (hb.block g h.1)).trans (h.2 j v hv)⟩
theorem RollAt.drew {w : World} {g : Nat} {a b : Int} {i : Bool} (h : RollAt w g a b i) : RollAt w.drew g a b i := h
theorem RollAt.new (w : World) (a b : Int) (i : Bool) (T : Nat) : RollAt (w.alloc (.cells #[.int .i64 a, .int .i64 b, .bool i] T)) w.heap.size a b i := by
  refine ⟨by simp, fun j v hv => ?_⟩
  rw [Nat.zero_add, cell_of_row _ _ _ _ _ _ (heap_alloc_new w _)]
  simpa using hv
theorem cell_field {w : World} {g : Nat} {cs : List Value} {v : Value} (h : w.rangeAt g 0 cs) (j : Nat) (hj : cs[j]? = some v) : w.cell? ⟨g, j, none⟩ = some v := by
  have := h j v hj
  rwa [Nat.zero_add] at this
theorem info_roll : (Try.prog.info? 51).map (·.size) = some 3 := by kernel_rfl
theorem common_any (x y : Nat) (i : Bool) (hx : x ≤ 1000000) (hy : y ≤ 1000000) (w : World) : Calls Try.prog 57 #[rollV x y i] w fun e w' => e = .returned (.int .i64 (gOf (x : Int) (y : Int) : Nat)) ∧ Below w.heap.size w w' := by
  have G := fun w => gcd_any x y hx hy w
  rw [gOf_nat]
  generalize Nat.gcd x y = g at *
  unfold rollV
  go_enter Try.func57, Try.ntmps57
  go_wp2_with fail
  refine (G _).mono ?_; rintro e w1 ⟨rfl, m, rfl⟩
  go_wp2
  go_ret
  exact ⟨rfl, below_drewN (one_below _ _) m⟩

set_option maxHeartbeats 1000000 in
theorem cusps_of (x y : Nat) (i : Bool) (hx : 1 ≤ x ∧ x ≤ 240) (hy : y ≤ 240) (w : World) : Calls Try.prog 33 #[rollV x y i] w fun e w' => e = .returned (.int .i64 ((x : Int).tdiv (gOf (x : Int) (y : Int) : Nat))) ∧ Below w.heap.size w w' := by
  have G := fun w => common_any x y i (by omega) (by omega) w
  have g1 := gOf_pos (x := x) (y := y) hx.1
  generalize gOf (x : Int) (y : Int) = g at *
  have hR := RollAt.new w x y i 51
  have hL := one_below w (.cells #[.int .i64 (x : Int), .int .i64 (y : Int), .bool i] 51)
  have hgz : ((g : Int) == 0) = false := by simp; omega
  have hgn : ¬ (g : Int) = 0 := by omega
  have hgm : ¬ g = 0 := by omega
  obtain ⟨q, hq⟩ : ∃ q : Int, (x : Int).tdiv (g : Int) = q := ⟨_, rfl⟩
  have hq2 : q.natAbs ≤ 240 := by rw [← hq, Int.natAbs_tdiv]; exact Nat.le_trans (Nat.div_le_self _ _) (by omega)
  have hqw : IntKind.i64.wrap q = q := by rw [IntKind.wrap_i64]; omega
  unfold rollV
  go_enter Try.func33, Try.ntmps33
  go_upto_region 1 with fail
  show Code.wp _ _ _ _ (w.alloc (.cells #[.int .i64 (x : Int), .int .i64 (y : Int), .bool i] 51))
  generalize (w.alloc (.cells #[.int .i64 (x : Int), .int .i64 (y : Int), .bool i] 51)) = W at *
  refine wp_region_held_drew (S := fun w' => RollAt w' w.heap.size x y i ∧ Below w.heap.size w w') (by kernel_rfl) ⟨hR.drew, hL.drew⟩ (fun hHeld => ?_)
  clear hR hL
  refine wpAnyH_take (i := 0) (oi := _) (v := .pointer (some ⟨w.heap.size, 0, none⟩)) rfl (by kernel_rfl) (by kernel_rfl) (by kernel_rfl) (fun _ _ _ h => h) (Or.inl ⟨by rfl, fun w h => by go_simp⟩) hHeld ?_
  try simp only [Act.put, List.setIfInBounds_toArray, List.set_cons_zero, List.set_cons_succ, List.getElem_toArray, List.getElem_cons_succ, List.getElem_cons_zero]
  refine wpAnyH_take (i := 1) (oi := _) (v := .int .i64 x) rfl (by kernel_rfl) (by kernel_rfl) (by kernel_rfl) (fun _ _ _ h => h) (Or.inl ⟨by rfl, fun w h => by have hcell := h.1.2 0 _ rfl; go_simp⟩) hHeld ?_
  try simp only [Act.put, List.setIfInBounds_toArray, List.set_cons_zero, List.set_cons_succ, List.getElem_toArray, List.getElem_cons_succ, List.getElem_cons_zero]
  refine wpAnyH_take (i := 2) (oi := _) (v := rollV x y i) rfl (by kernel_rfl) (by kernel_rfl) (by kernel_rfl) (fun _ _ _ h => h) (yieldsIf_load_mid (by rfl) _ _ rfl _ _ rfl [.int .i64 (x : Int), .int .i64 (y : Int), .bool i] _ (fun w h => h.1.2) Try.underlying51 rfl info_roll) hHeld ?_
  try simp only [Act.put, List.setIfInBounds_toArray, List.set_cons_zero, List.set_cons_succ, List.getElem_toArray, List.getElem_cons_succ, List.getElem_cons_zero]
  refine wpAnyH_ready (rs := [3]) (by kernel_rfl) (by simp) ?_
  refine AllReadyH.cons (o := _) rfl (fun K hK => ?_) AllReadyH.nil
  go_simp
  refine (G _).mono ?_; rintro e w1 ⟨rfl, hb⟩
  go_wp2_with fail
  obtain ⟨h1, h2⟩ := hHeld
  refine hK.out _ _ ⟨h1.below hb, below_next h2 hb⟩ (fun hHeld => ?_)
  clear hK K
  try simp only [Act.put, List.setIfInBounds_toArray, List.set_cons_zero, List.set_cons_succ, List.getElem_toArray, List.getElem_cons_succ, List.getElem_cons_zero]
  clear h1 h2 hb G
  refine wpAnyH_take (i := 4) (oi := _) (v := .int .i64 q) rfl (by kernel_rfl) (by kernel_rfl) (by kernel_rfl) (fun _ _ _ h => h) (Or.inl ⟨by rfl, fun w h => by go_simp⟩) hHeld ?_
  try simp only [Act.put, List.setIfInBounds_toArray, List.set_cons_zero, List.set_cons_succ, List.getElem_toArray, List.getElem_cons_succ, List.getElem_cons_zero]
  refine wpAnyH_take (i := 5) (oi := _) (v := .int .i64 q) rfl (by kernel_rfl) (by kernel_rfl) (by kernel_rfl) (fun _ _ _ h => h) (Or.inl ⟨by rfl, fun w h => by go_simp⟩) hHeld ?_
  try simp only [Act.put, List.setIfInBounds_toArray, List.set_cons_zero, List.set_cons_succ, List.getElem_toArray, List.getElem_cons_succ, List.getElem_cons_zero]
  refine wpAnyH_done (by kernel_rfl) ?_ _
  obtain ⟨h1, h2⟩ := hHeld
  go_wp2
  go_ret
  exact ⟨by rw [hq]; rfl, h2⟩
set_option maxHeartbeats 1000000 in
theorem rounds_of (x y : Nat) (i : Bool) (hx : 1 ≤ x ∧ x ≤ 240) (hy : 1 ≤ y ∧ y ≤ 240) (w : World) : Calls Try.prog 36 #[rollV x y i] w fun e w' => e = .returned (.int .i64 ((y : Int).tdiv (gOf (x : Int) (y : Int) : Nat))) ∧ Below w.heap.size w w' := by
  have G := fun w => common_any x y i (by omega) (by omega) w
  have g1 := gOf_pos (x := x) (y := y) hx.1
  generalize gOf (x : Int) (y : Int) = g at *
  have hR := RollAt.new w x y i 51
  have hL := one_below w (.cells #[.int .i64 (x : Int), .int .i64 (y : Int), .bool i] 51)
  have hgz : ((g : Int) == 0) = false := by simp; omega
  have hgn : ¬ (g : Int) = 0 := by omega
  have hgm : ¬ g = 0 := by omega
  obtain ⟨q, hq⟩ : ∃ q : Int, (y : Int).tdiv (g : Int) = q := ⟨_, rfl⟩
  have hq2 : q.natAbs ≤ 240 := by rw [← hq, Int.natAbs_tdiv]; exact Nat.le_trans (Nat.div_le_self _ _) (by omega)
  have hqw : IntKind.i64.wrap q = q := by rw [IntKind.wrap_i64]; omega
  unfold rollV
  go_enter Try.func36, Try.ntmps36
  go_upto_region 1 with fail
  show Code.wp _ _ _ _ (w.alloc (.cells #[.int .i64 (x : Int), .int .i64 (y : Int), .bool i] 51))
  generalize (w.alloc (.cells #[.int .i64 (x : Int), .int .i64 (y : Int), .bool i] 51)) = W at *
  refine wp_region_held_drew (S := fun w' => RollAt w' w.heap.size x y i ∧ Below w.heap.size w w') (by kernel_rfl) ⟨hR.drew, hL.drew⟩ (fun hHeld => ?_)
  clear hR hL
  refine wpAnyH_take (i := 0) (oi := _) (v := .pointer (some ⟨w.heap.size, 1, none⟩)) rfl (by kernel_rfl) (by kernel_rfl) (by kernel_rfl) (fun _ _ _ h => h) (Or.inl ⟨by rfl, fun w h => by go_simp⟩) hHeld ?_
  try simp only [Act.put, List.setIfInBounds_toArray, List.set_cons_zero, List.set_cons_succ, List.getElem_toArray, List.getElem_cons_succ, List.getElem_cons_zero]
  refine wpAnyH_take (i := 1) (oi := _) (v := .int .i64 y) rfl (by kernel_rfl) (by kernel_rfl) (by kernel_rfl) (fun _ _ _ h => h) (Or.inl ⟨by rfl, fun w h => by have hcell := (cell_field h.1.2 1 rfl); go_simp⟩) hHeld ?_
  try simp only [Act.put, List.setIfInBounds_toArray, List.set_cons_zero, List.set_cons_succ, List.getElem_toArray, List.getElem_cons_succ, List.getElem_cons_zero]
  refine wpAnyH_take (i := 2) (oi := _) (v := rollV x y i) rfl (by kernel_rfl) (by kernel_rfl) (by kernel_rfl) (fun _ _ _ h => h) (yieldsIf_load_mid (by rfl) _ _ rfl _ _ rfl [.int .i64 (x : Int), .int .i64 (y : Int), .bool i] _ (fun w h => h.1.2) Try.underlying51 rfl info_roll) hHeld ?_
  try simp only [Act.put, List.setIfInBounds_toArray, List.set_cons_zero, List.set_cons_succ, List.getElem_toArray, List.getElem_cons_succ, List.getElem_cons_zero]
  refine wpAnyH_ready (rs := [3]) (by kernel_rfl) (by simp) ?_
  refine AllReadyH.cons (o := _) rfl (fun K hK => ?_) AllReadyH.nil
  go_simp
  refine (G _).mono ?_; rintro e w1 ⟨rfl, hb⟩
  go_wp2_with fail
  obtain ⟨h1, h2⟩ := hHeld
  refine hK.out _ _ ⟨h1.below hb, below_next h2 hb⟩ (fun hHeld => ?_)
  clear hK K
  try simp only [Act.put, List.setIfInBounds_toArray, List.set_cons_zero, List.set_cons_succ, List.getElem_toArray, List.getElem_cons_succ, List.getElem_cons_zero]
  clear h1 h2 hb G
  refine wpAnyH_take (i := 4) (oi := _) (v := .int .i64 q) rfl (by kernel_rfl) (by kernel_rfl) (by kernel_rfl) (fun _ _ _ h => h) (Or.inl ⟨by rfl, fun w h => by go_simp⟩) hHeld ?_
  try simp only [Act.put, List.setIfInBounds_toArray, List.set_cons_zero, List.set_cons_succ, List.getElem_toArray, List.getElem_cons_succ, List.getElem_cons_zero]
  refine wpAnyH_take (i := 5) (oi := _) (v := .int .i64 q) rfl (by kernel_rfl) (by kernel_rfl) (by kernel_rfl) (fun _ _ _ h => h) (Or.inl ⟨by rfl, fun w h => by go_simp⟩) hHeld ?_
  try simp only [Act.put, List.setIfInBounds_toArray, List.set_cons_zero, List.set_cons_succ, List.getElem_toArray, List.getElem_cons_succ, List.getElem_cons_zero]
  refine wpAnyH_done (by kernel_rfl) ?_ _
  obtain ⟨h1, h2⟩ := hHeld
  go_wp2
  go_ret
  exact ⟨by rw [hq]; rfl, h2⟩

theorem built_only (r : Int) : Try.prog.built 74 [(0, .int .i64 r)] = some (vec 8 (onl r)) := by kernel_rfl
section
variable {P : Program} {ops : Array Oper} {rest : List Oper} {o : Oper} {a : Act} {Q : Exit → Act → World → Prop} {w : World}
/-- Building a point of one number. -/
theorem build_only {T : TypeId} {x : Operand} {r : Int} (hgd : o.guard = none) (ho : o.op = .build T #[(0, x)]) (hx : a.eval x = .int .i64 r)
    (hbu : ∀ r : Int, P.built T [(0, .int .i64 r)] = some (vec 8 (onl r)))
    (h : wpList P ops Q rest (a.put o.dst (pt (onl r))) w) : wpList P ops Q (o :: rest) a w := by
  have e : (#[(0, x)].map fun (p : Nat × Operand) => (p.1, a.eval p.2)).toList = [(0, .int .i64 r)] := by simp [hx]
  refine wpList_build hgd T _ ho ?_ ?_
  · show (P.built T (#[(0, x)].map fun (p : Nat × Operand) => (p.1, a.eval p.2)).toList).isSome = true
    rw [e, hbu]; rfl
  · show wpList P ops Q rest (a.put o.dst (.agg ((P.built T (#[(0, x)].map fun (p : Nat × Operand) => (p.1, a.eval p.2)).toList).getD #[]))) w
    rw [e, hbu]; exact h
end

set_option maxHeartbeats 1000000 in
theorem circle_of (x y : Nat) (i : Bool) (rad sp : Int) (hx : 1 ≤ x ∧ x ≤ 240) (hy : y ≤ 240) (hs : sp.natAbs ≤ 1000) (w : World) : Calls Try.prog 58 #[rollV x y i, .int .i64 rad, .int .i64 sp] w fun e w' => e = .returned (wh ⟨sp.tdiv (gOf (x : Int) (y : Int) : Nat), dn (onl rad)⟩) ∧ Below w.heap.size w w' := by
  have G := fun w => common_any x y i (by omega) (by omega) w
  have g1 := gOf_pos (x := x) (y := y) hx.1
  generalize gOf (x : Int) (y : Int) = g at *
  have hR := (RollAt.new w x y i 51).below (one_below _ (.cells (vec 9 nul) 76))
  have hO : RowAt ((w.alloc (.cells #[.int .i64 (x : Int), .int .i64 (y : Int), .bool i] 51)).alloc (.cells (vec 9 nul) 76)) (w.heap.size + 1) 9 76 nul := RowAt.newAt rfl (by simp)
  have hL : Below w.heap.size w ((w.alloc (.cells #[.int .i64 (x : Int), .int .i64 (y : Int), .bool i] 51)).alloc (.cells (vec 9 nul) 76)) := (one_below _ _).alloc (by simp) _
  have hgz : ((g : Int) == 0) = false := by simp; omega
  have hgn : ¬ (g : Int) = 0 := by omega
  have hgm : ¬ g = 0 := by omega
  obtain ⟨q, hq⟩ : ∃ q : Int, sp.tdiv (g : Int) = q := ⟨_, rfl⟩
  have hq2 : q.natAbs ≤ 1000 := by rw [← hq, Int.natAbs_tdiv]; exact Nat.le_trans (Nat.div_le_self _ _) (by omega)
  have hqw : IntKind.i64.wrap q = q := by rw [IntKind.wrap_i64]; omega
  unfold rollV at *
  go_enter Try.func58, Try.ntmps58
  go_upto_region 1 with fail
  show Code.wp _ _ _ _ ((w.alloc (.cells #[.int .i64 (x : Int), .int .i64 (y : Int), .bool i] 51)).alloc (.cells (vec 9 nul) 76))
  generalize ((w.alloc (.cells #[.int .i64 (x : Int), .int .i64 (y : Int), .bool i] 51)).alloc (.cells (vec 9 nul) 76)) = W at *
  have HR := Lib.hid hR
  have HO := Lib.hid hO
  have HL := Lib.hid hL
  clear hR hO hL
  go_wp2_with (refine wpList_load_mid rfl _ _ rfl _ _ rfl [.int .i64 (x : Int), .int .i64 (y : Int), .bool i] _ HR.out.2 Try.underlying51 rfl info_roll ?_)
  refine (G _).mono ?_; rintro e w1 ⟨rfl, hb⟩
  have HO1 := Lib.hid (HO.out.below hb)
  have HL1 := Lib.hid (below_next HL.out hb)
  clear HO HL HR hb G
  go_wp2_with (first | (refine build_only rfl rfl rfl built_only ?_) | (refine build_wheel (T := 76) rfl rfl rfl rfl built_circle ?_) | (refine store_row (ty := 76) (g := w.heap.size + 1) rfl rfl rfl rfl HO1.out info_circle ?_))
  refine bodyPost_ret (results_row rfl rfl HO1.out.setRow Try.underlying76 rfl info_circle) rfl ?_
  rw [hq]
  exact ⟨rfl, below_setRow HL1.out (by omega) _⟩

set_option maxHeartbeats 1000000 in
theorem RingCusps_any (a b : Int) (i : Bool) (w : World) : Calls Try.prog 12 #[.int .i64 a, .int .i64 b, .bool i] w fun e w' => e = .returned (toldN (cuspO a b i)) ∧ Below w.heap.size w w' := by
  unfold cuspO
  cases h : ringB a b i with
  | false =>
    have R := rolling_no a b i h w
    clear h
    go_enter Try.func12, Try.ntmps12
    go_wp2_with fail
    refine R.mono ?_; rintro e w1 ⟨t, m, rfl, hb⟩
    unfold rollV misV
    go_wp2
    go_ret2
    exact ⟨rfl, hb.alloc hb.size _⟩
  | true =>
    obtain ⟨x, y, rfl, rfl, h1, h2, h3, h4, h5⟩ := ring_nat h
    have R := rolling_yes x y i h w
    have C := fun w => cusps_of x y i ⟨by omega, h2⟩ h4 w
    generalize (x : Int).tdiv (gOf (x : Int) (y : Int) : Nat) = q at *
    rw [if_pos rfl]
    clear h h5
    go_enter Try.func12, Try.ntmps12
    go_wp2_with fail
    refine R.mono ?_; rintro e w1 ⟨rfl, hb⟩
    unfold rollV at *
    go_wp2_with fail
    refine (C _).mono ?_; rintro e w2 ⟨rfl, hb2⟩
    go_wp2
    go_ret2
    exact ⟨rfl, below_next (hb.alloc hb.size _) hb2⟩

set_option maxHeartbeats 1000000 in
theorem RingRounds_any (a b : Int) (i : Bool) (w : World) : Calls Try.prog 14 #[.int .i64 a, .int .i64 b, .bool i] w fun e w' => e = .returned (toldN (roundO a b i)) ∧ Below w.heap.size w w' := by
  unfold roundO
  cases h : ringB a b i with
  | false =>
    have R := rolling_no a b i h w
    clear h
    go_enter Try.func14, Try.ntmps14
    go_wp2_with fail
    refine R.mono ?_; rintro e w1 ⟨t, m, rfl, hb⟩
    unfold rollV misV
    go_wp2
    go_ret2
    exact ⟨rfl, hb.alloc hb.size _⟩
  | true =>
    obtain ⟨x, y, rfl, rfl, h1, h2, h3, h4, h5⟩ := ring_nat h
    have R := rolling_yes x y i h w
    have C := fun w => rounds_of x y i ⟨by omega, h2⟩ ⟨by omega, h4⟩ w
    generalize (y : Int).tdiv (gOf (x : Int) (y : Int) : Nat) = q at *
    rw [if_pos rfl]
    clear h h5
    go_enter Try.func14, Try.ntmps14
    go_wp2_with fail
    refine R.mono ?_; rintro e w1 ⟨rfl, hb⟩
    unfold rollV at *
    go_wp2_with fail
    refine (C _).mono ?_; rintro e w2 ⟨rfl, hb2⟩
    go_wp2
    go_ret2
    exact ⟨rfl, below_next (hb.alloc hb.size _) hb2⟩
end Go.Proofs.Ytbdhbkedeglagaa
/- The draws of rings. -/
namespace Go.Proofs.Ytbdhbkedeglagaa
set_option maxRecDepth 20000
open Go.ChangeShapes Go.WideShapes Go.ChangeAt Go.RowKit
set_option linter.unusedVariables false
set_option linter.unusedSimpArgs false

theorem div19 {k : Int} (h0 : 0 ≤ k) (h1 : k ≤ 19) : 0 ≤ k.tdiv 19 ∧ k.tdiv 19 ≤ 1 := by
  rw [Int.tdiv_eq_ediv_of_nonneg h0]; omega
theorem results_four {fn : Func} {t u v x : Tmp} (h : fn.results = #[.tmp t, .tmp u, .tmp v, .tmp x]) (tmps : Array Value) (P : Program) (w : World) :
    (results fn tmps).run P w = .ok (.tuple #[tmps.getD t undef, tmps.getD u undef, tmps.getD v undef, tmps.getD x undef]) w := by
  simp [results, h, go_sem]
set_option maxHeartbeats 2000000 in
theorem ring_drawn (R p : Nat) (w : World) (h : Rd w R p) (hp : p ≤ 900000) : Calls Try.prog 30 #[.pointer (some ⟨R, 0, none⟩)] w fun e w' =>
    ∃ (a b : Int) (i : Bool), e = .returned (.tuple #[.int .i64 a, .int .i64 b, .bool i]) ∧ (0 ≤ a ∧ a ≤ 200) ∧ (0 ≤ b ∧ b ≤ 400) ∧ Rd w' R (p + 5) ∧ w.grownBy w' (some R) := by
  have P1 := Lib.hid (pick_any R p 100 w h (by omega) (by omega))
  clear h
  go_enter Try.func30, Try.ntmps30
  go_wp2_with fail
  refine P1.out.mono ?_; rintro e w1 ⟨k1, rfl, k10, k11, hr1, hg1⟩
  have P2 := Lib.hid (pick_any R (p + 1) 20 w1 hr1 (by omega) (by omega))
  clear P1 hr1
  go_wp2_with fail
  refine P2.out.mono ?_; rintro e w2 ⟨k2, rfl, k20, k21, hr2, hg2⟩
  replace hg2 := only_trans' hg1 hg2
  have P3 := Lib.hid (pick_any R (p + 1 + 1) 60 w2 hr2 (by omega) (by omega))
  have D2 := div19 k20 (by omega)
  obtain ⟨q2, hq2⟩ : ∃ q2, k2.tdiv 19 = q2 := ⟨_, rfl⟩
  rw [hq2] at D2
  have q2w : IntKind.i64.wrap q2 = q2 := by rw [IntKind.wrap_i64]; omega
  clear P2 hr2 hg1
  go_wp2_with fail
  refine P3.out.mono ?_; rintro e w3 ⟨k3, rfl, k30, k31, hr3, hg3⟩
  replace hg3 := only_trans' hg2 hg3
  have P4 := Lib.hid (pick_any R (p + 1 + 1 + 1) 20 w3 hr3 (by omega) (by omega))
  clear P3 hr3 hg2
  go_wp2_with fail
  refine P4.out.mono ?_; rintro e w4 ⟨k4, rfl, k40, k41, hr4, hg4⟩
  replace hg4 := only_trans' hg3 hg4
  have P5 := Lib.hid (pick_any R (p + 1 + 1 + 1 + 1) 2 w4 hr4 (by omega) (by omega))
  have D4 := div19 k40 (by omega)
  obtain ⟨q4, hq4⟩ : ∃ q4, k4.tdiv 19 = q4 := ⟨_, rfl⟩
  rw [hq4] at D4
  have q4w : IntKind.i64.wrap q4 = q4 := by rw [IntKind.wrap_i64]; omega
  clear P4 hr4 hg3
  go_wp2_with fail
  refine P5.out.mono ?_; rintro e w5 ⟨k5, rfl, k50, k51, hr5, hg5⟩
  replace hg5 := only_trans' hg4 hg5
  clear P5 hg4
  go_wp2
  go_ret3
  exact ⟨_, _, _, rfl, by omega, by omega, hr5, hg5⟩

/-- A ring and a wheel drawn out of a code. -/
def DrewRing (w : World) (e : Ending) (w' : World) : Prop := ∃ (a b : Int) (i : Bool), e = .returned (.tuple #[.int .i64 a, .int .i64 b, .bool i]) ∧ (0 ≤ a ∧ a ≤ 200) ∧ (0 ≤ b ∧ b ≤ 400) ∧ Below w.heap.size w w'
set_option maxHeartbeats 2000000 in
theorem drawRingCusps (v : Value) (w : World) (h : CodeAt w v) : Calls Try.prog 11 #[v] w (DrewRing w) := by
  have O := Lib.hid (open_any v w h)
  clear h
  go_enter Try.func11, Try.ntmps11
  go_wp2_with fail
  refine O.out.mono ?_; rintro e w1 ⟨rfl, hr, hb⟩
  have z1 := hr.lt
  have T1 := Lib.hid (ring_drawn _ _ w1 hr (by omega))
  clear hr O
  go_wp2_with fail
  refine T1.out.mono ?_; rintro e w2 ⟨a, b, i, rfl, ha, hb', hr2, hg2⟩
  clear T1
  go_wp2
  go_ret3
  exact ⟨_, _, _, rfl, ha, hb', below_only hb hg2 (by omega) (Nat.le_refl _)⟩
set_option maxHeartbeats 2000000 in
theorem drawRingRounds (v : Value) (w : World) (h : CodeAt w v) : Calls Try.prog 15 #[v] w (DrewRing w) := by
  have O := Lib.hid (open_any v w h)
  clear h
  go_enter Try.func15, Try.ntmps15
  go_wp2_with fail
  refine O.out.mono ?_; rintro e w1 ⟨rfl, hr, hb⟩
  have z1 := hr.lt
  have T1 := Lib.hid (ring_drawn _ _ w1 hr (by omega))
  clear hr O
  go_wp2_with fail
  refine T1.out.mono ?_; rintro e w2 ⟨a, b, i, rfl, ha, hb', hr2, hg2⟩
  clear T1
  go_wp2
  go_ret3
  exact ⟨_, _, _, rfl, ha, hb', below_only hb hg2 (by omega) (Nat.le_refl _)⟩
set_option maxHeartbeats 2000000 in
theorem drawRingDesign (v : Value) (w : World) (h : CodeAt w v) : Calls Try.prog 17 #[v] w fun e w' =>
    ∃ (a b : Int) (i : Bool) (p : Int), e = .returned (.tuple #[.int .i64 a, .int .i64 b, .bool i, .int .i64 p]) ∧ (0 ≤ a ∧ a ≤ 200) ∧ (0 ≤ b ∧ b ≤ 400) ∧ (-1000 ≤ p ∧ p ≤ 1000) ∧ Below w.heap.size w w' := by
  have O := Lib.hid (open_any v w h)
  clear h
  go_enter Try.func17, Try.ntmps17
  go_wp2_with fail
  refine O.out.mono ?_; rintro e w1 ⟨rfl, hr, hb⟩
  have z1 := hr.lt
  have T1 := Lib.hid (ring_drawn _ _ w1 hr (by omega))
  clear hr O
  go_wp2_with fail
  refine T1.out.mono ?_; rintro e w2 ⟨a, b, i, rfl, ha, hb', hr2, hg2⟩
  have z2 := hr2.lt
  have P1 := Lib.hid (pick_any _ _ 61 w2 hr2 (by omega) (by omega))
  clear T1 hr2
  go_wp2_with fail
  refine P1.out.mono ?_; rintro e w3 ⟨k1, rfl, k10, k11, hr3, hg3⟩
  have P2 := Lib.hid (pick_any _ _ 20 w3 hr3 (by omega) (by omega))
  replace hg3 := only_trans' hg2 hg3
  clear P1 hr3 hg2
  go_wp2_with fail
  refine P2.out.mono ?_; rintro e w4 ⟨k2, rfl, k20, k21, hr4, hg4⟩
  replace hg4 := only_trans' hg3 hg4
  have D2 := div19 k20 (by omega)
  obtain ⟨q2, hq2⟩ : ∃ q2, k2.tdiv 19 = q2 := ⟨_, rfl⟩
  rw [hq2] at D2
  have q2w : IntKind.i64.wrap q2 = q2 := by rw [IntKind.wrap_i64]; omega
  clear P2 hr4 hg3
  go_wp2
  refine bodyPost_ret (results_four rfl _ _ _) rfl ?_
  exact ⟨_, _, _, _, rfl, ha, hb', by omega, below_only hb hg4 (by omega) (Nat.le_refl _)⟩
set_option maxHeartbeats 2000000 in
theorem drawRingSame (v : Value) (w : World) (h : CodeAt w v) : Calls Try.prog 24 #[v] w fun e w' =>
    ∃ (a b p q : Int), e = .returned (.tuple #[.int .i64 a, .int .i64 b, .int .i64 p, .int .i64 q]) ∧ (12 ≤ a ∧ a ≤ 71) ∧ (6 ≤ b ∧ b ≤ a - 6) ∧ Below w.heap.size w w' := by
  have O := Lib.hid (open_any v w h)
  clear h
  go_enter Try.func24, Try.ntmps24
  go_wp2_with fail
  refine O.out.mono ?_; rintro e w1 ⟨rfl, hr, hb⟩
  have z1 := hr.lt
  have P1 := Lib.hid (pick_any _ _ 60 w1 hr (by omega) (by omega))
  clear hr O
  go_wp2_with fail
  refine P1.out.mono ?_; rintro e w2 ⟨k1, rfl, k10, k11, hr2, hg2⟩
  rcases (show k1 = 0 ∨ 1 ≤ k1 by omega) with rfl | hk1
  · have P2 := fun n (hn : (1 : Int) ≤ n) => Lib.hid (pick_any _ _ n w2 hr2 (by omega) hn)
    clear P1 hr2
    go_wp2_with fail
    refine (P2 _ (by first | omega | (split <;> omega))).out.mono ?_; rintro e w3 ⟨k2, rfl, k20, k21, hr3, hg3⟩
    replace k21 : k2 < 1 := by first | omega | (revert k21; split <;> omega)
    have P3 := Lib.hid (pick_any _ _ 3 w3 hr3 (by omega) (by omega))
    replace hg3 := only_trans' hg2 hg3
    clear P2 hr3 hg2
    go_wp2_with fail
    refine P3.out.mono ?_; rintro e w4 ⟨k3, rfl, k30, k31, hr4, hg4⟩
    replace hg4 := only_trans' hg3 hg4
    clear P3 hg3
    by_cases h3 : 0 < k3
    · clear hr4
      go_wp2
      refine bodyPost_ret (results_four rfl _ _ _) rfl ?_
      exact ⟨_, _, _, _, rfl, by omega, by omega, below_only hb hg4 (by omega) (Nat.le_refl _)⟩
    · have P4 := Lib.hid (pick_any _ _ 21 w4 hr4 (by omega) (by omega))
      clear hr4
      go_wp2_with fail
      refine P4.out.mono ?_; rintro e w5 ⟨k4, rfl, k40, k41, hr5, hg5⟩
      have P5 := Lib.hid (pick_any _ _ 21 w5 hr5 (by omega) (by omega))
      replace hg5 := only_trans' hg4 hg5
      clear P4 hr5 hg4
      go_wp2_with fail
      refine P5.out.mono ?_; rintro e w6 ⟨k5, rfl, k50, k51, hr6, hg6⟩
      replace hg6 := only_trans' hg5 hg6
      clear P5 hg5
      go_wp2
      refine bodyPost_ret (results_four rfl _ _ _) rfl ?_
      exact ⟨_, _, _, _, rfl, by omega, by omega, below_only hb hg6 (by omega) (Nat.le_refl _)⟩
  · have hm : ¬ 12 + k1 - 11 ≤ 1 := by omega
    have P2 := fun n (hn : (1 : Int) ≤ n) => Lib.hid (pick_any _ _ n w2 hr2 (by omega) hn)
    clear P1 hr2
    go_wp2_with fail
    refine (P2 _ (by first | omega | (split <;> omega))).out.mono ?_; rintro e w3 ⟨k2, rfl, k20, k21, hr3, hg3⟩
    replace k21 : k2 < 12 + k1 - 11 := by first | omega | (revert k21; split <;> omega)
    have P3 := Lib.hid (pick_any _ _ 3 w3 hr3 (by omega) (by omega))
    replace hg3 := only_trans' hg2 hg3
    clear P2 hr3 hg2
    go_wp2_with fail
    refine P3.out.mono ?_; rintro e w4 ⟨k3, rfl, k30, k31, hr4, hg4⟩
    replace hg4 := only_trans' hg3 hg4
    clear P3 hg3
    by_cases h3 : 0 < k3
    · clear hr4
      go_wp2
      refine bodyPost_ret (results_four rfl _ _ _) rfl ?_
      exact ⟨_, _, _, _, rfl, by omega, by omega, below_only hb hg4 (by omega) (Nat.le_refl _)⟩
    · have P4 := Lib.hid (pick_any _ _ 21 w4 hr4 (by omega) (by omega))
      clear hr4
      go_wp2_with fail
      refine P4.out.mono ?_; rintro e w5 ⟨k4, rfl, k40, k41, hr5, hg5⟩
      have P5 := Lib.hid (pick_any _ _ 21 w5 hr5 (by omega) (by omega))
      replace hg5 := only_trans' hg4 hg5
      clear P4 hr5 hg4
      go_wp2_with fail
      refine P5.out.mono ?_; rintro e w6 ⟨k5, rfl, k50, k51, hr6, hg6⟩
      replace hg6 := only_trans' hg5 hg6
      clear P5 hg5
      go_wp2
      refine bodyPost_ret (results_four rfl _ _ _) rfl ?_
      exact ⟨_, _, _, _, rfl, by omega, by omega, below_only hb hg6 (by omega) (Nat.le_refl _)⟩
end Go.Proofs.Ytbdhbkedeglagaa
