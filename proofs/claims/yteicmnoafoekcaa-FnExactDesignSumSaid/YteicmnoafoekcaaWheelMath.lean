/-
  Designs: the mathematics (no program). A radius is eight numbers (V), a wheel a speed and a radius; a list of wheels is told by its totals.
-/
import Derived.Test.YteicmnoafoekcaaCycMath
import Derived.Test.YteicmnoafoekcaaVec
namespace Go.Proofs.Yteicmnoafoekcaa
set_option maxRecDepth 20000
set_option linter.unusedVariables false
set_option linter.unusedSimpArgs false

/-- Eight numbers, and nothing behind them. -/
def V : Type := Fin 8 → Int
def V.up (a : V) : Nat → Int := fun j => if h : j < 8 then a ⟨j, h⟩ else 0
def dn (f : Nat → Int) : V := fun j => f j.1
theorem up_at (a : V) (j : Nat) (h : j < 8) : a.up j = a ⟨j, h⟩ := by simp [V.up, h]
theorem up_dn (f : Nat → Int) : Eight (dn f).up f := fun j hj => by simp [V.up, dn, hj]
theorem dn_up (a : V) : dn a.up = a := by funext j; simp [V.up, dn]
theorem dn_same {f g : Nat → Int} (h : Eight f g) : dn f = dn g := by funext j; exact h j.1 j.2
theorem same_dn {f g : Nat → Int} (h : dn f = dn g) : Eight f g := fun j hj => congrFun h ⟨j, hj⟩
theorem V.ext {a b : V} (h : Eight a.up b.up) : a = b := by rw [← dn_up a, ← dn_up b, dn_same h]
def V.add (a b : V) : V := fun j => a j + b j
def V.zero : V := fun _ => 0
theorem V.add_comm (a b : V) : V.add a b = V.add b a := by funext j; exact Int.add_comm _ _
theorem V.add_assoc (a b c : V) : V.add (V.add a b) c = V.add a (V.add b c) := by funext j; exact Int.add_assoc _ _ _
theorem V.add_zero (a : V) : V.add a V.zero = a := by funext j; exact Int.add_zero _
theorem V.zero_add (a : V) : V.add V.zero a = a := by funext j; exact Int.zero_add _
theorem V.add_swap (a b c : V) : V.add (V.add a b) c = V.add (V.add a c) b := by rw [V.add_assoc, V.add_comm b c, ← V.add_assoc]
theorem V.four (a b c d : V) : V.add (V.add a b) (V.add c d) = V.add (V.add a c) (V.add b d) := by
  rw [V.add_assoc, ← V.add_assoc b c d, V.add_comm b c, V.add_assoc c b d, ← V.add_assoc]
theorem V.cancel {a b c : V} (h : V.add a b = V.add a c) : b = c := by
  funext j
  have := congrFun h j
  exact Int.add_left_cancel this
theorem add_up (a b : V) : (V.add a b).up = add a.up b.up := by
  funext j
  by_cases h : j < 8
  · simp [V.up, V.add, add, h]
  · simp [V.up, V.add, add, h]
theorem zero_up : V.zero.up = nul := by funext j; simp [V.up, V.zero, nul]
theorem dn_nul : dn nul = V.zero := rfl
theorem dn_add (f g : Nat → Int) : dn (add f g) = V.add (dn f) (dn g) := rfl
theorem dn_mul1 (f g : Nat → Int) : dn (mul1 f 1 g) = V.add (dn f) (dn g) := by funext j; show f j.1 + 1 * g j.1 = f j.1 + g j.1; omega
/-- A valid point. -/
def okv (a : V) : Bool := okc a.up
theorem okv_dn (f : Nat → Int) : okv (dn f) = okc f := okc_same (up_dn f)
theorem okv_zero : okv V.zero = true := by decide

/-- Turned n times by the root. -/
def tV (n : Nat) (a : V) : V := dn (stps n a.up)
theorem stp_add (f g : Nat → Int) : stp (add f g) = add (stp f) (stp g) := by
  funext j
  simp only [stp, add]
  by_cases h0 : j = 0
  · simp only [h0, if_true]; omega
  · by_cases h4 : j = 4
    · simp only [h4]; simp only [show ¬ (4 : Nat) = 0 from by decide, if_true, if_false]; omega
    · simp only [h0, h4, if_false]
theorem stps_lin (f g : Nat → Int) : ∀ n, stps n (add f g) = add (stps n f) (stps n g)
  | 0 => rfl
  | n + 1 => by show stp (stps n (add f g)) = _; rw [stps_lin f g n, stp_add]; rfl
theorem stps_nul : ∀ n, stps n nul = nul
  | 0 => rfl
  | n + 1 => by
    show stp (stps n nul) = nul
    rw [stps_nul n]
    funext j
    simp [stp, nul]
theorem tV_add (n : Nat) (a b : V) : tV n (V.add a b) = V.add (tV n a) (tV n b) := by
  unfold tV; rw [add_up, stps_lin]; rfl
theorem tV_zero (n : Nat) : tV n V.zero = V.zero := by unfold tV; rw [zero_up, stps_nul]; rfl
theorem tV_none (a : V) : tV 0 a = a := dn_up a
theorem tV_more (m n : Nat) (a : V) : tV m (tV n a) = tV (m + n) a := by
  unfold tV; rw [← stps_add a.up n m]; exact dn_same (stps_same (up_dn _) m)
theorem tV_round (a : V) : tV 24 a = a := by
  unfold tV; rw [dn_same (stps_round a.up), dn_up]
theorem tV_rounds (a : V) : ∀ q, tV (24 * q) a = a
  | 0 => tV_none a
  | q + 1 => by rw [Nat.mul_add, Nat.mul_one, ← tV_more, tV_round, tV_rounds a q]
theorem tV_mod (n : Nat) (a : V) : tV (n % 24) a = tV n a := by
  conv => rhs; rw [← Nat.mod_add_div n 24, ← tV_more, tV_rounds]
theorem tV_same {m n : Nat} (a : V) (h : m % 24 = n % 24) : tV m a = tV n a := by rw [← tV_mod m, ← tV_mod n, h]
theorem tV_trn (a : V) {t : Nat} (ht : t ≤ 23) : dn (trn a.up t) = tV t a := dn_same fun j hj => (trn_steps a.up t ht j hj).symm
/-- Products. -/
def prV (a b : V) : V := dn (prd a.up b.up)
theorem smul_lin (f g b : Nat → Int) : ∀ n, smul (add f g) b n = add (smul f b n) (smul g b n)
  | 0 => by funext j; simp [smul, add]
  | n + 1 => by
    funext j
    simp only [smul, smul_lin f g b n, mul1, add, Int.add_mul]
    omega
theorem smul_nul (b : Nat → Int) : ∀ n, smul nul b n = nul
  | 0 => by funext j; simp [smul, nul]
  | n + 1 => by
    funext j
    simp only [smul, smul_nul b n, mul1, nul]
    omega
theorem prV_add (a b c : V) : prV (V.add a b) c = V.add (prV a c) (prV b c) := by
  unfold prV
  rw [add_up, ← dn_add]
  refine dn_same fun j hj => ?_
  rw [← prd_smul _ _ j hj, smul_lin]
  show smul a.up c.up 8 j + smul b.up c.up 8 j = prd a.up c.up j + prd b.up c.up j
  rw [prd_smul _ _ j hj, prd_smul _ _ j hj]
theorem prV_zero (c : V) : prV V.zero c = V.zero := by
  unfold prV
  rw [zero_up, ← dn_nul]
  refine dn_same fun j hj => ?_
  rw [← prd_smul _ _ j hj, smul_nul]
theorem prV_comm (a b : V) : prV a b = prV b a := dn_same (prd_comm b.up a.up)
theorem prd_turns (f g : Nat → Int) : ∀ n, Eight (prd f (stps n g)) (stps n (prd f g))
  | 0 => fun j hj => rfl
  | n + 1 => fun j hj => (prd_stp f (stps n g) j hj).trans (stp_same (prd_turns f g n) j hj)
theorem prV_turn (a b : V) (n : Nat) : prV a (tV n b) = tV n (prV a b) := by
  unfold prV tV
  refine dn_same fun j hj => ?_
  rw [prd_same (up_dn _) j hj, prd_turns a.up b.up n j hj]
  exact (stps_same (up_dn _) n j hj).symm
theorem prV_turns (a b : V) (m n : Nat) : prV (tV m a) (tV n b) = tV (m + n) (prV a b) := by
  rw [prV_turn, prV_comm, prV_turn, prV_comm, tV_more, Nat.add_comm]

/-- A wheel. -/
structure Wh where
  s : Int
  r : V
theorem Wh.same {a b : Wh} (h : a.s = b.s) (k : a.r = b.r) : a = b := by
  cases a; cases b; simp only at h k; rw [h, k]
/-- The turns of a wheel at a turn. -/
def tm (t s : Int) : Nat := (t * s % 24).toNat
/-- Where the wheels point together at a turn. -/
def pAt (t : Int) : List Wh → V
  | [] => V.zero
  | w :: ws => V.add (tV (tm t w.s) w.r) (pAt t ws)
/-- All radii of one speed together. -/
def tot (s : Int) : List Wh → V
  | [] => V.zero
  | w :: ws => V.add (if w.s = s then w.r else V.zero) (tot s ws)
theorem pAt_append (t : Int) (b : List Wh) : ∀ a, pAt t (a ++ b) = V.add (pAt t a) (pAt t b)
  | [] => (V.zero_add _).symm
  | w :: a => by show V.add _ (pAt t (a ++ b)) = _; rw [pAt_append t b a, ← V.add_assoc]; rfl
theorem tot_append (s : Int) (b : List Wh) : ∀ a, tot s (a ++ b) = V.add (tot s a) (tot s b)
  | [] => (V.zero_add _).symm
  | w :: a => by show V.add _ (tot s (a ++ b)) = _; rw [tot_append s b a, ← V.add_assoc]; rfl

/-- A wheel added to a list whose speeds ascend. -/
def ins : List Wh → Wh → List Wh
  | [], w => [w]
  | c :: cs, w => if c.s < w.s then c :: ins cs w else if c.s = w.s then ⟨c.s, V.add c.r w.r⟩ :: cs else w :: c :: cs
/-- Whether that may be: the sum is asked; a first radius only if b says so. -/
def insOk (b : Bool) : List Wh → Wh → Bool
  | [], w => !b || okv w.r
  | c :: cs, w => if c.s < w.s then insOk b cs w else if c.s = w.s then okv (V.add c.r w.r) else !b || okv w.r
def run (b : Bool) : List Wh → List Wh → Option (List Wh)
  | out, [] => some out
  | out, w :: ws => if insOk b out w then run b (ins out w) ws else none
theorem tot_ins (s : Int) (w : Wh) : ∀ out, tot s (ins out w) = V.add (tot s out) (if w.s = s then w.r else V.zero)
  | [] => V.add_comm _ _
  | c :: cs => by
    unfold ins
    by_cases h : c.s < w.s
    · rw [if_pos h]
      show V.add _ (tot s (ins cs w)) = _
      rw [tot_ins s w cs, ← V.add_assoc]; rfl
    · by_cases h2 : c.s = w.s
      · rw [if_neg h, if_pos h2]
        show V.add (if c.s = s then V.add c.r w.r else V.zero) (tot s cs) = V.add (V.add (if c.s = s then c.r else V.zero) (tot s cs)) (if w.s = s then w.r else V.zero)
        rw [← h2]
        by_cases h3 : c.s = s
        · simp only [if_pos h3]; rw [V.add_swap]
        · simp only [if_neg h3]; rw [V.add_zero]
      · rw [if_neg h, if_neg h2]
        exact V.add_comm _ _
theorem pAt_ins (t : Int) (w : Wh) : ∀ out, pAt t (ins out w) = V.add (pAt t out) (tV (tm t w.s) w.r)
  | [] => V.add_comm _ _
  | c :: cs => by
    unfold ins
    by_cases h : c.s < w.s
    · rw [if_pos h]
      show V.add _ (pAt t (ins cs w)) = _
      rw [pAt_ins t w cs, ← V.add_assoc]; rfl
    · by_cases h2 : c.s = w.s
      · rw [if_neg h, if_pos h2]
        show V.add (tV (tm t c.s) (V.add c.r w.r)) (pAt t cs) = V.add (V.add (tV (tm t c.s) c.r) (pAt t cs)) (tV (tm t w.s) w.r)
        rw [← h2, tV_add, V.add_swap]
      · rw [if_neg h, if_neg h2]
        exact V.add_comm _ _
/-- The speeds ascend. -/
def Asc (l : List Wh) : Prop := l.Pairwise fun a b => a.s < b.s
theorem ins_speeds (w : Wh) : ∀ (out : List Wh) (c : Wh), c ∈ ins out w → c.s = w.s ∨ ∃ d ∈ out, d.s = c.s
  | [], c, h => by simp only [ins, List.mem_singleton] at h; exact .inl (by rw [h])
  | d :: ds, c, h => by
    unfold ins at h
    by_cases h1 : d.s < w.s
    · rw [if_pos h1] at h
      rcases List.mem_cons.1 h with h | h
      · exact .inr ⟨d, by simp, by rw [h]⟩
      · rcases ins_speeds w ds c h with h | ⟨e, he, hs⟩
        · exact .inl h
        · exact .inr ⟨e, by simp [he], hs⟩
    · by_cases h2 : d.s = w.s
      · rw [if_neg h1, if_pos h2] at h
        rcases List.mem_cons.1 h with h | h
        · exact .inl (by rw [h]; exact h2)
        · exact .inr ⟨c, by simp [h], rfl⟩
      · rw [if_neg h1, if_neg h2] at h
        rcases List.mem_cons.1 h with h | h
        · exact .inl (by rw [h])
        · exact .inr ⟨c, h, rfl⟩
theorem asc_ins (w : Wh) : ∀ out, Asc out → Asc (ins out w)
  | [], _ => by simp [ins, Asc]
  | c :: cs, h => by
    have hc := List.pairwise_cons.1 h
    unfold ins
    by_cases h1 : c.s < w.s
    · rw [if_pos h1]
      refine List.pairwise_cons.2 ⟨fun d hd => ?_, asc_ins w cs hc.2⟩
      rcases ins_speeds w cs d hd with h | ⟨e, he, hs⟩
      · omega
      · have := hc.1 e he; omega
    · by_cases h2 : c.s = w.s
      · rw [if_neg h1, if_pos h2]
        exact List.pairwise_cons.2 ⟨hc.1, hc.2⟩
      · rw [if_neg h1, if_neg h2]
        refine List.pairwise_cons.2 ⟨fun d hd => ?_, h⟩
        rcases List.mem_cons.1 hd with hd | hd
        · rw [hd]; omega
        · have := hc.1 d hd; omega
theorem run_keeps (b : Bool) : ∀ (ws out R : List Wh), run b out ws = some R → (Asc out → Asc R) ∧ (∀ s, tot s R = V.add (tot s out) (tot s ws)) ∧ (∀ t, pAt t R = V.add (pAt t out) (pAt t ws))
  | [], out, R, h => by
    simp only [run, Option.some.injEq] at h
    subst h
    exact ⟨id, fun s => (V.add_zero _).symm, fun t => (V.add_zero _).symm⟩
  | w :: ws, out, R, h => by
    unfold run at h
    split at h
    · obtain ⟨h1, h2, h3⟩ := run_keeps b ws _ R h
      refine ⟨fun ha => h1 (asc_ins w out ha), fun s => ?_, fun t => ?_⟩
      · rw [h2 s, tot_ins, V.add_assoc]; rfl
      · rw [h3 t, pAt_ins, V.add_assoc]; rfl
    · cases h

/-! When it can be: by the radii of each speed alone. -/
def look (s : Int) : List Wh → Option V
  | [] => none
  | c :: cs => if c.s = s then some c.r else look s cs
def pre (s : Int) (ws : List Wh) : List V := (ws.filter fun w => decide (w.s = s)).map (·.r)
def gd (b : Bool) : Option V → List V → Bool
  | _, [] => true
  | none, r :: rs => (!b || okv r) && gd b (some r) rs
  | some a, r :: rs => okv (V.add a r) && gd b (some (V.add a r)) rs
def ask (b : Bool) : Option V → V → Bool
  | none, r => !b || okv r
  | some a, r => okv (V.add a r)
def plus : Option V → V → V
  | none, r => r
  | some a, r => V.add a r
theorem gd_cons (b : Bool) (o : Option V) (r : V) (rs : List V) : gd b o (r :: rs) = (ask b o r && gd b (some (plus o r)) rs) := by cases o <;> rfl
theorem look_none {s : Int} : ∀ {cs : List Wh}, (∀ d ∈ cs, s < d.s) → look s cs = none
  | [], _ => rfl
  | c :: cs, h => by
    have := h c (by simp)
    unfold look
    rw [if_neg (by omega)]
    exact look_none fun d hd => h d (by simp [hd])
theorem look_ins (w : Wh) (s : Int) : ∀ out, Asc out → look s (ins out w) = if w.s = s then some (plus (look s out) w.r) else look s out
  | [], _ => by simp [ins, look, plus]
  | c :: cs, h => by
    have hc := List.pairwise_cons.1 h
    unfold ins
    by_cases h1 : c.s < w.s
    · rw [if_pos h1]
      simp only [look]
      by_cases h3 : c.s = s
      · rw [if_pos h3, if_neg (show ¬ w.s = s by omega), if_pos h3]
      · rw [if_neg h3, look_ins w s cs hc.2, if_neg h3]
    · by_cases h2 : c.s = w.s
      · rw [if_neg h1, if_pos h2]
        simp only [look]
        by_cases h3 : c.s = s
        · rw [if_pos h3, if_pos (show w.s = s by omega), if_pos h3]; rfl
        · rw [if_neg h3, if_neg (show ¬ w.s = s by omega), if_neg h3]
      · rw [if_neg h1, if_neg h2]
        simp only [look]
        by_cases h3 : w.s = s
        · rw [if_pos h3, if_pos h3, if_neg (show ¬ c.s = s by omega), look_none (fun d hd => by have := hc.1 d hd; omega)]; rfl
        · rw [if_neg h3, if_neg h3]
theorem insOk_look (b : Bool) (w : Wh) : ∀ out, Asc out → insOk b out w = ask b (look w.s out) w.r
  | [], _ => rfl
  | c :: cs, h => by
    have hc := List.pairwise_cons.1 h
    unfold insOk look
    by_cases h1 : c.s < w.s
    · rw [if_pos h1, if_neg (by omega), insOk_look b w cs hc.2]
    · by_cases h2 : c.s = w.s
      · rw [if_neg h1, if_pos h2, if_pos h2]; rfl
      · rw [if_neg h1, if_neg h2, if_neg h2, look_none (fun d hd => by have := hc.1 d hd; omega)]; rfl
theorem pre_cons (s : Int) (w : Wh) (ws : List Wh) : pre s (w :: ws) = if w.s = s then w.r :: pre s ws else pre s ws := by
  unfold pre
  by_cases h : w.s = s
  · simp [List.filter_cons, h]
  · simp [List.filter_cons, h]
theorem run_can (b : Bool) : ∀ (ws out : List Wh), Asc out → ((run b out ws).isSome = true ↔ ∀ s, gd b (look s out) (pre s ws) = true)
  | [], out, _ => ⟨fun _ s => by simp [pre, gd], fun _ => rfl⟩
  | w :: ws, out, h => by
    have hk := run_can b ws (ins out w) (asc_ins w out h)
    have hs : ∀ s, gd b (look s out) (pre s (w :: ws)) = ((if w.s = s then ask b (look s out) w.r else true) && gd b (look s (ins out w)) (pre s ws)) := fun s => by
      rw [pre_cons, look_ins w s out h]
      by_cases e : w.s = s
      · rw [if_pos e, if_pos e, if_pos e, gd_cons]
      · rw [if_neg e, if_neg e, if_neg e, Bool.true_and]
    unfold run
    rw [insOk_look b w out h]
    constructor
    · intro hr s
      rw [hs s]
      split at hr
      · rename_i ha
        have := hk.1 hr s
        by_cases e : w.s = s
        · subst e; rw [if_pos rfl, ha, this]; rfl
        · rw [if_neg e, this]; rfl
      · cases hr
    · intro hg
      have h0 := hg w.s
      rw [hs w.s, if_pos rfl, Bool.and_eq_true] at h0
      rw [if_pos h0.1]
      refine hk.2 fun s => ?_
      have := hg s
      rw [hs s, Bool.and_eq_true] at this
      exact this.2
theorem tot_pre (s : Int) : ∀ ws, tot s ws = (pre s ws).foldr V.add V.zero
  | [] => rfl
  | w :: ws => by
    rw [pre_cons]
    show V.add (if w.s = s then w.r else V.zero) (tot s ws) = _
    by_cases e : w.s = s
    · rw [if_pos e, if_pos e, tot_pre s ws]; rfl
    · rw [if_neg e, if_neg e, V.zero_add, tot_pre s ws]

/-! Tidy designs. -/
def inS (s : Int) : Bool := decide (-1000 ≤ s) && decide (s ≤ 1000)
def wOk (c : Wh) : Bool := inS c.s && okv c.r
def valid (ws : List Wh) : Bool := decide (ws.length ≤ 12) && ws.all wOk
def nz (c : Wh) : Bool := !(eqv 8 c.r.up nul)
theorem nz_no {c : Wh} (h : nz c = false) : c.r = V.zero := by
  unfold nz at h
  have h' : eqv 8 c.r.up nul = true := by simpa using h
  exact V.ext fun j hj => by rw [zero_up]; exact eqv_same h' j hj
theorem nz_zero {c : Wh} (h : c.r = V.zero) : nz c = false := by
  unfold nz
  rw [h, zero_up, eqv_true (fun j hj => rfl)]; rfl
theorem tot_nz (s : Int) : ∀ ws, tot s (ws.filter nz) = tot s ws
  | [] => rfl
  | w :: ws => by
    rw [List.filter_cons]
    by_cases h : nz w = true
    · rw [if_pos h]; show V.add _ (tot s (ws.filter nz)) = _; rw [tot_nz s ws]; rfl
    · rw [if_neg h, tot_nz s ws]
      show _ = V.add (if w.s = s then w.r else V.zero) (tot s ws)
      rw [nz_no (by simpa using h), ite_self, V.zero_add]
theorem pAt_nz (t : Int) : ∀ ws, pAt t (ws.filter nz) = pAt t ws
  | [] => rfl
  | w :: ws => by
    rw [List.filter_cons]
    by_cases h : nz w = true
    · rw [if_pos h]; show V.add _ (pAt t (ws.filter nz)) = _; rw [pAt_nz t ws]; rfl
    · rw [if_neg h, pAt_nz t ws]
      show _ = V.add (tV (tm t w.s) w.r) (pAt t ws)
      rw [nz_no (by simpa using h), tV_zero, V.zero_add]
def done (l : List Wh) : Option (List Wh) := if valid (l.filter nz) then some (l.filter nz) else none
def tidy (b : Bool) (ws : List Wh) : Option (List Wh) := (run b [] ws).bind done
/-- What a tidy design is. -/
structure Tidy (R : List Wh) : Prop where
  asc : Asc R
  nz : ∀ c ∈ R, nz c = true
  ok : valid R = true
theorem tidy_some {b : Bool} {ws R : List Wh} (h : tidy b ws = some R) : Tidy R ∧ (∀ s, tot s R = tot s ws) ∧ (∀ t, pAt t R = pAt t ws) := by
  unfold tidy at h
  cases hr : run b [] ws with
  | none => rw [hr] at h; cases h
  | some l =>
    rw [hr] at h
    obtain ⟨h1, h2, h3⟩ := run_keeps b ws [] l hr
    simp only [Option.bind_some, done] at h
    split at h
    · rename_i hv
      simp only [Option.some.injEq] at h
      subst h
      refine ⟨⟨(h1 List.Pairwise.nil).filter _, fun c hc => (List.mem_filter.1 hc).2, hv⟩, fun s => ?_, fun t => ?_⟩
      · rw [tot_nz, h2]; exact V.zero_add _
      · rw [pAt_nz, h3]; exact V.zero_add _
    · cases h
theorem tot_none {s : Int} : ∀ {cs : List Wh}, (∀ d ∈ cs, s < d.s) → tot s cs = V.zero
  | [], _ => rfl
  | c :: cs, h => by
    have := h c (by simp)
    show V.add (if c.s = s then c.r else V.zero) (tot s cs) = _
    rw [if_neg (by omega), V.zero_add]
    exact tot_none fun d hd => h d (by simp [hd])
theorem tidy_unique : ∀ {A B : List Wh}, Asc A → Asc B → (∀ c ∈ A, nz c = true) → (∀ c ∈ B, nz c = true) → (∀ s, tot s A = tot s B) → A = B
  | [], [], _, _, _, _, _ => rfl
  | [], b :: B, _, hB, _, nB, ht => by
    exfalso
    have h := ht b.s
    rw [show tot b.s (b :: B) = V.add (if b.s = b.s then b.r else V.zero) (tot b.s B) from rfl, if_pos rfl, tot_none ((List.pairwise_cons.1 hB).1), V.add_zero] at h
    have := nB b (by simp)
    rw [nz_zero h.symm] at this
    cases this
  | a :: A, [], hA, _, nA, _, ht => by
    exfalso
    have h := ht a.s
    rw [show tot a.s (a :: A) = V.add (if a.s = a.s then a.r else V.zero) (tot a.s A) from rfl, if_pos rfl, tot_none ((List.pairwise_cons.1 hA).1), V.add_zero] at h
    have := nA a (by simp)
    rw [nz_zero h] at this
    cases this
  | a :: A, b :: B, hA, hB, nA, nB, ht => by
    have cA := List.pairwise_cons.1 hA
    have cB := List.pairwise_cons.1 hB
    have hd : ∀ {a b : Wh} {A B : List Wh}, (∀ d ∈ A, a.s < d.s) → (∀ d ∈ B, b.s < d.s) → (∀ s, tot s (a :: A) = tot s (b :: B)) → nz a = true → ¬ a.s < b.s := fun {a b A B} h1 h2 ht na hl => by
      have h := ht a.s
      rw [show tot a.s (a :: A) = V.add (if a.s = a.s then a.r else V.zero) (tot a.s A) from rfl, if_pos rfl, tot_none h1, V.add_zero,
        tot_none (s := a.s) (cs := b :: B) (fun d hd => by
          rcases List.mem_cons.1 hd with e | e
          · rw [e]; exact hl
          · have := h2 d e; omega)] at h
      rw [nz_zero h] at na
      cases na
    have n1 := hd cA.1 cB.1 ht (nA a (by simp))
    have n2 := hd cB.1 cA.1 (fun s => (ht s).symm) (nB b (by simp))
    have es : a.s = b.s := by omega
    have er : a.r = b.r := by
      have h := ht a.s
      rw [show tot a.s (a :: A) = V.add (if a.s = a.s then a.r else V.zero) (tot a.s A) from rfl, if_pos rfl, tot_none cA.1, V.add_zero,
        show tot a.s (b :: B) = V.add (if b.s = a.s then b.r else V.zero) (tot a.s B) from rfl, if_pos es.symm, tot_none (by rw [es]; exact cB.1), V.add_zero] at h
      exact h
    have e : a = b := Wh.same es er
    subst e
    rw [tidy_unique cA.2 cB.2 (fun c hc => nA c (by simp [hc])) (fun c hc => nB c (by simp [hc])) (fun s => V.cancel (ht s))]
/-- Two tidy designs of the same totals are one. -/
theorem Tidy.unique {A B : List Wh} (hA : Tidy A) (hB : Tidy B) (h : ∀ s, tot s A = tot s B) : A = B := tidy_unique hA.asc hB.asc hA.nz hB.nz h
/-- Sorted so that those of one speed stay in order, it is the same. -/
theorem tidy_same {b : Bool} {L ws : List Wh} (h : ∀ s, pre s L = pre s ws) : tidy b L = tidy b ws := by
  have e : (run b [] L).isSome = (run b [] ws).isSome := by
    have h1 := run_can b L [] List.Pairwise.nil
    have h2 := run_can b ws [] List.Pairwise.nil
    have : (∀ s, gd b (look s []) (pre s L) = true) ↔ (∀ s, gd b (look s []) (pre s ws) = true) := ⟨fun k s => by rw [← h s]; exact k s, fun k s => by rw [h s]; exact k s⟩
    exact Bool.eq_iff_iff.2 (h1.trans (this.trans h2.symm))
  unfold tidy
  cases h1 : run b [] L with
  | none =>
    cases h2 : run b [] ws with
    | none => rfl
    | some R => rw [h1, h2] at e; cases e
  | some l =>
    cases h2 : run b [] ws with
    | none => rw [h1, h2] at e; cases e
    | some l' =>
      obtain ⟨a1, a2, _⟩ := run_keeps b L [] l h1
      obtain ⟨b1, b2, _⟩ := run_keeps b ws [] l' h2
      have hf : l.filter nz = l'.filter nz := tidy_unique ((a1 List.Pairwise.nil).filter _) ((b1 List.Pairwise.nil).filter _) (fun c hc => (List.mem_filter.1 hc).2) (fun c hc => (List.mem_filter.1 hc).2) fun s => by
        rw [tot_nz, tot_nz, a2, b2, tot_pre s L, tot_pre s ws, h s]
      simp only [Option.bind_some, done, hf]
theorem run_first : ∀ (ws out : List Wh), (∀ c ∈ ws, okv c.r = true) → run true out ws = run false out ws
  | [], _, _ => rfl
  | w :: ws, out, h => by
    have hi : ∀ out, insOk true out w = insOk false out w := fun out => by
      have hw := h w (by simp)
      induction out with
      | nil => simp [insOk, hw]
      | cons c cs ih =>
        unfold insOk
        rw [ih]
        simp [hw]
    unfold run
    rw [hi, run_first ws _ fun c hc => h c (by simp [hc])]
/-- With radii that are valid by themselves it doesn't matter whether the first is asked. -/
theorem tidy_first {ws : List Wh} (h : ∀ c ∈ ws, okv c.r = true) : tidy true ws = tidy false ws := by unfold tidy; rw [run_first ws [] h]
theorem valid_ok {ws : List Wh} (h : valid ws = true) : ∀ c ∈ ws, inS c.s = true ∧ okv c.r = true := fun c hc => by
  unfold valid at h
  rw [Bool.and_eq_true] at h
  have := List.all_eq_true.1 h.2 c hc
  unfold wOk at this
  rwa [Bool.and_eq_true] at this
theorem valid_len {ws : List Wh} (h : valid ws = true) : ws.length ≤ 12 := by
  unfold valid at h
  rw [Bool.and_eq_true] at h
  exact of_decide_eq_true h.1
theorem run_asc (b : Bool) : ∀ (ws out : List Wh), (∀ c ∈ out, ∀ d ∈ ws, c.s < d.s) → Asc ws → (∀ c ∈ ws, okv c.r = true) → run b out ws = some (out ++ ws)
  | [], out, _, _, _ => by rw [List.append_nil]; rfl
  | w :: ws, out, hl, ha, ho => by
    have hi : ∀ out : List Wh, (∀ c ∈ out, c.s < w.s) → insOk b out w = true ∧ ins out w = out ++ [w] := fun out h => by
      induction out with
      | nil => exact ⟨by simp [insOk, ho w (by simp)], rfl⟩
      | cons c cs ih =>
        obtain ⟨h1, h2⟩ := ih fun d hd => h d (by simp [hd])
        unfold insOk ins
        rw [if_pos (h c (by simp)), if_pos (h c (by simp)), h1, h2]
        exact ⟨rfl, rfl⟩
    obtain ⟨h1, h2⟩ := hi out fun c hc => hl c hc w (by simp)
    have hc := List.pairwise_cons.1 ha
    unfold run
    rw [if_pos h1, h2, run_asc b ws _ (fun c hm d hd => ?_) hc.2 (fun c hm => ho c (by simp [hm]))]
    · rw [List.append_assoc]; rfl
    · rcases List.mem_append.1 hm with hm | hm
      · exact hl c hm d (by simp [hd])
      · rw [List.mem_singleton.1 hm]; exact hc.1 d hd
theorem filter_all {p : Wh → Bool} : ∀ {l : List Wh}, (∀ c ∈ l, p c = true) → l.filter p = l
  | [], _ => rfl
  | c :: l, h => by rw [List.filter_cons, if_pos (h c (by simp)), filter_all fun d hd => h d (by simp [hd])]
/-- A tidy design is its own tidy one. -/
theorem Tidy.again (b : Bool) {R : List Wh} (h : Tidy R) : tidy b R = some R := by
  unfold tidy
  rw [run_asc b R [] (by simp) h.asc fun c hc => (valid_ok h.ok c hc).2]
  simp only [List.nil_append, Option.bind_some, done, filter_all h.nz, h.ok, if_true]

/-! What is made of designs. -/
theorem pAt_map (t t' : Int) (n : Nat) (f : Wh → Wh) (h : ∀ c, tV (tm t (f c).s) (f c).r = tV n (tV (tm t' c.s) c.r)) : ∀ ws, pAt t (ws.map f) = tV n (pAt t' ws)
  | [] => (tV_zero n).symm
  | w :: ws => by
    show V.add (tV (tm t (f w).s) (f w).r) (pAt t (ws.map f)) = tV n (V.add (tV (tm t' w.s) w.r) (pAt t' ws))
    rw [tV_add, pAt_map t t' n f h ws, h w]
def turnW (t : Nat) (c : Wh) : Wh := ⟨c.s, tV t c.r⟩
def laterW (t : Int) (c : Wh) : Wh := ⟨c.s, tV (tm t c.s) c.r⟩
def fastW (n : Int) (c : Wh) : Wh := ⟨c.s * n, c.r⟩
def mirW (c : Wh) : Wh := ⟨-c.s, dn (mir c.r.up)⟩
theorem tm_lt (t s : Int) : tm t s ≤ 23 := by unfold tm; omega
theorem pAt_turned (t : Int) (n : Nat) (ws : List Wh) : pAt t (ws.map (turnW n)) = tV n (pAt t ws) :=
  pAt_map t t n (turnW n) (fun c => by simp only [turnW]; rw [tV_more, tV_more, Nat.add_comm]) ws
theorem tm_mod {t t' s s' : Int} (h : t * s % 24 = t' * s' % 24) : tm t s = tm t' s' := by unfold tm; rw [h]
theorem pAt_fast (t n k : Int) (h : k % 24 = t * n % 24) (ws : List Wh) : pAt t (ws.map (fastW n)) = pAt k ws := by
  have := pAt_map t k 0 (fastW n) (fun c => by
    simp only [fastW]
    rw [tV_none]
    refine congrArg (fun x => tV x c.r) (tm_mod ?_)
    rw [Int.mul_emod k, h, ← Int.mul_emod, Int.mul_assoc, Int.mul_comm n]) ws
  rw [this, tV_none]
theorem tot_back (s : Int) : ∀ ws, tot s (ws.map (fastW (-1))) = tot (-s) ws
  | [] => rfl
  | w :: ws => by
    show V.add (if w.s * -1 = s then w.r else V.zero) (tot s (ws.map (fastW (-1)))) = V.add (if w.s = -s then w.r else V.zero) (tot (-s) ws)
    rw [tot_back s ws]
    by_cases h : w.s = -s
    · rw [if_pos h, if_pos (by omega)]
    · rw [if_neg h, if_neg (by omega)]
/-- A wheel for each pair. -/
def pairW (c d : Wh) : Wh := ⟨c.s + d.s, prV c.r d.r⟩
def pairs (a b : List Wh) : List Wh := a.flatMap fun c => b.map (pairW c)
theorem pAt_pairs1 (t : Int) (c : Wh) : ∀ b, pAt t (b.map (pairW c)) = prV (tV (tm t c.s) c.r) (pAt t b)
  | [] => by show V.zero = _; rw [prV_comm, show pAt t [] = V.zero from rfl, prV_zero]
  | d :: b => by
    show V.add (tV (tm t (c.s + d.s)) (prV c.r d.r)) (pAt t (b.map (pairW c))) = prV _ (V.add (tV (tm t d.s) d.r) (pAt t b))
    rw [pAt_pairs1 t c b, prV_comm _ (V.add _ _), prV_add, prV_comm _ (tV (tm t c.s) c.r), prV_comm (pAt t b), prV_turns]
    congr 1
    refine tV_same _ ?_
    unfold tm
    rw [Int.mul_add]
    omega
theorem pAt_pairs (t : Int) (b : List Wh) : ∀ a, pAt t (pairs a b) = prV (pAt t a) (pAt t b)
  | [] => by show V.zero = _; rw [show pAt t [] = V.zero from rfl, prV_zero]
  | c :: a => by
    show pAt t (b.map (pairW c) ++ pairs a b) = prV (V.add (tV (tm t c.s) c.r) (pAt t a)) (pAt t b)
    rw [pAt_append, pAt_pairs t b a, pAt_pairs1, prV_add]

end Go.Proofs.Yteicmnoafoekcaa
