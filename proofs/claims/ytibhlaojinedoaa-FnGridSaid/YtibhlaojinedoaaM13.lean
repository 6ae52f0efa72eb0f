/-
  Designs: the mathematics (no program). A radius is eight numbers (V), a wheel a speed and a radius; a list of wheels is told by its totals.
  Sorting wheels: rotations, merges, insertions (no program). What is kept: the radii of each speed, in order.
  Lists of wheels in memory: what a slice reads, what the call owns, appending.
  Contracts of impl's reckoning with circles.
-/
import Derived.Test.YtibhlaojinedoaaM00
import Derived.Test.YtibhlaojinedoaaM01
import Derived.Sort.LotA
import Derived.Test.YtibhlaojinedoaaM04
import Derived.Deep.MidRow
import Derived.OwnWalk
import Derived.Laws.AppendOwn
import Derived.Laws.OwnMore
import Derived.Deep.Onto
/- Designs: the mathematics (no program). A radius is eight numbers (V), a wheel a speed and a radius; a list of wheels is told by its totals. -/
namespace Go.Proofs.Ytibhlaojinedoaa
set_option maxRecDepth 20000
set_option linter.unusedVariables false
set_option linter.unusedSimpArgs false

/-- Eight numbers, and nothing behind them. -/
def V : Type := Fin 8 → Int
def V.up (a : V) : Nat → Int := fun j => if h : j < 8 then a ⟨j, h⟩ else 0
def dn (f : Nat → Int) : V := fun j => f j.1
theorem up_at (a : V) (j : Nat) (h : j < 8) : a.up j = a ⟨j, h⟩ := by simp [V.up, h]
theorem up_dn (f : Nat → Int) : Eight (dn f).up f := fun j hj => by simp [V.up, dn, hj]
theorem dn_up (a : V) : dn a.up = a := by funext j; simp [V.up, dn]
theorem dn_same {f g : Nat → Int} (h : Eight f g) : dn f = dn g := by funext j; exact h j.1 j.2
theorem same_dn {f g : Nat → Int} (h : dn f = dn g) : Eight f g := fun j hj => congrFun h ⟨j, hj⟩
theorem V.ext {a b : V} (h : Eight a.up b.up) : a = b := by rw [← dn_up a, ← dn_up b, dn_same h]
def V.add (a b : V) : V := fun j => a j + b j
def V.zero : V := fun _ => 0
theorem V.add_comm (a b : V) : V.add a b = V.add b a := by funext j; exact Int.add_comm _ _
theorem V.add_assoc (a b c : V) : V.add (V.add a b) c = V.add a (V.add b c) := by funext j; exact Int.add_assoc _ _ _
theorem V.add_zero (a : V) : V.add a V.zero = a := by funext j; exact Int.add_zero _
theorem V.zero_add (a : V) : V.add V.zero a = a := by funext j; exact Int.zero_add _
theorem V.add_swap (a b c : V) : V.add (V.add a b) c = V.add (V.add a c) b := by rw [V.add_assoc, V.add_comm b c, ← V.add_assoc]
theorem V.four (a b c d : V) : V.add (V.add a b) (V.add c d) = V.add (V.add a c) (V.add b d) := by
  rw [V.add_assoc, ← V.add_assoc b c d, V.add_comm b c, V.add_assoc c b d, ← V.add_assoc]
theorem V.cancel {a b c : V} (h : V.add a b = V.add a c) : b = c := by
  funext j
  have := congrFun h j
  exact Int.add_left_cancel this
theorem add_up (a b : V) : (V.add a b).up = add a.up b.up := by
  funext j
  by_cases h : j < 8
  · simp [V.up, V.add, add, h]
  · simp [V.up, V.add, add, h]
theorem zero_up : V.zero.up = nul := by funext j; simp [V.up, V.zero, nul]
theorem dn_nul : dn nul = V.zero := rfl
theorem dn_add (f g : Nat → Int) : dn (add f g) = V.add (dn f) (dn g) := rfl
theorem dn_mul1 (f g : Nat → Int) : dn (mul1 f 1 g) = V.add (dn f) (dn g) := by funext j; show f j.1 + 1 * g j.1 = f j.1 + g j.1; omega
/-- A valid point. -/
def okv (a : V) : Bool := okc a.up
theorem okv_dn (f : Nat → Int) : okv (dn f) = okc f := okc_same (up_dn f)
theorem okv_zero : okv V.zero = true := by decide

/-- Turned n times by the root. -/
def tV (n : Nat) (a : V) : V := dn (stps n a.up)
theorem stp_add (f g : Nat → Int) : stp (add f g) = add (stp f) (stp g) := by
  funext j
  simp only [stp, add]
  by_cases h0 : j = 0
  · simp only [h0, if_true]; omega
  · by_cases h4 : j = 4
    · simp only [h4]; simp only [show ¬ (4 : Nat) = 0 from by decide, if_true, if_false]; omega
    · simp only [h0, h4, if_false]
theorem stps_lin (f g : Nat → Int) : ∀ n, stps n (add f g) = add (stps n f) (stps n g)
  | 0 => rfl
  | n + 1 => by show stp (stps n (add f g)) = _; rw [stps_lin f g n, stp_add]; rfl
theorem stps_nul : ∀ n, stps n nul = nul
  | 0 => rfl
  | n + 1 => by
    show stp (stps n nul) = nul
    rw [stps_nul n]
    funext j
    simp [stp, nul]
theorem tV_add (n : Nat) (a b : V) : tV n (V.add a b) = V.add (tV n a) (tV n b) := by
  unfold tV; rw [add_up, stps_lin]; rfl
theorem tV_zero (n : Nat) : tV n V.zero = V.zero := by unfold tV; rw [zero_up, stps_nul]; rfl
theorem tV_none (a : V) : tV 0 a = a := dn_up a
theorem tV_more (m n : Nat) (a : V) : tV m (tV n a) = tV (m + n) a := by
  unfold tV; rw [← stps_add a.up n m]; exact dn_same (stps_same (up_dn _) m)
theorem tV_round (a : V) : tV 24 a = a := by
  unfold tV; rw [dn_same (stps_round a.up), dn_up]
theorem tV_rounds (a : V) : ∀ q, tV (24 * q) a = a
  | 0 => tV_none a
  | q + 1 => by rw [Nat.mul_add, Nat.mul_one, ← tV_more, tV_round, tV_rounds a q]
theorem tV_mod (n : Nat) (a : V) : tV (n % 24) a = tV n a := by
  conv => rhs; rw [← Nat.mod_add_div n 24, ← tV_more, tV_rounds]
theorem tV_same {m n : Nat} (a : V) (h : m % 24 = n % 24) : tV m a = tV n a := by rw [← tV_mod m, ← tV_mod n, h]
theorem tV_trn (a : V) {t : Nat} (ht : t ≤ 23) : dn (trn a.up t) = tV t a := dn_same fun j hj => (trn_steps a.up t ht j hj).symm
/-- Products. -/
def prV (a b : V) : V := dn (prd a.up b.up)
theorem smul_lin (f g b : Nat → Int) : ∀ n, smul (add f g) b n = add (smul f b n) (smul g b n)
  | 0 => by funext j; simp [smul, add]
  | n + 1 => by
    funext j
    simp only [smul, smul_lin f g b n, mul1, add, Int.add_mul]
    omega
theorem smul_nul (b : Nat → Int) : ∀ n, smul nul b n = nul
  | 0 => by funext j; simp [smul, nul]
  | n + 1 => by
    funext j
    simp only [smul, smul_nul b n, mul1, nul]
    omega
theorem prV_add (a b c : V) : prV (V.add a b) c = V.add (prV a c) (prV b c) := by
  unfold prV
  rw [add_up, ← dn_add]
  refine dn_same fun j hj => ?_
  rw [← prd_smul _ _ j hj, smul_lin]
  show smul a.up c.up 8 j + smul b.up c.up 8 j = prd a.up c.up j + prd b.up c.up j
  rw [prd_smul _ _ j hj, prd_smul _ _ j hj]
theorem prV_zero (c : V) : prV V.zero c = V.zero := by
  unfold prV
  rw [zero_up, ← dn_nul]
  refine dn_same fun j hj => ?_
  rw [← prd_smul _ _ j hj, smul_nul]
theorem prV_comm (a b : V) : prV a b = prV b a := dn_same (prd_comm b.up a.up)
theorem prd_turns (f g : Nat → Int) : ∀ n, Eight (prd f (stps n g)) (stps n (prd f g))
  | 0 => fun j hj => rfl
  | n + 1 => fun j hj => (prd_stp f (stps n g) j hj).trans (stp_same (prd_turns f g n) j hj)
theorem prV_turn (a b : V) (n : Nat) : prV a (tV n b) = tV n (prV a b) := by
  unfold prV tV
  refine dn_same fun j hj => ?_
  rw [prd_same (up_dn _) j hj, prd_turns a.up b.up n j hj]
  exact (stps_same (up_dn _) n j hj).symm
theorem prV_turns (a b : V) (m n : Nat) : prV (tV m a) (tV n b) = tV (m + n) (prV a b) := by
  rw [prV_turn, prV_comm, prV_turn, prV_comm, tV_more, Nat.add_comm]

/-- A wheel. -/
structure Wh where
  s : Int
  r : V
theorem Wh.same {a b : Wh} (h : a.s = b.s) (k : a.r = b.r) : a = b := by
  cases a; cases b; simp only at h k; rw [h, k]
/-- The turns of a wheel at a turn. -/
def tm (t s : Int) : Nat := (t * s % 24).toNat
/-- Where the wheels point together at a turn. -/
def pAt (t : Int) : List Wh → V
  | [] => V.zero
  | w :: ws => V.add (tV (tm t w.s) w.r) (pAt t ws)
/-- All radii of one speed together. -/
def tot (s : Int) : List Wh → V
  | [] => V.zero
  | w :: ws => V.add (if w.s = s then w.r else V.zero) (tot s ws)
theorem pAt_append (t : Int) (b : List Wh) : ∀ a, pAt t (a ++ b) = V.add (pAt t a) (pAt t b)
  | [] => (V.zero_add _).symm
  | w :: a => by show V.add _ (pAt t (a ++ b)) = _; rw [pAt_append t b a, ← V.add_assoc]; rfl
theorem tot_append (s : Int) (b : List Wh) : ∀ a, tot s (a ++ b) = V.add (tot s a) (tot s b)
  | [] => (V.zero_add _).symm
  | w :: a => by show V.add _ (tot s (a ++ b)) = _; rw [tot_append s b a, ← V.add_assoc]; rfl

/-- A wheel added to a list whose speeds ascend. -/
def ins : List Wh → Wh → List Wh
  | [], w => [w]
  | c :: cs, w => if c.s < w.s then c :: ins cs w else if c.s = w.s then ⟨c.s, V.add c.r w.r⟩ :: cs else w :: c :: cs
/-- Whether that may be: the sum is asked; a first radius only if b says so. -/
def insOk (b : Bool) : List Wh → Wh → Bool
  | [], w => !b || okv w.r
  | c :: cs, w => if c.s < w.s then insOk b cs w else if c.s = w.s then okv (V.add c.r w.r) else !b || okv w.r
def run (b : Bool) : List Wh → List Wh → Option (List Wh)
  | out, [] => some out
  | out, w :: ws => if insOk b out w then run b (ins out w) ws else none
theorem tot_ins (s : Int) (w : Wh) : ∀ out, tot s (ins out w) = V.add (tot s out) (if w.s = s then w.r else V.zero)
  | [] => V.add_comm _ _
  | c :: cs => by
    unfold ins
    by_cases h : c.s < w.s
    · rw [if_pos h]
      show V.add _ (tot s (ins cs w)) = _
      rw [tot_ins s w cs, ← V.add_assoc]; rfl
    · by_cases h2 : c.s = w.s
      · rw [if_neg h, if_pos h2]
        show V.add (if c.s = s then V.add c.r w.r else V.zero) (tot s cs) = V.add (V.add (if c.s = s then c.r else V.zero) (tot s cs)) (if w.s = s then w.r else V.zero)
        rw [← h2]
        by_cases h3 : c.s = s
        · simp only [if_pos h3]; rw [V.add_swap]
        · simp only [if_neg h3]; rw [V.add_zero]
      · rw [if_neg h, if_neg h2]
        exact V.add_comm _ _
theorem pAt_ins (t : Int) (w : Wh) : ∀ out, pAt t (ins out w) = V.add (pAt t out) (tV (tm t w.s) w.r)
  | [] => V.add_comm _ _
  | c :: cs => by
    unfold ins
    by_cases h : c.s < w.s
    · rw [if_pos h]
      show V.add _ (pAt t (ins cs w)) = _
      rw [pAt_ins t w cs, ← V.add_assoc]; rfl
    · by_cases h2 : c.s = w.s
      · rw [if_neg h, if_pos h2]
        show V.add (tV (tm t c.s) (V.add c.r w.r)) (pAt t cs) = V.add (V.add (tV (tm t c.s) c.r) (pAt t cs)) (tV (tm t w.s) w.r)
        rw [← h2, tV_add, V.add_swap]
      · rw [if_neg h, if_neg h2]
        exact V.add_comm _ _
/-- The speeds ascend. -/
def Asc (l : List Wh) : Prop := l.Pairwise fun a b => a.s < b.s
theorem ins_speeds (w : Wh) : ∀ (out : List Wh) (c : Wh), c ∈ ins out w → c.s = w.s ∨ ∃ d ∈ out, d.s = c.s
  | [], c, h => by simp only [ins, List.mem_singleton] at h; exact .inl (by rw [h])
  | d :: ds, c, h => by
    unfold ins at h
    by_cases h1 : d.s < w.s
    · rw [if_pos h1] at h
      rcases List.mem_cons.1 h with h | h
      · exact .inr ⟨d, by simp, by rw [h]⟩
      · rcases ins_speeds w ds c h with h | ⟨e, he, hs⟩
        · exact .inl h
        · exact .inr ⟨e, by simp [he], hs⟩
    · by_cases h2 : d.s = w.s
      · rw [if_neg h1, if_pos h2] at h
        rcases List.mem_cons.1 h with h | h
        · exact .inl (by rw [h]; exact h2)
        · exact .inr ⟨c, by simp [h], rfl⟩
      · rw [if_neg h1, if_neg h2] at h
        rcases List.mem_cons.1 h with h | h
        · exact .inl (by rw [h])
        · exact .inr ⟨c, h, rfl⟩
theorem asc_ins (w : Wh) : ∀ out, Asc out → Asc (ins out w)
  | [], _ => by simp [ins, Asc]
  | c :: cs, h => by
    have hc := List.pairwise_cons.1 h
    unfold ins
    by_cases h1 : c.s < w.s
    · rw [if_pos h1]
      refine List.pairwise_cons.2 ⟨fun d hd => ?_, asc_ins w cs hc.2⟩
      rcases ins_speeds w cs d hd with h | ⟨e, he, hs⟩
      · omega
      · have := hc.1 e he; omega
    · by_cases h2 : c.s = w.s
      · rw [if_neg h1, if_pos h2]
        exact List.pairwise_cons.2 ⟨hc.1, hc.2⟩
      · rw [if_neg h1, if_neg h2]
        refine List.pairwise_cons.2 ⟨fun d hd => ?_, h⟩
        rcases List.mem_cons.1 hd with hd | hd
        · rw [hd]; omega
        · have := hc.1 d hd; omega
theorem run_keeps (b : Bool) : ∀ (ws out R : List Wh), run b out ws = some R → (Asc out → Asc R) ∧ (∀ s, tot s R = V.add (tot s out) (tot s ws)) ∧ (∀ t, pAt t R = V.add (pAt t out) (pAt t ws))
  | [], out, R, h => by
    simp only [run, Option.some.injEq] at h
    subst h
    exact ⟨id, fun s => (V.add_zero _).symm, fun t => (V.add_zero _).symm⟩
  | w :: ws, out, R, h => by
    unfold run at h
    split at h
    · obtain ⟨h1, h2, h3⟩ := run_keeps b ws _ R h
      refine ⟨fun ha => h1 (asc_ins w out ha), fun s => ?_, fun t => ?_⟩
      · rw [h2 s, tot_ins, V.add_assoc]; rfl
      · rw [h3 t, pAt_ins, V.add_assoc]; rfl
    · cases h

/-! When it can be: by the radii of each speed alone. -/
def look (s : Int) : List Wh → Option V
  | [] => none
  | c :: cs => if c.s = s then some c.r else look s cs
def pre (s : Int) (ws : List Wh) : List V := (ws.filter fun w => decide (w.s = s)).map (·.r)
def gd (b : Bool) : Option V → List V → Bool
  | _, [] => true
  | none, r :: rs => (!b || okv r) && gd b (some r) rs
  | some a, r :: rs => okv (V.add a r) && gd b (some (V.add a r)) rs
def ask (b : Bool) : Option V → V → Bool
  | none, r => !b || okv r
  | some a, r => okv (V.add a r)
def plus : Option V → V → V
  | none, r => r
  | some a, r => V.add a r
theorem gd_cons (b : Bool) (o : Option V) (r : V) (rs : List V) : gd b o (r :: rs) = (ask b o r && gd b (some (plus o r)) rs) := by cases o <;> rfl
theorem look_none {s : Int} : ∀ {cs : List Wh}, (∀ d ∈ cs, s < d.s) → look s cs = none
  | [], _ => rfl
  | c :: cs, h => by
    have := h c (by simp)
    unfold look
    rw [if_neg (by omega)]
    exact look_none fun d hd => h d (by simp [hd])
theorem look_ins (w : Wh) (s : Int) : ∀ out, Asc out → look s (ins out w) = if w.s = s then some (plus (look s out) w.r) else look s out
  | [], _ => by simp [ins, look, plus]
  | c :: cs, h => by
    have hc := List.pairwise_cons.1 h
    unfold ins
    by_cases h1 : c.s < w.s
    · rw [if_pos h1]
      simp only [look]
      by_cases h3 : c.s = s
      · rw [if_pos h3, if_neg (show ¬ w.s = s by omega), if_pos h3]
      · rw [if_neg h3, look_ins w s cs hc.2, if_neg h3]
    · by_cases h2 : c.s = w.s
      · rw [if_neg h1, if_pos h2]
        simp only [look]
        by_cases h3 : c.s = s
        · rw [if_pos h3, if_pos (show w.s = s by omega), if_pos h3]; rfl
        · rw [if_neg h3, if_neg (show ¬ w.s = s by omega), if_neg h3]
      · rw [if_neg h1, if_neg h2]
        simp only [look]
        by_cases h3 : w.s = s
        · rw [if_pos h3, if_pos h3, if_neg (show ¬ c.s = s by omega), look_none (fun d hd => by have := hc.1 d hd; omega)]; rfl
        · rw [if_neg h3, if_neg h3]
theorem insOk_look (b : Bool) (w : Wh) : ∀ out, Asc out → insOk b out w = ask b (look w.s out) w.r
  | [], _ => rfl
  | c :: cs, h => by
    have hc := List.pairwise_cons.1 h
    unfold insOk look
    by_cases h1 : c.s < w.s
    · rw [if_pos h1, if_neg (by omega), insOk_look b w cs hc.2]
    · by_cases h2 : c.s = w.s
      · rw [if_neg h1, if_pos h2, if_pos h2]; rfl
      · rw [if_neg h1, if_neg h2, if_neg h2, look_none (fun d hd => by have := hc.1 d hd; omega)]; rfl
theorem pre_cons (s : Int) (w : Wh) (ws : List Wh) : pre s (w :: ws) = if w.s = s then w.r :: pre s ws else pre s ws := by
  unfold pre
  by_cases h : w.s = s
  · simp [List.filter_cons, h]
  · simp [List.filter_cons, h]
theorem run_can (b : Bool) : ∀ (ws out : List Wh), Asc out → ((run b out ws).isSome = true ↔ ∀ s, gd b (look s out) (pre s ws) = true)
  | [], out, _ => ⟨fun _ s => by simp [pre, gd], fun _ => rfl⟩
  | w :: ws, out, h => by
    have hk := run_can b ws (ins out w) (asc_ins w out h)
    have hs : ∀ s, gd b (look s out) (pre s (w :: ws)) = ((if w.s = s then ask b (look s out) w.r else true) && gd b (look s (ins out w)) (pre s ws)) := fun s => by
      rw [pre_cons, look_ins w s out h]
      by_cases e : w.s = s
      · rw [if_pos e, if_pos e, if_pos e, gd_cons]
      · rw [if_neg e, if_neg e, if_neg e, Bool.true_and]
    unfold run
    rw [insOk_look b w out h]
    constructor
    · intro hr s
      rw [hs s]
      split at hr
      · rename_i ha
        have := hk.1 hr s
        by_cases e : w.s = s
        · subst e; rw [if_pos rfl, ha, this]; rfl
        · rw [if_neg e, this]; rfl
      · cases hr
    · intro hg
      have h0 := hg w.s
      rw [hs w.s, if_pos rfl, Bool.and_eq_true] at h0
      rw [if_pos h0.1]
      refine hk.2 fun s => ?_
      have := hg s
      rw [hs s, Bool.and_eq_true] at this
      exact this.2
theorem tot_pre (s : Int) : ∀ ws, tot s ws = (pre s ws).foldr V.add V.zero
  | [] => rfl
  | w :: ws => by
    rw [pre_cons]
    show V.add (if w.s = s then w.r else V.zero) (tot s ws) = _
    by_cases e : w.s = s
    · rw [if_pos e, if_pos e, tot_pre s ws]; rfl
    · rw [if_neg e, if_neg e, V.zero_add, tot_pre s ws]

/-! Tidy designs. -/
def inS (s : Int) : Bool := decide (-1000 ≤ s) && decide (s ≤ 1000)
def wOk (c : Wh) : Bool := inS c.s && okv c.r
def valid (ws : List Wh) : Bool := decide (ws.length ≤ 12) && ws.all wOk
def nz (c : Wh) : Bool := !(eqv 8 c.r.up nul)
theorem nz_no {c : Wh} (h : nz c = false) : c.r = V.zero := by
  unfold nz at h
  have h' : eqv 8 c.r.up nul = true := by simpa using h
  exact V.ext fun j hj => by rw [zero_up]; exact eqv_same h' j hj
theorem nz_zero {c : Wh} (h : c.r = V.zero) : nz c = false := by
  unfold nz
  rw [h, zero_up, eqv_true (fun j hj => rfl)]; rfl
theorem tot_nz (s : Int) : ∀ ws, tot s (ws.filter nz) = tot s ws
  | [] => rfl
  | w :: ws => by
    rw [List.filter_cons]
    by_cases h : nz w = true
    · rw [if_pos h]; show V.add _ (tot s (ws.filter nz)) = _; rw [tot_nz s ws]; rfl
    · rw [if_neg h, tot_nz s ws]
      show _ = V.add (if w.s = s then w.r else V.zero) (tot s ws)
      rw [nz_no (by simpa using h), ite_self, V.zero_add]
theorem pAt_nz (t : Int) : ∀ ws, pAt t (ws.filter nz) = pAt t ws
  | [] => rfl
  | w :: ws => by
    rw [List.filter_cons]
    by_cases h : nz w = true
    · rw [if_pos h]; show V.add _ (pAt t (ws.filter nz)) = _; rw [pAt_nz t ws]; rfl
    · rw [if_neg h, pAt_nz t ws]
      show _ = V.add (tV (tm t w.s) w.r) (pAt t ws)
      rw [nz_no (by simpa using h), tV_zero, V.zero_add]
def done (l : List Wh) : Option (List Wh) := if valid (l.filter nz) then some (l.filter nz) else none
def tidy (b : Bool) (ws : List Wh) : Option (List Wh) := (run b [] ws).bind done
/-- What a tidy design is. -/
structure Tidy (R : List Wh) : Prop where
  asc : Asc R
  nz : ∀ c ∈ R, nz c = true
  ok : valid R = true
theorem tidy_some {b : Bool} {ws R : List Wh} (h : tidy b ws = some R) : Tidy R ∧ (∀ s, tot s R = tot s ws) ∧ (∀ t, pAt t R = pAt t ws) := by
  unfold tidy at h
  cases hr : run b [] ws with
  | none => rw [hr] at h; cases h
  | some l =>
    rw [hr] at h
    obtain ⟨h1, h2, h3⟩ := run_keeps b ws [] l hr
    simp only [Option.bind_some, done] at h
    split at h
    · rename_i hv
      simp only [Option.some.injEq] at h
      subst h
      refine ⟨⟨(h1 List.Pairwise.nil).filter _, fun c hc => (List.mem_filter.1 hc).2, hv⟩, fun s => ?_, fun t => ?_⟩
      · rw [tot_nz, h2]; exact V.zero_add _
      · rw [pAt_nz, h3]; exact V.zero_add _
    · cases h
theorem tot_none {s : Int} : ∀ {cs : List Wh}, (∀ d ∈ cs, s < d.s) → tot s cs = V.zero
  | [], _ => rfl
  | c :: cs, h => by
    have := h c (by simp)
    show V.add (if c.s = s then c.r else V.zero) (tot s cs) = _
    rw [if_neg (by omega), V.zero_add]
    exact tot_none fun d hd => h d (by simp [hd])
theorem tidy_unique : ∀ {A B : List Wh}, Asc A → Asc B → (∀ c ∈ A, nz c = true) → (∀ c ∈ B, nz c = true) → (∀ s, tot s A = tot s B) → A = B
  | [], [], _, _, _, _, _ => rfl
  | [], b :: B, _, hB, _, nB, ht => by
    exfalso
    have h := ht b.s
    rw [show tot b.s (b :: B) = V.add (if b.s = b.s then b.r else V.zero) (tot b.s B) from rfl, if_pos rfl, tot_none ((List.pairwise_cons.1 hB).1), V.add_zero] at h
    have := nB b (by simp)
    rw [nz_zero h.symm] at this
    cases this
  | a :: A, [], hA, _, nA, _, ht => by
    exfalso
    have h := ht a.s
    rw [show tot a.s (a :: A) = V.add (if a.s = a.s then a.r else V.zero) (tot a.s A) from rfl, if_pos rfl, tot_none ((List.pairwise_cons.1 hA).1), V.add_zero] at h
    have := nA a (by simp)
    rw [nz_zero h] at this
    cases this
  | a :: A, b :: B, hA, hB, nA, nB, ht => by
    have cA := List.pairwise_cons.1 hA
    have cB := List.pairwise_cons.1 hB
    have hd : ∀ {a b : Wh} {A B : List Wh}, (∀ d ∈ A, a.s < d.s) → (∀ d ∈ B, b.s < d.s) → (∀ s, tot s (a :: A) = tot s (b :: B)) → nz a = true → ¬ a.s < b.s := fun {a b A B} h1 h2 ht na hl => by
      have h := ht a.s
      rw [show tot a.s (a :: A) = V.add (if a.s = a.s then a.r else V.zero) (tot a.s A) from rfl, if_pos rfl, tot_none h1, V.add_zero,
        tot_none (s := a.s) (cs := b :: B) (fun d hd => by
          rcases List.mem_cons.1 hd with e | e
          · rw [e]; exact hl
          · have := h2 d e; omega)] at h
      rw [nz_zero h] at na
      cases na
    have n1 := hd cA.1 cB.1 ht (nA a (by simp))
    have n2 := hd cB.1 cA.1 (fun s => (ht s).symm) (nB b (by simp))
    have es : a.s = b.s := by omega
    have er : a.r = b.r := by
      have h := ht a.s
      rw [show tot a.s (a :: A) = V.add (if a.s = a.s then a.r else V.zero) (tot a.s A) from rfl, if_pos rfl, tot_none cA.1, V.add_zero,
        show tot a.s (b :: B) = V.add (if b.s = a.s then b.r else V.zero) (tot a.s B) from rfl, if_pos es.symm, tot_none (by rw [es]; exact cB.1), V.add_zero] at h
      exact h
    have e : a = b := Wh.same es er
    subst e
    rw [tidy_unique cA.2 cB.2 (fun c hc => nA c (by simp [hc])) (fun c hc => nB c (by simp [hc])) (fun s => V.cancel (ht s))]
/-- Two tidy designs of the same totals are one. -/
theorem Tidy.unique {A B : List Wh} (hA : Tidy A) (hB : Tidy B) (h : ∀ s, tot s A = tot s B) : A = B := tidy_unique hA.asc hB.asc hA.nz hB.nz h
/-- Sorted so that those of one speed stay in order, it is the same. -/
theorem tidy_same {b : Bool} {L ws : List Wh} (h : ∀ s, pre s L = pre s ws) : tidy b L = tidy b ws := by
  have e : (run b [] L).isSome = (run b [] ws).isSome := by
    have h1 := run_can b L [] List.Pairwise.nil
    have h2 := run_can b ws [] List.Pairwise.nil
    have : (∀ s, gd b (look s []) (pre s L) = true) ↔ (∀ s, gd b (look s []) (pre s ws) = true) := ⟨fun k s => by rw [← h s]; exact k s, fun k s => by rw [h s]; exact k s⟩
    exact Bool.eq_iff_iff.2 (h1.trans (this.trans h2.symm))
  unfold tidy
  cases h1 : run b [] L with
  | none =>
    cases h2 : run b [] ws with
    | none => rfl
    | some R => rw [h1, h2] at e; cases e
  | some l =>
    cases h2 : run b [] ws with
    | none => rw [h1, h2] at e; cases e
    | some l' =>
      obtain ⟨a1, a2, _⟩ := run_keeps b L [] l h1
      obtain ⟨b1, b2, _⟩ := run_keeps b ws [] l' h2
      have hf : l.filter nz = l'.filter nz := tidy_unique ((a1 List.Pairwise.nil).filter _) ((b1 List.Pairwise.nil).filter _) (fun c hc => (List.mem_filter.1 hc).2) (fun c hc => (List.mem_filter.1 hc).2) fun s => by
        rw [tot_nz, tot_nz, a2, b2, tot_pre s L, tot_pre s ws, h s]
      simp only [Option.bind_some, done, hf]
theorem run_first : ∀ (ws out : List Wh), (∀ c ∈ ws, okv c.r = true) → run true out ws = run false out ws
  | [], _, _ => rfl
  | w :: ws, out, h => by
    have hi : ∀ out, insOk true out w = insOk false out w := fun out => by
      have hw := h w (by simp)
      induction out with
      | nil => simp [insOk, hw]
      | cons c cs ih =>
        unfold insOk
        rw [ih]
        simp [hw]
    unfold run
    rw [hi, run_first ws _ fun c hc => h c (by simp [hc])]
/-- With radii that are valid by themselves it doesn't matter whether the first is asked. -/
theorem tidy_first {ws : List Wh} (h : ∀ c ∈ ws, okv c.r = true) : tidy true ws = tidy false ws := by unfold tidy; rw [run_first ws [] h]
theorem valid_ok {ws : List Wh} (h : valid ws = true) : ∀ c ∈ ws, inS c.s = true ∧ okv c.r = true := fun c hc => by
  unfold valid at h
  rw [Bool.and_eq_true] at h
  have := List.all_eq_true.1 h.2 c hc
  unfold wOk at this
  rwa [Bool.and_eq_true] at this
theorem valid_len {ws : List Wh} (h : valid ws = true) : ws.length ≤ 12 := by
  unfold valid at h
  rw [Bool.and_eq_true] at h
  exact of_decide_eq_true h.1
theorem run_asc (b : Bool) : ∀ (ws out : List Wh), (∀ c ∈ out, ∀ d ∈ ws, c.s < d.s) → Asc ws → (∀ c ∈ ws, okv c.r = true) → run b out ws = some (out ++ ws)
  | [], out, _, _, _ => by rw [List.append_nil]; rfl
  | w :: ws, out, hl, ha, ho => by
    have hi : ∀ out : List Wh, (∀ c ∈ out, c.s < w.s) → insOk b out w = true ∧ ins out w = out ++ [w] := fun out h => by
      induction out with
      | nil => exact ⟨by simp [insOk, ho w (by simp)], rfl⟩
      | cons c cs ih =>
        obtain ⟨h1, h2⟩ := ih fun d hd => h d (by simp [hd])
        unfold insOk ins
        rw [if_pos (h c (by simp)), if_pos (h c (by simp)), h1, h2]
        exact ⟨rfl, rfl⟩
    obtain ⟨h1, h2⟩ := hi out fun c hc => hl c hc w (by simp)
    have hc := List.pairwise_cons.1 ha
    unfold run
    rw [if_pos h1, h2, run_asc b ws _ (fun c hm d hd => ?_) hc.2 (fun c hm => ho c (by simp [hm]))]
    · rw [List.append_assoc]; rfl
    · rcases List.mem_append.1 hm with hm | hm
      · exact hl c hm d (by simp [hd])
      · rw [List.mem_singleton.1 hm]; exact hc.1 d hd
theorem filter_all {p : Wh → Bool} : ∀ {l : List Wh}, (∀ c ∈ l, p c = true) → l.filter p = l
  | [], _ => rfl
  | c :: l, h => by rw [List.filter_cons, if_pos (h c (by simp)), filter_all fun d hd => h d (by simp [hd])]
/-- A tidy design is its own tidy one. -/
theorem Tidy.again (b : Bool) {R : List Wh} (h : Tidy R) : tidy b R = some R := by
  unfold tidy
  rw [run_asc b R [] (by simp) h.asc fun c hc => (valid_ok h.ok c hc).2]
  simp only [List.nil_append, Option.bind_some, done, filter_all h.nz, h.ok, if_true]

/-! What is made of designs. -/
theorem pAt_map (t t' : Int) (n : Nat) (f : Wh → Wh) (h : ∀ c, tV (tm t (f c).s) (f c).r = tV n (tV (tm t' c.s) c.r)) : ∀ ws, pAt t (ws.map f) = tV n (pAt t' ws)
  | [] => (tV_zero n).symm
  | w :: ws => by
    show V.add (tV (tm t (f w).s) (f w).r) (pAt t (ws.map f)) = tV n (V.add (tV (tm t' w.s) w.r) (pAt t' ws))
    rw [tV_add, pAt_map t t' n f h ws, h w]
def turnW (t : Nat) (c : Wh) : Wh := ⟨c.s, tV t c.r⟩
def laterW (t : Int) (c : Wh) : Wh := ⟨c.s, tV (tm t c.s) c.r⟩
def fastW (n : Int) (c : Wh) : Wh := ⟨c.s * n, c.r⟩
def mirW (c : Wh) : Wh := ⟨-c.s, dn (mir c.r.up)⟩
theorem tm_lt (t s : Int) : tm t s ≤ 23 := by unfold tm; omega
theorem pAt_turned (t : Int) (n : Nat) (ws : List Wh) : pAt t (ws.map (turnW n)) = tV n (pAt t ws) :=
  pAt_map t t n (turnW n) (fun c => by simp only [turnW]; rw [tV_more, tV_more, Nat.add_comm]) ws
theorem tm_mod {t t' s s' : Int} (h : t * s % 24 = t' * s' % 24) : tm t s = tm t' s' := by unfold tm; rw [h]
theorem pAt_fast (t n k : Int) (h : k % 24 = t * n % 24) (ws : List Wh) : pAt t (ws.map (fastW n)) = pAt k ws := by
  have := pAt_map t k 0 (fastW n) (fun c => by
    simp only [fastW]
    rw [tV_none]
    refine congrArg (fun x => tV x c.r) (tm_mod ?_)
    rw [Int.mul_emod k, h, ← Int.mul_emod, Int.mul_assoc, Int.mul_comm n]) ws
  rw [this, tV_none]
theorem tot_back (s : Int) : ∀ ws, tot s (ws.map (fastW (-1))) = tot (-s) ws
  | [] => rfl
  | w :: ws => by
    show V.add (if w.s * -1 = s then w.r else V.zero) (tot s (ws.map (fastW (-1)))) = V.add (if w.s = -s then w.r else V.zero) (tot (-s) ws)
    rw [tot_back s ws]
    by_cases h : w.s = -s
    · rw [if_pos h, if_pos (by omega)]
    · rw [if_neg h, if_neg (by omega)]
/-- A wheel for each pair. -/
def pairW (c d : Wh) : Wh := ⟨c.s + d.s, prV c.r d.r⟩
def pairs (a b : List Wh) : List Wh := a.flatMap fun c => b.map (pairW c)
theorem pAt_pairs1 (t : Int) (c : Wh) : ∀ b, pAt t (b.map (pairW c)) = prV (tV (tm t c.s) c.r) (pAt t b)
  | [] => by show V.zero = _; rw [prV_comm, show pAt t [] = V.zero from rfl, prV_zero]
  | d :: b => by
    show V.add (tV (tm t (c.s + d.s)) (prV c.r d.r)) (pAt t (b.map (pairW c))) = prV _ (V.add (tV (tm t d.s) d.r) (pAt t b))
    rw [pAt_pairs1 t c b, prV_comm _ (V.add _ _), prV_add, prV_comm _ (tV (tm t c.s) c.r), prV_comm (pAt t b), prV_turns]
    congr 1
    refine tV_same _ ?_
    unfold tm
    rw [Int.mul_add]
    omega
theorem pAt_pairs (t : Int) (b : List Wh) : ∀ a, pAt t (pairs a b) = prV (pAt t a) (pAt t b)
  | [] => by show V.zero = _; rw [show pAt t [] = V.zero from rfl, prV_zero]
  | c :: a => by
    show pAt t (b.map (pairW c) ++ pairs a b) = prV (V.add (tV (tm t c.s) c.r) (pAt t a)) (pAt t b)
    rw [pAt_append, pAt_pairs t b a, pAt_pairs1, prV_add]

end Go.Proofs.Ytibhlaojinedoaa
/- Sorting wheels: rotations, merges, insertions (no program). What is kept: the radii of each speed, in order. -/
namespace Go.Proofs.Ytibhlaojinedoaa
set_option maxRecDepth 20000
set_option linter.unusedVariables false
set_option linter.unusedSimpArgs false
open Go.Sort

instance : Inhabited Wh := ⟨⟨0, V.zero⟩⟩

/-- A piece of a row. -/
def seg (d : Array Wh) (lo len : Nat) : List Wh := (List.range' lo len).map fun i => d[i]!
theorem seg_split (d : Array Wh) (lo m n : Nat) : seg d lo (m + n) = seg d lo m ++ seg d (lo + m) n := by
  unfold seg
  rw [← List.map_append, List.range'_append_1]
theorem seg_same {d d' : Array Wh} {lo lo' len : Nat} (h : ∀ i, i < len → d'[lo' + i]! = d[lo + i]!) : seg d' lo' len = seg d lo len := by
  unfold seg
  rw [List.range'_eq_map_range, List.range'_eq_map_range, List.map_map, List.map_map]
  refine List.map_congr_left fun i hi => ?_
  simpa using h i (by simpa using hi)
theorem seg_all (d : Array Wh) : seg d 0 d.size = d.toList := by
  unfold seg
  refine List.ext_getElem (by simp) fun i h1 h2 => ?_
  have h3 : i < d.size := by simpa using h2
  simp [h3]
theorem mem_seg {d : Array Wh} {lo len : Nat} {c : Wh} (h : c ∈ seg d lo len) : ∃ i, lo ≤ i ∧ i < lo + len ∧ c = d[i]! := by
  unfold seg at h
  obtain ⟨i, hi, rfl⟩ := List.mem_map.1 h
  have := List.mem_range'_1.1 hi
  exact ⟨i, this.1, this.2, rfl⟩
theorem pre_append (s : Int) (x y : List Wh) : pre s (x ++ y) = pre s x ++ pre s y := by simp [pre]
theorem pre_none {s : Int} {l : List Wh} (h : ∀ c ∈ l, c.s ≠ s) : pre s l = [] := by
  unfold pre
  rw [List.filter_eq_nil_iff.2 (fun c hc => by simpa using h c hc)]; rfl

/-- Each speed keeps its radii in order. -/
def Keeps (d d' : Array Wh) : Prop := d'.size = d.size ∧ ∀ s, pre s d'.toList = pre s d.toList
theorem Keeps.refl (d : Array Wh) : Keeps d d := ⟨rfl, fun _ => rfl⟩
theorem Keeps.trans {a b c : Array Wh} (h : Keeps a b) (k : Keeps b c) : Keeps a c := ⟨k.1.trans h.1, fun s => (k.2 s).trans (h.2 s)⟩

/-- The pieces from a to m and from m to b exchanged. -/
structure Rot (d d' : Array Wh) (a m b : Nat) : Prop where
  size : d'.size = d.size
  low : ∀ i, i < a → d'[i]! = d[i]!
  left : ∀ i, i < b - m → d'[a + i]! = d[m + i]!
  right : ∀ i, i < m - a → d'[a + (b - m) + i]! = d[a + i]!
  high : ∀ i, b ≤ i → d'[i]! = d[i]!
theorem Rot.keeps {d d' : Array Wh} {a m b : Nat} (h : Rot d d' a m b) (ham : a ≤ m) (hmb : m ≤ b) (hb : b ≤ d.size)
    (hs : ∀ i j, a ≤ i → i < m → m ≤ j → j < b → d[j]!.s < d[i]!.s) : Keeps d d' := by
  refine ⟨h.size, fun s => ?_⟩
  have e1 : d.toList = seg d 0 a ++ (seg d a (m - a) ++ (seg d m (b - m) ++ seg d b (d.size - b))) := by
    rw [← seg_all, show d.size = a + ((m - a) + ((b - m) + (d.size - b))) from by omega, seg_split, seg_split, seg_split, Nat.zero_add,
      show a + (m - a) = m from by omega, show m + (b - m) = b from by omega, show a + ((m - a) + ((b - m) + (d.size - b))) = d.size from by omega]
  have e2 : d'.toList = seg d' 0 a ++ (seg d' a (b - m) ++ (seg d' (a + (b - m)) (m - a) ++ seg d' b (d.size - b))) := by
    rw [← seg_all, h.size, show d.size = a + ((b - m) + ((m - a) + (d.size - b))) from by omega, seg_split, seg_split, seg_split, Nat.zero_add,
      show a + (b - m) + (m - a) = b from by omega, show a + ((b - m) + ((m - a) + (d.size - b))) = d.size from by omega]
  rw [e1, e2, seg_same (d := d) (d' := d') (lo := 0) (lo' := 0) (fun i hi => by simpa using h.low i hi), seg_same (d := d) (lo := m) h.left, seg_same (d := d) (lo := a) h.right,
    seg_same (d := d) (d' := d') (lo := b) (lo' := b) (fun i hi => h.high _ (by omega))]
  simp only [pre_append]
  rw [← List.append_assoc (pre s (seg d m (b - m))), ← List.append_assoc (pre s (seg d a (m - a)))]
  congr 2
  by_cases hx : ∃ i, a ≤ i ∧ i < m ∧ d[i]!.s = s
  · obtain ⟨i, h1, h2, h3⟩ := hx
    rw [pre_none (l := seg d m (b - m)) (fun c hc => by
      obtain ⟨j, j1, j2, rfl⟩ := mem_seg hc
      have := hs i j h1 h2 j1 (by omega)
      omega)]
    simp
  · rw [pre_none (l := seg d a (m - a)) (fun c hc e => by
      obtain ⟨j, j1, j2, rfl⟩ := mem_seg hc
      exact hx ⟨j, j1, by omega, e⟩)]
    simp

/-- Speeds ascend from a to b. -/
def Up (d : Array Wh) (a b : Nat) : Prop := ∀ i j, a ≤ i → i ≤ j → j < b → d[i]!.s ≤ d[j]!.s
/-- What a merge or a sort of a piece does. -/
structure Merged (d d' : Array Wh) (a b : Nat) : Prop where
  keeps : Keeps d d'
  up : Up d' a b
  out : ∀ i, (i < a ∨ b ≤ i) → d'[i]! = d[i]!
  inn : ∀ i, a ≤ i → i < b → ∃ j, a ≤ j ∧ j < b ∧ d'[i]! = d[j]!
theorem Merged.same {d : Array Wh} {a b : Nat} (h : Up d a b) : Merged d d a b := ⟨Keeps.refl d, h, fun _ _ => rfl, fun i h1 h2 => ⟨i, h1, h2, rfl⟩⟩

/-- The middle step of a merge. -/
theorem merge_mid {d d1 d2 d3 : Array Wh} {a m b mid s : Nat} (ham : a ≤ m) (hmb : m ≤ b) (hb : b ≤ d.size) (hmid : a ≤ mid ∧ mid ≤ b) (U1 : Up d a m) (U2 : Up d m b)
    (hs : a ≤ s ∧ s ≤ m ∧ s ≤ mid ∧ mid + m - s ≤ b)
    (F1 : ∀ i j, s ≤ i → i < m → m ≤ j → j < mid + m - s → d[j]!.s < d[i]!.s) (F2 : ∀ i j, a ≤ i → i < s → mid + m - s ≤ j → j < b → d[i]!.s ≤ d[j]!.s)
    (hr : Rot d d1 s m (mid + m - s)) :
    Up d1 a s ∧ Up d1 s mid ∧ Up d1 mid (mid + m - s) ∧ Up d1 (mid + m - s) b ∧
    (Merged d1 d2 a mid → (Up d2 mid (mid + m - s) ∧ Up d2 (mid + m - s) b ∧ ((s ≤ a ∨ mid ≤ s) → Up d1 a mid) ∧
      ((mid + m - s ≤ mid ∨ b ≤ mid + m - s) → Up d2 mid b) ∧ (Merged d2 d3 mid b → Merged d d3 a b))) := by
  obtain ⟨s1, s2, s3, s4⟩ := hs
  -- what d1 holds where
  have p1 : ∀ i, i < s → d1[i]! = d[i]! := hr.low
  have p2 : ∀ i, s ≤ i → i < mid → d1[i]! = d[m + (i - s)]! := fun i h1 h2 => by
    have := hr.left (i - s) (by omega)
    rwa [show s + (i - s) = i from by omega] at this
  have p3 : ∀ i, mid ≤ i → i < mid + m - s → d1[i]! = d[s + (i - mid)]! := fun i h1 h2 => by
    have := hr.right (i - mid) (by omega)
    rwa [show s + (mid + m - s - m) + (i - mid) = i from by omega] at this
  have p4 : ∀ i, mid + m - s ≤ i → d1[i]! = d[i]! := hr.high
  have A1 : Up d1 a s := fun i j h1 h2 h3 => by rw [p1 i (by omega), p1 j h3]; exact U1 i j h1 h2 (by omega)
  have A2 : Up d1 s mid := fun i j h1 h2 h3 => by rw [p2 i h1 (by omega), p2 j (by omega) h3]; exact U2 _ _ (by omega) (by omega) (by omega)
  have A3 : Up d1 mid (mid + m - s) := fun i j h1 h2 h3 => by rw [p3 i h1 (by omega), p3 j (by omega) h3]; exact U1 _ _ (by omega) (by omega) (by omega)
  have A4 : Up d1 (mid + m - s) b := fun i j h1 h2 h3 => by rw [p4 i h1, p4 j (by omega)]; exact U2 _ _ (by omega) h2 h3
  have X : ∀ i j, a ≤ i → i < mid → mid ≤ j → j < b → d1[i]!.s ≤ d1[j]!.s := fun i j h1 h2 h3 h4 => by
    by_cases hi : i < s
    · rw [p1 i hi]
      by_cases hj : j < mid + m - s
      · rw [p3 j h3 hj]; exact U1 _ _ h1 (by omega) (by omega)
      · rw [p4 j (by omega)]; exact F2 i j h1 hi (by omega) h4
    · rw [p2 i (by omega) h2]
      by_cases hj : j < mid + m - s
      · rw [p3 j h3 hj]
        have := F1 (s + (j - mid)) (m + (i - s)) (by omega) (by omega) (by omega) (by omega)
        omega
      · rw [p4 j (by omega)]; exact U2 _ _ (by omega) (by omega) h4
  refine ⟨A1, A2, A3, A4, fun M => ?_⟩
  have q : ∀ i, mid ≤ i → d2[i]! = d1[i]! := fun i hi => M.out i (.inr hi)
  have B3 : Up d2 mid (mid + m - s) := fun i j h1 h2 h3 => by rw [q i h1, q j (by omega)]; exact A3 i j h1 h2 h3
  have B4 : Up d2 (mid + m - s) b := fun i j h1 h2 h3 => by rw [q i (by omega), q j (by omega)]; exact A4 i j h1 h2 h3
  refine ⟨B3, B4, fun h => ?_, fun h => ?_, fun N => ?_⟩
  · rcases h with h | h
    · exact fun i j h1 h2 h3 => A2 i j (by omega) h2 h3
    · exact fun i j h1 h2 h3 => A1 i j h1 h2 (by omega)
  · rcases h with h | h
    · exact fun i j h1 h2 h3 => B4 i j (by omega) h2 h3
    · exact fun i j h1 h2 h3 => B3 i j h1 h2 (by omega)
  · refine ⟨((hr.keeps s2 (by omega) (by omega) F1).trans M.keeps).trans N.keeps, fun i j h1 h2 h3 => ?_, fun i hi => ?_, fun i h1 h2 => ?_⟩
    · by_cases hi : i < mid
      · by_cases hj : j < mid
        · rw [N.out i (.inl hi), N.out j (.inl hj)]; exact M.up i j h1 h2 hj
        · obtain ⟨j', e1, e2, e3⟩ := N.inn j (by omega) h3
          obtain ⟨i', f1, f2, f3⟩ := M.inn i h1 hi
          rw [N.out i (.inl hi), f3, e3, q j' e1]
          exact X i' j' f1 f2 e1 e2
      · exact N.up i j (by omega) h2 h3
    · rw [N.out i (by omega), M.out i (by omega)]
      rcases hi with h | h
      · exact p1 i (by omega)
      · exact p4 i (by omega)
    · have back : ∀ x, a ≤ x → x < b → ∃ j, a ≤ j ∧ j < b ∧ d1[x]! = d[j]! := fun x x1 x2 => by
        by_cases h : x < s
        · exact ⟨x, x1, x2, p1 x h⟩
        · by_cases h' : x < mid
          · exact ⟨_, by omega, by omega, p2 x (by omega) h'⟩
          · by_cases h'' : x < mid + m - s
            · exact ⟨_, by omega, by omega, p3 x (by omega) h''⟩
            · exact ⟨x, x1, x2, p4 x (by omega)⟩
      by_cases hi : i < mid
      · obtain ⟨j, e1, e2, e3⟩ := M.inn i h1 hi
        obtain ⟨k, k1, k2, k3⟩ := back j e1 (by omega)
        exact ⟨k, k1, k2, by rw [N.out i (.inl hi), e3, k3]⟩
      · obtain ⟨j, e1, e2, e3⟩ := N.inn i (by omega) h2
        obtain ⟨k, k1, k2, k3⟩ := back j (by omega) e2
        exact ⟨k, k1, k2, by rw [e3, q j e1, k3]⟩

/-- One element moved up to its place. -/
theorem merge_first {d d' : Array Wh} {a i b : Nat} (hai : a + 1 ≤ i) (hib : i ≤ b) (hb : b ≤ d.size) (U2 : Up d (a + 1) b)
    (F1 : ∀ j, a + 1 ≤ j → j < i → d[j]!.s < d[a]!.s) (F2 : ∀ j, i ≤ j → j < b → d[a]!.s ≤ d[j]!.s) (hr : Rot d d' a (a + 1) i) : Merged d d' a b := by
  have p2 : ∀ x, a ≤ x → x < i - 1 → d'[x]! = d[x + 1]! := fun x h1 h2 => by
    have := hr.left (x - a) (by omega)
    rwa [show a + (x - a) = x from by omega, show a + 1 + (x - a) = x + 1 from by omega] at this
  have p3 : d'[i - 1]! = d[a]! := by
    have := hr.right 0 (by omega)
    rwa [show a + (i - (a + 1)) + 0 = i - 1 from by omega] at this
  have p4 := hr.high
  refine ⟨hr.keeps (by omega) (by omega) (by omega) (fun x y h1 h2 h3 h4 => ?_), fun x y h1 h2 h3 => ?_, fun x hx => ?_, fun x h1 h2 => ?_⟩
  · obtain rfl : x = a := by omega
    exact F1 y h3 h4
  · by_cases hx : x < i - 1
    · rw [p2 x h1 hx]
      by_cases hy : y < i - 1
      · rw [p2 y (by omega) hy]; exact U2 _ _ (by omega) (by omega) (by omega)
      · by_cases hy' : y = i - 1
        · rw [hy', p3]; exact Int.le_of_lt (F1 _ (by omega) (by omega))
        · rw [p4 y (by omega)]; exact U2 _ _ (by omega) (by omega) h3
    · by_cases hx' : x = i - 1
      · rw [hx', p3]
        by_cases hy' : y = i - 1
        · rw [hy', p3]; exact Int.le_refl _
        · rw [p4 y (by omega)]; exact F2 y (by omega) h3
      · rw [p4 x (by omega), p4 y (by omega)]; exact U2 _ _ (by omega) h2 h3
  · rcases hx with h | h
    · exact hr.low x h
    · exact p4 x (by omega)
  · by_cases hx : x < i - 1
    · exact ⟨x + 1, by omega, by omega, p2 x h1 hx⟩
    · by_cases hx' : x = i - 1
      · exact ⟨a, by omega, by omega, by rw [hx', p3]⟩
      · exact ⟨x, h1, h2, p4 x (by omega)⟩
/-- One element moved down to its place. -/
theorem merge_last {d d' : Array Wh} {a i m : Nat} (hai : a ≤ i) (him : i ≤ m) (hb : m + 1 ≤ d.size) (U1 : Up d a m)
    (F1 : ∀ j, i ≤ j → j < m → d[m]!.s < d[j]!.s) (F2 : ∀ j, a ≤ j → j < i → d[j]!.s ≤ d[m]!.s) (hr : Rot d d' i m (m + 1)) : Merged d d' a (m + 1) := by
  have p1 := hr.low
  have p2 : d'[i]! = d[m]! := by
    have := hr.left 0 (by omega)
    simpa using this
  have p3 : ∀ x, i < x → x ≤ m → d'[x]! = d[x - 1]! := fun x h1 h2 => by
    have := hr.right (x - 1 - i) (by omega)
    rwa [show i + (m + 1 - m) + (x - 1 - i) = x from by omega, show i + (x - 1 - i) = x - 1 from by omega] at this
  have p4 := hr.high
  refine ⟨hr.keeps (by omega) (by omega) (by omega) (fun x y h1 h2 h3 h4 => ?_), fun x y h1 h2 h3 => ?_, fun x hx => ?_, fun x h1 h2 => ?_⟩
  · obtain rfl : y = m := by omega
    exact F1 x h1 h2
  · by_cases hx : x < i
    · rw [p1 x hx]
      by_cases hy : y < i
      · rw [p1 y hy]; exact U1 _ _ h1 h2 (by omega)
      · by_cases hy' : y = i
        · rw [hy', p2]; exact F2 x h1 hx
        · rw [p3 y (by omega) (by omega)]; exact U1 _ _ h1 (by omega) (by omega)
    · by_cases hx' : x = i
      · rw [hx', p2]
        by_cases hy' : y = i
        · rw [hy', p2]; exact Int.le_refl _
        · rw [p3 y (by omega) (by omega)]; exact Int.le_of_lt (F1 _ (by omega) (by omega))
      · rw [p3 x (by omega) (by omega), p3 y (by omega) (by omega)]; exact U1 _ _ (by omega) (by omega) (by omega)
  · rcases hx with h | h
    · exact p1 x (by omega)
    · exact p4 x (by omega)
  · by_cases hx : x < i
    · exact ⟨x, h1, h2, p1 x hx⟩
    · by_cases hx' : x = i
      · exact ⟨m, by omega, by omega, by rw [hx', p2]⟩
      · exact ⟨x - 1, by omega, by omega, p3 x (by omega) (by omega)⟩
theorem Rot.first (d : Array Wh) (a : Nat) : Rot d d a (a + 1) (a + 1) := ⟨rfl, fun _ _ => rfl, fun i h => by omega, fun i h => by simp, fun _ _ => rfl⟩
theorem Rot.last (d : Array Wh) (m : Nat) : Rot d d m m (m + 1) := ⟨rfl, fun _ _ => rfl, fun i h => rfl, fun i h => by omega, fun _ _ => rfl⟩
theorem swp_at (d : Array Wh) {i j : Nat} (hi : i < d.size) (hj : j < d.size) (hij : i ≠ j) (k : Nat) : (swp d i j)[k]! = if k = i then d[j]! else if k = j then d[i]! else d[k]! := by
  by_cases h1 : k = i
  · rw [if_pos h1, h1, swp_left d i j hi hij]
  · by_cases h2 : k = j
    · rw [if_neg h1, if_pos h2, h2, swp_right d i j hj]
    · rw [if_neg h1, if_neg h2, swp_other d i j k h1 h2]
theorem Rot.firstStep {d dk : Array Wh} {a k : Nat} (h : Rot d dk a (a + 1) (k + 1)) (hak : a ≤ k) (hk : k + 1 < d.size) : Rot d (swp dk k (k + 1)) a (a + 1) (k + 2) := by
  have hs := h.size
  have sw := swp_at dk (i := k) (j := k + 1) (by omega) (by omega) (by omega)
  have r0 := h.right 0 (by omega)
  rw [show a + (k + 1 - (a + 1)) + 0 = k from by omega, Nat.add_zero] at r0
  refine ⟨by rw [size_swp]; exact hs, fun i hi => ?_, fun i hi => ?_, fun i hi => ?_, fun i hi => ?_⟩
  · rw [sw, if_neg (by omega), if_neg (by omega)]; exact h.low i hi
  · rw [sw]
    by_cases e : a + i = k
    · rw [if_pos e, h.high _ (by omega), show k + 1 = a + 1 + i from by omega]
    · rw [if_neg e, if_neg (by omega)]; exact h.left i (by omega)
  · obtain rfl : i = 0 := by omega
    rw [sw, if_neg (by omega), if_pos (by omega), r0, Nat.add_zero]
  · rw [sw, if_neg (by omega), if_neg (by omega)]; exact h.high i (by omega)
theorem Rot.lastStep {d dk : Array Wh} {k m : Nat} (h : Rot d dk (k + 1) m (m + 1)) (hkm : k + 1 ≤ m) (hm : m < d.size) : Rot d (swp dk (k + 1) k) k m (m + 1) := by
  have hs := h.size
  have sw := swp_at dk (i := k + 1) (j := k) (by omega) (by omega) (by omega)
  have l0 := h.left 0 (by omega)
  rw [Nat.add_zero, Nat.add_zero] at l0
  refine ⟨by rw [size_swp]; exact hs, fun i hi => ?_, fun i hi => ?_, fun i hi => ?_, fun i hi => ?_⟩
  · rw [sw, if_neg (by omega), if_neg (by omega)]; exact h.low i (by omega)
  · obtain rfl : i = 0 := by omega
    rw [sw, if_neg (by omega), if_pos (by omega), l0, Nat.add_zero]
  · rw [sw]
    by_cases e : i = 0
    · subst e
      rw [if_pos (by omega), h.low k (by omega)]; rfl
    · rw [if_neg (by omega), if_neg (by omega)]
      have := h.right (i - 1) (by omega)
      rwa [show k + 1 + (m + 1 - m) + (i - 1) = k + (m + 1 - m) + i from by omega, show k + 1 + (i - 1) = k + i from by omega] at this
  · rw [sw, if_neg (by omega), if_neg (by omega)]; exact h.high i hi

/-- n elements from a exchanged with those from b. -/
structure SwapR (d d' : Array Wh) (a b n : Nat) : Prop where
  size : d'.size = d.size
  fst : ∀ i, i < n → d'[a + i]! = d[b + i]!
  snd : ∀ i, i < n → d'[b + i]! = d[a + i]!
  rest : ∀ k, (k < a ∨ a + n ≤ k) → (k < b ∨ b + n ≤ k) → d'[k]! = d[k]!
theorem SwapR.none (d : Array Wh) (a b : Nat) : SwapR d d a b 0 := ⟨rfl, fun i h => by omega, fun i h => by omega, fun _ _ _ => rfl⟩
theorem SwapR.step {d dk : Array Wh} {a b n k : Nat} (h : SwapR d dk a b k) (hk : k < n) (hab : a + n ≤ b) (hb : b + n ≤ d.size) : SwapR d (swp dk (a + k) (b + k)) a b (k + 1) := by
  have hs := h.size
  have sw := swp_at dk (i := a + k) (j := b + k) (by omega) (by omega) (by omega)
  refine ⟨by rw [size_swp]; exact hs, fun i hi => ?_, fun i hi => ?_, fun x h1 h2 => ?_⟩
  · rw [sw]
    by_cases e : i = k
    · subst e; rw [if_pos rfl]; exact h.rest _ (by omega) (by omega)
    · rw [if_neg (by omega), if_neg (by omega)]; exact h.fst i (by omega)
  · rw [sw]
    by_cases e : i = k
    · subst e; rw [if_neg (by omega), if_pos rfl]; exact h.rest _ (by omega) (by omega)
    · rw [if_neg (by omega), if_neg (by omega)]; exact h.snd i (by omega)
  · rw [sw, if_neg (by omega), if_neg (by omega)]; exact h.rest x (by omega) (by omega)
/-- A rotation's steps. -/
theorem Rot.ofLeft {d d' e : Array Wh} {m i j : Nat} (h : SwapR d d' (m - i) m j) (hji : j < i) (him : i ≤ m) (hr : Rot d' e (m - (i - j)) m (m + j)) : Rot d e (m - i) m (m + j) := by
  refine ⟨hr.size.trans h.size, fun x hx => ?_, fun x hx => ?_, fun x hx => ?_, fun x hx => ?_⟩
  · rw [hr.low x (by omega), h.rest x (by omega) (by omega)]
  · rw [show m + j - m = j from by omega] at hx
    rw [hr.low _ (by omega), h.fst x hx]
  · rw [show m - i + (m + j - m) + x = m - (i - j) + x from by omega]
    by_cases c : x < j
    · rw [hr.left x (by omega), h.snd x c]
    · have := hr.right (x - j) (by omega)
      rw [show m - (i - j) + (m + j - m) + (x - j) = m - (i - j) + x from by omega, show m - (i - j) + (x - j) = m - i + x from by omega] at this
      rw [this, h.rest _ (by omega) (by omega)]
  · rw [hr.high x hx, h.rest x (by omega) (by omega)]
theorem Rot.ofRight {d d' e : Array Wh} {m i j : Nat} (h : SwapR d d' (m - i) (m + j - i) i) (hij : i < j) (him : i ≤ m) (hr : Rot d' e (m - i) m (m + (j - i))) : Rot d e (m - i) m (m + j) := by
  refine ⟨hr.size.trans h.size, fun x hx => ?_, fun x hx => ?_, fun x hx => ?_, fun x hx => ?_⟩
  · rw [hr.low x (by omega), h.rest x (by omega) (by omega)]
  · rw [show m + j - m = j from by omega] at hx
    by_cases c : x < j - i
    · rw [hr.left x (by omega), h.rest _ (by omega) (by omega)]
    · have := hr.right (x - (j - i)) (by omega)
      rw [show m - i + (m + (j - i) - m) + (x - (j - i)) = m - i + x from by omega, h.fst _ (by omega), show m + j - i + (x - (j - i)) = m + x from by omega] at this
      exact this
  · rw [show m - i + (m + j - m) + x = m + j - i + x from by omega, hr.high _ (by omega), h.snd x (by omega)]
  · rw [hr.high x (by omega), h.rest x (by omega) (by omega)]
theorem Rot.ofBoth {d e : Array Wh} {m i : Nat} (h : SwapR d e (m - i) m i) (him : i ≤ m) : Rot d e (m - i) m (m + i) := by
  refine ⟨h.size, fun x hx => ?_, fun x hx => ?_, fun x hx => ?_, fun x hx => ?_⟩
  · exact h.rest x (by omega) (by omega)
  · exact h.fst x (by omega)
  · rw [show m - i + (m + i - m) + x = m + x from by omega]; exact h.snd x (by omega)
  · exact h.rest x (by omega) (by omega)
theorem Rot.noLeft (d : Array Wh) {s m e : Nat} (h : s = m) : Rot d d s m e := by
  subst h
  exact ⟨rfl, fun _ _ => rfl, fun _ _ => rfl, fun i hi => by omega, fun _ _ => rfl⟩
theorem Rot.noRight (d : Array Wh) {s m e : Nat} (h : m = e) : Rot d d s m e := by
  subst h
  exact ⟨rfl, fun _ _ => rfl, fun i hi => by omega, fun i hi => by rw [Nat.sub_self, Nat.add_zero], fun _ _ => rfl⟩

/-- The library's insertion sort keeps the order of each speed. -/
def ltW (x y : Wh) : Bool := decide (x.s < y.s)
theorem insInner_keeps (a : Nat) : ∀ (j : Nat) (d : Array Wh), j < d.size → Keeps d (insInner ltW a j d)
  | 0, d, _ => Keeps.refl d
  | j + 1, d, hj => by
    unfold insInner
    split
    · rename_i h
      rw [Bool.and_eq_true] at h
      have hlt : d[j + 1]!.s < d[j]!.s := of_decide_eq_true h.2
      have hr : Rot d (swp d (j + 1) j) j (j + 1) (j + 2) := by
        have := (Rot.last d (j + 1)).lastStep (k := j) (by omega) hj
        exact this
      refine (hr.keeps (by omega) (by omega) (by omega) fun x y h1 h2 h3 h4 => ?_).trans (insInner_keeps a j _ (by rw [size_swp]; omega))
      obtain rfl : x = j := by omega
      obtain rfl : y = x + 1 := by omega
      exact hlt
    · exact Keeps.refl d
theorem insOuter_keeps (a b : Nat) : ∀ (n i : Nat) (d : Array Wh), b - i = n → b ≤ d.size → Keeps d (insOuter ltW a b i d)
  | 0, i, d, hn, _ => by rw [insOuter, if_neg (by omega)]; exact Keeps.refl d
  | n + 1, i, d, hn, hb => by
    rw [insOuter, if_pos (by omega)]
    have h1 := insInner_keeps a i d (by omega)
    exact h1.trans (insOuter_keeps a b n (i + 1) _ (by omega) (by rw [h1.1]; exact hb))
theorem swoW : SWO ltW := by
  constructor <;> intros <;> simp_all [ltW] <;> omega
theorem insertion_merged {d : Array Wh} {a b : Nat} (hab : a ≤ b) (hb : b ≤ d.size) : Merged d (Sort.insertionSort ltW d a b) a b := by
  have h := insertionSort_holds (lt := ltW) swoW d a b hab hb
  have hz := h.1.1
  refine ⟨insOuter_keeps a b _ (a + 1) d rfl hb, fun i j h1 h2 h3 => ?_, h.1.2.1, fun i h1 h2 => ?_⟩
  · by_cases e : i = j
    · rw [e]; exact Int.le_refl _
    · have := of_decide_eq_false (h.2 i j h1 (by omega) h3)
      omega
  · have m1 : (Sort.insertionSort ltW d a b)[i]! ∈ ((Sort.insertionSort ltW d a b).extract a b).toList := by
      refine List.mem_iff_getElem.2 ⟨i - a, by simp; omega, ?_⟩
      have : i < (Sort.insertionSort ltW d a b).size := by omega
      simp [show a + (i - a) = i from by omega, this]
    have m2 := (h.1.2.2.mem_iff).1 m1
    obtain ⟨k, hk, e⟩ := List.mem_iff_getElem.1 m2
    simp at hk
    refine ⟨a + k, by omega, by omega, ?_⟩
    rw [← e]
    have : a + k < d.size := by omega
    simp [this]

end Go.Proofs.Ytibhlaojinedoaa
/- Lists of wheels in memory: what a slice reads, what the call owns, appending. -/
namespace Go.Proofs.Ytibhlaojinedoaa
set_option maxRecDepth 20000
open Go.ChangeShapes Go.WideShapes Go.ChangeAt Go.RowKit
set_option linter.unusedVariables false
set_option linter.unusedSimpArgs false

/-- A wheel's nine cells. -/
def wf (c : Wh) : Nat → Int := fun j => if j = 0 then c.s else c.r.up (j - 1)
abbrev wh (c : Wh) : Value := .agg (vec 9 (wf c))
def enc (c : Wh) : List Value := lst 9 (wf c)
def flat (ws : List Wh) : List Value := ws.flatMap enc
theorem enc_length (c : Wh) : (enc c).length = 9 := lst_length 9 _
theorem enc_one (c : Wh) : ∀ v ∈ enc c, v.oneCell' = true := lst_one 9 _
theorem flat_cons (c : Wh) (ws : List Wh) : flat (c :: ws) = enc c ++ flat ws := rfl
theorem flat_append (a b : List Wh) : flat (a ++ b) = flat a ++ flat b := by simp [flat]
theorem flat_one (c : Wh) : flat [c] = enc c := by simp [flat]
theorem flat_length : ∀ ws : List Wh, (flat ws).length = ws.length * 9
  | [] => rfl
  | c :: ws => by rw [flat_cons, List.length_append, enc_length, flat_length ws, List.length_cons]; omega
theorem flat_oneCell : ∀ ws : List Wh, ∀ v ∈ flat ws, v.oneCell' = true
  | [], v, h => by simp [flat] at h
  | c :: ws, v, h => by
    rw [flat_cons] at h
    rcases List.mem_append.1 h with h | h
    · exact enc_one c v h
    · exact flat_oneCell ws v h
theorem flat_at : ∀ {ws : List Wh} {i : Nat} {c : Wh}, ws[i]? = some c → ∀ j, j < 9 → (flat ws)[i * 9 + j]? = (enc c)[j]?
  | [], i, c, h, j, hj => by simp at h
  | d :: ws, 0, c, h, j, hj => by
    simp only [List.getElem?_cons_zero, Option.some.injEq] at h
    subst h
    rw [flat_cons, Nat.zero_mul, Nat.zero_add, List.getElem?_append_left (by rw [enc_length]; exact hj)]
  | d :: ws, i + 1, c, h, j, hj => by
    rw [List.getElem?_cons_succ] at h
    rw [flat_cons, List.getElem?_append_right (by rw [enc_length]; omega), enc_length, show (i + 1) * 9 + j - 9 = i * 9 + j from by omega]
    exact flat_at h j hj
theorem flat_take (ws : List Wh) (k : Nat) : flat (ws.take k) = (flat ws).take (k * 9) := by
  by_cases h : k ≤ ws.length
  · conv => rhs; rw [← List.take_append_drop k ws, flat_append]
    rw [List.take_left' (by rw [flat_length, List.length_take]; omega)]
  · rw [List.take_of_length_le (by omega), List.take_of_length_le (by rw [flat_length]; omega)]
theorem flat_drop (ws : List Wh) (k : Nat) : flat (ws.drop k) = (flat ws).drop (k * 9) := by
  by_cases h : k ≤ ws.length
  · conv => rhs; rw [← List.take_append_drop k ws, flat_append]
    rw [List.drop_left' (by rw [flat_length, List.length_take]; omega)]
  · rw [List.drop_of_length_le (by omega), List.drop_of_length_le (by rw [flat_length]; omega)]; rfl
theorem enc_at (c : Wh) (j : Nat) (h : j < 9) : (enc c)[j]? = some (.int .i64 (wf c j)) := by simp [enc, lst, h]

/-- A slice reads as a list of wheels. -/
def Reads (w : World) (v : Value) (ws : List Wh) : Prop :=
  ∃ (p : Option Addr) (cap : Nat), v = .slice p ws.length cap ∧ ws.length ≤ cap ∧ cap ≤ maxLen ∧ (p = none → cap = 0) ∧ (p ≠ none → ∃ g o, p = some ⟨g, o, none⟩ ∧ g < w.heap.size ∧ w.rangeAt g o (flat ws))
theorem range_below {w w' : World} {g o : Nat} {cs : List Value} (h : w.rangeAt g o cs) (hg : g < w.heap.size) (hb : Below w.heap.size w w') : w'.rangeAt g o cs := fun j v hv =>
  (World.cell?_of_block (hb.block g hg)).trans (h j v hv)
theorem Reads.below {w w' : World} {v : Value} {ws : List Wh} (h : Reads w v ws) (hb : Below w.heap.size w w') : Reads w' v ws := by
  obtain ⟨p, cap, h1, h2, h3, h4, h5⟩ := h
  refine ⟨p, cap, h1, h2, h3, h4, fun hn => ?_⟩
  obtain ⟨g, o, e, hg, hr⟩ := h5 hn
  exact ⟨g, o, e, Nat.lt_of_lt_of_le hg hb.size, range_below hr hg hb⟩
theorem range_part {w : World} {g o i : Nat} {ws : List Wh} {c : Wh} (h : w.rangeAt g o (flat ws)) (hi : ws[i]? = some c) : w.rangeAt g (o + i * 9) (enc c) := fun j v hv => by
  have hj : j < 9 := by
    rcases Nat.lt_or_ge j 9 with h | h
    · exact h
    · rw [List.getElem?_eq_none (by rw [enc_length]; exact h)] at hv; cases hv
  rw [Nat.add_assoc]
  exact h (i * 9 + j) v (by rw [flat_at hi j hj]; exact hv)
theorem range_radius {w : World} {g o : Nat} {c : Wh} (h : w.rangeAt g o (enc c)) : w.rangeAt g (o + 1) (lst 8 c.r.up) := fun j v hv => by
  have hj : j < 8 := by
    rcases Nat.lt_or_ge j 8 with h | h
    · exact h
    · rw [List.getElem?_eq_none (by rw [lst_length]; exact h)] at hv; cases hv
  have := h (1 + j) v (by rw [enc_at c _ (by omega), ← hv]; simp [lst, hj, wf])
  rwa [← Nat.add_assoc] at this
theorem range_speed {w : World} {g o : Nat} {c : Wh} (h : w.rangeAt g o (enc c)) : w.cell? ⟨g, o, none⟩ = some (.int .i64 c.s) := by
  have := h 0 _ (enc_at c 0 (by omega))
  simpa [wf] using this

/-- The list that is answered: none where it fails. -/
def only (b : Bool) (l : List Wh) : List Wh := if b then l else []
theorem only_yes (l : List Wh) : only true l = l := rfl
theorem only_no (l : List Wh) : only false l = [] := rfl
/-- A slice that the call has made holds a list of wheels. -/
abbrev Own (w : World) (B T : Nat) (v : Value) (ws : List Wh) : Prop := w.ownsRow B T 9 v ws.length (flat ws)
theorem own_reads {w : World} {B T : Nat} {v : Value} {ws : List Wh} (h : Own w B T v ws) : Reads w v ws := by
  rcases h.2 with ⟨rfl, h0⟩ | ⟨g, cap, cur, rfl, _, hg, h1, h2, h3, h4⟩
  · exact ⟨none, 0, by rw [h0], by omega, by simp [maxLen], fun _ => rfl, fun hn => absurd rfl hn⟩
  · refine ⟨_, cap, rfl, h1, h2, (fun hn => by cases hn), fun _ => ⟨g, 0, rfl, (Array.getElem?_eq_some_iff.1 hg).1, fun j u hu => ?_⟩⟩
    rw [Nat.zero_add, cell_of_row w g j cur T (0, 0) hg]
    rw [← h4, List.getElem?_take] at hu
    split at hu
    · simpa using hu
    · cases hu
theorem own_below {w w' : World} {B T : Nat} {v : Value} {ws : List Wh} (h : Own w B T v ws) (hb : Below w.heap.size w w') : Own w' B T v ws := by
  refine ⟨h.1, ?_⟩
  rcases h.2 with h0 | ⟨g, cap, cur, rfl, hB, hg, h1, h2, h3, h4⟩
  · exact .inl h0
  · exact .inr ⟨g, cap, cur, rfl, hB, (hb.block g (Array.getElem?_eq_some_iff.1 hg).1).trans hg, h1, h2, h3, h4⟩
theorem own_mono {w : World} {B B' T : Nat} {v : Value} {ws : List Wh} (h : Own w B T v ws) (hB : B' ≤ B) : Own w B' T v ws := by
  refine ⟨h.1, ?_⟩
  rcases h.2 with h0 | ⟨g, cap, cur, rfl, hg0, hg, h1, h2, h3, h4⟩
  · exact .inl h0
  · exact .inr ⟨g, cap, cur, rfl, Nat.le_trans hB hg0, hg, h1, h2, h3, h4⟩
theorem own_nil (w : World) (B T : Nat) : Own w B T (.slice none 0 0) [] := World.ownsRow_nil w B T 9
theorem below_grown {B : Nat} {a w w' : World} {row : Option Nat} (h : Below B a w) (hg : w.grownBy w' row) (hB : B ≤ w.heap.size) (hrow : ∀ k, row = some k → B ≤ k) : Below B a w' :=
  h.grown hg hB hrow
theorem own_block {w : World} {B T : Nat} {v : Value} {ws : List Wh} (h : Own w B T v ws) : ∀ k, v.ownBlock = some k → B ≤ k := fun k hk => (h.lt k hk).1

section
variable {P : Program}
/-- Appending what a slice reads to what the call owns. -/
theorem run_append_list (w : World) (B : Nat) (t ty e : TypeId) (i : TypeInfo) (z : Value) (bytes : Nat) (ht : P.underlying t = some (.slice e)) (hi : P.info? e = some i) (hz : i.zero = some z)
    (hsize : i.size = 9) (hby : i.bytes = bytes) (hzs : z.cells.size = 9) (hb72 : bytes ≤ 72) (v x : Value) (xs ys : List Wh) (hown : Own w B e v xs) (hx : Reads w x ys) (hlen : xs.length + ys.length ≤ 1000000000000) (hB : B ≤ w.heap.size) :
    ∃ v' w', (Builtin.append_ #[t, t] ty #[v, x]).run P w = .ok v' w' ∧ Own w' B e v' (xs ++ ys) ∧ w.grownBy w' v.ownBlock := by
  obtain ⟨p, cap, rfl, h1, h2, h3, h4⟩ := hx
  by_cases hp : p = none
  · subst hp
    have hc := h3 rfl
    have : ys = [] := List.length_eq_zero_iff.1 (by omega)
    subst this
    subst hc
    refine ⟨v, w, run_append_owned_none (P := P) w B t ty e i 9 ht hi v xs.length (flat xs) hown, by rw [List.append_nil]; exact hown, World.grownBy.refl w _⟩
  · obtain ⟨g, o, rfl, hg, hr⟩ := h4 hp
    have hby' : (xs.length + ys.length) * bytes ≤ 140737488355328 := by
      have := Nat.mul_le_mul hlen hb72
      omega
    obtain ⟨v', w', hr1, ho, hgr, _⟩ := run_append_own (P := P) w B t ty e i z 9 bytes ht hi hz hsize hby hzs (by omega) v xs.length (flat xs) hown ⟨g, o, none⟩ ys.length cap (flat ys) (flat_length ys)
      (fun j u hu => by rw [Addr.add_mid]; exact hr j u hu) (flat_oneCell ys) (by simp only [maxLen]; omega) hby' hB
    refine ⟨v', w', hr1, ?_, hgr⟩
    show w'.ownsRow B e 9 v' (xs ++ ys).length (flat (xs ++ ys))
    rw [List.length_append, flat_append]
    exact ho
/-- One of the call's own elements lies where its index says. -/
theorem reads_lit (w : World) (c : Wh) (T : Nat) : Reads (w.alloc (.cells (vec 9 (wf c)) T)) (.slice (some ⟨w.heap.size, 0, none⟩) 1 1) [c] := by
  refine ⟨_, 1, rfl, Nat.le_refl _, by simp [maxLen], (fun h => by cases h), fun _ => ⟨_, _, rfl, by simp, fun j v hv => ?_⟩⟩
  rw [Nat.zero_add, cell_of_row _ _ _ _ _ _ (heap_alloc_new w _)]
  rw [flat_one] at hv
  simpa [vec, enc] using hv
end

/-- A type of slices whose elements have nine cells of numbers. -/
structure Ty9 (P : Program) (t e : TypeId) : Prop where
  sl : P.underlying t = some (.slice e)
  inf : ∃ i z, P.info? e = some i ∧ i.zero = some z ∧ i.size = 9 ∧ i.bytes ≤ 72 ∧ z.cells.size = 9
theorem ty9_of {P : Program} {t e : TypeId} {z : Value} {b : Nat} (h1 : P.underlying t = some (.slice e)) (h2 : (P.info? e).map (fun i => (i.zero, i.size, i.bytes)) = some (some z, 9, b)) (hb : b ≤ 72) (hz : z.cells.size = 9) : Ty9 P t e := by
  obtain ⟨i, hi, e1, e2, e3⟩ := info_parts h2
  exact ⟨h1, i, z, hi, e1, e2, by omega, hz⟩
theorem below_fresh {w0 w w' : World} {B : Nat} (h : Below B w0 w) (hB : B ≤ w.heap.size) (hg : w.grownBy w' none) : Below B w0 w' := below_grown h hg hB fun k hk => by cases hk

section
variable {P : Program} {t e : TypeId} {ops : Array Oper} {rest : List Oper} {o : Oper} {a : Act} {Q : Exit → Act → World → Prop} {w0 w : World} {B : Nat}
/-- 'make' of an empty list with room. -/
theorem make9 (ty : Ty9 P t e) (hgd : o.guard = none) {l c : Operand} (hop : o.op = .makeSlice t l c) (n : Nat) (hl : a.eval l = .int .i64 0) (hc : a.eval c = .int .i64 n)
    (hn : n ≤ 1000000000000) (hb : Below B w0 w) (hB : B ≤ w.heap.size)
    (h : ∀ w', Own w' B e (.slice (some ⟨w.heap.size, 0, none⟩) 0 n) [] → Below B w0 w' → B ≤ w'.heap.size → wpList P ops Q rest (a.put o.dst (.slice (some ⟨w.heap.size, 0, none⟩) 0 n)) w') : wpList P ops Q (o :: rest) a w := by
  obtain ⟨i, z, hi, hz, hs, hby, hzs⟩ := ty.inf
  have h1 : i.bytes * n ≤ 281474976710656 := by have := Nat.mul_le_mul hby hn; omega
  exact wpList_make_own w hgd l c t hop B e i z 9 ty.sl hi hz hs .i64 .i64 n n hl hc rfl h1 (by simp only [maxLen]; omega) hB fun w' ho hg => h w' ho (below_fresh hb hB hg) (Nat.le_trans hB hg.size)
theorem wp_append_list {K : Act → World → Prop} (ty : Ty9 P t e) {s x : Operand} (hop : o.op = .call { callee := .builtin .append, args := #[s, x], argTypes := #[t, t] })
    {v x' : Value} {xs ys : List Wh} (hs : a.eval s = v) (hx : a.eval x = x') (hown : Own w B e v xs) (hr : Reads w x' ys) (hlen : xs.length + ys.length ≤ 1000000000000) (hb : Below B w0 w) (hB : B ≤ w.heap.size)
    (h : ∀ v' w', Own w' B e v' (xs ++ ys) → Below B w0 w' → B ≤ w'.heap.size → K (a.put o.dst v') w') : o.wp P a w K Q := by
  obtain ⟨i, z, hi, hz, hsz, hby, hzs⟩ := ty.inf
  obtain ⟨v', w', hr1, ho, hg⟩ := run_append_list (P := P) w B t o.type e i z i.bytes ty.sl hi hz hsz rfl hzs hby v x' xs ys hown hr hlen hB
  unfold Oper.wp execOp
  simp only [hop, resolve, invoke, builtin, Sem.run_bind, Sem.run_pure, Result.andThen_ok, List.map_toArray, List.map_cons, List.map_nil, hs, hx, hr1]
  exact h v' w' ho (below_grown hb hg hB (own_block hown)) (Nat.le_trans hB hg.size)
/-- Appending in a plain region. -/
theorem append9 (ty : Ty9 P t e) (hgd : o.guard = none) {s x : Operand} (hop : o.op = .call { callee := .builtin .append, args := #[s, x], argTypes := #[t, t] })
    {v x' : Value} {xs ys : List Wh} (hs : a.eval s = v) (hx : a.eval x = x') (hown : Own w B e v xs) (hr : Reads w x' ys) (hlen : xs.length + ys.length ≤ 1000000000000) (hb : Below B w0 w) (hB : B ≤ w.heap.size)
    (h : ∀ v' w', Own w' B e v' (xs ++ ys) → Below B w0 w' → B ≤ w'.heap.size → wpList P ops Q rest (a.put o.dst v') w') : wpList P ops Q (o :: rest) a w :=
  wpList_plain hgd fun _ hK => wp_append_list ty hop hs hx hown hr hlen hb hB fun v' w' h1 h2 h3 => hK _ _ (h v' w' h1 h2 h3)
/-- Reading the element of a list, whole or its radius. -/
theorem load_wheel {T : TypeId} {d : TypeDesc} {g p : Nat} {c : Wh} (hgd : o.guard = none) {x : Operand} (ho : o.op = .load T x) (hx : a.eval x = .pointer (some ⟨g, p, none⟩)) (hr : w.rangeAt g p (enc c))
    (hu : P.underlying T = some d) (hd : d.isRow = true) (hi : (P.info? T).map (·.size) = some 9)
    (h : wpList P ops Q rest (a.put o.dst (wh c)) w) : wpList P ops Q (o :: rest) a w :=
  wpList_load_mid hgd T x ho g p hx (enc c) d hr hu hd (by rw [enc_length]; exact hi) h
theorem load_part {T : TypeId} {d : TypeDesc} {g p : Nat} {f : Nat → Int} (hgd : o.guard = none) {x : Operand} (ho : o.op = .load T x) (hx : a.eval x = .pointer (some ⟨g, p, none⟩)) (hr : w.rangeAt g p (lst 8 f))
    (hu : P.underlying T = some d) (hd : d.isRow = true) (hi : (P.info? T).map (·.size) = some 8)
    (h : wpList P ops Q rest (a.put o.dst (pt f)) w) : wpList P ops Q (o :: rest) a w :=
  wpList_load_mid hgd T x ho g p hx (lst 8 f) d hr hu hd (by rw [lst_length]; exact hi) h
/-- A list of one wheel, made on the spot. -/
theorem fill_one (g : Nat → Value) (f : Nat → Int) : Instr.fill (fun i => some (i * 9, 9)) ((Array.range (1 * 9)).map g) [(0, .agg (vec 9 f))] = some (vec 9 f) := by
  have h1 : (Array.range (1 * 9)).map g = #[g 0, g 1, g 2, g 3, g 4, g 5, g 6, g 7, g 8] := by
    refine Array.ext (by simp) fun i h1 h2 => ?_
    simp only [Nat.one_mul, Array.size_map, Array.size_range] at h1
    have : i = 0 ∨ i = 1 ∨ i = 2 ∨ i = 3 ∨ i = 4 ∨ i = 5 ∨ i = 6 ∨ i = 7 ∨ i = 8 := by omega
    rcases this with rfl | rfl | rfl | rfl | rfl | rfl | rfl | rfl | rfl <;> simp
  have h2 : vec 9 f = #[.int .i64 (f 0), .int .i64 (f 1), .int .i64 (f 2), .int .i64 (f 3), .int .i64 (f 4), .int .i64 (f 5), .int .i64 (f 6), .int .i64 (f 7), .int .i64 (f 8)] := rfl
  rw [h1, h2]
  simp [Instr.fill, Value.cells]
theorem run_one (ty : Ty9 P t e) (f : Nat → Int) (w : World) : (Instr.buildSlice t 1 #[(0, .agg (vec 9 f))]).run P w = .ok (.slice (some ⟨w.heap.size, 0, none⟩) 1 1) (w.alloc (.cells (vec 9 f) e)) := by
  obtain ⟨i, z, hi, hz, hs, hby, hzs⟩ := ty.inf
  have hf := fill_one (fun x => z.cells[x % z.cells.size]!) f
  simp [Instr.buildSlice, run_underlying ty.sl, sizeOf, typeInfo, zeroValue, hi, hz, hs, Sem.run_bind]
  rw [Nat.one_mul] at hf
  simp [hf, newRow]
theorem one9 (ty : Ty9 P t e) {x : Operand} {f : Nat → Int} (hgd : o.guard = none) (ho : o.op = .buildSlice t 1 #[(0, x)]) (hx : a.eval x = .agg (vec 9 f))
    (h : wpList P ops Q rest (a.put o.dst (.slice (some ⟨w.heap.size, 0, none⟩) 1 1)) (w.alloc (.cells (vec 9 f) e))) : wpList P ops Q (o :: rest) a w := by
  refine wpList_plain hgd fun K hK => ?_
  unfold Oper.wp execOp
  simp [ho, hx, Sem.run_bind, run_one ty f w, Result.andThen]
  exact hK _ _ h
/-- Building a wheel. -/
theorem build_wheel {T : TypeId} {x y : Operand} {s : Int} {f : Nat → Int} (hgd : o.guard = none) (ho : o.op = .build T #[(0, x), (1, y)]) (hx : a.eval x = .int .i64 s) (hy : a.eval y = pt f)
    (hbu : ∀ (s : Int) (f : Nat → Int), P.built T [(0, .int .i64 s), (1, .agg (vec 8 f))] = some (vec 9 (fun j => if j = 0 then s else f (j - 1))))
    (h : wpList P ops Q rest (a.put o.dst (wh ⟨s, dn f⟩)) w) : wpList P ops Q (o :: rest) a w := by
  have e : (#[(0, x), (1, y)].map fun (p : Nat × Operand) => (p.1, a.eval p.2)).toList = [(0, .int .i64 s), (1, .agg (vec 8 f))] := by simp [hx, hy, pt]
  have e2 : vec 9 (fun j => if j = 0 then s else f (j - 1)) = vec 9 (wf ⟨s, dn f⟩) := vec_same fun j hj => by
    by_cases h0 : j = 0
    · simp [wf, h0]
    · simp only [wf, h0, if_false]; exact (up_dn f (j - 1) (by omega)).symm
  refine wpList_build hgd T _ ho ?_ ?_
  · show (P.built T (#[(0, x), (1, y)].map fun (p : Nat × Operand) => (p.1, a.eval p.2)).toList).isSome = true
    rw [e, hbu]; rfl
  · show wpList P ops Q rest (a.put o.dst (.agg ((P.built T (#[(0, x), (1, y)].map fun (p : Nat × Operand) => (p.1, a.eval p.2)).toList).getD #[]))) w
    rw [e, hbu, e2]; exact h
theorem build_zero9 {T : TypeId} (hgd : o.guard = none) (ho : o.op = .build T #[]) (hbu : P.built T [] = some (vec 9 nul))
    (h : wpList P ops Q rest (a.put o.dst (.agg (vec 9 nul))) w) : wpList P ops Q (o :: rest) a w := by
  have e : (#[].map fun (p : Nat × Operand) => (p.1, a.eval p.2)).toList = [] := by simp
  refine wpList_build hgd T _ ho ?_ ?_
  · show (P.built T (#[].map fun (p : Nat × Operand) => (p.1, a.eval p.2)).toList).isSome = true
    rw [e, hbu]; rfl
  · show wpList P ops Q rest (a.put o.dst (.agg ((P.built T (#[].map fun (p : Nat × Operand) => (p.1, a.eval p.2)).toList).getD #[]))) w
    rw [e, hbu]; exact h
theorem yields_build {T : TypeId} {x y : Operand} {s : Int} {f : Nat → Int}
    (hbu : ∀ (s : Int) (f : Nat → Int), P.built T [(0, .int .i64 s), (1, .agg (vec 8 f))] = some (vec 9 (fun j => if j = 0 then s else f (j - 1))))
    (ho : o.op = .build T #[(0, x), (1, y)]) (hx : a.eval x = .int .i64 s) (hy : a.eval y = pt f) : (execOp a.eval o).run P w = .ok (.value (wh ⟨s, dn f⟩)) w := by
  have e2 : vec 9 (fun j => if j = 0 then s else f (j - 1)) = vec 9 (wf ⟨s, dn f⟩) := vec_same fun j hj => by
    by_cases h0 : j = 0
    · simp [wf, h0]
    · simp only [wf, h0, if_false]; exact (up_dn f (j - 1) (by omega)).symm
  have hr := run_build (P := P) w T #[(0, .int .i64 s), (1, .agg (vec 8 f))] _ (by simpa using hbu s f)
  simp [execOp, ho, hx, hy, pt, hr, Sem.run_bind, e2]
/-- Storing over a row that is just made. -/
theorem store_new {ty T : TypeId} {n : Nat} {f f' : Nat → Int} {cs : Array Value} {w : World} (hgd : o.guard = none) {x y : Operand} (ho : o.op = .store ty x y) (hx : a.eval x = .pointer (some ⟨w.heap.size, 0, none⟩)) (hy : a.eval y = .agg (vec n f'))
    (hcs : cs = vec n f) (hi : (P.info? ty).map (·.size) = some n) (h : wpList P ops Q rest (a.put o.dst undef) (w.alloc (.cells (vec n f') T))) : wpList P ops Q (o :: rest) a (w.alloc (.cells cs T)) := by
  subst hcs
  refine store_row hgd ho hx hy (RowAt.new w n T f) hi ?_
  rw [World.setRow_alloc_new]
  exact h
end
/-- A wheel's own row. -/
theorem row_wheel {w : World} {g : Nat} {T : TypeId} {c : Wh} (h : RowAt w g 9 T (wf c)) : w.rangeAt g 0 (enc c) := h.range
theorem row_radius {w : World} {g : Nat} {T : TypeId} {c : Wh} (h : RowAt w g 9 T (wf c)) : w.rangeAt g 1 (lst 8 c.r.up) := range_radius (row_wheel h)
theorem row_speed {w : World} {g : Nat} {T : TypeId} {c : Wh} (h : RowAt w g 9 T (wf c)) : w.cell? ⟨g, 0, none⟩ = some (.int .i64 c.s) := range_speed (row_wheel h)
theorem zero9 : (#[.int .i64 0, .int .i64 0, .int .i64 0, .int .i64 0, .int .i64 0, .int .i64 0, .int .i64 0, .int .i64 0, .int .i64 0] : Array Value) = vec 9 nul := rfl

end Go.Proofs.Ytibhlaojinedoaa
/- Contracts of impl's reckoning with circles. -/
namespace Go.Proofs.Ytibhlaojinedoaa
set_option maxRecDepth 20000
open Go.ChangeShapes Go.WideShapes Go.ChangeAt Go.RowKit
set_option linter.unusedVariables false
set_option linter.unusedSimpArgs false

theorem info_wheel : (Try.prog.info? 87).map (·.size) = some 9 := by kernel_rfl
theorem tyW : Ty9 Try.prog 67 87 := ty9_of (z := .agg (vec 9 nul)) (b := 72) Try.underlying67 (by kernel_rfl) (by omega) rfl
theorem built_wheel (s : Int) (f : Nat → Int) : Try.prog.built 87 [(0, .int .i64 s), (1, .agg (vec 8 f))] = some (vec 9 (fun j => if j = 0 then s else f (j - 1))) := by kernel_rfl
theorem valid_long {ws : List Wh} (h : 12 < ws.length) : valid ws = false := by unfold valid; rw [decide_eq_false (by omega)]; rfl
theorem all_take {ws : List Wh} {k : Nat} {c : Wh} (h : (ws.take k).all wOk = true) (hc : ws[k]? = some c) (hk : wOk c = true) : (ws.take (k + 1)).all wOk = true := by
  rw [List.take_add_one, hc, List.all_append, h]; simp [hk]
theorem take_next {ws : List Wh} {k : Nat} {c : Wh} (hc : ws[k]? = some c) : ws.take (k + 1) = ws.take k ++ [c] := by rw [List.take_add_one, hc]; rfl
theorem valid_bad {ws : List Wh} {k : Nat} {c : Wh} (hc : ws[k]? = some c) (hk : wOk c = false) : valid ws = false := by
  unfold valid
  rw [List.all_eq_false.2 ⟨c, List.mem_of_getElem? hc, by rw [hk]; decide⟩, Bool.and_false]

end Go.Proofs.Ytibhlaojinedoaa
