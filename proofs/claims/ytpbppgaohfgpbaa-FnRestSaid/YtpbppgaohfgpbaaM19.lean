/-
  Out of the text WheelJ: what the draws of polygons need.
  Out of the text WheelK: what the draws of polygons need.
  Out of the text WheelS: what the draws of polygons need.
  Out of the text WheelT: what the draws of polygons need.
-/
import Derived.Test.YtpbppgaohfgpbaaM18
import Derived.Test.YtpbppgaohfgpbaaM01
import Derived.Test.YtpbppgaohfgpbaaM03
/- Out of the text WheelJ: what the draws of polygons need. -/
namespace Go.Proofs.Ytpbppgaohfgpbaa
set_option maxRecDepth 20000
open Go.ChangeShapes Go.WideShapes Go.ChangeAt Go.RowKit
set_option linter.unusedVariables false
set_option linter.unusedSimpArgs false
def got (o : Option (List Wh)) : List Wh := o.getD []
theorem own_form {w : World} {B T : Nat} {v : Value} {ws : List Wh} (h : Own w B T v ws) : ∃ p cap, v = .slice p ws.length cap ∧ cap ≤ 9223372036854775807 ∧ ws.length ≤ cap ∧ (ws ≠ [] → ∃ g, p = some ⟨g, 0, none⟩ ∧ B ≤ g) := by
  rcases h.2 with ⟨rfl, h0⟩ | ⟨g, cap, cur, rfl, hg0, hg, h1, h2, h3, h4⟩
  · exact ⟨none, 0, by rw [h0], by omega, by omega, fun hn => absurd (List.length_eq_zero_iff.1 h0) hn⟩
  · exact ⟨_, cap, rfl, by simpa [maxLen] using h2, h1, fun _ => ⟨g, rfl, hg0⟩⟩

end Go.Proofs.Ytpbppgaohfgpbaa
/- Out of the text WheelK: what the draws of polygons need. -/
namespace Go.Proofs.Ytpbppgaohfgpbaa
set_option maxRecDepth 20000
open Go.ChangeShapes Go.WideShapes Go.ChangeAt Go.RowKit
set_option linter.unusedVariables false
set_option linter.unusedSimpArgs false
theorem ins_len (c : Wh) : ∀ out : List Wh, (ins out c).length ≤ out.length + 1
  | [] => by simp [ins]
  | d :: out => by
    unfold ins
    have := ins_len c out
    split
    · simp only [List.length_cons]; omega
    · split <;> simp
end Go.Proofs.Ytpbppgaohfgpbaa
/- Out of the text WheelS: what the draws of polygons need. -/
namespace Go.Proofs.Ytpbppgaohfgpbaa
set_option maxRecDepth 20000
open Go.ChangeShapes Go.WideShapes Go.ChangeAt Go.RowKit
set_option linter.unusedVariables false
set_option linter.unusedSimpArgs false
section
variable {P : Program} {ops : Array Oper} {rest : List Oper} {o : Oper} {a : Act} {Q : Exit → Act → World → Prop} {w : World}
/-- A radius that is read behind '&&' or '||'. -/
theorem load_part_on {T : TypeId} {d : TypeDesc} {g p : Nat} {f : Nat → Int} (hw : Region.wanted o (yielded ops a.tmps) = true) {x : Operand} (ho : o.op = .load T x) (hx : a.eval x = .pointer (some ⟨g, p, none⟩)) (hr : w.rangeAt g p (lst 8 f))
    (hu : P.underlying T = some d) (hd : d.isRow = true) (hi : (P.info? T).map (·.size) = some 8)
    (h : wpList P ops Q rest (a.put o.dst (pt f)) w) : wpList P ops Q (o :: rest) a w :=
  wpList_step fun K hK => by
    rw [if_pos hw]
    exact wp_load_mid T x ho g p hx (lst 8 f) d hr hu hd (by rw [lst_length]; exact hi) (hK _ _ h)
end
theorem ins_split (b : Bool) (c : Wh) (B : List Wh) : ∀ A : List Wh, (∀ d ∈ A, d.s < c.s) → ins (A ++ B) c = A ++ ins B c ∧ insOk b (A ++ B) c = insOk b B c
  | [], _ => ⟨rfl, rfl⟩
  | d :: A, h => by
    obtain ⟨h1, h2⟩ := ins_split b c B A fun e he => h e (by simp [he])
    rw [List.cons_append]
    constructor
    · conv => lhs; unfold ins
      rw [if_pos (h d (by simp)), h1]; rfl
    · conv => lhs; unfold insOk
      rw [if_pos (h d (by simp)), h2]
theorem ins_new (c : Wh) : ∀ B : List Wh, (∀ d, B[0]? = some d → c.s < d.s) → ins B c = c :: B ∧ insOk true B c = okv c.r
  | [], _ => ⟨rfl, rfl⟩
  | d :: B, h => by
    have := h d rfl
    unfold ins insOk
    rw [if_neg (by omega), if_neg (by omega), if_neg (by omega), if_neg (by omega)]
    exact ⟨rfl, rfl⟩
theorem ins_same (b : Bool) (c l : Wh) (hl : l.s = c.s) (B : List Wh) : ins (l :: B) c = ⟨l.s, V.add l.r c.r⟩ :: B ∧ insOk b (l :: B) c = okv (V.add l.r c.r) := by
  unfold ins insOk
  rw [if_neg (by omega), if_pos hl, if_neg (by omega), if_pos hl]
  exact ⟨rfl, rfl⟩
theorem reads_take {w : World} {g o cap k : Nat} {ws : List Wh} (hk : k ≤ ws.length) (hc1 : ws.length ≤ cap) (hc2 : cap ≤ maxLen) (hg : g < w.heap.size) (h : w.rangeAt g o (flat ws)) : Reads w (.slice (some ⟨g, o, none⟩) k cap) (ws.take k) :=
  ⟨_, cap, by rw [List.length_take, Nat.min_eq_left hk], by rw [List.length_take]; omega, hc2, (fun h => by cases h), fun _ => ⟨g, o, rfl, hg, fun j v hv => by
    rw [flat_take, List.getElem?_take] at hv
    split at hv
    · exact h j v hv
    · cases hv⟩⟩
theorem reads_drop {w : World} {g o cap k : Nat} {ws : List Wh} (hk : k ≤ ws.length) (hc1 : ws.length ≤ cap) (hc2 : cap ≤ maxLen) (hg : g < w.heap.size) (h : w.rangeAt g o (flat ws)) : Reads w (.slice (some ⟨g, o + k * 9, none⟩) (ws.length - k) (cap - k)) (ws.drop k) :=
  ⟨_, cap - k, by rw [List.length_drop], by rw [List.length_drop]; omega, by omega, (fun h => by cases h), fun _ => ⟨g, _, rfl, hg, fun j v hv => by
    rw [flat_drop, List.getElem?_drop] at hv
    rw [Nat.add_assoc]
    exact h _ v hv⟩⟩
theorem reads_off {w : World} {g o off cap k : Nat} {ws : List Wh} (hk : k ≤ ws.length) (hc1 : ws.length ≤ cap) (hc2 : cap ≤ maxLen) (hg : g < w.heap.size) (h : w.rangeAt g o (flat ws)) (hoff : (cap = k → off = o) ∧ (¬ cap = k → off = o + k * 9)) :
    Reads w (.slice (some ⟨g, off, none⟩) (ws.length - k) (cap - k)) (ws.drop k) := by
  by_cases hck : cap = k
  · have e : ws.drop k = [] := List.drop_of_length_le (by omega)
    have e2 : ws.length - k = 0 := by omega
    rw [e, e2]
    exact ⟨_, cap - k, rfl, by simp, by omega, (fun h => by cases h), fun _ => ⟨g, off, rfl, hg, fun j v hv => by simp [flat] at hv⟩⟩
  · rw [hoff.2 hck]; exact reads_drop hk hc1 hc2 hg h
theorem wp_one9 {P : Program} {o : Oper} {a : Act} {w : World} {K : Act → World → Prop} {Q : Exit → Act → World → Prop} {t e : TypeId} (ty : Ty9 P t e) {x : Operand} {f : Nat → Int} (ho : o.op = .buildSlice t 1 #[(0, x)]) (hx : a.eval x = .agg (vec 9 f))
    (h : K (a.put o.dst (.slice (some ⟨w.heap.size, 0, none⟩) 1 1)) (w.alloc (.cells (vec 9 f) e))) : o.wp P a w K Q := by
  unfold Oper.wp execOp
  simp [ho, hx, Sem.run_bind, run_one ty f w, Result.andThen]
  exact h
theorem reads_kept {w w' : World} {row : Option Nat} {g o n cap : Nat} {ws : List Wh} (h : Reads w (.slice (some ⟨g, o, none⟩) n cap) ws) (hg : w.grownBy w' row) (hne : some g ≠ row) : Reads w' (.slice (some ⟨g, o, none⟩) n cap) ws := by
  obtain ⟨p, cap', e, h2, h3, h4, h5⟩ := h
  refine ⟨p, cap', e, h2, h3, h4, fun hn => ?_⟩
  obtain ⟨g', o', e', hg', hr⟩ := h5 hn
  refine ⟨g', o', e', Nat.lt_of_lt_of_le hg' hg.size, fun j v hv => hg.cell (hr j v hv) ?_⟩
  simp only [Value.slice.injEq] at e
  have := e.1.trans e'
  simp only [Option.some.injEq, Addr.mk.injEq] at this
  rw [← this.1]; exact hne
theorem wp_append_list2 {P : Program} {t e : TypeId} {o : Oper} {a : Act} {Q : Exit → Act → World → Prop} {w0 w : World} {B : Nat} {K : Act → World → Prop} (ty : Ty9 P t e) {s x : Operand} (hop : o.op = .call { callee := .builtin .append, args := #[s, x], argTypes := #[t, t] })
    {v x' : Value} {xs ys : List Wh} (hs : a.eval s = v) (hx : a.eval x = x') (hown : Own w B e v xs) (hr : Reads w x' ys) (hlen : xs.length + ys.length ≤ 1000000000000) (hb : Below B w0 w) (hB : B ≤ w.heap.size)
    (h : ∀ v' w', Own w' B e v' (xs ++ ys) → Below B w0 w' → B ≤ w'.heap.size → w.grownBy w' v.ownBlock → K (a.put o.dst v') w') : o.wp P a w K Q := by
  obtain ⟨i, z, hi, hz, hsz, hby, hzs⟩ := ty.inf
  obtain ⟨v', w', hr1, ho, hg⟩ := run_append_list (P := P) w B t o.type e i z i.bytes ty.sl hi hz hsz rfl hzs hby v x' xs ys hown hr hlen hB
  unfold Oper.wp execOp
  simp only [hop, resolve, invoke, builtin, Sem.run_bind, Sem.run_pure, Result.andThen_ok, List.map_toArray, List.map_cons, List.map_nil, hs, hx, hr1]
  exact h v' w' ho (below_grown hb hg hB (own_block hown)) (Nat.le_trans hB hg.size) hg
end Go.Proofs.Ytpbppgaohfgpbaa
/- Out of the text WheelT: what the draws of polygons need. -/
namespace Go.Proofs.Ytpbppgaohfgpbaa
set_option maxRecDepth 20000
open Go.ChangeShapes Go.WideShapes Go.ChangeAt Go.RowKit
set_option linter.unusedVariables false
set_option linter.unusedSimpArgs false
theorem done_eq (R : List Wh) : done R = if valid (R.filter nz) then some (R.filter nz) else none := rfl

theorem ins_ne (R : List Wh) (c : Wh) : ins R c ≠ [] := by
  cases R with
  | nil => simp [ins]
  | cons d R =>
    unfold ins
    split
    · simp
    · split <;> simp
theorem ins_big (c : Wh) (M : Int) (hM : 1000000 ≤ M) : ∀ R : List Wh, insOk true R c = true → (∀ d ∈ R, Big d.r M) → ∀ d ∈ ins R c, Big d.r M
  | [], h, _, d, hd => by
    simp only [insOk, Bool.not_true, Bool.false_or] at h
    simp only [ins, List.mem_singleton] at hd
    rw [hd]; exact (big_ok h).mono hM
  | e :: R, h, hR, d, hd => by
    unfold insOk at h
    unfold ins at hd
    by_cases h1 : e.s < c.s
    · rw [if_pos h1] at h hd
      rcases List.mem_cons.1 hd with rfl | hd
      · exact hR _ (by simp)
      · exact ins_big c M hM R h (fun d hd => hR d (by simp [hd])) d hd
    · rw [if_neg h1] at h hd
      by_cases h2 : e.s = c.s
      · rw [if_pos h2] at h hd
        rcases List.mem_cons.1 hd with rfl | hd
        · exact (big_ok h).mono hM
        · exact hR d (by simp [hd])
      · rw [if_neg h2] at h hd
        simp only [Bool.not_true, Bool.false_or] at h
        rcases List.mem_cons.1 hd with rfl | hd
        · exact (big_ok h).mono hM
        · exact hR d hd
theorem own_parts {w : World} {B T g n cap : Nat} {ws : List Wh} (h : Own w B T (.slice (some ⟨g, 0, none⟩) n cap) ws) : g < w.heap.size ∧ w.rangeAt g 0 (flat ws) ∧ ws.length ≤ cap ∧ cap ≤ maxLen := by
  obtain ⟨p, cap', e, h2, h3, _, h5⟩ := own_reads h
  simp only [Value.slice.injEq] at e
  obtain ⟨rfl, _, rfl⟩ := e
  obtain ⟨g', o, e, hg, hr⟩ := h5 (by simp)
  simp only [Option.some.injEq, Addr.mk.injEq, and_true] at e
  obtain ⟨rfl, rfl⟩ := e
  exact ⟨hg, hr, h2, h3⟩

end Go.Proofs.Ytpbppgaohfgpbaa
