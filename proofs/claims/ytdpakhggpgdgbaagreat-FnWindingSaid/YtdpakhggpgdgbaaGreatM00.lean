/-
  Out of the text Shell: what the draws of polygons need.
  Out of the text Step: what the draws of polygons need.
  Out of the text Enter: what the draws of polygons need.
  Out of the text CycMath: what the draws of polygons need.
-/
import Derived.Test.YtdpakhggpgdgbaaGreatRows
import Derived.WalkKit
import Derived.ProofKit
import Derived.OpenShut
import Derived.Below
import Derived.ChangeSame
import Derived.Deep.Draws
import Derived.Lib.RowBridge
import Derived.OpenVars
import Derived.ChangeMaps5
/- Out of the text Shell: what the draws of polygons need. -/
namespace Go.Proofs.YtdpakhggpgdgbaaGreat
open Go.ChangeShapes Go.WideShapes Go.ChangeAt Go.RowKit
set_option maxRecDepth 20000
set_option linter.unusedVariables false
set_option linter.unusedSimpArgs false
theorem own : ownKnob Tryz.prog.godebug = none := by kernel_rfl
theorem cells_u8 : Tryz.prog.cellsOf 5 = 1 := by kernel_rfl

theorem below_drewN {B : Nat} {a w : World} (h : Below B a w) (n : Nat) : Below B a (w.drewN n) := ⟨h.os, h.tape, h.output, h.size, h.block⟩

section
variable {H : Type} {enc : TypeId × Value → H} {P : Program}
theorem post_of_below {f : Func} {s : ChangeSpec} {apart fresh handsOn again : Bool} {W W' : World} {args : Array Value} {v : Value} {ds gs : List (DataW H)} {before pa pv : List MemPlace}
    (hW : DataW.Whole enc P f.params.toList s.vars apart W args.toList ds gs before)
    (hres : ∀ (b : Nat) (sp : Nat → Bool) (hd : Bool), DataW.TrodAll enc P W' b sp hd f.resultTypes.toList (v.resultList f.resultTypes.size) (s.fn H (ds ++ gs)).results [])
    (hargs : ∀ sp : Nat → Bool, (∀ p ∈ before, sp p.block = true) → DataW.TrodAll enc P W' 0 sp true f.params.toList args.toList (s.fn H (ds ++ gs)).args pa)
    (hvars : ∀ sp : Nat → Bool, (∀ p ∈ before, sp p.block = true) → DataW.TrodVars enc P W' sp s.vars (s.fn H (ds ++ gs)).vars pv)
    (hps : before = pa ++ pv) (hb : Below W.heap.size W W')
    (hok : ∀ (j : Nat) (t : TypeId) (r : Value), f.resultTypes[j]? = some t → (v.resultList f.resultTypes.size)[j]? = some r → Value.okWide P W' .any 0 t r) :
    s.post enc P f apart fresh handsOn again W args v W' := by
  have hlt : ∀ p ∈ before, p.block < W.heap.size := fun p hp => hW.lt p hp
  have hold : ∀ p ∈ before, (fun b => decide (b < W.heap.size)) p.block = true := fun p hp => by simpa using hlt p hp
  refine ⟨ds, gs, before, [], pa, pv, hW, hres _ _ _, hargs _ hold, hvars _ hold, World.keptBut_mono (fun p hp => ⟨hp, ?_⟩) (hb.frame (· ∈ before)), fun _ => ?_⟩
  · rw [hps, List.mem_append] at hp
    exact Or.inr hp
  · obtain ⟨_, _, _, _, _, hz, hn⟩ := hW
    refine ⟨hok, _, _, ([] ++ pa) ++ pv, ⟨[] ++ pa, pv, trodAll_append (hargs _ (fun _ _ => rfl)) (hres _ _ _), hvars _ (fun _ _ => rfl), rfl, ?_, ?_⟩, ?_⟩
    · intro b off hp
      have hin : MemPlace.cell b off ∈ before := by rw [hps]; simpa using hp
      rw [hb.frozen (hlt _ hin)]
      exact hz b off hin
    · intro ha
      have := hn ha
      rw [hps] at this
      simpa using this
    · intro p hp _
      rw [hps]
      simpa using hp
end
/-- What a law's code is: a slice without a place, or a row of bytes in a block that lies. -/
def CodeAt (w : World) (v : Value) : Prop :=
  (∃ a, v = .slice a 0 0) ∨ ∃ (b off len cap : Nat) (zs : List Int), v = .slice (some ⟨b, off, none⟩) len cap ∧ b < w.heap.size ∧ len ≤ cap ∧ cap ≤ maxLen ∧ len ≤ zs.length ∧
    (∀ i, i < len → w.cell? ⟨b, off + i, none⟩ = some (.int .u8 (zs.getD i 0))) ∧ (∀ i, 0 ≤ zs.getD i 0 ∧ zs.getD i 0 ≤ 255)

/-- What a call of a law answers: true, and nothing that lay has turned. -/
def Fine (w : World) (e : Ending) (w' : World) : Prop := e = .returned (.bool true) ∧ Below w.heap.size w w'
theorem fine_same {w w' : World} {e : Ending} (h : e = .returned (.bool true) ∧ w = w') : Fine w e w' := by
  obtain ⟨he, rfl⟩ := h
  exact ⟨he, Below.refl _ _⟩
section
variable {H : Type} {enc : TypeId × Value → H} {s : ChangeSpec} {fn : Func} {F : FuncId}
end
end Go.Proofs.YtdpakhggpgdgbaaGreat
/- Out of the text Step: what the draws of polygons need. -/
namespace Go.Proofs.YtdpakhggpgdgbaaGreat
open Go.ChangeShapes Go.WideShapes Go.ChangeAt Go.RowKit Go.WideElems Go.ChangeMaps
set_option maxRecDepth 20000
set_option linter.unusedVariables false
set_option linter.unusedSimpArgs false
theorem laid_out : laidOutB Tryz.prog = true := by kernel_rfl
/-- Each type can be read and is a row of the table: one closed fact. -/
def typesRowed (P : Program) (ts : List TypeId) : Bool := ts.all fun t => P.readableRec t && decide (t < P.types.size)

section
variable {H : Type} {enc : TypeId × Value → H} {P : Program}
theorem args_stay (hl : laidOutB P = true) {W W' : World} (hb : Below W.heap.size W W') (sp : Nat → Bool) :
    ∀ {ts : List TypeId} {vs : List Value} {ds : List (DataW H)} {ps : List MemPlace}, typesRowed P ts = true → DataW.TrodAll enc P W 0 (fun _ => true) true ts vs ds ps → (∀ x ∈ ps, sp x.block = true) → DataW.TrodAll enc P W' 0 sp true ts vs ds ps
  | [], [], ds, ps, _, h, _ => by
    obtain ⟨_, rfl, rfl⟩ := trodAll_nil h
    exact trodAll_mk0
  | [], v :: vs, ds, ps, _, h, _ => by
    obtain ⟨h, _⟩ := trodAll_nil h
    cases h
  | t :: ts, vs, ds, ps, hr, h, hsp => by
    have hlt := h.lt
    obtain ⟨v, vs', d, ds', p, q, rfl, rfl, rfl, hd, hrest⟩ := trodAll_cons h
    simp only [typesRowed, List.all_cons, Bool.and_eq_true] at hr
    have ht : P.readableRec t = true ∧ t < P.types.size := by simpa using hr.1
    obtain ⟨fuel, hf⟩ := hd
    have hp : ∀ x ∈ p, x.block < W.heap.size := fun x hx => hlt x (by simp [hx])
    refine trodAll_cons_mk ⟨fuel, DataW.trod_stays (kids_book hl ht.1) (book_sized ht.1) (fun h => by cases h) ⟨ht.2, book_self t⟩ hf (fun x hx => hb.same (hp x hx)) (fun x hx => hsp x (by simp [hx]))⟩ ?_
    exact args_stay hl hb sp (by simpa [typesRowed] using hr.2) hrest (fun x hx => hsp x (by simp [hx]))
theorem vars_stay (hl : laidOutB P = true) {W W' : World} (hb : Below W.heap.size W W') (sp : Nat → Bool) :
    ∀ {ns : List String} {gs : List (DataW H)} {ps : List MemPlace}, varsRowed P ns = true → DataW.TrodVars enc P W (fun _ => true) ns gs ps → (∀ x ∈ ps, sp x.block = true) → DataW.TrodVars enc P W' sp ns gs ps
  | [], [], _, _, h, _ => h
  | [], _ :: _, _, _, h, _ => h.elim
  | _ :: _, [], _, _, h, _ => h.elim
  | n :: ns, d :: ds, ps, hv, h, hsp => by
    have hlt := h.lt
    obtain ⟨g, t, cs, fuel, p, q, h1, h2, h3, h4, hs, e⟩ := h
    simp only [varsRowed, List.all_cons, Bool.and_eq_true] at hv
    have ht : P.readableRec t = true ∧ t < P.types.size := by
      have := hv.1
      rw [h1] at this
      cases hg : P.globals[g]? with
      | none => rw [hg] at h2; cases h2
      | some gl =>
        rw [hg] at h2
        obtain rfl : gl.type = t := Option.some.inj h2
        simpa [hg] using this
    have hp : ∀ x ∈ p, x.block < W.heap.size := fun x hx => hlt x (by rw [e]; simp [hx])
    have h3' : W'.var? P n = some cs := by
      unfold World.var? at h3 ⊢
      rw [h1] at h3 ⊢
      simp only [Option.bind_some] at h3 ⊢
      have hg : g < W.heap.size := by
        cases hh : W.heap[g]? with
        | none => rw [hh] at h3; cases h3
        | some o => exact (Array.getElem?_eq_some_iff.1 hh).1
      rw [hb.block g hg]; exact h3
    exact ⟨g, t, cs, fuel, p, q, h1, h2, h3', DataW.trod_stays (kids_book hl ht.1) (book_sized ht.1) (fun h => by cases h) ⟨ht.2, book_self t⟩ h4 (fun x hx => hb.same (hp x hx)) (fun x hx => hsp x (by rw [e]; simp [hx])),
      vars_stay hl hb sp (by simpa [varsRowed] using hv.2) hs (fun x hx => hsp x (by rw [e]; simp [hx])), e⟩
end
section
variable {H : Type} {enc : TypeId × Value → H} {s : ChangeSpec} {fn : Func} {F : FuncId}
/-- The last step. -/
theorem any_step (hpr : typesRowed Tryz.prog fn.params.toList = true) (hvr : varsRowed Tryz.prog s.vars = true) (hres : fn.resultTypes = #[4])
    {W : World} {args : Array Value} {ds gs : List (DataW H)} {before : List MemPlace}
    (hfn : s.fn H (ds ++ gs) = { results := [.lit (.bool true)], args := ds, vars := gs })
    (hW : DataW.Whole enc Tryz.prog fn.params.toList s.vars false W args.toList ds gs before)
    (walk : Calls Tryz.prog F args W (Fine W)) :
    Calls Tryz.prog F args W fun e W' => ∃ v, e = .returned v ∧ s.post enc Tryz.prog fn false true false false W args v W' := by
  have hW' := hW
  obtain ⟨p, q, hA, hV, rfl, hfz, hnd⟩ := hW
  refine walk.mono fun e W' ⟨he, hg⟩ => ?_
  subst he
  refine ⟨_, rfl, post_of_below (pa := p) (pv := q) hW' ?_ ?_ ?_ rfl hg (ok_one hres rfl (okWide_bool_mk Tryz.underlying4 _))⟩
  · intro _ _ _; rw [hres, hfn]; exact trodAll_mk1 (shut_bool Tryz.underlying4 _)
  · intro sp hsp; rw [hfn]; exact args_stay laid_out hg sp hpr hA (fun x hx => hsp x (by simp [hx]))
  · intro sp hsp; rw [hfn]; exact vars_stay laid_out hg sp hvr hV (fun x hx => hsp x (by simp [hx]))

/-- What the one code of a law is. -/
theorem code_open {W : World} {args : Array Value} {ds gs : List (DataW H)} {before : List MemPlace} {base : Nat} {vars : List String} (hpar : fn.params = #[22])
    (hval : ∀ (j : Nat) t v, fn.params[j]? = some t → args[j]? = some v → Value.okWide Tryz.prog W .any base t v)
    (hW : DataW.Whole enc Tryz.prog fn.params.toList vars false W args.toList ds gs before) : ∃ v d, args = #[v] ∧ ds = [d] ∧ CodeAt W v := by
  obtain ⟨p, q, hA, hV, rfl, hfz, hnd⟩ := hW
  rw [hpar] at hA hval
  obtain ⟨v0, d0, rfl, rfl, h0⟩ := trodAll_one hA
  obtain ⟨a0, len, cap, rfl⟩ := okWide_slice Tryz.underlying22 (hval 0 22 v0 rfl rfl)
  refine ⟨_, _, rfl, rfl, ?_⟩
  have hlt := hA.lt
  obtain ⟨fuel, hf⟩ := h0
  rcases open_ints Tryz.underlying22 Tryz.underlying5 cells_u8 hf with ⟨hcs, hx⟩ | ⟨a, len', cap', zs, hcs, _, hl, hm, hz, hx, hcell, hwz⟩
  · simp [Value.cells] at hcs
    obtain ⟨rfl, rfl, rfl⟩ := hcs
    exact .inl ⟨_, rfl⟩
  · simp [Value.cells] at hcs
    obtain ⟨rfl, rfl, rfl⟩ := hcs
    simp only [Prod.mk.injEq] at hx
    obtain ⟨rfl, rfl⟩ := hx
    simp only [if_true] at hz
    obtain ⟨b, off, spot⟩ := a
    by_cases hz0 : zs.length = 0
    · have hc0 : cap = 0 := by omega
      have hl0 : len = 0 := by omega
      subst hc0; subst hl0
      exact .inl ⟨_, rfl⟩
    · have hspot : spot = none := by simpa [Addr.add] using World.cell?_spot (hcell 0 (by omega))
      subst hspot
      have hbW : b < W.heap.size := hlt (.cell b off) (MemPlace.mem_row.2 ⟨0, by omega, by simp⟩)
      have hcell' : ∀ i, i < zs.length → W.cell? ⟨b, off + i, none⟩ = some (.int .u8 (zs.getD i 0)) := fun i hi => by rw [← add_plain]; exact hcell i hi
      have hbyte : ∀ i, 0 ≤ zs.getD i 0 ∧ zs.getD i 0 ≤ 255 := by
        intro i
        by_cases hi : i < zs.length
        · have := hwz (zs.getD i 0) (by rw [List.getD_eq_getElem?_getD, List.getElem?_eq_getElem hi]; exact List.getElem_mem hi)
          simpa [Lit.wf, IntKind.min, IntKind.max, IntKind.signed, IntKind.bits] using this
        · rw [List.getD_eq_getElem?_getD, List.getElem?_eq_none (by omega)]; simp
      exact .inr ⟨b, off, len, cap, zs, rfl, hbW, hl, hm, by omega, fun i hi => hcell' i (by omega), hbyte⟩
end
end Go.Proofs.YtdpakhggpgdgbaaGreat
/- Out of the text Enter: what the draws of polygons need. -/
namespace Go.Proofs.YtdpakhggpgdgbaaGreat
open Go.ChangeShapes Go.WideShapes Go.ChangeAt Go.RowKit
set_option maxRecDepth 100000
set_option linter.unusedVariables false
set_option linter.unusedSimpArgs false
section
variable {P : Program} {rest : List (List Char)}
theorem make_of (hw : behindMainWord (wordsSigns P.initOrder.toList) = "cut".toList :: rest) : P.make = some .cut := by
  unfold Program.make
  rw [hw]
  rfl
theorem no_lifts : stripLifts liftWords ("cut".toList :: rest) = ([], "cut".toList :: rest) := by rfl
theorem lifts_of (hw : behindMainWord (wordsSigns P.initOrder.toList) = "cut".toList :: rest) : P.liftsFinal = false := by
  unfold Program.liftsFinal Program.headLifts
  rw [hw, no_lifts]
  cases rest <;> rfl
theorem may_of (hw : behindMainWord (wordsSigns P.initOrder.toList) = "cut".toList :: rest) (h1 : P.laysLater = false) (h2 : P.bearsReflect = false) (h3 : P.doorFits [] = true) : P.mayEnter = true := by
  unfold Program.mayEnter
  rw [hw]
  show (_ || _ || _) = true
  rw [no_lifts, h1, h2, h3]
  cases rest <;> rfl
end
def signs : { l : List Char // Tryz.prog.initOrder = String.ofList l } := ⟨_, rfl⟩
theorem signs_are : Tryz.prog.initOrder.toList = signs.1 := (congrArg String.toList signs.2).trans String.toList_ofList
theorem words_are : behindMainWord (wordsSigns Tryz.prog.initOrder.toList) = "cut".toList :: (behindMainWord (wordsSigns signs.1)).tail :=
  (congrArg (fun l => behindMainWord (wordsSigns l)) signs_are).trans (by kernel_rfl)
theorem make_is : Tryz.prog.make = some .cut := make_of words_are
theorem lifts_is : Tryz.prog.liftsFinal = false := lifts_of words_are
theorem lays_no : Tryz.prog.laysLater = false := by kernel_rfl
theorem bears_no : Tryz.prog.bearsReflect = false := by kernel_rfl
theorem door_yes : Tryz.prog.doorFits [] = true := by kernel_rfl
theorem may_is : Tryz.prog.mayEnter = true := may_of words_are lays_no bears_no door_yes
end Go.Proofs.YtdpakhggpgdgbaaGreat
/- Out of the text CycMath: what the draws of polygons need. -/
namespace Go.Proofs.YtdpakhggpgdgbaaGreat
set_option maxRecDepth 20000
set_option linter.unusedVariables false
set_option linter.unusedSimpArgs false
/-- A row with one number put in another's place. -/
def upd (f : Nat → Int) (k : Nat) (v : Int) : Nat → Int := fun j => if j = k then v else f j
/-- Two rows hold the same eight numbers. -/
def Eight (f g : Nat → Int) : Prop := ∀ j, j < 8 → f j = g j
theorem eight_cases {P : Nat → Prop} (h0 : P 0) (h1 : P 1) (h2 : P 2) (h3 : P 3) (h4 : P 4) (h5 : P 5) (h6 : P 6) (h7 : P 7) : ∀ j, j < 8 → P j := by
  intro j hj
  match j, hj with
  | 0, _ => exact h0
  | 1, _ => exact h1
  | 2, _ => exact h2
  | 3, _ => exact h3
  | 4, _ => exact h4
  | 5, _ => exact h5
  | 6, _ => exact h6
  | 7, _ => exact h7
  | n + 8, h => omega

/-- One power comes down. -/
def down (p : Nat → Int) (k : Nat) : Nat → Int := fun j => if j = k - 8 then p j - p k else if j = k - 4 then p j + p k else p j
/-- The powers from 23 on down, i of them. -/
def downs : Nat → (Nat → Int) → Nat → Int
  | 0, p => p
  | i + 1, p => down (downs i p) (23 - i)
/-- What is left of 24 powers. -/
def red (p : Nat → Int) : Nat → Int := fun j => if j < 4 then p j - p (j + 8) - p (j + 12) + p (j + 20) else p j + p (j + 4) - p (j + 12) - p (j + 16)
theorem downs_bound (B : Int) (p : Nat → Int) (hp : ∀ j, j < 24 → -B ≤ p j ∧ p j ≤ B) : ∀ i, i ≤ 16 → ∀ j, j < 24 → -(2 ^ i * B) ≤ downs i p j ∧ downs i p j ≤ 2 ^ i * B
  | 0, _, j, hj => by simpa [downs] using hp j hj
  | i + 1, hi, j, hj => by
    have h := downs_bound B p hp i (by omega)
    have h1 := h j hj
    have h2 := h (23 - i) (by omega)
    have e : (2 : Int) ^ (i + 1) * B = 2 * (2 ^ i * B) := by rw [Int.pow_succ]; grind
    simp only [downs, down]
    rw [e]
    generalize (2 : Int) ^ i * B = M at *
    split
    · omega
    · split <;> omega
theorem downs_all (p : Nat → Int) : Eight (downs 16 p) (red p) := by
  refine eight_cases ?_ ?_ ?_ ?_ ?_ ?_ ?_ ?_ <;> simp [downs, down, red] <;> omega

/-- Times the root. -/
def stp (a : Nat → Int) : Nat → Int := fun j => if j = 0 then -a 7 else if j = 4 then a 3 + a 7 else a (j - 1)
/-- Times the root, n times. -/
def stps : Nat → (Nat → Int) → Nat → Int
  | 0, a => a
  | n + 1, a => stp (stps n a)
theorem stp_same {a b : Nat → Int} (h : Eight a b) : Eight (stp a) (stp b) := by
  have h0 := h 0 (by omega); have h1 := h 1 (by omega); have h2 := h 2 (by omega); have h3 := h 3 (by omega); have h4 := h 4 (by omega); have h5 := h 5 (by omega); have h6 := h 6 (by omega); have h7 := h 7 (by omega)
  refine eight_cases ?_ ?_ ?_ ?_ ?_ ?_ ?_ ?_ <;> simp [stp, *]
/-- A row of eight turned on by t, its first k numbers alone, as 24 powers. -/
def tpow (a : Nat → Int) (t k : Nat) : Nat → Int := fun m => if (m + 24 - t) % 24 < k then a ((m + 24 - t) % 24) else 0
/-- Turned on. -/
def trn (a : Nat → Int) (t : Nat) : Nat → Int := red (tpow a t 8)
/-- Mirrored. -/
def mir (a : Nat → Int) : Nat → Int := fun j => if j = 0 then a 0 + a 4 else if j < 4 then a (4 - j) else if j = 4 then -a 4 else -a (12 - j) - a (8 - j)
/-- The first k of a row of eight mirrored, as 24 powers. -/
def mpow (a : Nat → Int) (k : Nat) : Nat → Int := fun m => if (24 - m) % 24 < k then a ((24 - m) % 24) else 0
theorem mir_red (a : Nat → Int) : Eight (red (mpow a 8)) (mir a) := by
  refine eight_cases ?_ ?_ ?_ ?_ ?_ ?_ ?_ ?_ <;> simp [red, mpow, mir] <;> omega
theorem trn_zero (a : Nat → Int) : Eight (trn a 0) a := by
  refine eight_cases ?_ ?_ ?_ ?_ ?_ ?_ ?_ ?_ <;> simp [trn, red, tpow]
theorem trn_succ (a : Nat → Int) (t : Nat) (ht : t ≤ 22) : Eight (trn a (t + 1)) (stp (trn a t)) := by
  have key : ∀ m, tpow a (t + 1) 8 (m + 1) = tpow a t 8 m := fun m => by
    simp only [tpow, show m + 1 + 24 - (t + 1) = m + 24 - t by omega]
  have k0 : tpow a (t + 1) 8 0 = tpow a t 8 23 := by
    simp only [tpow, show (23 + 24 - t) % 24 = (0 + 24 - (t + 1)) % 24 by omega]
  unfold trn
  generalize tpow a (t + 1) 8 = p at *
  generalize tpow a t 8 = q at *
  refine eight_cases ?_ ?_ ?_ ?_ ?_ ?_ ?_ ?_ <;> simp [stp, red, k0, key 0, key 1, key 2, key 3, key 4, key 5, key 6, key 7, key 8, key 9, key 10, key 11, key 12, key 13, key 14, key 15, key 16, key 17, key 18, key 19, key 20, key 21, key 22] <;> omega
theorem trn_steps (a : Nat → Int) : ∀ t, t ≤ 23 → Eight (stps t a) (trn a t)
  | 0, _ => fun j hj => (trn_zero a j hj).symm
  | t + 1, h => fun j hj => (stp_same (trn_steps a t (by omega)) j hj).trans (trn_succ a t (by omega) j hj).symm

/-- One more multiple of a row. -/
def mul1 (o : Nat → Int) (n : Int) (b : Nat → Int) : Nat → Int := fun j => o j + n * b j
/-- spec's product, its first k rounds. -/
def smul (a b : Nat → Int) : Nat → Nat → Int
  | 0 => fun _ => 0
  | k + 1 => mul1 (smul a b k) (a k) (stps k b)
/-- impl's product, k numbers of the first row's number i: the powers. -/
def inner (a b : Nat → Int) (i : Nat) (p : Nat → Int) : Nat → Nat → Int
  | 0 => p
  | k + 1 => upd (inner a b i p k) (i + k) (inner a b i p k (i + k) + a i * b k)
/-- impl's product, the first i numbers of the first row: the powers. -/
def outer (a b : Nat → Int) : Nat → Nat → Int
  | 0 => fun _ => 0
  | i + 1 => inner a b i (outer a b i) 8
/-- The product. -/
def prd (a b : Nat → Int) : Nat → Int := red (outer a b 8)
theorem inner_at (a b : Nat → Int) (i : Nat) (p : Nat → Int) : ∀ k, ∀ m, inner a b i p k m = if i ≤ m ∧ m < i + k then p m + a i * b (m - i) else p m
  | 0, m => by simp [inner]; omega
  | k + 1, m => by
    simp only [inner, upd]
    have h := inner_at a b i p k
    by_cases hm : m = i + k
    · subst hm
      rw [if_pos rfl, h, if_neg (by omega), if_pos (by omega), show i + k - i = k by omega]
    · rw [if_neg hm, h]
      by_cases hi : i ≤ m ∧ m < i + k
      · rw [if_pos hi, if_pos (by omega)]
      · rw [if_neg hi, if_neg (by omega)]
theorem prod_bound {x y : Int} (hx : -1000000 ≤ x ∧ x ≤ 1000000) (hy : -1000000 ≤ y ∧ y ≤ 1000000) : -1000000000000 ≤ x * y ∧ x * y ≤ 1000000000000 := by
  have h1 : x.natAbs ≤ 1000000 := by omega
  have h2 : y.natAbs ≤ 1000000 := by omega
  have h3 : (x * y).natAbs ≤ 1000000 * 1000000 := by rw [Int.natAbs_mul]; exact Nat.mul_le_mul h1 h2
  omega
/-- All eight numbers are in their range. -/
def InR (a : Nat → Int) : Prop := ∀ j, j < 8 → -1000000 ≤ a j ∧ a j ≤ 1000000
theorem inner_bound {a b : Nat → Int} (ha : InR a) (hb : InR b) {i : Nat} (hi : i < 8) {p : Nat → Int} {B : Int} (hp : ∀ m, m < 24 → -B ≤ p m ∧ p m ≤ B) (k : Nat) (hk : k ≤ 8) : ∀ m, m < 24 → -(B + 1000000000000) ≤ inner a b i p k m ∧ inner a b i p k m ≤ B + 1000000000000 := by
  intro m hm
  rw [inner_at]
  have h := hp m hm
  split
  · next c =>
    have := prod_bound (ha i hi) (hb (m - i) (by omega))
    omega
  · omega
theorem outer_bound {a b : Nat → Int} (ha : InR a) (hb : InR b) : ∀ i : Nat, i ≤ 8 → ∀ m, m < 24 → -((i : Int) * 1000000000000) ≤ outer a b i m ∧ outer a b i m ≤ (i : Int) * 1000000000000
  | 0, _, m, hm => by simp [outer]
  | i + 1, h, m, hm => by
    have := inner_bound ha hb (i := i) (by omega) (outer_bound ha hb i (by omega)) 8 (by omega) m hm
    simp only [outer]
    omega
theorem prd_smul (a b : Nat → Int) : Eight (smul a b 8) (prd a b) := by
  refine eight_cases ?_ ?_ ?_ ?_ ?_ ?_ ?_ ?_ <;> simp [prd, red, smul, mul1, stps, stp, outer, inner_at] <;> grind

/-- The exact point 1. -/
def one : Nat → Int := fun j => if j = 0 then 1 else 0
/-- Whole parts. -/
def gau (re im : Int) : Nat → Int := fun j => if j = 0 then re else if j = 6 then im else 0
def add (a b : Nat → Int) : Nat → Int := fun j => a j + b j
def sub (a b : Nat → Int) : Nat → Int := fun j => a j - b j
def scl (n : Int) (a : Nat → Int) : Nat → Int := fun j => n * a j
/-- A test of the eight numbers of each root, and of its product with its mirrored one. -/
def rootTest (t : Nat) : Bool := (List.range 8).all fun j => decide (-1 ≤ trn one t j) && decide (trn one t j ≤ 1) && decide (-1 ≤ mir (trn one t) j) && decide (mir (trn one t) j ≤ 1) && decide (prd (trn one t) (mir (trn one t)) j = one j)
theorem roots_test : ((List.range 24).all rootTest) = true := by decide +kernel
theorem root_facts (t : Nat) (ht : t ≤ 23) : ∀ j, j < 8 → (-1 ≤ trn one t j ∧ trn one t j ≤ 1) ∧ (-1 ≤ mir (trn one t) j ∧ mir (trn one t) j ≤ 1) ∧ prd (trn one t) (mir (trn one t)) j = one j := by
  intro j hj
  have h := List.all_eq_true.1 roots_test t (by simp; omega)
  have h' := List.all_eq_true.1 h j (by simpa using hj)
  simp only [Bool.and_eq_true, decide_eq_true_eq] at h'
  exact ⟨⟨h'.1.1.1.1, h'.1.1.1.2⟩, ⟨h'.1.1.2, h'.1.2⟩, h'.2⟩
theorem tpow_step (a : Nat → Int) (t k : Nat) (ht : t ≤ 23) (hk : k < 8) : ∀ m, m < 24 → upd (tpow a t k) ((k + t) % 24) (a k) m = tpow a t (k + 1) m := by
  intro m hm
  simp only [upd, tpow]
  by_cases h : m = (k + t) % 24
  · rw [if_pos h, show (m + 24 - t) % 24 = k by omega, if_pos (by omega)]
  · rw [if_neg h]
    by_cases h2 : (m + 24 - t) % 24 < k
    · rw [if_pos h2, if_pos (by omega)]
    · rw [if_neg h2, if_neg (by omega)]
theorem mpow_step (a : Nat → Int) (k : Nat) (hk : k < 8) : ∀ m, m < 24 → upd (mpow a k) ((24 - k) % 24) (a k) m = mpow a (k + 1) m := by
  intro m hm
  simp only [upd, mpow]
  by_cases h : m = (24 - k) % 24
  · rw [if_pos h, show (24 - m) % 24 = k by omega, if_pos (by omega)]
  · rw [if_neg h]
    by_cases h2 : (24 - m) % 24 < k
    · rw [if_pos h2, if_pos (by omega)]
    · rw [if_neg h2, if_neg (by omega)]
theorem mpow_bound {a : Nat → Int} {B : Int} (h0 : 0 ≤ B) (ha : ∀ j, j < 8 → -B ≤ a j ∧ a j ≤ B) : ∀ m, -B ≤ mpow a 8 m ∧ mpow a 8 m ≤ B := by
  intro m
  unfold mpow
  split
  · exact ha _ (by omega)
  · omega
theorem stp_bound {a : Nat → Int} {B : Int} (ha : ∀ j, j < 8 → -B ≤ a j ∧ a j ≤ B) : ∀ j, j < 8 → -(2 * B) ≤ stp a j ∧ stp a j ≤ 2 * B := by
  intro j hj
  have h3 := ha 3 (by omega)
  have h7 := ha 7 (by omega)
  unfold stp
  split
  · omega
  · split
    · omega
    · have := ha (j - 1) (by omega); omega
theorem stps_bound {a : Nat → Int} {B : Int} (ha : ∀ j, j < 8 → -B ≤ a j ∧ a j ≤ B) : ∀ n, ∀ j, j < 8 → -(2 ^ n * B) ≤ stps n a j ∧ stps n a j ≤ 2 ^ n * B
  | 0 => by simpa [stps] using ha
  | n + 1 => by
    have h := stp_bound (stps_bound ha n)
    have e : (2 : Int) ^ (n + 1) * B = 2 * (2 ^ n * B) := by rw [Int.pow_succ]; grind
    rw [e]; exact h
theorem stps_in {a : Nat → Int} (ha : InR a) (n : Nat) (hn : n ≤ 23) : ∀ j, j < 8 → -8388608000000 ≤ stps n a j ∧ stps n a j ≤ 8388608000000 := by
  intro j hj
  have h := stps_bound (B := 1000000) (fun j hj => ha j hj) n j hj
  have h2 : (2 : Int) ^ n ≤ 2 ^ 23 := by exact_mod_cast Nat.pow_le_pow_right (by omega) hn
  have h3 : (2 : Int) ^ n * 1000000 ≤ 8388608 * 1000000 := Int.mul_le_mul_of_nonneg_right (by simpa using h2) (by omega)
  omega
theorem prod_in {x y : Int} (hx : -1000000 ≤ x ∧ x ≤ 1000000) (hy : -1000000000 ≤ y ∧ y ≤ 1000000000) : -1000000000000000 ≤ x * y ∧ x * y ≤ 1000000000000000 := by
  have h1 : x.natAbs ≤ 1000000 := by omega
  have h2 : y.natAbs ≤ 1000000000 := by omega
  have h3 : (x * y).natAbs ≤ 1000000 * 1000000000 := by rw [Int.natAbs_mul]; exact Nat.mul_le_mul h1 h2
  omega
theorem stps_low {b : Nat → Int} (hb : InR b) (n : Nat) (hn : n ≤ 8) : ∀ j, j < 8 → -1000000000 ≤ stps n b j ∧ stps n b j ≤ 1000000000 := by
  intro j hj
  have h := stps_bound (B := 1000000) (fun j hj => hb j hj) n j hj
  have h2 : (2 : Int) ^ n ≤ 2 ^ 8 := by exact_mod_cast Nat.pow_le_pow_right (by omega) hn
  have h3 : (2 : Int) ^ n * 1000000 ≤ 256 * 1000000 := Int.mul_le_mul_of_nonneg_right (by simpa using h2) (by omega)
  omega
theorem smul_bound {a b : Nat → Int} (ha : InR a) (hb : InR b) : ∀ k : Nat, k ≤ 8 → ∀ j, j < 8 → -((k : Int) * 1000000000000000) ≤ smul a b k j ∧ smul a b k j ≤ (k : Int) * 1000000000000000
  | 0, _, j, hj => by simp [smul]
  | k + 1, h, j, hj => by
    have h1 := smul_bound ha hb k (by omega) j hj
    have h2 := prod_in (ha k (by omega)) (stps_low hb k (by omega) j hj)
    simp only [smul, mul1]
    omega
/-- spec's mirrored point, its first k rounds. -/
def smir (a : Nat → Int) : Nat → Nat → Int
  | 0 => fun _ => 0
  | k + 1 => mul1 (smir a k) (a k) (trn one ((24 - k) % 24))
theorem smir_mir (a : Nat → Int) : Eight (smir a 8) (mir a) := by
  refine eight_cases ?_ ?_ ?_ ?_ ?_ ?_ ?_ ?_ <;> simp [smir, mul1, mir, trn, red, tpow, one] <;> omega
theorem one_times {x y : Int} (hx : -1000000 ≤ x ∧ x ≤ 1000000) (hy : -1 ≤ y ∧ y ≤ 1) : -1000000 ≤ x * y ∧ x * y ≤ 1000000 := by
  rcases (show y = -1 ∨ y = 0 ∨ y = 1 by omega) with rfl | rfl | rfl <;> omega
theorem smir_bound {a : Nat → Int} (ha : InR a) : ∀ k : Nat, k ≤ 8 → ∀ j, j < 8 → -((k : Int) * 1000000) ≤ smir a k j ∧ smir a k j ≤ (k : Int) * 1000000
  | 0, _, j, hj => by simp [smir]
  | k + 1, h, j, hj => by
    have h1 := smir_bound ha k (by omega) j hj
    have h2 := one_times (ha k (by omega)) (root_facts ((24 - k) % 24) (by omega) j hj).1
    simp only [smir, mul1]
    omega
theorem trn_bound {a : Nat → Int} {B : Int} (h0 : 0 ≤ B) (ha : ∀ j, j < 8 → -B ≤ a j ∧ a j ≤ B) (t : Nat) : ∀ m, -B ≤ tpow a t 8 m ∧ tpow a t 8 m ≤ B := by
  intro m
  unfold tpow
  split
  · exact ha _ (by omega)
  · omega
end Go.Proofs.YtdpakhggpgdgbaaGreat
