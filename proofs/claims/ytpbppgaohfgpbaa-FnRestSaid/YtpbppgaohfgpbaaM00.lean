/-
  The shell that all laws of this seat share: from a walk that leaves everything below the heap's first size as it was to the row's last step.
  The last step of every law of this seat, whatever its parameters and listed variables: true is answered and what lay is as it was, so each argument and each variable reads as it did.
  Three closed facts on the seat's program whose plain reckoning takes more memory than there is: they read the words of a long text letter by letter. Here the text is taken as a list first.
  A call that starts no goroutine on its own road keeps the stronger promise, that nobody else is there at its return: so it keeps the weaker one, too, that whoever is there only leaves.
-/
import Derived.Test.YtpbppgaohfgpbaaRows
import Derived.WalkKit
import Derived.ProofKit
import Derived.OpenShut
import Derived.Below
import Derived.ChangeSame
import Derived.Deep.Draws
import Derived.Lib.RowBridge
import Derived.OpenVars
import Derived.ChangeMaps5
import Derived.Conc.Holds
import Derived.Leaving
import Derived.ClaimOpenTies
/- The shell that all laws of this seat share: from a walk that leaves everything below the heap's first size as it was to the row's last step. -/
namespace Go.Proofs.Ytpbppgaohfgpbaa
open Go.ChangeShapes Go.WideShapes Go.ChangeAt Go.RowKit
set_option maxRecDepth 20000
set_option linter.unusedVariables false
set_option linter.unusedSimpArgs false

theorem own : ownKnob Try.prog.godebug = none := by kernel_rfl
theorem cells_u8 : Try.prog.cellsOf 5 = 1 := by kernel_rfl

theorem below_drewN {B : Nat} {a w : World} (h : Below B a w) (n : Nat) : Below B a (w.drewN n) := ⟨h.os, h.tape, h.output, h.size, h.block⟩

section
variable {H : Type} {enc : TypeId × Value → H} {P : Program}
theorem post_of_below {f : Func} {s : ChangeSpec} {apart fresh handsOn again : Bool} {W W' : World} {args : Array Value} {v : Value} {ds gs : List (DataW H)} {before pa pv : List MemPlace}
    (hW : DataW.Whole enc P f.params.toList s.vars apart W args.toList ds gs before)
    (hres : ∀ (b : Nat) (sp : Nat → Bool) (hd : Bool), DataW.TrodAll enc P W' b sp hd f.resultTypes.toList (v.resultList f.resultTypes.size) (s.fn H (ds ++ gs)).results [])
    (hargs : ∀ sp : Nat → Bool, (∀ p ∈ before, sp p.block = true) → DataW.TrodAll enc P W' 0 sp true f.params.toList args.toList (s.fn H (ds ++ gs)).args pa)
    (hvars : ∀ sp : Nat → Bool, (∀ p ∈ before, sp p.block = true) → DataW.TrodVars enc P W' sp s.vars (s.fn H (ds ++ gs)).vars pv)
    (hps : before = pa ++ pv) (hb : Below W.heap.size W W')
    (hok : ∀ (j : Nat) (t : TypeId) (r : Value), f.resultTypes[j]? = some t → (v.resultList f.resultTypes.size)[j]? = some r → Value.okWide P W' .any 0 t r) :
    s.post enc P f apart fresh handsOn again W args v W' := by
  have hlt : ∀ p ∈ before, p.block < W.heap.size := fun p hp => hW.lt p hp
  have hold : ∀ p ∈ before, (fun b => decide (b < W.heap.size)) p.block = true := fun p hp => by simpa using hlt p hp
  refine ⟨ds, gs, before, [], pa, pv, hW, hres _ _ _, hargs _ hold, hvars _ hold, World.keptBut_mono (fun p hp => ⟨hp, ?_⟩) (hb.frame (· ∈ before)), fun _ => ?_⟩
  · rw [hps, List.mem_append] at hp
    exact Or.inr hp
  · obtain ⟨_, _, _, _, _, hz, hn⟩ := hW
    refine ⟨hok, _, _, ([] ++ pa) ++ pv, ⟨[] ++ pa, pv, trodAll_append (hargs _ (fun _ _ => rfl)) (hres _ _ _), hvars _ (fun _ _ => rfl), rfl, ?_, ?_⟩, ?_⟩
    · intro b off hp
      have hin : MemPlace.cell b off ∈ before := by rw [hps]; simpa using hp
      rw [hb.frozen (hlt _ hin)]
      exact hz b off hin
    · intro ha
      have := hn ha
      rw [hps] at this
      simpa using this
    · intro p hp _
      rw [hps]
      simpa using hp
end


/-- What a law's code is: a slice without a place, or a row of bytes in a block that lies. -/
def CodeAt (w : World) (v : Value) : Prop :=
  (∃ a, v = .slice a 0 0) ∨ ∃ (b off len cap : Nat) (zs : List Int), v = .slice (some ⟨b, off, none⟩) len cap ∧ b < w.heap.size ∧ len ≤ cap ∧ cap ≤ maxLen ∧ len ≤ zs.length ∧
    (∀ i, i < len → w.cell? ⟨b, off + i, none⟩ = some (.int .u8 (zs.getD i 0))) ∧ (∀ i, 0 ≤ zs.getD i 0 ∧ zs.getD i 0 ≤ 255)

/-- What a call of a law answers: true, and nothing that lay has turned. -/
def Fine (w : World) (e : Ending) (w' : World) : Prop := e = .returned (.bool true) ∧ Below w.heap.size w w'
theorem fine_same {w w' : World} {e : Ending} (h : e = .returned (.bool true) ∧ w = w') : Fine w e w' := by
  obtain ⟨he, rfl⟩ := h
  exact ⟨he, Below.refl _ _⟩
theorem fine_drewN {w w' : World} {e : Ending} (h : e = .returned (.bool true) ∧ ∃ m, w' = w.drewN m) : Fine w e w' := by
  obtain ⟨he, m, rfl⟩ := h
  exact ⟨he, below_drewN (Below.refl _ _) m⟩

theorem int_bound {a : Int} (h : (Lit.int .i64 a).wf = true) : -9223372036854775808 ≤ a ∧ a ≤ 9223372036854775807 := by
  simpa [Lit.wf, IntKind.min, IntKind.max, IntKind.signed, IntKind.bits] using h

section
variable {H : Type} {enc : TypeId × Value → H} {s : ChangeSpec} {fn : Func} {F : FuncId}
/-- A law of one code. -/
theorem code_step (hpar : fn.params = #[22]) (hres : fn.resultTypes = #[4]) (hvars : s.vars = []) (hfn : ∀ (H : Type) (d : DataW H), s.fn H [d] = { results := [.lit (.bool true)], args := [d] })
    (walk : ∀ (v : Value) (w : World), CodeAt w v → Calls Try.prog F #[v] w (Fine w))
    (W : World) (base : Nat) (args : Array Value) (ds gs : List (DataW H)) (before : List MemPlace)
    (hval : ∀ (j : Nat) t v, fn.params[j]? = some t → args[j]? = some v → Value.okWide Try.prog W .any base t v)
    (hW : DataW.Whole enc Try.prog fn.params.toList s.vars false W args.toList ds gs before) :
    Calls Try.prog F args W fun e W' => ∃ v, e = .returned v ∧ s.post enc Try.prog fn false true false false W args v W' := by
  have hW' := hW
  obtain ⟨p, q, hA, hV, rfl, hfz, hnd⟩ := hW
  rw [hpar] at hA hval
  rw [hvars] at hV
  obtain ⟨v0, d0, rfl, rfl, h0⟩ := trodAll_one hA
  obtain ⟨rfl, rfl⟩ := trodVars_none hV
  obtain ⟨a0, len, cap, rfl⟩ := okWide_slice Try.underlying22 (hval 0 22 v0 rfl rfl)
  simp only [List.append_nil] at hW'
  have h0' := h0
  obtain ⟨fuel, hf⟩ := h0'
  rcases open_ints Try.underlying22 Try.underlying5 cells_u8 hf with ⟨hcs, hx⟩ | ⟨a, len', cap', zs, hcs, _, hl, hm, hz, hx, hcell, hwz⟩
  · simp [Value.cells] at hcs
    obtain ⟨rfl, rfl, rfl⟩ := hcs
    simp only [Prod.mk.injEq] at hx
    obtain ⟨rfl, rfl⟩ := hx
    refine (walk _ W (.inl ⟨_, rfl⟩)).mono fun e W' ⟨he, hg⟩ => ?_
    subst he
    refine ⟨_, rfl, post_of_below (pa := []) (pv := []) hW' ?_ ?_ ?_ rfl hg (ok_one hres rfl (okWide_bool_mk Try.underlying4 _))⟩
    · intro _ _ _; rw [hres, List.append_nil, hfn]; exact trodAll_mk1 (shut_bool Try.underlying4 _)
    · intro _ _; rw [hpar, List.append_nil, hfn]; exact trodAll_mk1 (shut_slice_nil Try.underlying22)
    · intro _ _; rw [hvars, List.append_nil, hfn]; rfl
  · simp [Value.cells] at hcs
    obtain ⟨rfl, rfl, rfl⟩ := hcs
    simp only [Prod.mk.injEq] at hx
    obtain ⟨rfl, rfl⟩ := hx
    simp only [if_true] at hz
    have hlz : len ≤ zs.length := by omega
    obtain ⟨b, off, spot⟩ := a
    by_cases hz0 : zs.length = 0
    · have hc0 : cap = 0 := by omega
      have hl0 : len = 0 := by omega
      subst hc0; subst hl0
      have ez : zs = [] := List.length_eq_zero_iff.1 hz0
      subst ez
      refine (walk _ W (.inl ⟨_, rfl⟩)).mono fun e W' ⟨he, hg⟩ => ?_
      subst he
      refine ⟨_, rfl, post_of_below (pa := []) (pv := []) hW' ?_ ?_ ?_ rfl hg (ok_one hres rfl (okWide_bool_mk Try.underlying4 _))⟩
      · intro _ _ _; rw [hres, List.append_nil, hfn]; exact trodAll_mk1 (shut_bool Try.underlying4 _)
      · intro sp _
        rw [hpar, List.append_nil, hfn]
        have t0 := shut_ints (enc := enc) (w := W') (base := 0) (spare := sp) (held := true) (a := ⟨b, off, spot⟩) (len := 0) (cap := 0) (zs := []) (k := .u8) 0 Try.underlying22 Try.underlying5 cells_u8 (Nat.zero_le _) (Nat.le_refl _) hm (by simp) (fun i hi => by simp at hi) hwz
        exact trodAll_mk1 ⟨2, by simpa [Value.cells, MemPlace.row] using t0⟩
      · intro _ _; rw [hvars, List.append_nil, hfn]; rfl
    · have hspot : spot = none := by simpa [Addr.add] using World.cell?_spot (hcell 0 (by omega))
      subst hspot
      have hbW : b < W.heap.size := by
        have := hW'.lt (.cell b off) (by simpa using MemPlace.mem_row.2 ⟨0, by omega, by simp⟩)
        exact this
      have hcell' : ∀ i, i < zs.length → W.cell? ⟨b, off + i, none⟩ = some (.int .u8 (zs.getD i 0)) := fun i hi => by rw [← add_plain]; exact hcell i hi
      have hbyte : ∀ i, 0 ≤ zs.getD i 0 ∧ zs.getD i 0 ≤ 255 := by
        intro i
        by_cases hi : i < zs.length
        · have := hwz (zs.getD i 0) (by rw [List.getD_eq_getElem?_getD, List.getElem?_eq_getElem hi]; exact List.getElem_mem hi)
          simpa [Lit.wf, IntKind.min, IntKind.max, IntKind.signed, IntKind.bits] using this
        · rw [List.getD_eq_getElem?_getD, List.getElem?_eq_none (by omega)]; simp
      refine (walk _ W (.inr ⟨b, off, len, cap, zs, rfl, hbW, hl, hm, hlz, fun i hi => hcell' i (by omega), hbyte⟩)).mono fun e W' ⟨he, hg⟩ => ?_
      subst he
      refine ⟨_, rfl, post_of_below (pa := MemPlace.row ⟨b, off, none⟩ zs.length) (pv := []) hW' ?_ ?_ ?_ (by simp) hg (ok_one hres rfl (okWide_bool_mk Try.underlying4 _))⟩
      · intro _ _ _; rw [hres, List.append_nil, hfn]; exact trodAll_mk1 (shut_bool Try.underlying4 _)
      · intro sp hsp
        rw [hpar, List.append_nil, hfn]
        have hspb : sp b = true := hsp (.cell b off) (by simpa using MemPlace.mem_row.2 ⟨0, by omega, by simp⟩)
        have t0 := shut_ints' (enc := enc) (w := W') (base := 0) (spare := sp) (held := true) (b := b) (off := off) (len := len) (cap := cap) (zs := zs) 0 Try.underlying22 Try.underlying5 cells_u8 (Nat.zero_le _) hl hm (by simp [hspb, hz])
          (fun i hi => by rw [hg.cell (p := ⟨b, off + i, none⟩) hbW]; exact hcell' i hi) hwz
        exact trodAll_mk1 ⟨2, by simpa [Value.cells] using t0⟩
      · intro _ _; rw [hvars, List.append_nil, hfn]; rfl
/-- A law of one number. -/
theorem int_step (hpar : fn.params = #[3]) (hres : fn.resultTypes = #[4]) (hvars : s.vars = []) (hfn : ∀ (H : Type) (d : DataW H), s.fn H [d] = { results := [.lit (.bool true)], args := [d] })
    (walk : ∀ (a : Int) (w : World), -9223372036854775808 ≤ a → a ≤ 9223372036854775807 → Calls Try.prog F #[.int .i64 a] w (Fine w))
    (W : World) (base : Nat) (args : Array Value) (ds gs : List (DataW H)) (before : List MemPlace)
    (hval : ∀ (j : Nat) t v, fn.params[j]? = some t → args[j]? = some v → Value.okWide Try.prog W .any base t v)
    (hW : DataW.Whole enc Try.prog fn.params.toList s.vars false W args.toList ds gs before) :
    Calls Try.prog F args W fun e W' => ∃ v, e = .returned v ∧ s.post enc Try.prog fn false true false false W args v W' := by
  have hW' := hW
  obtain ⟨p, q, hA, hV, rfl, hfz, hnd⟩ := hW
  rw [hpar] at hA hval
  rw [hvars] at hV
  obtain ⟨v0, d0, rfl, rfl, h0⟩ := trodAll_one hA
  obtain ⟨rfl, rfl⟩ := trodVars_none hV
  obtain ⟨a0, rfl, rfl, rfl, w0⟩ := open_int Try.underlying3 (hval 0 3 v0 rfl rfl) h0
  simp only [List.append_nil] at hW'
  have b0 := int_bound w0
  refine (walk a0 W b0.1 b0.2).mono fun e W' ⟨he, hg⟩ => ?_
  subst he
  refine ⟨_, rfl, post_of_below (pa := []) (pv := []) hW' ?_ ?_ ?_ rfl hg (ok_one hres rfl (okWide_bool_mk Try.underlying4 _))⟩
  · intro _ _ _; rw [hres, List.append_nil, hfn]; exact trodAll_mk1 (shut_bool Try.underlying4 _)
  · intro _ _; rw [hpar, List.append_nil, hfn]; exact trodAll_mk1 (shut_int Try.underlying3 w0)
  · intro _ _; rw [hvars, List.append_nil, hfn]; rfl
/-- A law of two numbers. -/
theorem int2_step (hpar : fn.params = #[3, 3]) (hres : fn.resultTypes = #[4]) (hvars : s.vars = []) (hfn : ∀ (H : Type) (d d' : DataW H), s.fn H [d, d'] = { results := [.lit (.bool true)], args := [d, d'] })
    (walk : ∀ (a b : Int) (w : World), -9223372036854775808 ≤ a → a ≤ 9223372036854775807 → -9223372036854775808 ≤ b → b ≤ 9223372036854775807 → Calls Try.prog F #[.int .i64 a, .int .i64 b] w (Fine w))
    (W : World) (base : Nat) (args : Array Value) (ds gs : List (DataW H)) (before : List MemPlace)
    (hval : ∀ (j : Nat) t v, fn.params[j]? = some t → args[j]? = some v → Value.okWide Try.prog W .any base t v)
    (hW : DataW.Whole enc Try.prog fn.params.toList s.vars false W args.toList ds gs before) :
    Calls Try.prog F args W fun e W' => ∃ v, e = .returned v ∧ s.post enc Try.prog fn false true false false W args v W' := by
  have hW' := hW
  obtain ⟨p, q, hA, hV, rfl, hfz, hnd⟩ := hW
  rw [hpar] at hA hval
  rw [hvars] at hV
  obtain ⟨v0, v1, d0, d1, p0, p1, rfl, rfl, rfl, h0, h1⟩ := trodAll_two hA
  obtain ⟨rfl, rfl⟩ := trodVars_none hV
  obtain ⟨a0, rfl, rfl, rfl, w0⟩ := open_int Try.underlying3 (hval 0 3 v0 rfl rfl) h0
  obtain ⟨a1, rfl, rfl, rfl, w1⟩ := open_int Try.underlying3 (hval 1 3 v1 rfl rfl) h1
  simp only [List.append_nil] at hW'
  have b0 := int_bound w0
  have b1 := int_bound w1
  refine (walk a0 a1 W b0.1 b0.2 b1.1 b1.2).mono fun e W' ⟨he, hg⟩ => ?_
  subst he
  refine ⟨_, rfl, post_of_below (pa := []) (pv := []) hW' ?_ ?_ ?_ rfl hg (ok_one hres rfl (okWide_bool_mk Try.underlying4 _))⟩
  · intro _ _ _; rw [hres, List.append_nil, hfn]; exact trodAll_mk1 (shut_bool Try.underlying4 _)
  · intro _ _; rw [hpar, List.append_nil, hfn]; exact trodAll_mk2 (shut_int Try.underlying3 w0) (shut_int Try.underlying3 w1)
  · intro _ _; rw [hvars, List.append_nil, hfn]; rfl
end
end Go.Proofs.Ytpbppgaohfgpbaa
/- The last step of every law of this seat, whatever its parameters and listed variables: true is answered and what lay is as it was, so each argument and each variable reads as it did. -/
namespace Go.Proofs.Ytpbppgaohfgpbaa
open Go.ChangeShapes Go.WideShapes Go.ChangeAt Go.RowKit Go.WideElems Go.ChangeMaps
set_option maxRecDepth 20000
set_option linter.unusedVariables false
set_option linter.unusedSimpArgs false

theorem laid_out : laidOutB Try.prog = true := by kernel_rfl
/-- Each type can be read and is a row of the table: one closed fact. -/
def typesRowed (P : Program) (ts : List TypeId) : Bool := ts.all fun t => P.readableRec t && decide (t < P.types.size)

section
variable {H : Type} {enc : TypeId × Value → H} {P : Program}
theorem args_stay (hl : laidOutB P = true) {W W' : World} (hb : Below W.heap.size W W') (sp : Nat → Bool) :
    ∀ {ts : List TypeId} {vs : List Value} {ds : List (DataW H)} {ps : List MemPlace}, typesRowed P ts = true → DataW.TrodAll enc P W 0 (fun _ => true) true ts vs ds ps → (∀ x ∈ ps, sp x.block = true) → DataW.TrodAll enc P W' 0 sp true ts vs ds ps
  | [], [], ds, ps, _, h, _ => by
    obtain ⟨_, rfl, rfl⟩ := trodAll_nil h
    exact trodAll_mk0
  | [], v :: vs, ds, ps, _, h, _ => by
    obtain ⟨h, _⟩ := trodAll_nil h
    cases h
  | t :: ts, vs, ds, ps, hr, h, hsp => by
    have hlt := h.lt
    obtain ⟨v, vs', d, ds', p, q, rfl, rfl, rfl, hd, hrest⟩ := trodAll_cons h
    simp only [typesRowed, List.all_cons, Bool.and_eq_true] at hr
    have ht : P.readableRec t = true ∧ t < P.types.size := by simpa using hr.1
    obtain ⟨fuel, hf⟩ := hd
    have hp : ∀ x ∈ p, x.block < W.heap.size := fun x hx => hlt x (by simp [hx])
    refine trodAll_cons_mk ⟨fuel, DataW.trod_stays (kids_book hl ht.1) (book_sized ht.1) (fun h => by cases h) ⟨ht.2, book_self t⟩ hf (fun x hx => hb.same (hp x hx)) (fun x hx => hsp x (by simp [hx]))⟩ ?_
    exact args_stay hl hb sp (by simpa [typesRowed] using hr.2) hrest (fun x hx => hsp x (by simp [hx]))
theorem vars_stay (hl : laidOutB P = true) {W W' : World} (hb : Below W.heap.size W W') (sp : Nat → Bool) :
    ∀ {ns : List String} {gs : List (DataW H)} {ps : List MemPlace}, varsRowed P ns = true → DataW.TrodVars enc P W (fun _ => true) ns gs ps → (∀ x ∈ ps, sp x.block = true) → DataW.TrodVars enc P W' sp ns gs ps
  | [], [], _, _, h, _ => h
  | [], _ :: _, _, _, h, _ => h.elim
  | _ :: _, [], _, _, h, _ => h.elim
  | n :: ns, d :: ds, ps, hv, h, hsp => by
    have hlt := h.lt
    obtain ⟨g, t, cs, fuel, p, q, h1, h2, h3, h4, hs, e⟩ := h
    simp only [varsRowed, List.all_cons, Bool.and_eq_true] at hv
    have ht : P.readableRec t = true ∧ t < P.types.size := by
      have := hv.1
      rw [h1] at this
      cases hg : P.globals[g]? with
      | none => rw [hg] at h2; cases h2
      | some gl =>
        rw [hg] at h2
        obtain rfl : gl.type = t := Option.some.inj h2
        simpa [hg] using this
    have hp : ∀ x ∈ p, x.block < W.heap.size := fun x hx => hlt x (by rw [e]; simp [hx])
    have h3' : W'.var? P n = some cs := by
      unfold World.var? at h3 ⊢
      rw [h1] at h3 ⊢
      simp only [Option.bind_some] at h3 ⊢
      have hg : g < W.heap.size := by
        cases hh : W.heap[g]? with
        | none => rw [hh] at h3; cases h3
        | some o => exact (Array.getElem?_eq_some_iff.1 hh).1
      rw [hb.block g hg]; exact h3
    exact ⟨g, t, cs, fuel, p, q, h1, h2, h3', DataW.trod_stays (kids_book hl ht.1) (book_sized ht.1) (fun h => by cases h) ⟨ht.2, book_self t⟩ h4 (fun x hx => hb.same (hp x hx)) (fun x hx => hsp x (by rw [e]; simp [hx])),
      vars_stay hl hb sp (by simpa [varsRowed] using hv.2) hs (fun x hx => hsp x (by rw [e]; simp [hx])), e⟩
end

section
variable {H : Type} {enc : TypeId × Value → H} {s : ChangeSpec} {fn : Func} {F : FuncId}
/-- The last step. -/
theorem any_step (hpr : typesRowed Try.prog fn.params.toList = true) (hvr : varsRowed Try.prog s.vars = true) (hres : fn.resultTypes = #[4])
    {W : World} {args : Array Value} {ds gs : List (DataW H)} {before : List MemPlace}
    (hfn : s.fn H (ds ++ gs) = { results := [.lit (.bool true)], args := ds, vars := gs })
    (hW : DataW.Whole enc Try.prog fn.params.toList s.vars false W args.toList ds gs before)
    (walk : Calls Try.prog F args W (Fine W)) :
    Calls Try.prog F args W fun e W' => ∃ v, e = .returned v ∧ s.post enc Try.prog fn false true false false W args v W' := by
  have hW' := hW
  obtain ⟨p, q, hA, hV, rfl, hfz, hnd⟩ := hW
  refine walk.mono fun e W' ⟨he, hg⟩ => ?_
  subst he
  refine ⟨_, rfl, post_of_below (pa := p) (pv := q) hW' ?_ ?_ ?_ rfl hg (ok_one hres rfl (okWide_bool_mk Try.underlying4 _))⟩
  · intro _ _ _; rw [hres, hfn]; exact trodAll_mk1 (shut_bool Try.underlying4 _)
  · intro sp hsp; rw [hfn]; exact args_stay laid_out hg sp hpr hA (fun x hx => hsp x (by simp [hx]))
  · intro sp hsp; rw [hfn]; exact vars_stay laid_out hg sp hvr hV (fun x hx => hsp x (by simp [hx]))

/-- What the one code of a law is. -/
theorem code_open {W : World} {args : Array Value} {ds gs : List (DataW H)} {before : List MemPlace} {base : Nat} {vars : List String} (hpar : fn.params = #[22])
    (hval : ∀ (j : Nat) t v, fn.params[j]? = some t → args[j]? = some v → Value.okWide Try.prog W .any base t v)
    (hW : DataW.Whole enc Try.prog fn.params.toList vars false W args.toList ds gs before) : ∃ v d, args = #[v] ∧ ds = [d] ∧ CodeAt W v := by
  obtain ⟨p, q, hA, hV, rfl, hfz, hnd⟩ := hW
  rw [hpar] at hA hval
  obtain ⟨v0, d0, rfl, rfl, h0⟩ := trodAll_one hA
  obtain ⟨a0, len, cap, rfl⟩ := okWide_slice Try.underlying22 (hval 0 22 v0 rfl rfl)
  refine ⟨_, _, rfl, rfl, ?_⟩
  have hlt := hA.lt
  obtain ⟨fuel, hf⟩ := h0
  rcases open_ints Try.underlying22 Try.underlying5 cells_u8 hf with ⟨hcs, hx⟩ | ⟨a, len', cap', zs, hcs, _, hl, hm, hz, hx, hcell, hwz⟩
  · simp [Value.cells] at hcs
    obtain ⟨rfl, rfl, rfl⟩ := hcs
    exact .inl ⟨_, rfl⟩
  · simp [Value.cells] at hcs
    obtain ⟨rfl, rfl, rfl⟩ := hcs
    simp only [Prod.mk.injEq] at hx
    obtain ⟨rfl, rfl⟩ := hx
    simp only [if_true] at hz
    obtain ⟨b, off, spot⟩ := a
    by_cases hz0 : zs.length = 0
    · have hc0 : cap = 0 := by omega
      have hl0 : len = 0 := by omega
      subst hc0; subst hl0
      exact .inl ⟨_, rfl⟩
    · have hspot : spot = none := by simpa [Addr.add] using World.cell?_spot (hcell 0 (by omega))
      subst hspot
      have hbW : b < W.heap.size := hlt (.cell b off) (MemPlace.mem_row.2 ⟨0, by omega, by simp⟩)
      have hcell' : ∀ i, i < zs.length → W.cell? ⟨b, off + i, none⟩ = some (.int .u8 (zs.getD i 0)) := fun i hi => by rw [← add_plain]; exact hcell i hi
      have hbyte : ∀ i, 0 ≤ zs.getD i 0 ∧ zs.getD i 0 ≤ 255 := by
        intro i
        by_cases hi : i < zs.length
        · have := hwz (zs.getD i 0) (by rw [List.getD_eq_getElem?_getD, List.getElem?_eq_getElem hi]; exact List.getElem_mem hi)
          simpa [Lit.wf, IntKind.min, IntKind.max, IntKind.signed, IntKind.bits] using this
        · rw [List.getD_eq_getElem?_getD, List.getElem?_eq_none (by omega)]; simp
      exact .inr ⟨b, off, len, cap, zs, rfl, hbW, hl, hm, by omega, fun i hi => hcell' i (by omega), hbyte⟩
/-- What the one string of a law is. -/
theorem string_open {W : World} {args : Array Value} {ds gs : List (DataW H)} {before : List MemPlace} {base : Nat} {vars : List String} (hpar : fn.params = #[9])
    (hval : ∀ (j : Nat) t v, fn.params[j]? = some t → args[j]? = some v → Value.okWide Try.prog W .any base t v)
    (hW : DataW.Whole enc Try.prog fn.params.toList vars false W args.toList ds gs before) : ∃ s d, args = #[.string s] ∧ ds = [d] ∧ s.size ≤ maxLen := by
  obtain ⟨p, q, hA, hV, rfl, hfz, hnd⟩ := hW
  rw [hpar] at hA hval
  obtain ⟨v0, d0, rfl, rfl, h0⟩ := trodAll_one hA
  obtain ⟨s, rfl, rfl, rfl, ws⟩ := open_string Try.underlying9 (hval 0 9 v0 rfl rfl) h0
  exact ⟨s, _, rfl, rfl, ws⟩
/-- What the one number of a law is. -/
theorem int_open {W : World} {args : Array Value} {ds gs : List (DataW H)} {before : List MemPlace} {base : Nat} {vars : List String} (hpar : fn.params = #[3])
    (hval : ∀ (j : Nat) t v, fn.params[j]? = some t → args[j]? = some v → Value.okWide Try.prog W .any base t v)
    (hW : DataW.Whole enc Try.prog fn.params.toList vars false W args.toList ds gs before) : ∃ a d, args = #[.int .i64 a] ∧ ds = [d] ∧ -9223372036854775808 ≤ a ∧ a ≤ 9223372036854775807 := by
  obtain ⟨p, q, hA, hV, rfl, hfz, hnd⟩ := hW
  rw [hpar] at hA hval
  obtain ⟨v0, d0, rfl, rfl, h0⟩ := trodAll_one hA
  obtain ⟨a0, rfl, rfl, rfl, w0⟩ := open_int Try.underlying3 (hval 0 3 v0 rfl rfl) h0
  exact ⟨a0, _, rfl, rfl, int_bound w0⟩
/-- What the two numbers of a law are. -/
theorem int2_open {W : World} {args : Array Value} {ds gs : List (DataW H)} {before : List MemPlace} {base : Nat} {vars : List String} (hpar : fn.params = #[3, 3])
    (hval : ∀ (j : Nat) t v, fn.params[j]? = some t → args[j]? = some v → Value.okWide Try.prog W .any base t v)
    (hW : DataW.Whole enc Try.prog fn.params.toList vars false W args.toList ds gs before) : ∃ a b d d', args = #[.int .i64 a, .int .i64 b] ∧ ds = [d, d'] ∧ (-9223372036854775808 ≤ a ∧ a ≤ 9223372036854775807) ∧ -9223372036854775808 ≤ b ∧ b ≤ 9223372036854775807 := by
  obtain ⟨p, q, hA, hV, rfl, hfz, hnd⟩ := hW
  rw [hpar] at hA hval
  obtain ⟨v0, v1, d0, d1, p0, p1, rfl, rfl, rfl, h0, h1⟩ := trodAll_two hA
  obtain ⟨a0, rfl, rfl, rfl, w0⟩ := open_int Try.underlying3 (hval 0 3 v0 rfl rfl) h0
  obtain ⟨a1, rfl, rfl, rfl, w1⟩ := open_int Try.underlying3 (hval 1 3 v1 rfl rfl) h1
  exact ⟨a0, a1, _, _, rfl, rfl, int_bound w0, int_bound w1⟩
end
end Go.Proofs.Ytpbppgaohfgpbaa
/- Three closed facts on the seat's program whose plain reckoning takes more memory than there is: they read the words of a long text letter by letter. Here the text is taken as a list first. -/
namespace Go.Proofs.Ytpbppgaohfgpbaa
open Go.ChangeShapes Go.WideShapes Go.ChangeAt Go.RowKit
set_option maxRecDepth 100000
set_option linter.unusedVariables false
set_option linter.unusedSimpArgs false

section
variable {P : Program} {rest : List (List Char)}
theorem make_of (hw : behindMainWord (wordsSigns P.initOrder.toList) = "cut".toList :: rest) : P.make = some .cut := by
  unfold Program.make
  rw [hw]
  rfl
theorem no_lifts : stripLifts liftWords ("cut".toList :: rest) = ([], "cut".toList :: rest) := by rfl
theorem lifts_of (hw : behindMainWord (wordsSigns P.initOrder.toList) = "cut".toList :: rest) : P.liftsFinal = false := by
  unfold Program.liftsFinal Program.headLifts
  rw [hw, no_lifts]
  cases rest <;> rfl
theorem may_of (hw : behindMainWord (wordsSigns P.initOrder.toList) = "cut".toList :: rest) (h1 : P.laysLater = false) (h2 : P.bearsReflect = false) (h3 : P.doorFits [] = true) : P.mayEnter = true := by
  unfold Program.mayEnter
  rw [hw]
  show (_ || _ || _) = true
  rw [no_lifts, h1, h2, h3]
  cases rest <;> rfl
end
def signs : { l : List Char // Try.prog.initOrder = String.ofList l } := ⟨_, rfl⟩
theorem signs_are : Try.prog.initOrder.toList = signs.1 := (congrArg String.toList signs.2).trans String.toList_ofList
theorem words_are : behindMainWord (wordsSigns Try.prog.initOrder.toList) = "cut".toList :: (behindMainWord (wordsSigns signs.1)).tail :=
  (congrArg (fun l => behindMainWord (wordsSigns l)) signs_are).trans (by kernel_rfl)
theorem make_is : Try.prog.make = some .cut := make_of words_are
theorem lifts_is : Try.prog.liftsFinal = false := lifts_of words_are
theorem lays_no : Try.prog.laysLater = false := by kernel_rfl
theorem bears_no : Try.prog.bearsReflect = false := by kernel_rfl
theorem door_yes : Try.prog.doorFits [] = true := by kernel_rfl
theorem may_is : Try.prog.mayEnter = true := may_of words_are lays_no bears_no door_yes
end Go.Proofs.Ytpbppgaohfgpbaa
/- A call that starts no goroutine on its own road keeps the stronger promise, that nobody else is there at its return: so it keeps the weaker one, too, that whoever is there only leaves. -/
namespace Go.Proofs.Ytpbppgaohfgpbaa
open Go.ChangeShapes Go.WideShapes Go.ChangeAt Go.RowKit

theorem leaving_of_alone {a : Assume} {C : Checked} {os : Os} {f : FuncId} {r : Reach} {Pre : World → Array Value → Prop} {Post : World → Array Value → Value → World → Prop}
    (h : ReturnsInHanded a C os f r Pre Post) : ReturnsInLeavingWide a C os f r Pre Post := fun enter =>
  (h enter).mono (fun _ _ _ ⟨q, ho, he⟩ => ⟨ho, onlyLeaving_of_quiet q, he⟩) (fun _ h => h)
end Go.Proofs.Ytpbppgaohfgpbaa
