/-
  impl: tidy designs; designs changed.
-/
import Derived.Test.YtdgbpdeimckbfaaM08
import Derived.Test.YtdgbpdeimckbfaaM00
/- impl: tidy designs; designs changed. -/
namespace Go.Proofs.Ytdgbpdeimckbfaa
set_option maxRecDepth 20000
open Go.ChangeShapes Go.WideShapes Go.ChangeAt Go.RowKit
set_option linter.unusedVariables false
set_option linter.unusedSimpArgs false

/-- What a function hands back that answers with a design, and true. -/
def Told (w : World) (o : Option (List Wh)) (e : Ending) (w' : World) : Prop :=
  Below w.heap.size w w' ∧ ∃ v', e = .returned (.tuple #[v', .bool o.isSome]) ∧ Own w' w.heap.size 125 v' (got o)
theorem ins_len (c : Wh) : ∀ out : List Wh, (ins out c).length ≤ out.length + 1
  | [] => by simp [ins]
  | d :: out => by
    unfold ins
    have := ins_len c out
    split
    · simp only [List.length_cons]; omega
    · split <;> simp
theorem run_len (b : Bool) : ∀ (ws out R : List Wh), run b out ws = some R → R.length ≤ out.length + ws.length
  | [], out, R, h => by
    simp only [run, Option.some.injEq] at h
    rw [h]; simp
  | c :: ws, out, R, h => by
    unfold run at h
    split at h
    · have h1 := run_len b ws _ R h
      have h2 := ins_len c out
      simp only [List.length_cons]; omega
    · cases h
theorem sortOf_big {ws L : List Wh} {B : Int} (h : SortOf ws L) (hb : ∀ c ∈ ws, Big c.r B) : ∀ c ∈ L, Big c.r B := fun c hc => by
  have h1 : c.r ∈ pre c.s L := List.mem_map.2 ⟨c, List.mem_filter.2 ⟨hc, by simp⟩, rfl⟩
  rw [h.1] at h1
  obtain ⟨d, hd, e⟩ := List.mem_map.1 h1
  rw [← e]; exact hb d (List.mem_filter.1 hd).1
theorem got_some (l : List Wh) : got (some l) = l := rfl
theorem got_none : got none = [] := rfl

set_option maxHeartbeats 1000000 in
theorem tidy_any (v : Value) (B : Nat) (ws : List Wh) (w : World) (ho : Own w B 94 v ws) (hn : ws.length ≤ sortMost) (hs : sortMost ≤ 1000) (hbig : ∀ c ∈ ws, Big c.r 4000000) :
    Calls Try.prog 111 #[v] w (Told w (tidy false ws)) := by
  have C := Lib.hid (sorted_any v B ws w ho hn)
  have HBG := Lib.hid hbig
  clear ho hbig
  go_enter Try.func111, Try.ntmps111
  go_wp2_with fail
  refine C.out.mono ?_; rintro e w1 ⟨hb1, v1, L, rfl, hso, ho1⟩
  have J := joined_any v1 L w1 (own_reads ho1) (by rw [hso.2.2]; omega) hso.2.1 (sortOf_big hso HBG.out)
  have ht : tidy false ws = (run false [] L).bind done := (tidy_same hso.1).symm
  have HL : Aside (L.length ≤ 1000) := (show L.length ≤ 1000 from by rw [hso.2.2]; omega)
  have HB1 := Lib.hid hb1
  have HT := Lib.hid ht
  clear hso ho1 hb1 C HBG ht
  cases hr : run false [] L with
  | none =>
    rw [hr] at J
    have HT2 : Aside (tidy false ws = none) := (show tidy false ws = none from by rw [HT.out, hr]; rfl)
    have J := Lib.hid J
    clear hr HL HT
    go_wp2_with fail
    refine J.out.mono ?_; rintro e w2 ⟨hb2, v2, rfl, ho2⟩
    have HB2 := Lib.hid (below_next HB1.out hb2)
    clear J hb2 ho2 HB1
    go_wp2
    go_ret2
    rw [HT2.out]
    exact ⟨HB2.out, _, rfl, own_nil _ _ _⟩
  | some R =>
    rw [hr] at J
    have HT2 : Aside (tidy false ws = done R) := (show tidy false ws = done R from by rw [HT.out, hr]; rfl)
    have HRL : Aside (R.length ≤ 1000000) := (show R.length ≤ 1000000 from by
      have h1 := run_len false L [] R hr
      have h2 := HL.out
      simp only [List.length_nil] at h1
      omega)
    have J := Lib.hid J
    clear hr HL HT
    go_wp2_with fail
    refine J.out.mono ?_; rintro e w2 ⟨hb2, v2, rfl, ho2⟩
    rw [got_some] at ho2
    have D := Lib.hid (deleteZ_any v2 w1.heap.size R w2 ho2 HRL.out hb2.size)
    have HB2 := Lib.hid hb2
    clear J hb2 ho2 HRL
    go_wp2_with fail
    refine D.out.mono ?_; rintro e w3 ⟨hb3, v3, rfl, ho3⟩
    have T := toldAll_any v3 (R.filter nz) w3 (own_reads ho3)
    have HB3 := Lib.hid (HB2.out.trans hb3)
    clear D hb3 ho3 HB2
    cases hv : valid (R.filter nz)
    · rw [hv, only_no] at T
      have HT3 : Aside (tidy false ws = none) := (show tidy false ws = none from by rw [HT2.out]; unfold done; rw [hv]; rfl)
      have T := Lib.hid T
      clear hv
      go_wp2_with fail
      refine T.out.mono ?_; rintro e w4 ⟨hb4, v4, rfl, ho4⟩
      have H4 := Lib.hid (show Told w none (.returned (.tuple #[v4, .bool false])) w4 from ⟨below_next HB1.out (below_next HB3.out hb4), v4, rfl, own_mono ho4 (Nat.le_trans HB1.out.size HB3.out.size)⟩)
      clear T hb4 ho4 HB1 HB3
      go_wp2
      go_ret2
      rw [HT3.out]
      exact H4.out
    · rw [hv, only_yes] at T
      have HT3 : Aside (tidy false ws = some (R.filter nz)) := (show tidy false ws = some (R.filter nz) from by rw [HT2.out]; unfold done; rw [hv]; rfl)
      have T := Lib.hid T
      clear hv
      go_wp2_with fail
      refine T.out.mono ?_; rintro e w4 ⟨hb4, v4, rfl, ho4⟩
      have H4 := Lib.hid (show Told w (some (R.filter nz)) (.returned (.tuple #[v4, .bool true])) w4 from ⟨below_next HB1.out (below_next HB3.out hb4), v4, rfl, own_mono ho4 (Nat.le_trans HB1.out.size HB3.out.size)⟩)
      clear T hb4 ho4 HB1 HB3
      go_wp2
      go_ret2
      rw [HT3.out]
      exact H4.out

/-- A design changed wheel by wheel, then tidy. -/
def dOf (f : Wh → Wh) (ws : List Wh) : Option (List Wh) := if valid ws then tidy false (ws.map f) else none
theorem valid_big {ws : List Wh} (h : valid ws = true) : ∀ c ∈ ws, Big c.r 4000000 := fun c hc => (big_ok (valid_ok h c hc).2).mono (by omega)
theorem sort_room {ws : List Wh} (h : valid ws = true) : ws.length ≤ sortMost := Nat.le_trans (valid_len h) (by decide)
theorem sort_most : sortMost ≤ 1000 := by decide

/-! Function values that hold a variable. -/
set_option maxHeartbeats 1000000 in
theorem changedDesign_any (F : Nat) (cb : Array Value) (f : Wh → Wh) (v : Value) (ws : List Wh) (w : World) (hv : Reads w v ws) (eg : ∀ args w, (callFunc F args).run Try.prog w = .ok (.enter F args) w)
    (hf : ∀ c, inS c.s = true → okv c.r = true → Big (f c).r 4000000 ∧ ∀ w', Below w.heap.size w w' → Calls Try.prog F (#[wh c] ++ cb) w' fun e w'' => e = .returned (wh (f c)) ∧ Below w'.heap.size w' w'') :
    Calls Try.prog 85 #[v, .func (.func F) #[] cb] w (Told w (dOf f ws)) := by
  have C := circlesOf_any v ws w hv
  clear hv
  unfold dOf
  cases hvd : valid ws
  · rw [hvd] at C
    have C := Lib.hid C
    clear hvd hf
    go_enter Try.func85, Try.ntmps85
    go_wp2_with fail
    refine C.out.mono ?_; rintro e w1 ⟨hb1, v1, rfl, -⟩
    have HB := Lib.hid hb1
    clear C hb1
    go_wp2
    go_ret2
    exact ⟨HB.out, _, rfl, own_nil _ _ _⟩
  · rw [hvd, only_yes] at C
    rw [if_pos rfl]
    have HR := Lib.hid (sort_room hvd)
    have HN := Lib.hid (valid_len hvd)
    have HG : Aside (∀ c ∈ ws.map f, Big c.r 4000000) := (show ∀ c ∈ ws.map f, Big c.r 4000000 from fun d hd => by
      obtain ⟨c, hc, rfl⟩ := List.mem_map.1 hd
      have := valid_ok hvd c hc
      exact (hf c this.1 this.2).1)
    have HF : Aside (∀ c ∈ ws, ∀ w', Below w.heap.size w w' → Calls Try.prog F (#[wh c] ++ cb) w' fun e w'' => e = .returned (wh (f c)) ∧ Below w'.heap.size w' w'') := (show ∀ c ∈ ws, ∀ w', Below w.heap.size w w' → Calls Try.prog F (#[wh c] ++ cb) w' fun e w'' => e = .returned (wh (f c)) ∧ Below w'.heap.size w' w'' from fun c hc => by
      have := valid_ok hvd c hc
      exact (hf c this.1 this.2).2)
    have C := Lib.hid C
    clear hvd hf
    go_enter Try.func85, Try.ntmps85
    go_wp2_with fail
    refine C.out.mono ?_; rintro e w1 ⟨hb1, v1, rfl, ho1⟩
    have X := Lib.hid (changed_any F cb f v1 ws w1 (own_reads ho1) (by have := HN.out; omega) eg fun c hc w' hb => HF.out c hc w' (below_next hb1 hb))
    have HB := Lib.hid hb1
    clear C hb1 ho1 HF
    go_wp2_with fail
    refine X.out.mono ?_; rintro e w2 ⟨hb2, v2, rfl, ho2⟩
    have T := Lib.hid (tidy_any v2 w1.heap.size (ws.map f) w2 ho2 (by rw [List.length_map]; exact HR.out) sort_most HG.out)
    have HB2 := Lib.hid (below_next HB.out hb2)
    clear X hb2 ho2 HB HR HG
    generalize tidy false (ws.map f) = o at *
    go_wp2_with fail
    refine T.out.mono ?_; rintro e w3 ⟨hb3, v3, rfl, ho3⟩
    have H := Lib.hid (show Told w o (.returned (.tuple #[v3, .bool o.isSome])) w3 from ⟨below_next HB2.out hb3, v3, rfl, own_mono ho3 HB2.out.size⟩)
    clear T hb3 ho3 HB2
    go_wp2
    go_ret2
    exact H.out

/-- Faster: only by numbers in range. -/
def dFast (n : Int) (ws : List Wh) : Option (List Wh) := if -20 ≤ n ∧ n ≤ 20 then dOf (fastW n) ws else none
theorem reads_box {w : World} {v : Value} {ws : List Wh} (h : Reads w v ws) (o : Obj) : Reads (w.alloc o) v ws := h.below ((Below.refl _ _).alloc (Nat.le_refl _) _)
theorem box_cell (w : World) (n : Int) : (w.alloc (.cells #[.int .i64 n] 3)).cell? ⟨w.heap.size, 0, none⟩ = some (.int .i64 n) :=
  (RowAt.newAt (f := fun _ => n) rfl rfl : RowAt (w.alloc (.cells #[.int .i64 n] 3)) w.heap.size 1 3 (fun _ => n)).cell (k := 0) (by omega)
theorem told_box {w : World} {b : Obj} {o : Option (List Wh)} {e : Ending} {w' : World} (h : Told (w.alloc b) o e w') : Told w o e w' := by
  obtain ⟨h1, v', h2, h3⟩ := h
  have hz : w.heap.size ≤ (w.alloc b).heap.size := by simp
  exact ⟨((Below.refl w.heap.size w).alloc (Nat.le_refl _) b).trans (h1.mono hz), v', h2, own_mono h3 hz⟩
end Go.Proofs.Ytdgbpdeimckbfaa
