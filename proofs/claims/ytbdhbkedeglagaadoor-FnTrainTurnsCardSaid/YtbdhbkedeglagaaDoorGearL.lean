/-
  The laws' own helpers on lists of numbers: read, copied, compared, marked, held.
-/
import Derived.Test.YtbdhbkedeglagaaDoorSlices
import Derived.Test.YtbdhbkedeglagaaDoorInts
import Derived.Deep.Slices
import Derived.Lib.SmallJoins
import Derived.Deep.DeepHandedRow
import Derived.Test.YtbdhbkedeglagaaDoorGearS
import Derived.Test.YtbdhbkedeglagaaDoorStep
import Derived.Laws.MakeOwn
namespace Go.Proofs.YtbdhbkedeglagaaDoor
open Go.Joins Go.ChangeShapes Go.WideShapes Go.ChangeAt Go.RowKit Go.Deep
set_option maxRecDepth 20000
set_option linter.unusedVariables false
set_option linter.unusedSimpArgs false

section
variable {H : Type} {he : TypeId × Value → H} {P : Program} {w : World} {held : Bool} {α : Type} {en : α → List Value} {K : Nat}
theorem open_listL [Inhabited α] (E : Enc en K) {t e : TypeId} {fuel : Nat} {v : Value} {x : DataW H × List MemPlace} (ht : P.underlying t = some (.slice e)) (hce : P.cellsOf e = K)
    (hel : ∀ (n : Nat) (cs : List Value) (y : DataW H × List MemPlace), DataW.trod he P w 0 (fun _ => true) held n e cs = some y → cs.length = K → ∃ c : α, cs = en c) (hv : ∃ a len cap, v = .slice a len cap)
    (h : DataW.trod he P w 0 (fun _ => true) held fuel t v.cells.toList = some x) (hlt : ∀ y ∈ x.2, y.block < w.heap.size) : ∃ xs : List α, LiesL en w v xs := by
  obtain ⟨a0, len0, cap0, rfl⟩ := hv
  rcases open_slice ht h with ⟨hcs, hx⟩ | ⟨a, len, cap, m, n, D, Pl, hcs, _, hl, hm, hmm, hx, hi⟩
  · simp [Value.cells] at hcs
    obtain ⟨rfl, rfl, rfl⟩ := hcs
    exact ⟨[], none, 0, rfl, Nat.le_refl _, by simp [maxLen], fun hn => absurd rfl hn⟩
  · simp [Value.cells] at hcs
    obtain ⟨rfl, rfl, rfl⟩ := hcs
    simp only [if_true] at hmm
    subst hmm
    obtain ⟨C, hC⟩ := choose_lt (α := α) (n := m) (p := fun i c => ∀ j, j < K → w.cell? ((a.add (i * K)).add j) = (en c)[j]?) (fun i him => by
      obtain ⟨cs', h1, h2⟩ := hi i him
      rw [hce] at h1
      obtain ⟨_, hlen, h3⟩ := World.cells?_some h1
      obtain ⟨c, rfl⟩ := hel _ _ _ h2 hlen
      exact ⟨c, h3⟩)
    have hlen : ((List.range len0).map C).length = len0 := by simp
    refine ⟨(List.range len0).map C, some a, m, by rw [hlen], by rw [hlen]; exact hl, hm, fun hn => ?_⟩
    have h0 : 0 < len0 := by
      rcases Nat.eq_zero_or_pos len0 with h | h
      · subst h; exact absurd rfl hn
      · exact h
    have hpos := E.pos
    obtain ⟨b, off, spot⟩ := a
    have hspot : spot = none := by
      have h1 := hC 0 (by omega) 0 hpos
      rw [Go.Deep.add_add] at h1
      have h2 : 0 < (en (C 0)).length := by rw [E.len]; exact hpos
      rw [List.getElem?_eq_getElem h2] at h1
      simpa [Addr.add] using World.cell?_spot h1
    subst hspot
    refine ⟨b, off, rfl, ?_, cells_of_parts E fun i c hc j hj => ?_⟩
    · have hx2 : x.2 = MemPlace.row ⟨b, off, none⟩ (m * P.cellsOf e) ++ (List.range m).flatMap Pl := by rw [hx]
      refine hlt (.cell b off) ?_
      rw [hx2, hce]
      exact List.mem_append_left _ (MemPlace.mem_row.2 ⟨0, Nat.mul_pos (by omega) hpos, by simp⟩)
    · have hil : i < len0 := by
        rw [← hlen]; exact (List.getElem?_eq_some_iff.1 hc).1
      have hci : c = C i := by
        rw [List.getElem?_map, List.getElem?_range hil] at hc
        simpa using hc.symm
      have h1 := hC i (by omega) j hj
      rw [Go.Deep.add_add, add_plain] at h1
      rw [hci]; exact h1
end
theorem cells_intI : Tryd.prog.cellsOf 3 = 1 := by kernel_rfl
section
variable {H : Type} {en : TypeId × Value → H} {fn : Func}
theorem law_ints {w : World} {b0 : Nat} {r : Reach} {v : Value} {d : DataW H} {p : List MemPlace} (hv : Value.okWide Tryd.prog w r b0 23 v) (h : DataW.Trod en Tryd.prog w 0 (fun _ => true) true 23 v d p)
    (hlt : ∀ y ∈ p, y.block < w.heap.size) : ∃ xs, LiesL encI w v xs := by
  obtain ⟨fuel, hf⟩ := h
  obtain ⟨a, l, c, e⟩ := okWide_slice Tryd.underlying23 hv
  exact open_listL encI_ok Tryd.underlying23 cells_intI (fun n cs y hy hl => by
    obtain ⟨z, hc, _, _⟩ := DataW.trod_int Tryd.underlying3 hy
    exact ⟨z, hc⟩) ⟨a, l, c, e⟩ hf hlt
/-- What the one list of a law is. -/
theorem ints_open {W : World} {args : Array Value} {ds gs : List (DataW H)} {before : List MemPlace} {base : Nat} {vars : List String} (hpar : fn.params = #[23])
    (hval : ∀ (j : Nat) t v, fn.params[j]? = some t → args[j]? = some v → Value.okWide Tryd.prog W .any base t v)
    (hW : DataW.Whole en Tryd.prog fn.params.toList vars false W args.toList ds gs before) : ∃ v xs d, args = #[v] ∧ ds = [d] ∧ LiesL encI W v xs := by
  obtain ⟨p, q, hA, hV, rfl, hfz, hnd⟩ := hW
  rw [hpar] at hA hval
  have hlt := hA.lt
  obtain ⟨v0, d0, rfl, rfl, h0⟩ := trodAll_one hA
  obtain ⟨xs, hL⟩ := law_ints (hval 0 23 v0 rfl rfl) h0 hlt
  exact ⟨v0, xs, _, rfl, rfl, hL⟩
end

theorem info_intI : (Tryd.prog.info? 3).map (fun i => (i.zero, i.size, i.bytes)) = some (some (.int .i64 0), 1, 8) := by kernel_rfl
theorem made_ints (n : Nat) : (madeCells #[Value.int .i64 0] n).toList = flt encI (List.replicate n 0) := by
  rw [flt_ints]
  apply List.ext_getElem?
  intro i
  by_cases hi : i < n
  · simp [madeCells, hi, Nat.mod_one]
  · simp [madeCells, hi]
theorem half_next {xs : List Int} {k : Nat} {c : Int} (hc : xs[k]? = some c) : (flt encI (halfL 0 xs k)).set k (.int .i64 c) = flt encI (halfL 0 xs (k + 1)) := by
  rw [flt_ints, flt_ints, ← halfL_set hc, List.map_set]
theorem toI_great (v : Value) (xs : List Int) (w : World) (hv : LiesL encI w v xs) (hn : xs.length ≤ 1048576) :
    Calls Tryd.prog 19 #[v] w fun e w' => Below w.heap.size w w' ∧ ∃ v', e = .returned v' ∧ OwnL encI 1 w' w.heap.size 3 v' xs := by
  obtain ⟨i0, hi, hz0, hz1, hz2⟩ := info_parts info_intI
  obtain ⟨p, cap, rfl, hc1, hc2, hp⟩ := hv
  simp only [maxLen] at hc2
  have HP := Lib.hid hp
  clear hp
  go_enter Tryd.func19, Tryd.ntmps19
  go_wp2_with (at_make; refine wpList_make_full _ rfl _ _ 23 rfl w.heap.size 3 i0 (.int .i64 0) 1 Tryd.underlying23 hi hz0 hz1 _ _ _ _ xs.length rfl rfl rfl rfl ?b1 ?b2 (Nat.le_refl _) ?_)
  case b1 => rw [hz2]; omega
  case b2 => simp only [maxLen]; omega
  intro w1 ho1 hg1
  have hb1 : Below w.heap.size w w1 := (Below.refl _ _).grown hg1 (Nat.le_refl _) (fun k hk => by cases hk)
  rw [made_ints, ← halfL_none] at ho1
  clear hg1
  go_wp2_with fail
  go_loopw [4] (fun i wr => ∃ k : Nat, k ≤ xs.length ∧ i = .int .i64 k ∧ wr.ownsRow w.heap.size 3 1 (.slice (some ⟨w.heap.size, 0, none⟩) xs.length xs.length) xs.length (flt encI (halfL 0 xs k)) ∧ Below w.heap.size w wr) (fun i _ => xs.length - (intOf i).toNat)
  case atStart => exact ⟨0, Nat.zero_le _, rfl, ho1, hb1⟩
  case round =>
    clear ho1 hb1
    obtain ⟨k, hk, rfl, hO, hbel⟩ := hrel
    by_cases hlt : k < xs.length
    · have hkz : (k : Int) < (xs.length : Int) := by omega
      have hk0 : (0 : Int) ≤ (k : Int) := by omega
      obtain ⟨c, hc⟩ : ∃ c, xs[k]? = some c := ⟨_, List.getElem?_eq_getElem hlt⟩
      obtain ⟨g, o, rfl, hg, hr⟩ := HP.out (by intro e; rw [e] at hlt; simp at hlt)
      have c1 := int_cell (cells_below hr hg hbel) hc
      have c2 : wr.cell? ⟨w.heap.size, k, none⟩ = some (.int .i64 0) := by
        have := hO.cellAt k (by omega)
        rw [this, flt_ints, List.getElem?_map, halfL_at hlt]; rfl
      have f2 := hO.frozenAt k
      obtain ⟨hO2, hg2⟩ := hO.stored k (.int .i64 c)
      rw [half_next hc] at hO2
      have hb2 : Below w.heap.size w (wr.setCell ⟨w.heap.size, k, none⟩ (.int .i64 c)) := hbel.setCell (p := ⟨w.heap.size, k, none⟩) (Nat.le_refl _) _
      have HO2 := Lib.hid hO2
      have HB2 := Lib.hid hb2
      clear hO2 hb2 hg2 hO hbel hr hg hc
      go_wp2_with fail
      go_roundw
      case rel => exact ⟨k + 1, by omega, by go_num, HO2.out, HB2.out⟩
      case measure => simp [intOf]; omega
    · obtain rfl : k = xs.length := by omega
      rw [halfL_all] at hO
      have HO := Lib.hid hO
      have HL := Lib.hid hbel
      clear hO hbel
      go_wp2
      go_ret
      exact ⟨HL.out, _, rfl, HO.out⟩

set_option maxHeartbeats 1000000 in
theorem eqI_great (v v' : Value) (xs : List Int) (w : World) (h : ReadsL encI w v xs) (h' : ReadsL encI w v' xs) (hl : xs.length ≤ 1048576) :
    Calls Tryd.prog 20 #[v, v'] w fun e w' => e = .returned (.bool true) ∧ Below w.heap.size w w' := by
  obtain ⟨p, cap, rfl, hc1, hc2, hp0, hp⟩ := h
  obtain ⟨q, cap2, rfl, hd1, hd2, hq0, hq⟩ := h'
  have HP := Lib.hid hp
  have HQ := Lib.hid hq
  clear hp hq hc2 hd2
  go_enter Tryd.func20, Tryd.ntmps20
  go_wp2_with fail
  go_loopw [5] (fun i wr => ∃ k m : Nat, k ≤ xs.length ∧ i = .int .i64 k ∧ wr = w.drewN m) (fun i _ => xs.length - (intOf i).toNat)
  case atStart => exact ⟨0, 0, Nat.zero_le _, rfl, rfl⟩
  case round =>
    obtain ⟨k, m, hk, rfl, rfl⟩ := hrel
    by_cases hlt : k < xs.length
    · obtain ⟨g, o, rfl, hg, hr⟩ := HP.out (by rintro rfl; have := hp0 rfl; omega)
      obtain ⟨g2, o2, rfl, hg2, hr2⟩ := HQ.out (by rintro rfl; have := hq0 rfl; omega)
      obtain ⟨c, hc⟩ : ∃ c, xs[k]? = some c := ⟨_, List.getElem?_eq_getElem hlt⟩
      have c1 := int_cell hr hc
      have c2 := int_cell hr2 hc
      clear hr hr2 hc hg hg2
      have hlt' : (k : Int) < (xs.length : Int) := by omega
      have hk0 : (0 : Int) ≤ (k : Int) := by omega
      go_wp2_with fail
      go_quiet (fail)
      go_wp2_with fail
      go_roundw
      case rel => exact ⟨k + 1, _, by omega, by go_num, rfl⟩
      case measure => simp [intOf]; omega
    · obtain rfl : k = xs.length := by omega
      go_wp2_with fail
      go_ret
      exact ⟨rfl, below_drewN (Below.refl _ _) m⟩

theorem eqI_own {w : World} {B C T U : Nat} {v u : Value} {xs : List Int} (h : OwnL encI 1 w B T v xs) (h2 : OwnL encI 1 w C U u xs) (hl : xs.length ≤ 1000000) :
    Calls Tryd.prog 20 #[v, u] w fun e w' => e = .returned (.bool true) ∧ Below w.heap.size w w' := by
  refine (eqInts_yes v u xs w (intsAt_of_own (own_ints h)) (intsAt_of_own (own_ints h2)) hl).mono ?_
  rintro e w' ⟨rfl, m, rfl⟩
  exact ⟨rfl, below_drewN (Below.refl _ _) m⟩
theorem sameI_own {w : World} {B C T U : Nat} {v u : Value} {xs : List Int} (h : OwnL encI 1 w B T v xs) (h2 : OwnL encI 1 w C U u xs) (hl : xs.length ≤ 1000000) :
    Calls Tryd.prog 18 #[v, u] w fun e w' => e = .returned (.bool true) ∧ Below w.heap.size w w' := by
  refine (sameInts_yes v u xs w (intsAt_of_own (own_ints h)) (intsAt_of_own (own_ints h2)) hl).mono ?_
  rintro e w' ⟨rfl, m, rfl⟩
  exact ⟨rfl, below_drewN (Below.refl _ _) m⟩
theorem markI_own {w : World} {B : Nat} {v : Value} {xs : List Int} (h : OwnL encI 1 w B 3 v xs) (hl : xs.length ≤ 1000000) :
    Calls Tryd.prog 21 #[v, .int .i64 1] w fun e w' => e = .returned (.int .i64 (1 + (xs.length : Int))) ∧ w'.ownsRow B 3 1 v xs.length ((marks 1 xs.length).map (Value.int .i64)) ∧ w.grownBy w' v.ownBlock := by
  have h1 := own_ints h
  have h2 := h.2
  rcases h2 with ⟨rfl, h0⟩ | ⟨g, cap, cur, rfl, _⟩
  · refine (markInts_nil 1 w).mono ?_
    rintro e w' ⟨rfl, rfl⟩
    refine ⟨by rw [h0]; rfl, ?_, World.grownBy.refl _ _⟩
    rw [h0]; exact World.ownsRow_nil _ _ _ _
  · exact markInts_own B g xs.length cap xs w h1 hl 1 (by omega) (by omega)
theorem heldI_own {w : World} {B T n : Nat} {v : Value} (h : w.ownsRow B T 1 v n ((marks 1 n).map (Value.int .i64))) (hl : n ≤ 1000000) :
    Calls Tryd.prog 22 #[v, .int .i64 1] w fun e w' => e = .returned (.int .i64 (1 + (n : Int))) ∧ w = w' :=
  heldInts_yes v n 1 w (intsAt_of_own h) hl (by omega) (by omega)
theorem mark_num (n : Nat) : ∃ M : Int, Aside ((1 + (n : Int)) = M) ∧ ¬ M < 0 ∧ (M != M) = false := ⟨_, Lib.hid rfl, by omega, by simp⟩
def BitN (w : World) (o : Option (List Int)) (bit : Bool) (e : Ending) (w' : World) : Prop :=
  Below w.heap.size w w' ∧ ∃ v', e = .returned (.tuple #[v', .bool bit]) ∧ OwnL encI 1 w' w.heap.size 3 v' (o.getD [])
theorem told_bitN {w w' : World} {o : Option (List Int)} {bit : Bool} {e : Ending} (hb : o.isSome = bit) (h : ToldI w o e w') : BitN w o bit e w' := by
  subst hb
  exact h
theorem marked_lies {B C : Nat} {w0 w w' : World} {u : Value} (h : Below B w0 w) (hB : B ≤ w.heap.size) (hg : w.grownBy w' u.ownBlock) (hu : ∀ k, u.ownBlock = some k → C ≤ k) (hC : B ≤ C) : Below B w0 w' :=
  h.grown hg hB fun k hk => Nat.le_trans hC (hu k hk)
end Go.Proofs.YtbdhbkedeglagaaDoor
