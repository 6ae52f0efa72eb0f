/-
  The table of the turns' names: what a row's list says of its cells; the decimals of spec; the texts of turns.
-/
import Derived.Test.YtnlbcfblfjcfnaaDoorDrawTurn
import Derived.Deep.DeepHandedRow
import Derived.Lib.LaidTab
import Derived.WalkSpells
import Derived.Laws.IdiomStrings
import Derived.IntWalk
namespace Go.Proofs.YtnlbcfblfjcfnaaDoor
open Go.ChangeShapes Go.WideShapes Go.ChangeAt Go.RowKit
set_option linter.unusedVariables false
set_option linter.unusedSimpArgs false

/-- An array of strings as a row lists it. -/
def strData {H : Type} (bs : List (List UInt8)) : DataW H := .agg (bs.map fun b => .lit (.string b))
/-- The string of some bytes. -/
def strOf (b : List UInt8) : ByteArray := ⟨b.toArray⟩
theorem strOf_toList (s : ByteArray) : strOf s.data.toList = s := by cases s; rfl

/-- An array of strings that reads as the list holds its strings, cell for cell. -/
theorem cells_of_strs {H : Type} {enc : TypeId × Value → H} {P : Program} {w : World} {base : Nat} {sp : Nat → Bool} {held : Bool} {fuel : Nat} {t e : TypeId} {n : Nat} {cs : List Value} {bs : List (List UInt8)} {p : List MemPlace}
    (ht : P.underlying t = some (.array n e)) (he : P.underlying e = some .string) (hce : P.cellsOf e = 1) (hct : P.cellsOf t = n)
    (h : DataW.trod enc P w base sp held fuel t cs = some (strData bs, p)) : cs = bs.map fun b => Value.string (strOf b) := by
  cases fuel with
  | zero => simp [DataW.trod] at h
  | succ fuel =>
    simp only [DataW.trod, ht, hce, hct, Nat.mul_one] at h
    split at h
    · rename_i hl
      obtain ⟨xs, hm, hx⟩ := Option.map_eq_some_iff.1 h
      have hxs : xs.map (·.1) = bs.map fun b => (DataW.lit (.string b) : DataW H) := by
        have := congrArg Prod.fst hx
        simpa [strData] using this
      have hxl : xs.length = n := by simpa using Lib.mapM_length hm
      have hzl : bs.length = n := by
        have := congrArg List.length hxs
        simp at this
        omega
      apply List.ext_getElem?
      intro i
      by_cases hi : i < n
      · obtain ⟨b, hb, hf⟩ := Lib.mapM_at hm i i (by simp [hi])
        obtain ⟨s, hc, hbs, _⟩ := DataW.trod_string he hf
        subst hbs
        have h1 : cs[i]? = some (.string s) := by
          have := congrArg (·[0]?) hc
          simpa [List.getElem?_take, List.getElem?_drop] using this
        have h2 : (xs.map (·.1))[i]? = some (DataW.lit (.string s.data.toList) : DataW H) := by simp [hb]
        rw [hxs] at h2
        simp only [List.getElem?_map, Option.map_eq_some_iff, DataW.lit.injEq, Lit.string.injEq] at h2
        obtain ⟨z', hz', hzz⟩ := h2
        simp [h1, hz', hzz, strOf_toList]
      · rw [List.getElem?_eq_none (by omega), List.getElem?_eq_none (by simp; omega)]
    · cases h

/-- The names of the turns. -/
def names : List (List UInt8) := [[48], [49, 47, 50, 52], [49, 47, 49, 50], [49, 47, 56], [49, 47, 54], [53, 47, 50, 52], [49, 47, 52], [55, 47, 50, 52], [49, 47, 51], [51, 47, 56], [53, 47, 49, 50], [49, 49, 47, 50, 52], [49, 47, 50], [49, 51, 47, 50, 52], [55, 47, 49, 50], [53, 47, 56], [50, 47, 51], [49, 55, 47, 50, 52], [51, 47, 52], [49, 57, 47, 50, 52], [53, 47, 54], [55, 47, 56], [49, 49, 47, 49, 50], [50, 51, 47, 50, 52]]
theorem names_len : names.length = 24 := rfl
theorem gTab : Tryd.prog.globalNamed (Rows.fnTurnTextSpec.vars.headD default) = some 0 := by kernel_rfl
theorem gTabType : (Tryd.prog.globals[0]?).map (·.type) = some 38 := by kernel_rfl
theorem cellsTab : Tryd.prog.cellsOf 38 = 24 := by kernel_rfl
theorem cellsStr : Tryd.prog.cellsOf 9 = 1 := by kernel_rfl

/-- The names as the table's cells. -/
def nameCells : Array Value := (names.map fun b => Value.string (strOf b)).toArray
/-- What the row's list gives: the table's cells hold the names. -/
def NamesAt (W : World) : Prop := ∃ t fr, W.heap[0]? = some (.cells nameCells t fr)
theorem names_at {W : World} (h : laidMetH Tryd.prog Rows.fnTurnTextRow.laid W) : NamesAt W := by
  obtain ⟨ps, ⟨g', t', cs, fuel, p, q, hg', ht', hvar, hd, _, _⟩, _⟩ := h
  obtain rfl := Option.some.inj (gTab.symm.trans hg')
  obtain rfl := Option.some.inj (gTabType.symm.trans ht')
  have hcs := cells_of_strs (bs := names) Tryd.underlying38 Tryd.underlying9 cellsStr cellsTab hd
  have hcs' : cs = nameCells := by rw [← Array.toArray_toList (xs := cs), hcs]; rfl
  subst hcs'
  simp only [World.var?, hg', Option.bind_some] at hvar
  split at hvar
  · rename_i c t fr heq
    obtain rfl := Option.some.inj hvar
    exact ⟨t, fr, heq⟩
  · cases hvar
theorem name_at (i : Nat) (h : i < 24) : nameCells[i]? = some (.string (strOf (names.getD i []))) := by
  have hi' : i < names.length := h
  simp [nameCells, List.getD_eq_getElem?_getD, hi']
theorem NamesAt.cell {W : World} (h : NamesAt W) (i : Nat) (hi : i < 24) : W.cell? ⟨0, i, none⟩ = some (.string (strOf (names.getD i []))) := by
  obtain ⟨t, fr, h⟩ := h
  rw [cell_of_row _ _ _ _ _ _ h, name_at i hi]
theorem NamesAt.lt {W : World} (h : NamesAt W) : 0 < W.heap.size := by
  obtain ⟨t, fr, h⟩ := h
  exact Nat.lt_of_not_le fun hle => by rw [Array.getElem?_eq_none hle] at h; cases h
theorem NamesAt.below {w w' : World} (h : NamesAt w) (hb : Below w.heap.size w w') : NamesAt w' := by
  have hlt := h.lt
  obtain ⟨t, fr, h⟩ := h
  exact ⟨t, fr, (hb.block _ hlt).trans h⟩

theorem text_at (t : Nat) (ht : t ≤ 23) (w : World) (h : NamesAt w) :
    Calls Tryd.prog 16 #[.int .i64 t] w fun e w' => e = .returned (.string (strOf (names.getD t []))) ∧ w = w' := by
  have c := h.cell t (by omega)
  have b0 : (0 : Int) ≤ (t : Int) := by omega
  have b1 : (t : Int) < 24 := by omega
  clear h
  generalize strOf (names.getD t []) = s at c
  go_enter Tryd.func16, Tryd.ntmps16
  go_wp2_with fail
  go_ret
  exact ⟨rfl, rfl⟩
theorem implText_yes (t : Nat) (ht : t ≤ 23) (w : World) (h : NamesAt w) :
    Calls Tryd.prog 8 #[.int .i64 t] w fun e w' => e = .returned (.string (strOf (names.getD t []))) ∧ w = w' := by
  have T := Lib.hid (text_at t ht w h)
  clear h
  go_enter Tryd.func8, Tryd.ntmps8
  go_wp2_with (first | (go_at_call 15; refine (isTurn_yes _ (by omega) (by omega) _).mono ?_; rintro e w' ⟨rfl, rfl⟩) | (go_at_call 16; refine T.out.mono ?_; rintro e w' ⟨rfl, rfl⟩))
  go_ret
  exact ⟨rfl, rfl⟩
theorem implText_no (t : Int) (h : t < 0 ∨ 23 < t) (w : World) :
    Calls Tryd.prog 8 #[.int .i64 t] w fun e w' => e = .returned (.string ⟨#[]⟩) ∧ w = w' := by
  go_enter Tryd.func8, Tryd.ntmps8
  go_wp2_with (go_at_call 15; refine (isTurn_no _ h _).mono ?_; rintro e w' ⟨rfl, rfl⟩)
  go_ret
  exact ⟨rfl, rfl⟩
theorem specText_no (t : Int) (h : t < 0 ∨ 23 < t) (w : World) :
    Calls Tryd.prog 9 #[.int .i64 t] w fun e w' => e = .returned (.string ⟨#[]⟩) ∧ w = w' := by
  go_enter Tryd.func9, Tryd.ntmps9
  go_wp2_with (go_at_call 17; refine (is_no _ h _).mono ?_; rintro e w' ⟨rfl, rfl⟩)
  go_ret
  exact ⟨rfl, rfl⟩

/-! The decimals of spec. -/
theorem byte_of (n : Nat) (hn : n ≤ 9) : ((UInt8.ofNat (48 + n)).toNat : Int) = 48 + (n : Int) := by
  have : (UInt8.ofNat (48 + n)).toNat = 48 + n := by simp [UInt8.toNat_ofNat]; omega
  omega
/-- The string of one decimal. -/
def digS (n : Nat) : ByteArray := strOf [UInt8.ofNat (48 + n)]
theorem conv_at (n : Nat) (hn : n ≤ 9) (x : Int) (hx : x = 48 + (n : Int)) (b : Nat) (W : World) (hc : W.cell? ⟨b, 0, none⟩ = some (.int .u8 x)) :
    (convert 22 9 (.slice (some ⟨b, 0, none⟩) 1 1)).run Tryd.prog W = .ok (.string (digS n)) W :=
  run_convert_bytes_back (P := Tryd.prog) W 22 9 5 ⟨b, 0, none⟩ 1 [UInt8.ofNat (48 + n)] Tryd.underlying22 Tryd.underlying5 Tryd.underlying9
    (fun j hj => by
      have hj0 : j = 0 := by simpa using hj
      subst hj0
      show W.cell? ⟨b, 0, none⟩ = some (.int .u8 ((UInt8.ofNat (48 + n)).toNat : Int))
      rw [hc, byte_of n hn, hx])
theorem conv_one (n : Nat) (hn : n ≤ 9) (x : Int) (hx : x = 48 + (n : Int)) (w : World) :
    (convert 22 9 (.slice (some ⟨w.heap.size, 0, none⟩) 1 1)).run Tryd.prog (w.alloc (.cells #[.int .u8 x] 5)) = .ok (.string (digS n)) (w.alloc (.cells #[.int .u8 x] 5)) :=
  conv_at n hn x hx _ _ (World.cell?_alloc_at _ _ _ _ rfl)
theorem dec_small (n : Nat) (hn : n ≤ 9) (w : World) :
    Calls Tryd.prog 19 #[.int .i64 n] w fun e w' => e = .returned (.string (digS n)) ∧ Below w.heap.size w w' := by
  have h1 : ¬ (n : Int) < -9223372036854775807 := by omega
  have hcv := conv_one n hn _ rfl w
  go_enter Tryd.func19, Tryd.ntmps19
  go_wp2_with fail
  go_ret
  exact ⟨rfl, (Below.refl _ _).alloc (Nat.le_refl _) _⟩

set_option maxHeartbeats 800000 in
theorem dec_two (n : Nat) (h10 : 10 ≤ n) (hn : n ≤ 99) (w : World) :
    Calls Tryd.prog 19 #[.int .i64 n] w fun e w' => e = .returned (.string (digS (n / 10) ++ digS (n % 10))) ∧ Below w.heap.size w w' := by
  have h1 : ¬ (n : Int) < -9223372036854775807 := by omega
  have h2 : ¬ (n : Int) < 10 := by omega
  have h3 : ¬ (n : Int) < 0 := by omega
  have hq : ((n : Int) / 10) = ((n / 10 : Nat) : Int) := by omega
  have hm : 48 + ((n : Int) % 10) = 48 + ((n % 10 : Nat) : Int) := by omega
  have HQ := Lib.hid hq
  have HM := Lib.hid hm
  clear hq hm
  have DA : Hid (Calls Tryd.prog 19 #[.int .i64 ((n : Int) / 10)] w.drew fun e w' => e = .returned (.string (digS (n / 10))) ∧ Below w.heap.size w w') := Lib.hid (by
    rw [HQ.out]; exact (dec_small (n / 10) (by omega) w.drew).mono fun e w' ⟨h, hb⟩ => ⟨h, ((Below.refl _ _).drew).trans hb⟩)
  have DB : Hid (Calls Tryd.prog 19 #[.int .i64 ((n : Int) / 10)] (w.alloc (.cells #[.int .u8 (48 + (n : Int) % 10)] 5)).drew fun e w' => e = .returned (.string (digS (n / 10))) ∧
      Below (w.heap.size + 1) (w.alloc (.cells #[.int .u8 (48 + (n : Int) % 10)] 5)) w') := Lib.hid (by
    rw [HQ.out]; exact (dec_small (n / 10) (by omega) _).mono fun e w' ⟨h, hb⟩ => ⟨h, ((Below.refl _ _).drew).trans (by simpa using hb)⟩)
  have hcv0 := conv_at (n % 10) (by omega) _ HM.out w.heap.size (w.alloc (.cells #[.int .u8 (48 + (n : Int) % 10)] 5)).drew (World.cell?_alloc_at _ _ _ _ rfl)
  have e1 : IntKind.i64.wrap ((n : Int) / 10) = (n : Int) / 10 := IntWalk.i64_in _ (by omega)
  have e2 : (n : Int).tmod 10 = (n : Int) % 10 := Int.tmod_eq_emod_of_nonneg (by omega)
  have e3 : IntKind.i64.wrap (48 + (n : Int) % 10) = 48 + (n : Int) % 10 := IntWalk.i64_in _ (by omega)
  have e4 : IntKind.u8.wrap (48 + (n : Int) % 10) = 48 + (n : Int) % 10 := by rw [IntKind.wrap_u8]; omega
  go_enter Tryd.func19, Tryd.ntmps19
  go_wp2_with fail
  go_region_with (first
    | (go_at_call 19; ((with_reducible refine DA.out.mono ?_); rintro e w1 ⟨rfl, hb1⟩; have hcv1 := conv_one (n % 10) (by omega) _ HM.out w1))
    | (go_at_call 19; ((with_reducible refine DB.out.mono ?_); rintro e w1 ⟨rfl, hb1⟩; have hcv1 := conv_at (n % 10) (by omega) _ HM.out w.heap.size w1 ((hb1.cell (by simp)).trans (World.cell?_alloc_at _ _ _ _ rfl)))))
  all_goals
    go_wp2_with fail
    go_ret
    first
      | exact ⟨rfl, hb1.alloc (by have := hb1.size; omega) _⟩
      | exact ⟨rfl, ((Below.refl _ _).alloc (Nat.le_refl _) _).trans (hb1.mono (by omega))⟩

theorem ret_str {a b : ByteArray} (h : a = b) : Ending.returned (.string a) = .returned (.string b) := by rw [h]
/-- The decimals of a number below 100. -/
def decS (n : Nat) : ByteArray := if n ≤ 9 then digS n else digS (n / 10) ++ digS (n % 10)
theorem decS_size (n : Nat) : (decS n).size ≤ 2 := by
  unfold decS
  split
  · show (1 : Nat) ≤ 2; omega
  · rw [ByteArray.size_append]; show (1 + 1 : Nat) ≤ 2; omega
theorem dec_any (n : Nat) (hn : n ≤ 99) (w : World) :
    Calls Tryd.prog 19 #[.int .i64 n] w fun e w' => e = .returned (.string (decS n)) ∧ Below w.heap.size w w' := by
  unfold decS
  by_cases h : n ≤ 9
  · rw [if_pos h]; exact dec_small n h w
  · rw [if_neg h]; exact dec_two n (by omega) hn w
theorem name_eq (t : Nat) (h0 : 1 ≤ t) (h1 : t ≤ 23) : decS (t / Nat.gcd 24 t) ++ strOf [47] ++ decS (24 / Nat.gcd 24 t) = strOf (names.getD t []) := by
  have key : ∀ i : Fin 24, 1 ≤ i.val → decS (i.val / Nat.gcd 24 i.val) ++ strOf [47] ++ decS (24 / Nat.gcd 24 i.val) = strOf (names.getD i.val []) := by decide +kernel
  exact key ⟨t, by omega⟩ h0
theorem specGcd_door (a b : Nat) (ha : a ≤ 1000000) (hb : b ≤ 1000000) (w : World) :
    Calls Tryd.prog 18 #[.int .i64 a, .int .i64 b] w fun e w' => e = .returned (.int .i64 (Nat.gcd a b)) ∧ w = w' := by
  go_enter Tryd.func18, Tryd.ntmps18
  go_wp2
  go_loop [0, 1, 5] (fun x y _ => ∃ p q : Nat, x = .int .i64 p ∧ y = .int .i64 q ∧ p ≤ 1000000 ∧ q ≤ 1000000 ∧ Nat.gcd p q = Nat.gcd a b) (fun _ y _ => (intOf y).toNat)
  case atStart => exact ⟨a, b, rfl, rfl, ha, hb, rfl⟩
  case round =>
    obtain ⟨p, q, rfl, rfl, hp, hq, hg⟩ := hrel
    have G := Lib.hid hg; clear hg
    by_cases h : q = 0
    · subst h
      go_wp2
      go_ret
      exact ⟨ret_int (by have := G.out; simp at this; omega), rfl⟩
    · have hq0 : ((q : Int) != 0) = true := by simpa using h
      have hq1 : (0 : Int) < q := by omega
      have hq2 : ((q : Int) == 0) = false := by simpa using h
      go_wp2
      go_round
      case rel => exact ⟨q, p % q, rfl, by go_num, hq, by have := Nat.mod_lt p (Nat.pos_of_ne_zero h); omega, by rw [← G.out, Nat.gcd_comm p q, Nat.gcd_rec q p, Nat.gcd_comm]⟩
      case measure => have := Nat.mod_lt p (Nat.pos_of_ne_zero h); simp [intOf]; omega

theorem specText_zero (w : World) :
    Calls Tryd.prog 9 #[.int .i64 0] w fun e w' => e = .returned (.string (strOf (names.getD 0 []))) ∧ Below w.heap.size w w' := by
  go_enter Tryd.func9, Tryd.ntmps9
  go_wp2_with (go_at_call 17; refine (is_yes _ (by omega) (by omega) _).mono ?_; rintro e w' ⟨rfl, rfl⟩)
  go_ret
  exact ⟨rfl, Below.refl _ _⟩
set_option maxHeartbeats 800000 in
theorem specText_pos (t : Nat) (h0 : 1 ≤ t) (h1 : t ≤ 23) (w : World) :
    Calls Tryd.prog 9 #[.int .i64 t] w fun e w' => e = .returned (.string (strOf (names.getD t []))) ∧ Below w.heap.size w w' := by
  have hn := name_eq t h0 h1
  have g0 : 1 ≤ Nat.gcd 24 t := Nat.gcd_pos_of_pos_left _ (by omega)
  have g1 : Nat.gcd 24 t ≤ 24 := Nat.le_of_dvd (by omega) (Nat.gcd_dvd_left _ _)
  have G := fun w => Lib.hid (specGcd_door 24 t (by omega) (by omega) w)
  generalize Nat.gcd 24 t = g at *
  have HN := Lib.hid hn; clear hn
  have q0 : (0 : Int) ≤ (t : Int) / (g : Int) := Int.ediv_nonneg (by omega) (by omega)
  have q1 : (t : Int) / (g : Int) ≤ 23 := by
    have := Int.ediv_le_self (b := (g : Int)) (show (0 : Int) ≤ (t : Int) by omega); omega
  have r0 : (0 : Int) ≤ 24 / (g : Int) := Int.ediv_nonneg (by omega) (by omega)
  have r1 : 24 / (g : Int) ≤ 24 := Int.ediv_le_self _ (by omega)
  have D1 : ∀ W, Hid (Calls Tryd.prog 19 #[.int .i64 ((t : Int) / (g : Int))] W fun e w' => e = .returned (.string (decS (t / g))) ∧ Below W.heap.size W w') := fun W => Lib.hid (by
    rw [← Int.natCast_ediv]; exact dec_any _ (by omega) W)
  have D2 : ∀ W, Hid (Calls Tryd.prog 19 #[.int .i64 (24 / (g : Int))] W fun e w' => e = .returned (.string (decS (24 / g))) ∧ Below W.heap.size W w') := fun W => Lib.hid (by
    have e : (24 : Int) / (g : Int) = ((24 / g : Nat) : Int) := by rw [Int.natCast_ediv]; rfl
    rw [e]; exact dec_any _ (by have := Nat.div_le_self 24 g; omega) W)
  have hz : ((t : Int) == 0) = false := by simp; omega
  have s1 := decS_size (t / g)
  have s2 := decS_size (24 / g)
  have gz : ((g : Int) == 0) = false := by simp; omega
  have g2 : (1 : Int) ≤ (g : Int) := by omega
  have e1 : IntKind.i64.wrap ((t : Int) / (g : Int)) = (t : Int) / (g : Int) := IntWalk.i64_in _ (by omega)
  have e2 : IntKind.i64.wrap (24 / (g : Int)) = 24 / (g : Int) := IntWalk.i64_in _ (by omega)
  have e3 : Int.tdiv 24 (g : Int) = 24 / (g : Int) := Int.tdiv_eq_ediv_of_nonneg (by omega)
  go_enter Tryd.func9, Tryd.ntmps9
  go_wp2_with (first | (go_at_call 17; refine (is_yes _ (by omega) (by omega) _).mono ?_; rintro e w' ⟨rfl, rfl⟩) | (go_at_call 18; refine (G _).out.mono ?_; rintro e w' ⟨rfl, rfl⟩))
  go_region_with (first
    | (go_at_call 19; ((with_reducible refine (D1 _).out.mono ?_); rintro e w1 ⟨rfl, hb1⟩))
    | (go_at_call 19; ((with_reducible refine (D2 _).out.mono ?_); rintro e w2 ⟨rfl, hb2⟩)))
  all_goals
    have hb : Below w.heap.size w w2 := (Below.refl _ _).drew.trans (hb1.trans (hb2.mono hb1.size))
    go_wp2_with fail
    go_ret
    exact ⟨ret_str HN.out, hb⟩
theorem specText_yes (t : Nat) (h1 : t ≤ 23) (w : World) :
    Calls Tryd.prog 9 #[.int .i64 t] w fun e w' => e = .returned (.string (strOf (names.getD t []))) ∧ Below w.heap.size w w' := by
  by_cases h : t = 0
  · subst h; exact specText_zero w
  · exact specText_pos t (by omega) h1 w
end Go.Proofs.YtnlbcfblfjcfnaaDoor
