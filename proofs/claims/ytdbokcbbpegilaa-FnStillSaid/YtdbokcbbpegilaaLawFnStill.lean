/-
  The walk of the law FnStill.
-/
import Derived.Test.YtdbokcbbpegilaaM31
import Derived.Test.YtdbokcbbpegilaaM32
namespace Go.Proofs.Ytdbokcbbpegilaa
set_option maxRecDepth 20000
open Go.ChangeShapes Go.WideShapes Go.ChangeAt Go.RowKit
set_option linter.unusedVariables false
set_option linter.unusedSimpArgs false

theorem stillO_some {ws R : List Wh} (h : tid ws = some R) : stillO ws = some (stillI R 24) := by unfold stillO; rw [h]; rfl
theorem stillO_none {ws : List Wh} (h : tid ws = none) : stillO ws = none := by unfold stillO; rw [h]; rfl
theorem stillI_in {R : List Wh} {n : Int} {m : Nat} : n ∈ stillI R m ↔ ∃ b : Nat, n = (b : Int) ∧ b < m ∧ stillB R b = true := by
  unfold stillI
  simp only [List.mem_map, List.mem_filter, List.mem_range]
  constructor
  · rintro ⟨b, ⟨h1, h2⟩, rfl⟩; exact ⟨b, rfl, h1, h2⟩
  · rintro ⟨b, rfl, h1, h2⟩; exact ⟨b, ⟨h1, h2⟩, rfl⟩
theorem stillI_has {R : List Wh} {b : Nat} (h : b < 24) : decide ((b : Int) ∈ stillI R 24) = stillB R b := by
  apply Bool.eq_iff_iff.2
  rw [decide_eq_true_iff, stillI_in]
  constructor
  · rintro ⟨c, e, h1, h2⟩
    obtain rfl : b = c := by omega
    exact h2
  · intro h2; exact ⟨b, rfl, h, h2⟩
/-- Which numbers the first k of a list hold. -/
def heldF (L : List Int) (k : Nat) : Nat → Bool := fun b => decide ((b : Int) ∈ L.take k)
theorem heldF_none (L : List Int) : heldF L 0 = fun _ => false := by funext b; simp [heldF]
theorem heldF_next {L : List Int} {k b : Nat} (h : L[k]? = some (b : Int)) (j : Nat) : updB (heldF L k) b j = heldF L (k + 1) j := by
  obtain ⟨hk, hb⟩ := List.getElem?_eq_some_iff.1 h
  unfold updB heldF
  rw [List.take_add_one, h]
  by_cases e : j = b
  · subst e; simp
  · rw [if_neg e]
    have : ¬ (j : Int) = (b : Int) := by omega
    simp [this]
theorem rowB_same {w : World} {g : Nat} {T : TypeId} {f h : Nat → Bool} (r : RowB w g T f) (e : ∀ j, j < 24 → f j = h j) : RowB w g T h := by
  unfold RowB at *; rw [← bvec_same e]; exact r
theorem rowB_drewN {w : World} {g : Nat} {T : TypeId} {f : Nat → Bool} (r : RowB w g T f) (m : Nat) : RowB (w.drewN m) g T f := r
theorem built_bools : Try.prog.built 44 [] = some (bvec fun _ => false) := by kernel_rfl
theorem zero_bools : (#[.bool false, .bool false, .bool false, .bool false, .bool false, .bool false, .bool false, .bool false, .bool false, .bool false, .bool false, .bool false, .bool false, .bool false, .bool false, .bool false, .bool false, .bool false, .bool false, .bool false, .bool false, .bool false, .bool false, .bool false] : Array Value) = bvec fun _ => false := rfl
section
variable {P : Program} {ops : Array Oper} {rest : List Oper} {o : Oper} {a : Act} {Q : Exit → Act → World → Prop} {w : World}
theorem zero_ptB {T : TypeId} (hgd : o.guard = none) (ho : o.op = .build T #[]) (hbu : P.built T [] = some (bvec fun _ => false))
    (h : wpList P ops Q rest (a.put o.dst (.agg (bvec fun _ => false))) w) : wpList P ops Q (o :: rest) a w := by
  have e : (#[].map fun (p : Nat × Operand) => (p.1, a.eval p.2)).toList = [] := by simp
  refine wpList_build hgd T _ ho ?_ ?_
  · show (P.built T (#[].map fun (p : Nat × Operand) => (p.1, a.eval p.2)).toList).isSome = true
    rw [e, hbu]; rfl
  · show wpList P ops Q rest (a.put o.dst (.agg ((P.built T (#[].map fun (p : Nat × Operand) => (p.1, a.eval p.2)).toList).getD #[]))) w
    rw [e, hbu]; exact h
theorem store_newB {ty T : TypeId} {f f' : Nat → Bool} {cs : Array Value} (hgd : o.guard = none) {x y : Operand} (ho : o.op = .store ty x y) (hx : a.eval x = .pointer (some ⟨w.heap.size, 0, none⟩)) (hy : a.eval y = .agg (bvec f'))
    (hcs : cs = bvec f) (hi : (P.info? ty).map (·.size) = some 24) (h : wpList P ops Q rest (a.put o.dst undef) (w.alloc (.cells (bvec f') T))) : wpList P ops Q (o :: rest) a (w.alloc (.cells cs T)) := by
  subst hcs
  refine storeB hgd ho hx hy (RowB.new w T f rfl) hi ?_
  rw [World.setRow_alloc_new]
  exact h
end
theorem asm_big {ws : List Wh} {k : Nat} {c : Wh} (hc : ws[k]? = some c) (h : ∀ d ∈ ws.take k, Big d.r 1000) (h2 : ∀ j, j < 8 → -1000 ≤ c.r.up j ∧ c.r.up j ≤ 1000) : ∀ d ∈ ws.take (k + 1), Big d.r 1000 := fun d hd => by
  rw [take_next hc, List.mem_append, List.mem_singleton] at hd
  rcases hd with hd | rfl
  · exact h d hd
  · exact h2
theorem coord_in {w : World} {g o k m : Nat} {ws : List Wh} {c : Wh} (hr : w.rangeAt g o (flat ws)) (hc : ws[k]? = some c) (hm : m < 8) : w.cell? ⟨g, o + k * 9 + 1 + m, none⟩ = some (.int .i64 (c.r.up m)) :=
  range_radius (range_part hr hc) m _ (by simp [lst, hm])

set_option maxHeartbeats 16000000 in
theorem lawFnStill_walk (v : Value) (w : World) (h : CodeAt w v) : Calls Try.prog 7 #[v] w (Fine w) := by
  have D := Lib.hid (drawDesignStill v w h)
  obtain ⟨pa, pn, pc, rfl, hpn⟩ := code_length h
  clear h
  by_cases hbig : 1048576 < pn
  · have hb : (1048576 : Int) < (pn : Int) := by omega
    go_enter Try.func7, Try.ntmps7
    go_wp2_with fail
    go_ret
    exact fine_same ⟨rfl, rfl⟩
  have hb : ¬ (1048576 : Int) < (pn : Int) := by omega
  go_enter Try.func7, Try.ntmps7
  go_wp2_with fail
  refine D.out.mono ?_; rintro e w1 ⟨v2, ws, rfl, hR, hL⟩
  clear D

  have T1 := DesignStill_any v2 ws w1 hR
  have T2 := fun w h => specDesignStill_any v2 ws w h
  cases hx : tid ws with
  | none =>
    rw [stillO_none hx] at T1 T2
    go_wp2_with fail
    refine (T1).mono ?_; rintro e w2 ⟨hbw2, v3, rfl, hO⟩
    replace hR := hR.below hbw2
    replace hL := below_next hL hbw2
    clear hbw2
    go_wp2_with fail
    refine (T2 _ hR).mono ?_; rintro e w3 ⟨hbw3, v4, rfl, hW⟩
    replace hO := rows_below hO hbw3
    replace hR := hR.below hbw3
    replace hL := below_next hL hbw3
    clear hbw3
    clear T1 T2
    rw [Option.getD_none] at hO hW
    go_wp2_with fail
    refine (sameI_any hO hW (by simp)).mono ?_; rintro e w4 ⟨rfl, hbw4⟩
    replace hO := rows_below hO hbw4
    replace hW := rows_below hW hbw4
    replace hR := hR.below hbw4
    replace hL := below_next hL hbw4
    clear hbw4
    go_wp2_with fail
    refine (sameI_any hO hW (by simp)).mono ?_; rintro e w5 ⟨rfl, hbw5⟩
    replace hO := rows_below hO hbw5
    replace hW := rows_below hW hbw5
    replace hR := hR.below hbw5
    replace hL := below_next hL hbw5
    clear hbw5
    go_wp2
    go_ret
    exact ⟨rfl, hL⟩
  | some R =>
    rw [stillO_some hx] at T1 T2
    go_wp2_with fail
    refine (T1).mono ?_; rintro e w2 ⟨hbw2, v3, rfl, hO⟩
    replace hR := hR.below hbw2
    replace hL := below_next hL hbw2
    clear hbw2
    go_wp2_with fail
    refine (T2 _ hR).mono ?_; rintro e w3 ⟨hbw3, v4, rfl, hW⟩
    replace hO := rows_below hO hbw3
    replace hR := hR.below hbw3
    replace hL := below_next hL hbw3
    clear hbw3
    clear T1 T2
    rw [Option.getD_some] at hO hW
    go_wp2_with fail
    refine (sameI_any hO hW (by have := stillI_len R 24; omega)).mono ?_; rintro e w4 ⟨rfl, hbw4⟩
    replace hO := rows_below hO hbw4
    replace hW := rows_below hW hbw4
    replace hR := hR.below hbw4
    replace hL := below_next hL hbw4
    clear hbw4
    clear hW
    have HX := Lib.hid hx
    have hLn := stillI_len R 24
    have HIN := Lib.hid (fun n => (stillI_in (R := R) (n := n) (m := 24)).1)
    have HAS := Lib.hid (fun b h => stillI_has (R := R) (b := b) h)
    clear hx
    obtain ⟨L, hLe⟩ : ∃ L, stillI R 24 = L := ⟨_, rfl⟩
    rw [hLe] at hO hLn HIN HAS
    clear hLe
    obtain ⟨p, cap, rfl, hc1, hc2, hp0, hp⟩ := hR
    obtain ⟨p2, cap2, rfl, hd1, hd2, hq0, hq⟩ := ownL_reads hO
    simp only [maxLen] at hc2 hd2
    have HP := Lib.hid hp
    have HQ := Lib.hid hq
    have HL := Lib.hid hL
    clear hp hq hL hO
    go_wp2_with fail
    go_loop [8, 9, 10] (fun s i _ => ∃ (k : Nat) (sm : Bool), k ≤ ws.length ∧ i = .int .i64 k ∧ s = .bool sm ∧ Aside (sm = true → ∀ c ∈ ws.take k, Big c.r 1000)) (fun _ i _ => ws.length - (intOf i).toNat)
    case atStart => exact ⟨0, true, Nat.zero_le _, rfl, rfl, Lib.hid (fun _ c hc => by simp at hc)⟩
    case round =>
      obtain ⟨k, sm, hk, rfl, rfl, hS⟩ := hrel
      by_cases hlt : k < ws.length
      · have hkz : (k : Int) < (ws.length : Int) := by omega
        have hk0 : (0 : Int) ≤ (k : Int) := by omega
        obtain ⟨g, o, rfl, hg, hr⟩ := HP.out (by rintro rfl; have := hp0 rfl; omega)
        obtain ⟨c, hc⟩ : ∃ c, ws[k]? = some c := ⟨_, List.getElem?_eq_getElem hlt⟩
        have HRG := Lib.hid hr
        have HC := Lib.hid hc
        clear hr hg hc
        go_wp2_with fail
        go_loop [8, 10] (fun s i => ∃ (m : Nat) (sn : Bool), m ≤ 8 ∧ i = .int .i64 m ∧ s = .bool sn ∧ Aside (sn = true → (∀ c ∈ ws.take k, Big c.r 1000) ∧ ∀ j, j < m → -1000 ≤ c.r.up j ∧ c.r.up j ≤ 1000)) (fun _ i => 8 - (intOf i).toNat)
        case atStart => exact ⟨0, sm, Nat.zero_le _, rfl, rfl, Lib.hid (fun e => ⟨hS.out e, fun j hj => absurd hj (Nat.not_lt_zero j)⟩)⟩
        case round =>
          clear hS
          obtain ⟨m, sn, hm8, rfl, rfl, hS⟩ := hrel
          by_cases hlt8 : m < 8
          · have hmz : (m : Int) < 8 := by omega
            have hm0 : (0 : Int) ≤ (m : Int) := by omega
            cases sn
            · go_wp2_with fail
              go_round
              case rel => exact ⟨m + 1, false, by omega, by go_num, rfl, Lib.hid (fun e => by cases e)⟩
              case measure => simp [intOf]; omega
            · have hcell := coord_in HRG.out HC.out hlt8
              obtain ⟨x, hx⟩ : ∃ x, c.r.up m = x := ⟨_, rfl⟩
              rw [hx] at hcell
              by_cases h1 : x ≤ 1000
              · by_cases h2 : -1000 ≤ x
                · have HS2 : Aside ((∀ c ∈ ws.take k, Big c.r 1000) ∧ ∀ j, j < m + 1 → -1000 ≤ c.r.up j ∧ c.r.up j ≤ 1000) := (show _ ∧ _ from ⟨(hS.out rfl).1, fun j hj => by
                    rcases Nat.lt_or_ge j m with h | h
                    · exact (hS.out rfl).2 j h
                    · obtain rfl : j = m := by omega
                      rw [hx]; exact ⟨h2, h1⟩⟩)
                  clear hS hx
                  go_wp2_with fail
                  go_round
                  case rel => exact ⟨m + 1, true, by omega, by go_num, rfl, Lib.hid (fun _ => HS2.out)⟩
                  case measure => simp [intOf]; omega
                · clear hS hx
                  go_wp2_with fail
                  go_round
                  case rel => exact ⟨m + 1, false, by omega, by go_num, rfl, Lib.hid (fun e => by cases e)⟩
                  case measure => simp [intOf]; omega
              · clear hS hx
                go_wp2_with fail
                go_round
                case rel => exact ⟨m + 1, false, by omega, by go_num, rfl, Lib.hid (fun e => by cases e)⟩
                case measure => simp [intOf]; omega
          · obtain rfl : m = 8 := by omega
            have HS2 : Aside (sn = true → ∀ c ∈ ws.take (k + 1), Big c.r 1000) := (show _ → _ from fun e => asm_big HC.out (hS.out e).1 (hS.out e).2)
            clear hS
            go_wp2_with fail
            go_round
            case rel => exact ⟨k + 1, sn, by omega, by go_num, rfl, HS2⟩
            case measure => simp [intOf]; omega
      · obtain rfl : k = ws.length := by omega
        have HSM : Aside (sm = true → ∀ b, b < 24 → stillB R ((24 - b) % 24) = stillB R b) := (show _ → _ from fun e b hb => stillB_back hb (small_tidy HX.out (by have := hS.out e; rwa [List.take_length] at this)))
        have HHOME := Lib.hid (stillB_home (tid_in HX.out).2.1)
        clear hS
        have HB4 := Lib.hid ((Below.refl w4.heap.size w4).alloc (Nat.le_refl _) (.cells (bvec fun _ => false) 44))
        have HR4 := Lib.hid (show RowB (w4.alloc (.cells (bvec fun _ => false) 44)) w4.heap.size 44 (heldF L 0) from by rw [heldF_none]; exact RowB.new w4 44 (fun _ => false) rfl)
        go_upto_region 17 with (first | (refine zero_ptB rfl rfl built_bools ?_) | (refine store_newB (ty := 44) rfl rfl rfl rfl zero_bools info_bools ?_))
        show Code.wp _ _ _ _ (w4.alloc (.cells (bvec fun _ => false) 44))
        generalize w4.alloc (.cells (bvec fun _ => false) 44) = W4 at *
        go_wp2_with fail
        go_loopw [12] (fun i wr => ∃ k : Nat, k ≤ L.length ∧ i = .int .i64 k ∧ Aside (RowB wr w4.heap.size 44 (heldF L k)) ∧ Aside (Below w4.heap.size w4 wr)) (fun i _ => L.length - (intOf i).toNat)
        case atStart => exact ⟨0, Nat.zero_le _, rfl, HR4, HB4⟩
        case round =>
          obtain ⟨k, hk, rfl, hH, hbel⟩ := hrel
          by_cases hlt : k < L.length
          · have hkz : (k : Int) < (L.length : Int) := by omega
            have hk0 : (0 : Int) ≤ (k : Int) := by omega
            obtain ⟨g, o, rfl, hg, hr⟩ := HQ.out (by rintro rfl; have := hq0 rfl; omega)
            obtain ⟨x, hx⟩ : ∃ x, L[k]? = some x := ⟨_, List.getElem?_eq_getElem hlt⟩
            obtain ⟨b, rfl, hb24, -⟩ := HIN.out x (List.mem_of_getElem? hx)
            have c1 := (hbel.out.cell (p := ⟨g, o + k, none⟩) hg).trans (int_cell hr hx)
            have c2 := hH.out.cell hb24
            have f2 := hH.out.free b
            have hb0 : (0 : Int) ≤ (b : Int) := by omega
            have hbz : (b : Int) < 24 := by omega
            have HH2 := Lib.hid (rowB_same (hH.out.set hb24) fun j _ => heldF_next hx j)
            have HB2 := Lib.hid (hbel.out.setCell (p := ⟨w4.heap.size, b, none⟩) (Nat.le_refl _) (.bool true))
            clear hr hg hx hH hbel
            generalize heldF L k b = old at c2
            go_wp2_with fail
            go_roundw
            case rel => exact ⟨k + 1, by omega, by go_num, HH2, HB2⟩
            case measure => simp [intOf]; omega
          · obtain rfl : k = L.length := by omega
            have HH := Lib.hid (rowB_same hH.out (h := stillB R) fun j hj => by show decide ((j : Int) ∈ L.take L.length) = _; rw [List.take_length]; exact HAS.out j hj)
            have HLX := Lib.hid (HL.out.trans (hbel.out.mono HL.out.size))
            clear hH hbel
            cases sm
            · go_wp2_with fail
              refine wp_loop_rounds 1 ?_
              rw [rounds_succ]
              go_wp2_with fail
              go_ret
              exact ⟨rfl, HLX.out⟩
            · have HSY := Lib.hid (HSM.out rfl)
              clear HSM
              go_wp2_with fail
              go_loopw [13] (fun i w5 => ∃ (b m : Nat), b ≤ 24 ∧ i = .int .i64 b ∧ w5 = wr.drewN m) (fun i _ => 24 - (intOf i).toNat)
              case atStart => exact ⟨0, 0, Nat.zero_le _, rfl, rfl⟩
              case round =>
                obtain ⟨b, m, hb, rfl, rfl⟩ := hrel
                by_cases hb24 : b < 24
                · have hbz : (b : Int) < 24 := by omega
                  have hb0 : (0 : Int) ≤ (b : Int) := by omega
                  obtain ⟨c, hc⟩ : ∃ c, (24 - b) % 24 = c := ⟨_, rfl⟩
                  have hc24 : c < 24 := by omega
                  have hcz : (c : Int) < 24 := by omega
                  have hc0 : (0 : Int) ≤ (c : Int) := by omega
                  have c1 := HH.out.cell hb24
                  have c2 := HH.out.cell hc24
                  have e := HSY.out b hb24
                  rw [hc] at e
                  rw [e] at c2
                  have q1 : IntKind.i64.wrap (24 - (b : Int)) = 24 - (b : Int) := by rw [IntKind.wrap_i64]; omega
                  have q2 : (24 - (b : Int)).tmod 24 = (c : Int) := by rw [Int.tmod_eq_emod_of_nonneg (by omega)]; omega
                  have q3 : IntKind.i64.wrap (c : Int) = (c : Int) := by rw [IntKind.wrap_i64]; omega
                  clear e hc
                  generalize stillB R b = x at *
                  have hxx : (x != x) = false := by simp
                  go_wp2_with fail
                  go_quiet (fail)
                  go_wp2_with fail
                  go_roundw
                  case rel => exact ⟨b + 1, _, by omega, by go_num, rfl⟩
                  case measure => simp [intOf]; omega
                · obtain rfl : b = 24 := by omega
                  have c0 := HH.out.cell (k := 0) (by omega)
                  rw [HHOME.out] at c0
                  go_wp2_with fail
                  go_ret
                  exact ⟨rfl, below_drewN HLX.out m⟩

end Go.Proofs.Ytdbokcbbpegilaa
