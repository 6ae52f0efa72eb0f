/-
  impl: lists of points made full, copied; transforms.
  The exact laws' helpers on lists of exact points: measured, copied.
  The exact laws' helpers on lists of exact points: compared, marked, held.
-/
import Derived.Test.YtdgbpdeimckbfaaM16
import Derived.Test.YtdgbpdeimckbfaaM08
import Derived.Laws.CopyRow
import Derived.Test.YtdgbpdeimckbfaaM15
import Derived.Test.YtdgbpdeimckbfaaM02
import Derived.Test.YtdgbpdeimckbfaaM13
/- impl: lists of points made full, copied; transforms. -/
namespace Go.Proofs.Ytdgbpdeimckbfaa
set_option maxRecDepth 20000
open Go.ChangeShapes Go.WideShapes Go.ChangeAt Go.RowKit
set_option linter.unusedVariables false
set_option linter.unusedSimpArgs false

/-! Lists made full of 0. -/
theorem made_zeros (n : Nat) : (madeCells (Value.agg (vec 8 nul)).cells (n * 8)).toList = flt encV (List.replicate n V.zero) := by
  apply List.ext_getElem?
  intro i
  by_cases hi : i < n * 8
  · have h1 := flt_at encV_ok (xs := List.replicate n V.zero) (i := i / 8) (a := V.zero) (by rw [List.getElem?_replicate, if_pos (by omega)]) (i % 8) (by omega)
    rw [show i / 8 * 8 + i % 8 = i from by omega] at h1
    rw [h1]
    have hz : ∀ k, k < 8 → (vec 8 nul)[k]! = .int .i64 0 := fun k hk => by
      rw [getElem!_pos (vec 8 nul) k (by rw [vec_size]; exact hk)]
      have := vec_at nul hk
      rw [Array.getElem?_eq_getElem (by rw [vec_size]; exact hk)] at this
      simpa [nul] using this
    have hm : i % 8 < 8 := by omega
    have h2 : (encV V.zero)[i % 8]? = some (.int .i64 0) := by
      unfold encV lst
      rw [zero_up]
      simp [hm, nul]
    rw [h2]
    simp [madeCells, Value.cells, hi, vec_size, hz _ hm]
  · rw [List.getElem?_eq_none (by simp [madeCells]; omega), List.getElem?_eq_none (by rw [flt_length encV_ok]; simp; omega)]
section
variable {P : Program} {t e : TypeId} {ops : Array Oper} {rest : List Oper} {o : Oper} {a : Act} {Q : Exit → Act → World → Prop} {w0 w : World} {B : Nat}
/-- 'make' of a list of zero points. -/
theorem make_fullL (ty : TyL P t e 8) (hz : (P.info? e).map (·.zero) = some (some (.agg (vec 8 nul)))) (hgd : o.guard = none) {l c : Operand} (hop : o.op = .makeSlice t l c) (n : Nat) (hl : a.eval l = .int .i64 n) (hc : a.eval c = .int .i64 n) (hn : n ≤ 1000000000)
    (h : ∀ w', w'.ownsRow w.heap.size e 8 (.slice (some ⟨w.heap.size, 0, none⟩) n n) n (flt encV (List.replicate n V.zero)) → Below w.heap.size w w' → wpList P ops Q rest (a.put o.dst (.slice (some ⟨w.heap.size, 0, none⟩) n n)) w') : wpList P ops Q (o :: rest) a w := by
  obtain ⟨i, z, hi, hz0, hs, hby, hzs⟩ := ty.inf
  have hzz : i.zero = some (.agg (vec 8 nul)) := by rw [hi] at hz; simpa using hz
  refine wpList_plain hgd fun K hK' => ?_
  have h1 : i.bytes * n ≤ 281474976710656 := by have := Nat.mul_le_mul hby hn; omega
  obtain ⟨w', hrun, r1, r2⟩ := run_make_full (P := P) w w.heap.size t e i _ 8 ty.sl hi hzz hs .i64 .i64 n h1 (by simp only [maxLen]; omega) (Nat.le_refl _)
  rw [made_zeros] at r1
  unfold Oper.wp
  simp [execOp, hop, hl, hc, hrun, Result.andThen]
  exact hK' _ _ (h w' r1 ((Below.refl _ _).grown r2 (Nat.le_refl _) fun k hk => by cases hk))
/-! 'copy' over a list that the call owns. -/
theorem run_copyL {K : Nat} (w : World) (dT sT ty elem : TypeId) (g dCap n : Nat) (ad : Addr) (sCap : Nat) (cur : Array Value) (t : TypeId) (cs : List Value)
    (hu : P.underlying dT = some (.slice elem)) (hs : (P.info? elem).map (·.size) = some K) (hg : w.heap[g]? = some (.cells cur t (0, 0))) (hn : cs.length = n * K)
    (hsrc : ∀ j v, cs[j]? = some v → w.cell? (ad.add j) = some v) (hfit : cs.length ≤ cur.size) (h1 : ∀ v ∈ cs, v.oneCell' = true) :
    (Builtin.copy_ #[dT, sT] ty #[.slice (some ⟨g, 0, none⟩) n dCap, .slice (some ad) n sCap]).run P w = .ok (goInt n) (w.setRow g (cs ++ cur.toList.drop cs.length).toArray) := by
  have hl := run_loadCells_list (P := P) w ad cs hsrc
  have hst := run_storeCells_at P g 0 t cs 0 cur w hg (by simpa using hfit) h1
  cases hq : P.info? elem with
  | none => simp [hq] at hs
  | some i =>
    have hi : i.size = K := by simpa [hq] using hs
    rw [hn] at hl
    simp at hst
    simp [Builtin.copy_, run_underlying hu, Builtin.lenOf, Builtin.firstCells, sizeOf, typeInfo, hq, hi, hl, hst, hn]
theorem copyL (ty : TyL P t e 8) (hgd : o.guard = none) {d s : Operand} {sT : TypeId} (hop : o.op = .call { callee := .builtin .copy, args := #[d, s], argTypes := #[t, sT] })
    {g cap n g2 o2 c : Nat} {xs ys : List V} (hs : a.eval d = .slice (some ⟨g, 0, none⟩) n cap) (hx : a.eval s = .slice (some ⟨g2, o2, none⟩) n c) (hy : ys.length = n)
    (hown : w.ownsRow B e 8 (.slice (some ⟨g, 0, none⟩) n cap) n (flt encV xs)) (hr : w.rangeAt g2 o2 (flt encV ys))
    (h : ∀ w', w'.ownsRow B e 8 (.slice (some ⟨g, 0, none⟩) n cap) n (flt encV ys) → w.grownBy w' (some g) → wpList P ops Q rest (a.put o.dst (.int .i64 n)) w') : wpList P ops Q (o :: rest) a w := by
  obtain ⟨i, z, hi, hz0, hsz, hby, hzs⟩ := ty.inf
  rcases hown.2 with ⟨h0, _⟩ | ⟨g', cap', cur, e', hB, hg, hnc, hcm, hcs, htk⟩
  · cases h0
  · simp only [Value.slice.injEq, Option.some.injEq, Addr.mk.injEq, and_true, true_and] at e'
    obtain ⟨rfl, rfl⟩ := e'
    have hlen : (flt encV ys).length = n * 8 := by rw [flt_length encV_ok, hy]
    have hnc' : n * 8 ≤ cap * 8 := Nat.mul_le_mul_right 8 hnc
    have hrun := run_copyL (P := P) (K := 8) w t sT o.type e g cap n ⟨g2, o2, none⟩ c cur e (flt encV ys) ty.sl (by rw [hi]; simp [hsz]) hg hlen (fun j v hv => by rw [Addr.add_mid]; exact hr j v hv) (by rw [hlen, hcs]; exact hnc') (flt_oneCell encV_ok ys)
    refine wpList_plain hgd fun k hK => ?_
    unfold Oper.wp execOp
    simp only [hop, resolve, invoke, builtin, Sem.run_bind, Sem.run_pure, Result.andThen_ok, List.map_toArray, List.map_cons, List.map_nil, hs, hx, hrun]
    refine hK _ _ (h _ ⟨hlen, .inr ⟨g, cap, _, rfl, hB, setRow_heap w g cur _ e _ hg, hnc, hcm, ?_, ?_⟩⟩ ⟨rfl, rfl, rfl, by simp [World.setRow], fun k hk hne => setRow_other w g k _ (fun e => hne (by rw [e]))⟩)
    · simp only [List.size_toArray, List.length_append, List.length_drop, Array.length_toList, hlen, hcs]; omega
    · rw [List.take_left' hlen]
end
theorem zero_exact : (Try.prog.info? 92).map (·.zero) = some (some (.agg (vec 8 nul))) := by kernel_rfl

/-! A row turned point by point. -/
def tuL (f : Nat → V) (xs : List V) (m : Nat) : List V := (List.range xs.length).map fun k => if k < m then f k else at' xs k
theorem tuL_len (f : Nat → V) (xs : List V) (m : Nat) : (tuL f xs m).length = xs.length := by simp [tuL]
theorem tuL_none (f : Nat → V) (xs : List V) : tuL f xs 0 = xs := list_same (tuL_len f xs 0) fun i hi => by
  rw [tuL_len] at hi
  unfold tuL
  rw [at_map _ hi, if_neg (by omega)]
theorem tuL_here (f : Nat → V) {xs : List V} {m : Nat} (h : m < xs.length) : (tuL f xs m)[m]? = some (at' xs m) := by
  rw [at_get (by rw [tuL_len]; exact h)]
  unfold tuL
  rw [at_map _ h, if_neg (by omega)]
theorem tuL_set (f : Nat → V) {xs : List V} {m : Nat} (h : m < xs.length) : (tuL f xs m).set m (f m) = tuL f xs (m + 1) := by
  refine list_same (by rw [List.length_set, tuL_len, tuL_len]) fun i hi => ?_
  rw [List.length_set, tuL_len] at hi
  unfold at'
  rw [List.getElem?_set]
  unfold tuL
  by_cases e : m = i
  · subst e
    simp [h]
  · rw [if_neg e]
    simp only [List.getElem?_map, List.getElem?_range hi, Option.map_some, Option.getD_some]
    by_cases h2 : i < m
    · rw [if_pos h2, if_pos (by omega)]
    · rw [if_neg h2, if_neg (by omega)]
theorem tuL_all (f : Nat → V) (xs : List V) {k : Nat} (h : k < xs.length) : at' (tuL f xs xs.length) k = f k := by
  unfold tuL
  rw [at_map _ h, if_pos h]
theorem own_blocks {w w' : World} {B T n cap g row : Nat} {cs : List Value} {K : Nat} (h : w.ownsRow B T K (.slice (some ⟨g, 0, none⟩) n cap) n cs) (hg : w.grownBy w' (some row)) (hne : g ≠ row) : w'.ownsRow B T K (.slice (some ⟨g, 0, none⟩) n cap) n cs :=
  World.ownsRow.kept h hg (.inr (by simpa [Value.ownBlock] using hne))
theorem own_setCells {w : World} {B T n cap g row : Nat} {cs : List Value} {K : Nat} (h : w.ownsRow B T K (.slice (some ⟨g, 0, none⟩) n cap) n cs) (hne : g ≠ row) (o : Nat) (vs : List Value) : (w.setCells row o vs).ownsRow B T K (.slice (some ⟨g, 0, none⟩) n cap) n cs := by
  refine ⟨h.1, ?_⟩
  rcases h.2 with h0 | ⟨g', cap', cur, e, hB, hg, rest⟩
  · exact .inl h0
  · simp only [Value.slice.injEq, Option.some.injEq, Addr.mk.injEq, and_true, true_and] at e
    obtain ⟨rfl, rfl⟩ := e
    exact .inr ⟨g, cap, cur, rfl, hB, (heap_setCells_other row vs o w g hne).trans hg, rest⟩
theorem own_next {w : World} {B T g cap : Nat} {l : List V} {s : V} (h : OwnL encV 8 w B T (.slice (some ⟨g, 0, none⟩) (l ++ [s]).length cap) (l ++ [s])) : w.ownsRow B T 8 (.slice (some ⟨g, 0, none⟩) (l.length + 1) cap) (l.length + 1) (flt encV (l ++ [s])) := by
  have e : (l ++ [s]).length = l.length + 1 := by simp
  unfold OwnL at h
  rw [e] at h
  exact h
/-- The sum that the transform has at j. -/
def trSum (p : Nat) (xs : List V) (j : Nat) : Option V := sumN (fun k => tV (p * (j * k)) (at' xs k)) xs.length
theorem okAll_at {xs : List V} (h : xs.all okv = true) {k : Nat} (hk : k < xs.length) : okv (at' xs k) = true := by
  rw [List.all_eq_true] at h
  exact h _ (List.mem_of_getElem? (at_get hk))

set_option maxHeartbeats 4000000 in
theorem transformed_any (g0 o0 cap0 : Nat) (xs : List V) (p : Nat) (w : World) (hg0 : g0 < w.heap.size) (hr0 : w.rangeAt g0 o0 (flt encV xs)) (hc0 : xs.length ≤ cap0) (hc1 : cap0 ≤ maxLen) (hp : p ≤ 23) (hok : xs.all okv = true) (hn : xs.length ≤ 24) :
    Calls Try.prog 126 #[.slice (some ⟨g0, o0, none⟩) xs.length cap0, .int .i64 p] w (ToldL 92 w (coll (trSum p xs) xs.length)) := by
  simp only [maxLen] at hc1
  have HR0 := Lib.hid hr0
  have HOK := Lib.hid hok
  clear hr0 hok
  generalize hres : coll (trSum p xs) xs.length = res
  have HRES := Lib.hid hres
  clear hres
  go_enter Try.func126, Try.ntmps126
  go_wp2_with (first | (refine makeL (en := encV) tyE rfl rfl xs.length rfl rfl (by omega) (Below.refl _ w) (Nat.le_refl _) ?_; intro w1 ho1 hb1 hB1) | (refine make_fullL tyE zero_exact rfl rfl xs.length rfl rfl (by omega) ?_; intro w2 ho2 hb2))
  have hbT : w.heap.size < w1.heap.size := (ho1.lt w.heap.size rfl).2
  have ho1' := rows_below ho1 hb2
  have hb12 := hb1.trans (hb2.mono (by omega))
  generalize hb : w.heap.size = b at *
  generalize hT : w1.heap.size = bT at *
  clear ho1 hb1 hb2 hB1
  go_loopw [6, 8, 9, 10, 11, 12, 21] (fun s6 _ _ _ _ _ i wr => ∃ (k : Nat) (l T : List V), k ≤ xs.length ∧ i = .int .i64 k ∧ s6 = .slice (some ⟨b, 0, none⟩) k xs.length ∧ coll (trSum p xs) k = some l ∧ wr.ownsRow b 92 8 (.slice (some ⟨b, 0, none⟩) k xs.length) k (flt encV l) ∧
    wr.ownsRow bT 92 8 (.slice (some ⟨bT, 0, none⟩) xs.length xs.length) xs.length (flt encV T) ∧ Below b w wr) (fun _ _ _ _ _ _ i _ => xs.length - (intOf i).toNat)
  case atStart => exact ⟨0, [], _, Nat.zero_le _, rfl, rfl, rfl, ho1', ho2, hb12⟩
  case round =>
    clear ho1' ho2 hb12
    obtain ⟨k, l, T, hk, rfl, rfl, hl, hO, hOT, hbel⟩ := hrel
    have HL := Lib.hid hl
    have HO := Lib.hid hO
    have HOT := Lib.hid hOT
    have HB := Lib.hid hbel
    clear hl hO hOT hbel
    by_cases hlt : k < xs.length
    · have hkz : (k : Int) < (xs.length : Int) := by omega
      have hk0 : (0 : Int) ≤ (k : Int) := by omega
      go_upto_region 7 with (refine copyL tyE rfl rfl rfl rfl rfl HOT.out (cells_below HR0.out hg0 HB.out) ?_; intro w3 ho3 hg3)
      have HO3 := Lib.hid (own_blocks HO.out hg3 (by omega))
      have HOT3 := Lib.hid ho3
      have HB3 : Aside (Below b w w3) := (show Below b w w3 from HB.out.grown hg3 (by have := HB.out.size; omega) fun k hk => by simp at hk; omega)
      clear ho3 hg3 HO HOT HB
      go_wp2
      go_loopw [9, 10, 29] (fun _ _ i wr => ∃ m : Nat, m ≤ xs.length ∧ i = .int .i64 m ∧ wr.ownsRow b 92 8 (.slice (some ⟨b, 0, none⟩) k xs.length) k (flt encV l) ∧
        wr.ownsRow bT 92 8 (.slice (some ⟨bT, 0, none⟩) xs.length xs.length) xs.length (flt encV (tuL (fun i => tV (p * (k * i)) (at' xs i)) xs m)) ∧ Below b w wr) (fun _ _ i _ => xs.length - (intOf i).toNat)
      case atStart => exact ⟨0, Nat.zero_le _, rfl, HO3.out, by rw [tuL_none]; exact HOT3.out, HB3.out⟩
      case round =>
        clear HO3 HOT3 HB3
        obtain ⟨m, hm, rfl, hO, hOT, hbel⟩ := hrel
        have HO := Lib.hid hO
        have HOT := Lib.hid hOT
        have HB := Lib.hid hbel
        clear hO hOT hbel
        by_cases hltm : m < xs.length
        · have hmz : (m : Int) < (xs.length : Int) := by omega
          have hm0 : (0 : Int) ≤ (m : Int) := by omega
          have hbz : bT < wr.heap.size := (HOT.out.lt bT rfl).2
          have hpart := ownL_parts (en := encV) (xs := tuL (fun i => tV (p * (k * i)) (at' xs i)) xs m) HOT.out (tuL_len _ _ _)
          have hE := cells_part encV_ok hpart.2.1 (tuL_here (fun i => tV (p * (k * i)) (at' xs i)) hltm)
          rw [Nat.zero_add] at hE
          have HE := Lib.hid hE
          clear hpart hE
          have hcv := okAll_at HOK.out hltm
          have hkm : k * m ≤ 24 * 24 := Nat.mul_le_mul (by omega) (by omega)
          have hjm : (k : Int) * (m : Int) = ((k * m : Nat) : Int) := by simp
          have TT := fun w => turnTimes_any p ((k * m : Nat) : Int) hp (by omega) w
          have hpt : tm p ((k * m : Nat) : Int) = p * (k * m) % 24 := by
            unfold tm
            rw [← Int.natCast_mul]; omega
          rw [hpt] at TT
          have hwr : IntKind.i64.wrap ((k : Int) * (m : Int)) = ((k * m : Nat) : Int) := by rw [hjm, IntKind.wrap_i64]; omega
          have TU := fun w => turnedV (at' xs m) (p * (k * m) % 24) (by omega) hcv w
          rw [tV_mod] at TU
          have HSET : Aside ((tuL (fun i => tV (p * (k * i)) (at' xs i)) xs m).set m (tV (p * (k * m)) (at' xs m)) = tuL (fun i => tV (p * (k * i)) (at' xs i)) xs (m + 1)) := (show _ = _ from tuL_set (fun i => tV (p * (k * i)) (at' xs i)) hltm)
          have HHERE := Lib.hid (tuL_here (fun i => tV (p * (k * i)) (at' xs i)) hltm)
          generalize (p * (k * m) % 24 : Nat) = tt at *
          generalize ((k * m : Nat) : Int) = jm at *
          generalize tV (p * (k * m)) (at' xs m) = c' at *
          generalize tuL (fun i => tV (p * (k * i)) (at' xs i)) xs m = Lm at *
          generalize hLn : tuL (fun i => tV (p * (k * i)) (at' xs i)) xs (m + 1) = Ln at *
          have HLN := Lib.hid hLn
          clear hLn
          generalize at' xs m = c at *
          clear hpt hkm hjm hcv
          have HOa := Lib.hid (World.ownsRow.alloc HO.out (.cells (vec 8 c.up) 92))
          have HOTa := Lib.hid (World.ownsRow.alloc HOT.out (.cells (vec 8 c.up) 92))
          have HBa := Lib.hid (HB.out.alloc (by have := HB.out.size; omega) (.cells (vec 8 c.up) 92))
          have HX := Lib.hid (RowAt.new wr 8 92 c.up)
          go_upto_region 10 with (first | (refine load_part (T := 92) (f := c.up) rfl rfl rfl HE.out Try.underlying92 rfl info_exact ?_; clear HE) | (refine store_new (ty := 92) rfl rfl rfl rfl zero8 info_exact ?_))
          show Code.wp _ _ _ _ (wr.alloc (.cells (vec 8 c.up) 92))
          generalize wr.alloc (.cells (vec 8 c.up) 92) = W at *
          generalize wr.heap.size = gx at *
          clear HO HOT HB
          refine wp_region_held_drew (S := fun w' => RowAt w' gx 8 92 c.up) (by kernel_rfl) HX.out.drew1 (fun hHeld => ?_)
          refine wpAnyH_take (i := 0) (oi := _) (v := .slice (some ⟨bT, 0, none⟩) xs.length xs.length) rfl (by kernel_rfl) (by kernel_rfl) (by kernel_rfl) (fun _ _ _ h => h) (Or.inl ⟨by rfl, fun w h => by go_simp⟩) hHeld ?_
          try simp only [Act.put, List.setIfInBounds_toArray, List.set_cons_zero, List.set_cons_succ, List.getElem_toArray, List.getElem_cons_succ, List.getElem_cons_zero]
          refine wpAnyH_take (i := 1) (oi := _) (v := .int .i64 m) rfl (by kernel_rfl) (by kernel_rfl) (by kernel_rfl) (fun _ _ _ h => h) (Or.inl ⟨by rfl, fun w h => by go_simp⟩) hHeld ?_
          try simp only [Act.put, List.setIfInBounds_toArray, List.set_cons_zero, List.set_cons_succ, List.getElem_toArray, List.getElem_cons_succ, List.getElem_cons_zero]
          refine wpAnyH_take (i := 2) (oi := _) (v := .agg (vec 8 c.up)) rfl (by kernel_rfl) (by kernel_rfl) (by kernel_rfl) (fun _ _ _ h => h) (yieldsIf_load_mid (by rfl) _ _ rfl _ _ rfl _ _ ((fun w h => h.range)) Try.underlying92 rfl (size_exact c.up)) hHeld ?_
          try simp only [Act.put, List.setIfInBounds_toArray, List.set_cons_zero, List.set_cons_succ, List.getElem_toArray, List.getElem_cons_succ, List.getElem_cons_zero]
          refine wpAnyH_take (i := 3) (oi := _) (v := .iface 92 (.agg (vec 8 c.up))) rfl (by kernel_rfl) (by kernel_rfl) (by kernel_rfl) (fun _ _ _ h => h) (Or.inl ⟨by rfl, fun w h => by go_simp⟩) hHeld ?_
          try simp only [Act.put, List.setIfInBounds_toArray, List.set_cons_zero, List.set_cons_succ, List.getElem_toArray, List.getElem_cons_succ, List.getElem_cons_zero]
          refine wpAnyH_take (i := 4) (oi := _) (v := .int .i64 p) rfl (by kernel_rfl) (by kernel_rfl) (by kernel_rfl) (fun _ _ _ h => h) (Or.inl ⟨by rfl, fun w h => by go_simp⟩) hHeld ?_
          try simp only [Act.put, List.setIfInBounds_toArray, List.set_cons_zero, List.set_cons_succ, List.getElem_toArray, List.getElem_cons_succ, List.getElem_cons_zero]
          refine wpAnyH_take (i := 5) (oi := _) (v := .int .i64 k) rfl (by kernel_rfl) (by kernel_rfl) (by kernel_rfl) (fun _ _ _ h => h) (Or.inl ⟨by rfl, fun w h => by go_simp⟩) hHeld ?_
          try simp only [Act.put, List.setIfInBounds_toArray, List.set_cons_zero, List.set_cons_succ, List.getElem_toArray, List.getElem_cons_succ, List.getElem_cons_zero]
          refine wpAnyH_take (i := 6) (oi := _) (v := .int .i64 m) rfl (by kernel_rfl) (by kernel_rfl) (by kernel_rfl) (fun _ _ _ h => h) (Or.inl ⟨by rfl, fun w h => by go_simp⟩) hHeld ?_
          try simp only [Act.put, List.setIfInBounds_toArray, List.set_cons_zero, List.set_cons_succ, List.getElem_toArray, List.getElem_cons_succ, List.getElem_cons_zero]
          refine wpAnyH_take (i := 7) (oi := _) (v := .int .i64 jm) rfl (by kernel_rfl) (by kernel_rfl) (by kernel_rfl) (fun _ _ _ h => h) (Or.inl ⟨by rfl, fun w h => by go_simp⟩) hHeld ?_
          try simp only [Act.put, List.setIfInBounds_toArray, List.set_cons_zero, List.set_cons_succ, List.getElem_toArray, List.getElem_cons_succ, List.getElem_cons_zero]
          refine wpAnyH_ready (rs := [8]) (by kernel_rfl) (by simp) ?_
          refine AllReadyH.cons (o := _) rfl (fun K hK => ?_) AllReadyH.nil
          go_simp
          refine (TT _).mono ?_; rintro e w5 ⟨rfl, rfl⟩
          go_wp2_with fail
          refine hK.out _ _ hHeld (fun hHeld => ?_)
          clear hK K
          try simp only [Act.put, List.setIfInBounds_toArray, List.set_cons_zero, List.set_cons_succ, List.getElem_toArray, List.getElem_cons_succ, List.getElem_cons_zero]
          clear TT
          refine wpAnyH_ready (rs := [9]) (by kernel_rfl) (by simp) ?_
          refine AllReadyH.cons (o := _) rfl (fun K hK => ?_) AllReadyH.nil
          go_simp
          go_invoke
          go_simp
          refine (TU _).mono ?_; rintro e w6 ⟨rfl, hb6⟩
          go_wp2_with fail
          have hO6 := rows_below (World.ownsRow.drew HOa.out) hb6
          have hOT6 := rows_below (World.ownsRow.drew HOTa.out) hb6
          have hB6 : Below b w w6 := HBa.out.drew.trans (hb6.mono (by have := HBa.out.drew.size; omega))
          refine hK.out _ _ (hHeld.below hb6) (fun hHeld => ?_)
          clear hK K
          try simp only [Act.put, List.setIfInBounds_toArray, List.set_cons_zero, List.set_cons_succ, List.getElem_toArray, List.getElem_cons_succ, List.getElem_cons_zero]
          clear hb6 TU HOa HOTa HBa
          refine wpAnyH_take (i := 10) (oi := _) (v := .pointer (some ⟨bT, m * 8, none⟩)) rfl (by kernel_rfl) (by kernel_rfl) (by kernel_rfl) (fun _ _ _ h => h) (Or.inl ⟨by rfl, fun w h => by go_simp⟩) hHeld ?_
          try simp only [Act.put, List.setIfInBounds_toArray, List.set_cons_zero, List.set_cons_succ, List.getElem_toArray, List.getElem_cons_succ, List.getElem_cons_zero]
          refine wpAnyH_ready (rs := [11]) (by kernel_rfl) (by simp) ?_
          refine AllReadyH.cons (o := _) rfl (fun K hK => ?_) AllReadyH.nil
          rw [if_pos (by rfl)]
          have ht := rows_there (K := 8) (o := 0) (m := 8) hOT6 hltm (Nat.le_refl _)
          refine wp_store_mid 92 _ _ rfl bT (m * 8) (vec 8 c'.up) rfl rfl (by rw [vec_size]; exact ht) (by rw [vec_size]; exact info_exact) (vec_one 8 _) ?_
          have hOn := own_setCells hO6 (row := bT) (by omega) (m * 8) (vec 8 c'.up).toList
          have hOTn : (w6.setCells bT (m * 8) (vec 8 c'.up).toList).ownsRow bT 92 8 (.slice (some ⟨bT, 0, none⟩) xs.length xs.length) xs.length (flt encV Ln) := by
            rw [← HSET.out]; exact ownL_set encV_ok c' hOT6 HHERE.out
          have hBn := below_setCells (G := bT) (by omega : b ≤ bT) (vec 8 c'.up).toList (m * 8) _ hB6
          refine hK.out _ _ (hHeld.cellsOther _ _ _ (by omega)) (fun hHeld => ?_)
          clear hK K
          try simp only [Act.put, List.setIfInBounds_toArray, List.set_cons_zero, List.set_cons_succ, List.getElem_toArray, List.getElem_cons_succ, List.getElem_cons_zero]
          clear ht hO6 hOT6 hB6 hHeld
          have HOn := Lib.hid hOn
          have HOTn := Lib.hid hOTn
          have HBn := Lib.hid hBn
          clear hOn hOTn hBn
          refine wpAnyH_done (by kernel_rfl) ?_ _
          go_wp2
          go_roundw
          case rel => exact ⟨m + 1, by omega, by go_num, HOn.out, by rw [HLN.out]; exact HOTn.out, HBn.out⟩
          case measure => simp [intOf]; omega
        · obtain rfl : m = xs.length := by omega
          obtain ⟨hbz, hrng, -, hml⟩ := ownL_parts (en := encV) (xs := tuL (fun i => tV (p * (k * i)) (at' xs i)) xs xs.length) HOT.out (tuL_len _ _ _)
          have hLk := coll_len HL.out
          have SM := sumOf_any (.slice (some ⟨bT, 0, none⟩) xs.length xs.length) (tuL (fun i => tV (p * (k * i)) (at' xs i)) xs xs.length) wr
            ⟨_, xs.length, by rw [tuL_len], by rw [tuL_len]; exact Nat.le_refl _, hml, (fun h => by cases h), fun _ => ⟨bT, 0, rfl, hbz, hrng⟩⟩ (by rw [tuL_len]; omega) (fun x hx => by
              obtain ⟨i, hi⟩ := List.getElem?_of_mem hx
              have hl := (List.getElem?_eq_some_iff.1 hi).1
              rw [tuL_len] at hl
              rw [← at_some hi, tuL_all _ _ hl, ← tV_mod]
              exact big_tV (okAll_at HOK.out hl) (by omega))
          have eS : sumN (at' (tuL (fun i => tV (p * (k * i)) (at' xs i)) xs xs.length)) (tuL (fun i => tV (p * (k * i)) (at' xs i)) xs xs.length).length = trSum p xs k := by
            rw [tuL_len]; exact sumN_same fun i hi => tuL_all _ _ hi
          rw [eS] at SM
          clear hrng eS
          have HSTEP := Lib.hid (coll_step HL.out)
          generalize tuL (fun i => tV (p * (k * i)) (at' xs i)) xs xs.length = Lm at *
          cases hs : trSum p xs k
          · rw [hs, pointO_none] at SM
            have HF : Aside (res = none) := (show res = none from by rw [← HRES.out]; exact coll_none hs hlt)
            clear hs HSTEP
            go_wp2_with fail
            refine SM.mono ?_; rintro e w4 ⟨rfl, hb4⟩
            have HB4 := Lib.hid (HB.out.trans (hb4.mono (by have := HB.out.size; omega)))
            clear hb4 SM
            go_wp2_with (refine store_new (ty := 92) rfl rfl rfl rfl zero8 info_exact ?_)
            go_ret2
            rw [HF.out]
            exact ⟨by rw [hb]; exact HB4.out.alloc (by have := HB4.out.size; omega) _, _, rfl, ownL_none _ _ _⟩
          · rename_i s
            rw [hs, pointO_some] at SM
            rw [hs] at HSTEP
            have HC2 : Aside (coll (trSum p xs) (k + 1) = some (l ++ [s])) := (show _ = _ from by rw [HSTEP.out]; rfl)
            clear hs HSTEP
            go_wp2_with fail
            refine SM.mono ?_; rintro e w4 ⟨rfl, hb4⟩
            have HO4 := Lib.hid (World.ownsRow.alloc (rows_below HO.out hb4) (.cells (vec 8 s.up) 92))
            have HOT4 := Lib.hid (World.ownsRow.alloc (rows_below HOT.out hb4) (.cells (vec 8 s.up) 92))
            have hB4 := HB.out.trans (hb4.mono (by have := HB.out.size; omega))
            have HB4 := Lib.hid (hB4.alloc (by have := hB4.size; omega) (.cells (vec 8 s.up) 92))
            have HX4 := Lib.hid (RowAt.new w4 8 92 s.up)
            clear hb4 SM hB4 HO HOT HB
            go_upto_region 13 with (refine store_new (ty := 92) (f' := s.up) rfl rfl rfl rfl zero8 info_exact ?_)
            show Code.wp _ _ _ _ (w4.alloc (.cells (vec 8 s.up) 92))
            generalize w4.alloc (.cells (vec 8 s.up) 92) = W4 at *
            generalize w4.heap.size = g4 at *
            subst hLk
            go_wp2_with (first | (refine load_row (ty := 92) (g := g4) rfl rfl rfl HX4.out Try.underlying92 rfl info_exact ?_; clear HX4) | (refine one8 tyE rfl rfl rfl ?_) |
              (refine append_fitL tyE encV_ok rfl rfl (xs := l) (ys := [s]) rfl rfl (World.ownsRow.alloc HO4.out _) (litL_range (en := encV) _ s _) (by simp; omega) ?_; intro w5 ho5 hg5))
            have HO5 := Lib.hid ho5
            have HOT5 := Lib.hid (own_blocks (World.ownsRow.alloc HOT4.out _) hg5 (by omega))
            have HB5 : Aside (Below b w w5) := (show Below b w w5 from (HB4.out.alloc (by have := HB4.out.size; omega) _).grown hg5 (by have := HB4.out.size; simp; omega) fun k hk => by simp at hk; omega)
            clear ho5 hg5 HO4 HOT4 HB4
            go_roundw
            case rel => exact ⟨l.length + 1, l ++ [s], Lm, by omega, by go_num, rfl, HC2.out, own_next HO5.out, HOT5.out, HB5.out⟩
            case measure => simp [intOf]; omega
    · obtain rfl : k = xs.length := by omega
      have HF : Aside (res = some l) := (show res = some l from by rw [← HRES.out]; exact HL.out)
      have hLk := coll_len HL.out
      go_wp2
      go_ret2
      rw [HF.out]
      exact ⟨by rw [hb]; exact HB.out, _, rfl, by
        show World.ownsRow _ _ _ _ _ l.length _
        rw [hLk, hb]; exact HO.out⟩
end Go.Proofs.Ytdgbpdeimckbfaa
/- The exact laws' helpers on lists of exact points: measured, copied. -/
namespace Go.Proofs.Ytdgbpdeimckbfaa
set_option maxRecDepth 20000
open Go.ChangeShapes Go.WideShapes Go.ChangeAt Go.RowKit
set_option linter.unusedVariables false
set_option linter.unusedSimpArgs false

theorem szCycs_yes (v : Value) (ws : List V) (left : Int) (w : World) (hv : LiesL encV w v ws) (hl : left ≤ 1048576) (h : (ws.length : Int) ≤ left) :
    Calls Try.prog 56 #[v, .int .i64 left] w fun e w' => e = .returned (.int .i64 (left - (ws.length : Int))) ∧ w = w' := by
  obtain ⟨p, cap, rfl, hc1, hc2, -⟩ := hv
  have r1 : IntKind.i64.wrap (left - (ws.length : Int)) = left - (ws.length : Int) := by rw [IntKind.wrap_i64]; omega
  have hb : ¬ left - (ws.length : Int) < 0 := by omega
  go_enter Try.func56, Try.ntmps56
  go_wp2
  go_ret
  exact ⟨rfl, rfl⟩
theorem szCycs_no (v : Value) (ws : List V) (left : Int) (w : World) (hv : LiesL encV w v ws) (h0 : 0 ≤ left) (hl : left ≤ 1048576) (h : left < (ws.length : Int)) :
    Calls Try.prog 56 #[v, .int .i64 left] w fun e w' => e = .returned (.int .i64 (-1)) ∧ w = w' := by
  obtain ⟨p, cap, rfl, hc1, hc2, -⟩ := hv
  simp only [maxLen] at hc2
  have r1 : IntKind.i64.wrap (left - (ws.length : Int)) = left - (ws.length : Int) := by rw [IntKind.wrap_i64]; omega
  have hb : left - (ws.length : Int) < 0 := by omega
  go_enter Try.func56, Try.ntmps56
  go_wp2
  go_ret
  exact ⟨rfl, rfl⟩

theorem info_lawCyc8 : (Try.prog.info? 128).map (·.size) = some 8 := by kernel_rfl
theorem zero_cyc : (Try.prog.info? 36).map (·.zero) = some (some (.agg (vec 8 nul))) := by kernel_rfl
theorem size_cycL (c : V) : (Try.prog.info? 36).map (·.size) = some (encV c).length := by rw [encV_ok.len]; exact info_cyc
theorem own_belowL {w w' : World} {B T g n cap : Nat} {xs : List Value} (h : w.ownsRow B T 8 (.slice (some ⟨g, 0, none⟩) n cap) n xs) (hb : Below w.heap.size w w') : w'.ownsRow B T 8 (.slice (some ⟨g, 0, none⟩) n cap) n xs := by
  refine ⟨h.1, ?_⟩
  rcases h.2 with h0 | ⟨g', cap', cur, e, hB, hg, rest⟩
  · exact .inl h0
  · exact .inr ⟨g', cap', cur, e, hB, (hb.block g' (Array.getElem?_eq_some_iff.1 hg).1).trans hg, rest⟩

set_option maxHeartbeats 2000000 in
theorem toCycs_any (v : Value) (ws : List V) (w : World) (hv : LiesL encV w v ws) (hn : ws.length ≤ 1048576) :
    Calls Try.prog 57 #[v] w fun e w' => Below w.heap.size w w' ∧ ∃ v', e = .returned v' ∧ OwnL encV 8 w' w.heap.size 36 v' ws := by
  obtain ⟨p, cap, rfl, hc1, hc2, hp⟩ := hv
  simp only [maxLen] at hc2
  have HP := Lib.hid hp
  clear hp
  go_enter Try.func57, Try.ntmps57
  go_wp2_with (refine make_fullL tyY zero_cyc rfl rfl ws.length rfl rfl (by omega) ?_; intro w1 ho1 hb1)
  rw [← halfL_none] at ho1
  go_loopw [4] (fun i wr => ∃ k : Nat, k ≤ ws.length ∧ i = .int .i64 k ∧ wr.ownsRow w.heap.size 36 8 (.slice (some ⟨w.heap.size, 0, none⟩) ws.length ws.length) ws.length (flt encV (halfL V.zero ws k)) ∧ Below w.heap.size w wr) (fun i _ => ws.length - (intOf i).toNat)
  case atStart => exact ⟨0, Nat.zero_le _, rfl, ho1, hb1⟩
  case round =>
    clear ho1 hb1
    obtain ⟨k, hk, rfl, hO, hbel⟩ := hrel
    by_cases hlt : k < ws.length
    · have hkz : (k : Int) < (ws.length : Int) := by omega
      have hk0 : (0 : Int) ≤ (k : Int) := by omega
      obtain ⟨c, hc⟩ : ∃ c, ws[k]? = some c := ⟨_, List.getElem?_eq_getElem hlt⟩
      obtain ⟨g, o, rfl, hg, hr⟩ := HP.out (by intro e; rw [e] at hlt; simp at hlt)
      have HR : Aside (wr.rangeAt g (o + k * 8) (encV c)) := (show World.rangeAt _ _ _ _ from cells_part encV_ok (cells_below hr hg hbel) hc)
      have HC := Lib.hid hc
      have HO := Lib.hid hO
      have HL := Lib.hid hbel
      have T := fun w => toCyc_any c.up w
      clear hr hc hO hbel
      go_wp2_with (refine load_part (T := 128) (g := g) (f := c.up) rfl rfl rfl HR.out Try.underlying128 rfl info_lawCyc8 ?_)
      refine (T _).mono ?_; rintro e w2 ⟨rfl, hb2⟩
      have hzz : w.heap.size ≤ wr.heap.size := HL.out.size
      have hO2 := own_belowL HO.out hb2
      have HT : Aside (w2.there w.heap.size (k * 8) 8) := (show w2.there _ _ _ from rows_there (o := 0) hO2 hlt (by omega))
      have HO3 : Aside ((w2.setCells w.heap.size (k * 8) (lst 8 c.up)).ownsRow w.heap.size 36 8 (.slice (some ⟨w.heap.size, 0, none⟩) ws.length ws.length) ws.length (flt encV (halfL V.zero ws (k + 1)))) := (show World.ownsRow _ _ _ _ _ _ _ from by
        rw [← halfL_set HC.out]; exact ownL_set encV_ok c hO2 (halfL_at hlt))
      have HL3 : Aside (Below w.heap.size w (w2.setCells w.heap.size (k * 8) (lst 8 c.up))) := below_setCells (Nat.le_refl _) _ _ _ (below_next HL.out hb2)
      clear hO2 hb2 HO HL T HR
      go_wp2_with (first | (refine store_part (ty := 36) (g := w.heap.size) (p := k * 8) (f := c.up) rfl rfl rfl rfl HT.out info_cyc ?_; clear HT))
      go_roundw
      case rel => exact ⟨k + 1, by omega, by go_num, HO3.out, HL3.out⟩
      case measure => simp [intOf]; omega
    · obtain rfl : k = ws.length := by omega
      rw [halfL_all] at hO
      have HO := Lib.hid hO
      have HL := Lib.hid hbel
      clear hO hbel
      go_wp2
      go_ret
      exact ⟨HL.out, _, rfl, HO.out⟩

end Go.Proofs.Ytdgbpdeimckbfaa
/- The exact laws' helpers on lists of exact points: compared, marked, held. -/
namespace Go.Proofs.Ytdgbpdeimckbfaa
set_option maxRecDepth 20000
open Go.ChangeShapes Go.WideShapes Go.ChangeAt Go.RowKit
set_option linter.unusedVariables false
set_option linter.unusedSimpArgs false

set_option maxHeartbeats 2000000 in
theorem eqCycs_yes (va vb : Value) (L : List V) (w : World) (ha : ReadsL encV w va L) (hb : ReadsL encV w vb L) : Calls Try.prog 58 #[va, vb] w fun e w' => e = .returned (.bool true) ∧ Below w.heap.size w w' := by
  obtain ⟨p, cap, rfl, hc1, hc2, hp0, hp⟩ := ha
  obtain ⟨q, cap2, rfl, hd1, hd2, hq0, hq⟩ := hb
  simp only [maxLen] at hc2
  have hlb : ((L.length : Int) != (L.length : Int)) = false := by simp
  have HP := Lib.hid hp
  have HQ := Lib.hid hq
  clear hp hq
  go_enter Try.func58, Try.ntmps58
  go_wp2
  go_loopw [5] (fun i wr => ∃ k : Nat, k ≤ L.length ∧ i = .int .i64 k ∧ Below w.heap.size w wr) (fun i _ => L.length - (intOf i).toNat)
  case atStart => exact ⟨0, Nat.zero_le _, rfl, Below.refl _ _⟩
  case round =>
    obtain ⟨k, hk, rfl, hbel⟩ := hrel
    have HL := Lib.hid hbel
    clear hbel
    by_cases hlt : k < L.length
    · have hkz : (k : Int) < (L.length : Int) := by omega
      have hk0 : (0 : Int) ≤ (k : Int) := by omega
      obtain ⟨c, hc⟩ : ∃ c, L[k]? = some c := ⟨_, List.getElem?_eq_getElem hlt⟩
      obtain ⟨g, o, rfl, hg, hr⟩ := HP.out (by rintro rfl; have := hp0 rfl; omega)
      obtain ⟨g2, o2, rfl, hg2, hr2⟩ := HQ.out (by rintro rfl; have := hq0 rfl; omega)
      have HE : Aside (g < w.heap.size ∧ w.rangeAt g (o + k * 8) (encV c)) := (show _ ∧ _ from ⟨hg, cells_part encV_ok hr hc⟩)
      have HE2 : Aside (g2 < w.heap.size ∧ w.rangeAt g2 (o2 + k * 8) (encV c)) := (show _ ∧ _ from ⟨hg2, cells_part encV_ok hr2 hc⟩)
      have T := fun w => eqCyc_yes c.up w
      clear hr hr2 hc hg hg2
      go_upto_region 6 with fail
      refine wp_region_held_drew (S := fun w' => Below w.heap.size w w') (by kernel_rfl) HL.out.drew (fun hHeld => ?_)
      refine wpAnyH_take (i := 0) (oi := _) (v := .slice (some ⟨g, o, none⟩) L.length cap) rfl (by kernel_rfl) (by kernel_rfl) (by kernel_rfl) (fun _ _ _ h => h) (Or.inl ⟨by rfl, fun w h => by go_simp⟩) hHeld ?_
      try simp only [Act.put, List.setIfInBounds_toArray, List.set_cons_zero, List.set_cons_succ, List.getElem_toArray, List.getElem_cons_succ, List.getElem_cons_zero]
      refine wpAnyH_take (i := 1) (oi := _) (v := .int .i64 k) rfl (by kernel_rfl) (by kernel_rfl) (by kernel_rfl) (fun _ _ _ h => h) (Or.inl ⟨by rfl, fun w h => by go_simp⟩) hHeld ?_
      try simp only [Act.put, List.setIfInBounds_toArray, List.set_cons_zero, List.set_cons_succ, List.getElem_toArray, List.getElem_cons_succ, List.getElem_cons_zero]
      refine wpAnyH_take (i := 2) (oi := _) (v := .pointer (some ⟨g, o + k * 8, none⟩)) rfl (by kernel_rfl) (by kernel_rfl) (by kernel_rfl) (fun _ _ _ h => h) (Or.inl ⟨by rfl, fun w h => by go_simp⟩) hHeld ?_
      try simp only [Act.put, List.setIfInBounds_toArray, List.set_cons_zero, List.set_cons_succ, List.getElem_toArray, List.getElem_cons_succ, List.getElem_cons_zero]
      refine wpAnyH_take (i := 3) (oi := _) (v := .agg (vec 8 c.up)) rfl (by kernel_rfl) (by kernel_rfl) (by kernel_rfl) (fun _ _ _ h => h) (yieldsIf_load_mid (by rfl) _ _ rfl _ _ rfl _ _ ((fun w h => range_kept HE.out.2 HE.out.1 h)) Try.underlying36 rfl (size_cycL c)) hHeld ?_
      try simp only [Act.put, List.setIfInBounds_toArray, List.set_cons_zero, List.set_cons_succ, List.getElem_toArray, List.getElem_cons_succ, List.getElem_cons_zero]
      refine wpAnyH_take (i := 4) (oi := _) (v := .slice (some ⟨g2, o2, none⟩) L.length cap2) rfl (by kernel_rfl) (by kernel_rfl) (by kernel_rfl) (fun _ _ _ h => h) (Or.inl ⟨by rfl, fun w h => by go_simp⟩) hHeld ?_
      try simp only [Act.put, List.setIfInBounds_toArray, List.set_cons_zero, List.set_cons_succ, List.getElem_toArray, List.getElem_cons_succ, List.getElem_cons_zero]
      refine wpAnyH_take (i := 5) (oi := _) (v := .int .i64 k) rfl (by kernel_rfl) (by kernel_rfl) (by kernel_rfl) (fun _ _ _ h => h) (Or.inl ⟨by rfl, fun w h => by go_simp⟩) hHeld ?_
      try simp only [Act.put, List.setIfInBounds_toArray, List.set_cons_zero, List.set_cons_succ, List.getElem_toArray, List.getElem_cons_succ, List.getElem_cons_zero]
      refine wpAnyH_take (i := 6) (oi := _) (v := .pointer (some ⟨g2, o2 + k * 8, none⟩)) rfl (by kernel_rfl) (by kernel_rfl) (by kernel_rfl) (fun _ _ _ h => h) (Or.inl ⟨by rfl, fun w h => by go_simp⟩) hHeld ?_
      try simp only [Act.put, List.setIfInBounds_toArray, List.set_cons_zero, List.set_cons_succ, List.getElem_toArray, List.getElem_cons_succ, List.getElem_cons_zero]
      refine wpAnyH_take (i := 7) (oi := _) (v := .agg (vec 8 c.up)) rfl (by kernel_rfl) (by kernel_rfl) (by kernel_rfl) (fun _ _ _ h => h) (yieldsIf_load_mid (by rfl) _ _ rfl _ _ rfl _ _ ((fun w h => range_kept HE2.out.2 HE2.out.1 h)) Try.underlying36 rfl (size_cycL c)) hHeld ?_
      try simp only [Act.put, List.setIfInBounds_toArray, List.set_cons_zero, List.set_cons_succ, List.getElem_toArray, List.getElem_cons_succ, List.getElem_cons_zero]
      refine wpAnyH_ready (rs := [8]) (by kernel_rfl) (by simp) ?_
      refine AllReadyH.cons (o := _) rfl (fun K hK => ?_) AllReadyH.nil
      go_simp
      refine (T _).mono ?_; rintro e w5 ⟨rfl, hb5⟩
      go_wp2_with fail
      refine hK.out _ _ (below_next hHeld hb5) (fun hHeld => ?_)
      clear hK K
      try simp only [Act.put, List.setIfInBounds_toArray, List.set_cons_zero, List.set_cons_succ, List.getElem_toArray, List.getElem_cons_succ, List.getElem_cons_zero]
      clear hb5 T
      refine wpAnyH_take (i := 9) (oi := _) (v := .bool false) rfl (by kernel_rfl) (by kernel_rfl) (by kernel_rfl) (fun _ _ _ h => h) (Or.inl ⟨by rfl, fun w h => by go_simp⟩) hHeld ?_
      try simp only [Act.put, List.setIfInBounds_toArray, List.set_cons_zero, List.set_cons_succ, List.getElem_toArray, List.getElem_cons_succ, List.getElem_cons_zero]
      refine wpAnyH_done (by kernel_rfl) ?_ _
      have HL5 := Lib.hid hHeld
      clear hHeld
      go_wp2
      go_roundw
      case rel => exact ⟨k + 1, by omega, by go_num, HL5.out⟩
      case measure => simp [intOf]; omega
    · obtain rfl : k = L.length := by omega
      go_wp2
      go_ret
      exact ⟨rfl, HL.out⟩

/-! Marked and held. -/
set_option maxHeartbeats 2000000 in
theorem markC_own (k0 B g n cap : Nat) (hk0 : k0 ≤ 100000000) (ws : List V) (w : World) (hn : ws.length = n) (ho : w.ownsRow B 36 8 (.slice (some ⟨g, 0, none⟩) n cap) n (flt encV ws)) (hm : n ≤ 1048576) :
    Calls Try.prog 63 #[.slice (some ⟨g, 0, none⟩) n cap, .int .i64 k0] w fun e w' => e = .returned (.int .i64 ((k0 + n * 8 : Nat) : Int)) ∧ w'.ownsRow B 36 8 (.slice (some ⟨g, 0, none⟩) n cap) n (mkL k0 (n * 8)) ∧ w.grownBy w' (some g) := by
  have HF : Aside ((flt encV ws).length = n * 8) := (show _ = _ from by rw [flt_length encV_ok, hn])
  clear hn
  generalize flt encV ws = cs at *
  go_enter Try.func63, Try.ntmps63
  go_wp2_with fail
  go_loopw [1, 5, 6] (fun ks i _ wr => ∃ k : Nat, k ≤ n ∧ i = .int .i64 k ∧ ks = .int .i64 ((k0 + k * 8 : Nat) : Int) ∧ wr.ownsRow B 36 8 (.slice (some ⟨g, 0, none⟩) n cap) n (mkdL k0 cs (k * 8)) ∧ w.grownBy wr (some g)) (fun _ i _ _ => n - (intOf i).toNat)
  case atStart => exact ⟨0, Nat.zero_le _, rfl, rfl, by rw [Nat.zero_mul, mkdL_none]; exact ho, World.grownBy.refl _ _⟩
  case round =>
    clear ho
    obtain ⟨k, hk, rfl, rfl, hO, hg⟩ := hrel
    by_cases hlt : k < n
    · have hkz : (k : Int) < (n : Int) := by omega
      have hk0 : (0 : Int) ≤ (k : Int) := by omega
      have H1 := Lib.hid hO
      have H2 := Lib.hid hg
      clear hO hg
      go_wp2_with fail
      go_loopw [1, 6] (fun ks j wr => ∃ m : Nat, m ≤ 8 ∧ j = .int .i64 m ∧ ks = .int .i64 ((k0 + (k * 8 + m) : Nat) : Int) ∧ wr.ownsRow B 36 8 (.slice (some ⟨g, 0, none⟩) n cap) n (mkdL k0 cs (k * 8 + m)) ∧ w.grownBy wr (some g)) (fun _ j _ => 8 - (intOf j).toNat)
      case atStart => exact ⟨0, Nat.zero_le _, rfl, by go_num, H1.out, H2.out⟩
      case round =>
        clear H1 H2
        obtain ⟨m, hm8, rfl, rfl, hO, hg⟩ := hrel
        by_cases hlt8 : m < 8
        · have hmz : (m : Int) < 8 := by omega
          have hm0 : (0 : Int) ≤ (m : Int) := by omega
          have hpl : k * 8 + m < cs.length := by rw [HF.out]; omega
          have hold := mkdL_old (k0 := k0) (cs := cs) (p := k * 8 + m) hpl
          have hcell : wr.cell? ⟨g, k * 8 + m, none⟩ = some cs[k * 8 + m] := by rw [hO.cellAt (k * 8 + m) (by omega), hold]
          generalize cs[k * 8 + m] = old at *
          clear hold
          have hfr := hO.frozenAt (k * 8 + m)
          have q1 : IntKind.i64.wrap (((k0 + (k * 8 + m) : Nat) : Int) + 1) = ((k0 + (k * 8 + (m + 1)) : Nat) : Int) := by rw [IntKind.wrap_i64]; omega
          obtain ⟨h1, h2⟩ := hO.stored (k * 8 + m) (.int .i64 ((k0 + (k * 8 + m) : Nat) : Int))
          rw [mkdL_step hpl] at h1
          have H1 := Lib.hid h1
          have H2 := Lib.hid (grown_trans hg h2)
          clear h1 h2 hO hg hpl
          go_wp2_with fail
          go_roundw
          case rel => exact ⟨m + 1, by omega, by go_num, by go_num, H1.out, H2.out⟩
          case measure => simp [intOf]; omega
        · obtain rfl : m = 8 := by omega
          have H1 := Lib.hid hO
          have H2 := Lib.hid hg
          clear hO hg
          go_wp2_with fail
          go_roundw
          case rel => exact ⟨k + 1, by omega, by go_num, by go_num, by rw [show (k + 1) * 8 = k * 8 + 8 from by omega]; exact H1.out, H2.out⟩
          case measure => simp [intOf]; omega
    · obtain rfl : k = n := by omega
      rw [mkdL_all HF.out] at hO
      have H1 := Lib.hid hO
      have H2 := Lib.hid hg
      clear hO hg
      go_wp2_with fail
      go_ret
      exact ⟨rfl, H1.out, H2.out⟩
theorem markC_nil (k0 : Nat) (w : World) : Calls Try.prog 63 #[.slice none 0 0, .int .i64 k0] w fun e w' => e = .returned (.int .i64 k0) ∧ w = w' := by
  go_enter Try.func63, Try.ntmps63
  go_wp2_with fail
  refine wp_loop_rounds 1 ?_
  rw [rounds_succ]
  go_wp2_with fail
  go_ret
  exact ⟨rfl, rfl⟩
theorem markC_any (k0 : Nat) (hk0 : k0 ≤ 100000000) (v : Value) (B : Nat) (ws : List V) (w : World) (ho : OwnL encV 8 w B 36 v ws) (hm : ws.length ≤ 1048576) :
    Calls Try.prog 63 #[v, .int .i64 k0] w fun e w' => e = .returned (.int .i64 ((k0 + ws.length * 8 : Nat) : Int)) ∧ w'.ownsRow B 36 8 v ws.length (mkL k0 (ws.length * 8)) ∧ w.grownBy w' v.ownBlock := by
  have h2 := ho.2
  rcases h2 with ⟨rfl, h0⟩ | ⟨g, cap, cur, rfl, _⟩
  · refine (markC_nil k0 w).mono ?_
    rintro e w' ⟨rfl, rfl⟩
    refine ⟨by rw [h0]; rfl, ?_, World.grownBy.refl _ _⟩
    rw [h0, Nat.zero_mul]; exact World.ownsRow_nil _ _ _ _
  · exact markC_own k0 B g ws.length cap hk0 ws w rfl ho hm

set_option maxHeartbeats 2000000 in
theorem heldC_own (k0 B g n cap : Nat) (hk0 : k0 ≤ 100000000) (w : World) (ho : w.ownsRow B 36 8 (.slice (some ⟨g, 0, none⟩) n cap) n (mkL k0 (n * 8))) (hm : n ≤ 1048576) :
    Calls Try.prog 64 #[.slice (some ⟨g, 0, none⟩) n cap, .int .i64 k0] w fun e w' => e = .returned (.int .i64 ((k0 + n * 8 : Nat) : Int)) ∧ w = w' := by
  have HO := Lib.hid ho
  clear ho
  go_enter Try.func64, Try.ntmps64
  go_wp2_with fail
  go_loop [1, 5, 6] (fun ks i _ => ∃ k : Nat, k ≤ n ∧ i = .int .i64 k ∧ ks = .int .i64 ((k0 + k * 8 : Nat) : Int)) (fun _ i _ => n - (intOf i).toNat)
  case atStart => exact ⟨0, Nat.zero_le _, rfl, rfl⟩
  case round =>
    obtain ⟨k, hk, rfl, rfl⟩ := hrel
    by_cases hlt : k < n
    · have hkz : (k : Int) < (n : Int) := by omega
      have hk0 : (0 : Int) ≤ (k : Int) := by omega
      go_wp2_with fail
      go_loop [1, 6] (fun ks j => ∃ m : Nat, m ≤ 8 ∧ j = .int .i64 m ∧ ks = .int .i64 ((k0 + (k * 8 + m) : Nat) : Int)) (fun _ j => 8 - (intOf j).toNat)
      case atStart => exact ⟨0, Nat.zero_le _, rfl, by go_num⟩
      case round =>
        obtain ⟨m, hm8, rfl, rfl⟩ := hrel
        by_cases hlt8 : m < 8
        · have hmz : (m : Int) < 8 := by omega
          have hm0 : (0 : Int) ≤ (m : Int) := by omega
          have hcell : w.cell? ⟨g, k * 8 + m, none⟩ = some (.int .i64 ((k0 + (k * 8 + m) : Nat) : Int)) := by
            rw [HO.out.cellAt (k * 8 + m) (by omega), mkL_at (by omega)]
          have q1 : IntKind.i64.wrap (((k0 + (k * 8 + m) : Nat) : Int) + 1) = ((k0 + (k * 8 + (m + 1)) : Nat) : Int) := by rw [IntKind.wrap_i64]; omega
          have hne : (((k0 + (k * 8 + m) : Nat) : Int) != ((k0 + (k * 8 + m) : Nat) : Int)) = false := by simp
          go_wp2_with fail
          go_round
          case rel => exact ⟨m + 1, by omega, by go_num, by go_num⟩
          case measure => simp [intOf]; omega
        · obtain rfl : m = 8 := by omega
          go_wp2_with fail
          go_round
          case rel => exact ⟨k + 1, by omega, by go_num, by go_num⟩
          case measure => simp [intOf]; omega
    · obtain rfl : k = n := by omega
      go_wp2_with fail
      go_ret
      exact ⟨rfl, rfl⟩
theorem heldC_nil (k0 : Nat) (w : World) : Calls Try.prog 64 #[.slice none 0 0, .int .i64 k0] w fun e w' => e = .returned (.int .i64 k0) ∧ w = w' := by
  go_enter Try.func64, Try.ntmps64
  go_wp2_with fail
  refine wp_loop_rounds 1 ?_
  rw [rounds_succ]
  go_wp2_with fail
  go_ret
  exact ⟨rfl, rfl⟩
theorem heldC_any (k0 : Nat) (hk0 : k0 ≤ 100000000) (v : Value) (B n : Nat) (w : World) (ho : w.ownsRow B 36 8 v n (mkL k0 (n * 8))) (hm : n ≤ 1048576) :
    Calls Try.prog 64 #[v, .int .i64 k0] w fun e w' => e = .returned (.int .i64 ((k0 + n * 8 : Nat) : Int)) ∧ w = w' := by
  have h2 := ho.2
  rcases h2 with ⟨rfl, rfl⟩ | ⟨g, cap, cur, rfl, _⟩
  · exact heldC_nil k0 w
  · exact heldC_own k0 B g n cap hk0 w ho hm

end Go.Proofs.Ytdgbpdeimckbfaa
