/-
  Contracts of impl's halves and radicals: structs of 64-bit numbers to calculate with.
-/
import Derived.Test.YtcdlenphgenejaaSurdA
import Derived.Test.YtcdlenphgenejaaVec
import Derived.Deep.RegionWith
import Derived.StillTailTactics
namespace Go.Proofs.Ytcdlenphgenejaa
set_option maxRecDepth 20000
open Go.ChangeShapes Go.WideShapes Go.ChangeAt Go.RowKit
set_option linter.unusedVariables false
set_option linter.unusedSimpArgs false

theorem mul_in {x y : Int} (X Y : Nat) (hx : -(X : Int) ≤ x ∧ x ≤ X) (hy : -(Y : Int) ≤ y ∧ y ≤ Y) : -((X * Y : Nat) : Int) ≤ x * y ∧ x * y ≤ ((X * Y : Nat) : Int) := by
  have h1 : x.natAbs ≤ X := by omega
  have h2 : y.natAbs ≤ Y := by omega
  have h3 : (x * y).natAbs ≤ X * Y := by rw [Int.natAbs_mul]; exact Nat.mul_le_mul h1 h2
  omega

/-- A half, a radical: as values. -/
def hv (a b : Int) : Value := .agg #[.int .i64 a, .int .i64 b]
def sv (a b c e : Int) : Value := .agg #[.int .i64 a, .int .i64 b, .int .i64 c, .int .i64 e]

theorem below_one (w : World) (o : Obj) : Below w.heap.size w (w.alloc o) := (Below.refl _ _).alloc (Nat.le_refl _) _
theorem below_two (w : World) (o p : Obj) : Below w.heap.size w ((w.alloc o).alloc p) := (below_one w o).alloc (by simp) _
theorem below_three (w : World) (o p q : Obj) : Below w.heap.size w (((w.alloc o).alloc p).alloc q) := (below_two w o p).alloc (by simp; omega) _
theorem hsquare_any (a b : Int) (ha : -100000000 ≤ a ∧ a ≤ 100000000) (hb : -100000000 ≤ b ∧ b ≤ 100000000) (w : World) :
    Calls Try.prog 82 #[hv a b] w fun e w' => e = .returned (hv (a * a + 2 * b * b) (2 * a * b)) ∧ Below w.heap.size w w' := by
  have b1 := mul_in 100000000 100000000 ha ha
  have b2 := mul_in 200000000 100000000 (x := 2 * b) (by omega) hb
  have b3 := mul_in 200000000 100000000 (x := 2 * a) (by omega) hb
  simp only [Nat.reduceMul] at b1 b2 b3
  try unfold hv
  try unfold sv
  go_enter Try.func82, Try.ntmps82
  go_wp2
  simp [bodyPost, results, Try.results82, go_sem]
  exact below_two _ _ _
theorem hscaled_any (a b : Int) (ha : -100000000000000000 ≤ a ∧ a ≤ 100000000000000000) (hb : -100000000000000000 ≤ b ∧ b ≤ 100000000000000000) (w : World) :
    Calls Try.prog 84 #[hv a b, .int .i64 3] w fun e w' => e = .returned (hv (3 * a) (3 * b)) ∧ Below w.heap.size w w' := by
  try unfold hv
  try unfold sv
  go_enter Try.func84, Try.ntmps84
  go_wp2
  simp [bodyPost, results, Try.results84, go_sem]
  exact below_two _ _ _
theorem hless_any (a b c d : Int) (ha : -200000000000000000 ≤ a ∧ a ≤ 200000000000000000) (hb : -200000000000000000 ≤ b ∧ b ≤ 200000000000000000) (hc : -200000000000000000 ≤ c ∧ c ≤ 200000000000000000) (hd : -200000000000000000 ≤ d ∧ d ≤ 200000000000000000) (w : World) :
    Calls Try.prog 83 #[hv a b, hv c d] w fun e w' => e = .returned (hv (a - c) (b - d)) ∧ Below w.heap.size w w' := by
  try unfold hv
  try unfold sv
  go_enter Try.func83, Try.ntmps83
  go_wp2
  simp [bodyPost, results, Try.results83, go_sem]
  exact below_three _ _ _ _
theorem rless_any (a b c d a' b' c' d' : Int) (ha : -100000000 ≤ a ∧ a ≤ 100000000) (hb : -100000000 ≤ b ∧ b ≤ 100000000) (hc : -100000000 ≤ c ∧ c ≤ 100000000) (hd : -100000000 ≤ d ∧ d ≤ 100000000) (ha' : -100000000 ≤ a' ∧ a' ≤ 100000000) (hb' : -100000000 ≤ b' ∧ b' ≤ 100000000) (hc' : -100000000 ≤ c' ∧ c' ≤ 100000000) (hd' : -100000000 ≤ d' ∧ d' ≤ 100000000) (w : World) :
    Calls Try.prog 93 #[sv a b c d, sv a' b' c' d'] w fun e w' => e = .returned (sv (a - a') (b - b') (c - c') (d - d')) ∧ Below w.heap.size w w' := by
  try unfold hv
  try unfold sv
  go_enter Try.func93, Try.ntmps93
  go_wp2
  simp [bodyPost, results, Try.results93, go_sem]
  exact below_three _ _ _ _
theorem rplus_any (a b c d a' b' c' d' : Int) (ha : -100000000 ≤ a ∧ a ≤ 100000000) (hb : -100000000 ≤ b ∧ b ≤ 100000000) (hc : -100000000 ≤ c ∧ c ≤ 100000000) (hd : -100000000 ≤ d ∧ d ≤ 100000000) (ha' : -100000000 ≤ a' ∧ a' ≤ 100000000) (hb' : -100000000 ≤ b' ∧ b' ≤ 100000000) (hc' : -100000000 ≤ c' ∧ c' ≤ 100000000) (hd' : -100000000 ≤ d' ∧ d' ≤ 100000000) (w : World) :
    Calls Try.prog 55 #[sv a b c d, sv a' b' c' d'] w fun e w' => e = .returned (sv (a + a') (b + b') (c + c') (d + d')) ∧ Below w.heap.size w w' := by
  try unfold hv
  try unfold sv
  go_enter Try.func55, Try.ntmps55
  go_wp2
  simp [bodyPost, results, Try.results55, go_sem]
  exact below_three _ _ _ _
def okr (a b c d : Int) : Bool := rng a && rng b && rng c && rng d
theorem rvalid_any (a b c d : Int) (w : World) :
    Calls Try.prog 81 #[sv a b c d] w fun e w' => e = .returned (.bool (okr a b c d)) ∧ w' = w.alloc (.cells #[.int .i64 a, .int .i64 b, .int .i64 c, .int .i64 d] 57) := by
  unfold sv
  cases p : rng a
  · go_enter Try.func81, Try.ntmps81
    go_wp2_with (refine (inRange_any _ _).mono ?_; rintro e w' ⟨rfl, rfl⟩)
    go_ret
    exact ⟨ret_bool (by simp [okr, *]), rfl⟩
  cases q : rng b
  · go_enter Try.func81, Try.ntmps81
    go_wp2_with (refine (inRange_any _ _).mono ?_; rintro e w' ⟨rfl, rfl⟩)
    go_ret
    exact ⟨ret_bool (by simp [okr, *]), rfl⟩
  cases r : rng c
  · go_enter Try.func81, Try.ntmps81
    go_wp2_with (refine (inRange_any _ _).mono ?_; rintro e w' ⟨rfl, rfl⟩)
    go_ret
    exact ⟨ret_bool (by simp [okr, *]), rfl⟩
  go_enter Try.func81, Try.ntmps81
  go_wp2_with (refine (inRange_any _ _).mono ?_; rintro e w' ⟨rfl, rfl⟩)
  go_ret
  exact ⟨ret_bool (by simp [okr, *]), rfl⟩

theorem calm {P : Program} {f : FuncId} {args : Array Value} {w x : World} {v : Value} (hx : ∃ m, x = w.drewN m) (h : Calls P f args x fun e w' => e = .returned v ∧ x = w') :
    Calls P f args x fun e w'' => e = .returned v ∧ ∃ m, w'' = w.drewN m := h.mono fun _ _ ⟨he, hm⟩ => ⟨he, by obtain ⟨m, e⟩ := hx; exact ⟨m, by rw [← hm, e]⟩⟩
theorem calm2 {P : Program} {f : FuncId} {args : Array Value} {w : World} {v : Value} {a n : Nat} (h : Calls P f args (w.drewN (a + n)) fun e w' => e = .returned v ∧ w.drewN (a + n) = w') :
    Calls P f args (w.drewN (a + n)) fun e w'' => e = .returned v ∧ ∃ m, w'' = w.drewN (a + m) := h.mono fun _ _ ⟨he, hm⟩ => ⟨he, n, hm.symm⟩
theorem sg1_in (n : Int) : -1 ≤ sg1 n ∧ sg1 n ≤ 1 := by
  unfold sg1
  split
  · omega
  · split <;> omega
theorem sg2_in (a b : Int) : -1 ≤ sg2 a b ∧ sg2 a b ≤ 1 := by
  unfold sg2
  split
  · omega
  · split <;> omega
theorem sg_pair (h l h' l' x y : Int) (e : x = h * 18446744073709551616 + l) (e' : y = h' * 18446744073709551616 + l') (hl : 0 ≤ l) (hl1 : l < 18446744073709551616) (hl' : 0 ≤ l') (hl1' : l' < 18446744073709551616) :
    (if sg1 (h - h') = 0 then sg1 (l - l') else sg1 (h - h')) = sg1 (x - y) := by
  rcases (show h < h' ∨ h = h' ∨ h' < h by omega) with g | g | g
  · rw [sg1_neg (n := h - h') (by omega), if_neg (by decide), sg1_neg (n := x - y) (by omega)]
  · subst g
    rw [sg1_nil (n := h - h) (by omega), if_pos rfl]
    rw [show x - y = l - l' by omega]
  · rw [sg1_pos (n := h - h') (by omega), if_neg (by decide), sg1_pos (n := x - y) (by omega)]
theorem sizes_sq (a : Int) : ((a.natAbs : Nat) : Int) * (a.natAbs : Nat) = a * a := by
  rcases Int.natAbs_eq a with e | e
  · rw [← e]
  · conv => rhs; rw [e]
    rw [Int.neg_mul_neg]
set_option maxHeartbeats 1000000 in
theorem hsign_any (a b : Int) (ha : -1000000000000000000 ≤ a ∧ a ≤ 1000000000000000000) (hb : -1000000000000000000 ≤ b ∧ b ≤ 1000000000000000000) (w : World) :
    Calls Try.prog 86 #[hv a b] w fun e w' => e = .returned (.int .i64 (sg2 a b)) ∧ Below w.heap.size w w' := by
  obtain ⟨x, hx⟩ : ∃ x : Nat, x = a.natAbs := ⟨_, rfl⟩
  obtain ⟨y, hy⟩ : ∃ y : Nat, y = b.natAbs := ⟨_, rfl⟩
  obtain ⟨z, hz⟩ : ∃ z : Nat, z = 2 * y := ⟨_, rfl⟩
  have S : ∀ w, Calls Try.prog 103 #[.int .i64 a] w fun e w' => e = .returned (.int .u64 x) ∧ w = w' := fun w => by rw [hx]; exact sizeOf_any a (by omega) w
  have T : ∀ w, Calls Try.prog 103 #[.int .i64 b] w fun e w' => e = .returned (.int .u64 y) ∧ w = w' := fun w => by rw [hy]; exact sizeOf_any b (by omega) w
  have ew : IntKind.u64.wrap (2 * (y : Int)) = (z : Int) := by rw [IntKind.wrap_u64]; omega
  obtain ⟨h, l, e1, l0, l1, M⟩ := mul64_any x x (by omega) (by omega)
  obtain ⟨h', l', e2, l0', l1', N⟩ := mul64_any y z (by omega) (by omega)
  have J := sg2_joined a b
  have HU := sg1_in (a * a - 2 * b * b)
  have eq : (if sg1 (h - h') = 0 then sg1 (l - l') else sg1 (h - h')) = sg1 (a * a - 2 * b * b) := by
    have k1 : a * a = (x : Int) * x := by rw [hx, sizes_sq]
    have k2 : 2 * b * b = (y : Int) * z := by
      have := sizes_sq b
      rw [← hy] at this
      rw [hz, show ((2 * y : Nat) : Int) = 2 * (y : Int) by omega, show (y : Int) * (2 * (y : Int)) = 2 * ((y : Int) * (y : Int)) by grind, this]; grind
    exact sg_pair h l h' l' _ _ (by rw [k1, e1]) (by rw [k2, e2]) l0 l1 l0' l1'
  have O : ∀ (g : Nat) (w : World), w.cell? ⟨g, 0, none⟩ = some (.int .i64 (sg1 (h - h'))) → w.cell? ⟨g, 1, none⟩ = some (.int .i64 (sg1 (l - l'))) →
      Calls Try.prog 104 #[.slice (some ⟨g, 0, none⟩) 2 2] w fun e w' => e = .returned (.int .i64 (sg1 (a * a - 2 * b * b))) ∧ w = w' := fun g w c0 c1 => by
    have := or_any _ _ g w c0 c1
    rw [eq] at this
    exact this
  clear hx hy hz e1 e2 eq l0 l1 l0' l1'
  generalize sg1 (a * a - 2 * b * b) = u at *
  generalize sg2 a b = r at *
  have HJ := Lib.hid J; have HU := Lib.hid HU
  clear J
  unfold hv
  go_enter Try.func86, Try.ntmps86
  go_wp2_with fail
  go_quiet (first | (go_at_call 103; exact calm ⟨_, rfl⟩ (S _)) | (go_at_call 102; exact calm ⟨_, rfl⟩ (M _)))
  go_wp2_with fail
  go_quiet (first | (go_at_call 103; exact calm2 (T _)) | (go_at_call 102; exact calm2 (N _)))
  go_wp2_with (first | (go_at_call 105; refine (cmp_uint64 _ _ _).mono ?_; rintro e w' ⟨rfl, rfl⟩) | (go_at_call 104; refine (O _ _ (by simp [go_sem]) (by simp [go_sem])).mono ?_; rintro e w' ⟨rfl, rfl⟩))
  go_quiet (first | (go_at_call 106; exact calm ⟨_, rfl⟩ (cmp_int64 _ _ _)) | (go_at_call 85; exact calm ⟨_, rfl⟩ (signOfSum_any _ _ _ (sg1_in _) (sg1_in _) HU.out _)))
  go_wp2_with fail
  go_ret
  exact ⟨ret_int HJ.out.symm, below_drewN ((below_drewN (below_one _ _) _).alloc (by simp) _) _⟩

/-! Rows of two and of four. -/
def f2 (a b : Int) : Nat → Int := fun j => if j = 0 then a else b
def f4 (a b c d : Int) : Nat → Int := fun j => if j = 0 then a else if j = 1 then b else if j = 2 then c else d
theorem hv_vec (a b : Int) : hv a b = .agg (vec 2 (f2 a b)) := rfl
theorem sv_vec (a b c d : Int) : sv a b c d = .agg (vec 4 (f4 a b c d)) := rfl
theorem info_half : (Try.prog.info? 89).map (·.size) = some 2 := by kernel_rfl
theorem info_radical : (Try.prog.info? 57).map (·.size) = some 4 := by kernel_rfl
theorem info_surd : (Try.prog.info? 24).map (·.size) = some 4 := by kernel_rfl
theorem size_half (f : Nat → Int) : (Try.prog.info? 89).map (·.size) = some (lst 2 f).length := by rw [lst_length]; exact info_half
theorem size_radical (f : Nat → Int) : (Try.prog.info? 57).map (·.size) = some (lst 4 f).length := by rw [lst_length]; exact info_radical
theorem size_surd (f : Nat → Int) : (Try.prog.info? 24).map (·.size) = some (lst 4 f).length := by rw [lst_length]; exact info_surd
end Go.Proofs.Ytcdlenphgenejaa
