/-
  Out of the text PolyMath: what the draws of polygons need.
  Out of the text PolyV: what the draws of polygons need.
  Out of the text PolyMathB: what the draws of polygons need.
-/
import Derived.Test.YtdpakhggpgdgbaaGreatM05
import Derived.Test.YtdpakhggpgdgbaaGreatM07
/- Out of the text PolyMath: what the draws of polygons need. -/
namespace Go.Proofs.YtdpakhggpgdgbaaGreat
set_option maxRecDepth 20000
set_option linter.unusedVariables false
set_option linter.unusedSimpArgs false
set_option linter.unusedSectionVars false
/-- a + b root 2 + c root 3 + e root 6. -/
structure R4 where
  a : Int
  b : Int
  c : Int
  e : Int
theorem R4.ext {x y : R4} (h1 : x.a = y.a) (h2 : x.b = y.b) (h3 : x.c = y.c) (h4 : x.e = y.e) : x = y := by
  cases x; cases y
  simp only at h1 h2 h3 h4
  rw [h1, h2, h3, h4]
namespace R4
instance : Add R4 := ⟨fun x y => ⟨x.a + y.a, x.b + y.b, x.c + y.c, x.e + y.e⟩⟩
instance : Mul R4 := ⟨fun x y => ⟨x.a * y.a + 2 * x.b * y.b + 3 * x.c * y.c + 6 * x.e * y.e, x.a * y.b + x.b * y.a + 3 * (x.c * y.e + x.e * y.c), x.a * y.c + x.c * y.a + 2 * (x.b * y.e + x.e * y.b), x.a * y.e + x.e * y.a + x.b * y.c + x.c * y.b⟩⟩
instance : Neg R4 := ⟨fun x => ⟨-x.a, -x.b, -x.c, -x.e⟩⟩
instance : Sub R4 := ⟨fun x y => ⟨x.a - y.a, x.b - y.b, x.c - y.c, x.e - y.e⟩⟩
instance : OfNat R4 0 := ⟨⟨0, 0, 0, 0⟩⟩
theorem adda (x y : R4) : (x + y).a = x.a + y.a := rfl
theorem addb (x y : R4) : (x + y).b = x.b + y.b := rfl
theorem addc (x y : R4) : (x + y).c = x.c + y.c := rfl
theorem adde (x y : R4) : (x + y).e = x.e + y.e := rfl
theorem mula (x y : R4) : (x * y).a = x.a * y.a + 2 * x.b * y.b + 3 * x.c * y.c + 6 * x.e * y.e := rfl
theorem mulb (x y : R4) : (x * y).b = x.a * y.b + x.b * y.a + 3 * (x.c * y.e + x.e * y.c) := rfl
theorem mulc (x y : R4) : (x * y).c = x.a * y.c + x.c * y.a + 2 * (x.b * y.e + x.e * y.b) := rfl
theorem mule (x y : R4) : (x * y).e = x.a * y.e + x.e * y.a + x.b * y.c + x.c * y.b := rfl
theorem nega (x : R4) : (-x).a = -x.a := rfl
theorem negb (x : R4) : (-x).b = -x.b := rfl
theorem negc (x : R4) : (-x).c = -x.c := rfl
theorem nege (x : R4) : (-x).e = -x.e := rfl
theorem suba (x y : R4) : (x - y).a = x.a - y.a := rfl
theorem subb (x y : R4) : (x - y).b = x.b - y.b := rfl
theorem subc (x y : R4) : (x - y).c = x.c - y.c := rfl
theorem sube (x y : R4) : (x - y).e = x.e - y.e := rfl
theorem za : (0 : R4).a = 0 := rfl
theorem zb : (0 : R4).b = 0 := rfl
theorem zc : (0 : R4).c = 0 := rfl
theorem ze : (0 : R4).e = 0 := rfl
theorem zero_mul (x : R4) : 0 * x = 0 := by (apply R4.ext <;> simp only [R4.adda, R4.addb, R4.addc, R4.adde, R4.mula, R4.mulb, R4.mulc, R4.mule, R4.nega, R4.negb, R4.negc, R4.nege, R4.suba, R4.subb, R4.subc, R4.sube, R4.za, R4.zb, R4.zc, R4.ze] <;> grind)
theorem mul_zero (x : R4) : x * 0 = 0 := by (apply R4.ext <;> simp only [R4.adda, R4.addb, R4.addc, R4.adde, R4.mula, R4.mulb, R4.mulc, R4.mule, R4.nega, R4.negb, R4.negc, R4.nege, R4.suba, R4.subb, R4.subc, R4.sube, R4.za, R4.zb, R4.zc, R4.ze] <;> grind)
theorem add_zero (x : R4) : x + 0 = x := by (apply R4.ext <;> simp only [R4.adda, R4.addb, R4.addc, R4.adde, R4.mula, R4.mulb, R4.mulc, R4.mule, R4.nega, R4.negb, R4.negc, R4.nege, R4.suba, R4.subb, R4.subc, R4.sube, R4.za, R4.zb, R4.zc, R4.ze] <;> grind)
theorem zero_add (x : R4) : 0 + x = x := by (apply R4.ext <;> simp only [R4.adda, R4.addb, R4.addc, R4.adde, R4.mula, R4.mulb, R4.mulc, R4.mule, R4.nega, R4.negb, R4.negc, R4.nege, R4.suba, R4.subb, R4.subc, R4.sube, R4.za, R4.zb, R4.zc, R4.ze] <;> grind)
theorem neg_mul (x y : R4) : -x * y = -(x * y) := by (apply R4.ext <;> simp only [R4.adda, R4.addb, R4.addc, R4.adde, R4.mula, R4.mulb, R4.mulc, R4.mule, R4.nega, R4.negb, R4.negc, R4.nege, R4.suba, R4.subb, R4.subc, R4.sube, R4.za, R4.zb, R4.zc, R4.ze] <;> grind)
theorem neg_neg (x : R4) : - -x = x := by (apply R4.ext <;> simp only [R4.adda, R4.addb, R4.addc, R4.adde, R4.mula, R4.mulb, R4.mulc, R4.mule, R4.nega, R4.negb, R4.negc, R4.nege, R4.suba, R4.subb, R4.subc, R4.sube, R4.za, R4.zb, R4.zc, R4.ze] <;> grind)
theorem neg_zero : -(0 : R4) = 0 := by (apply R4.ext <;> simp only [R4.adda, R4.addb, R4.addc, R4.adde, R4.mula, R4.mulb, R4.mulc, R4.mule, R4.nega, R4.negb, R4.negc, R4.nege, R4.suba, R4.subb, R4.subc, R4.sube, R4.za, R4.zb, R4.zc, R4.ze] <;> grind)
theorem neg_mul_neg (x y : R4) : -x * -y = x * y := by (apply R4.ext <;> simp only [R4.adda, R4.addb, R4.addc, R4.adde, R4.mula, R4.mulb, R4.mulc, R4.mule, R4.nega, R4.negb, R4.negc, R4.nege, R4.suba, R4.subb, R4.subc, R4.sube, R4.za, R4.zb, R4.zc, R4.ze] <;> grind)
theorem mul_comm (x y : R4) : x * y = y * x := by (apply R4.ext <;> simp only [R4.adda, R4.addb, R4.addc, R4.adde, R4.mula, R4.mulb, R4.mulc, R4.mule, R4.nega, R4.negb, R4.negc, R4.nege, R4.suba, R4.subb, R4.subc, R4.sube, R4.za, R4.zb, R4.zc, R4.ze] <;> grind)
theorem add_comm (x y : R4) : x + y = y + x := by (apply R4.ext <;> simp only [R4.adda, R4.addb, R4.addc, R4.adde, R4.mula, R4.mulb, R4.mulc, R4.mule, R4.nega, R4.negb, R4.negc, R4.nege, R4.suba, R4.subb, R4.subc, R4.sube, R4.za, R4.zb, R4.zc, R4.ze] <;> grind)
theorem add_assoc (x y z : R4) : x + y + z = x + (y + z) := by (apply R4.ext <;> simp only [R4.adda, R4.addb, R4.addc, R4.adde, R4.mula, R4.mulb, R4.mulc, R4.mule, R4.nega, R4.negb, R4.negc, R4.nege, R4.suba, R4.subb, R4.subc, R4.sube, R4.za, R4.zb, R4.zc, R4.ze] <;> grind)
theorem neg_add (x y : R4) : -(x + y) = -x + -y := by (apply R4.ext <;> simp only [R4.adda, R4.addb, R4.addc, R4.adde, R4.mula, R4.mulb, R4.mulc, R4.mule, R4.nega, R4.negb, R4.negc, R4.nege, R4.suba, R4.subb, R4.subc, R4.sube, R4.za, R4.zb, R4.zc, R4.ze] <;> grind)
theorem add_neg (x : R4) : x + -x = 0 := by (apply R4.ext <;> simp only [R4.adda, R4.addb, R4.addc, R4.adde, R4.mula, R4.mulb, R4.mulc, R4.mule, R4.nega, R4.negb, R4.negc, R4.nege, R4.suba, R4.subb, R4.subc, R4.sube, R4.za, R4.zb, R4.zc, R4.ze] <;> grind)
def Pos (x : R4) : Prop := P4 x.a x.b x.c x.e
theorem pos_add {x y : R4} (h : Pos x) (k : Pos y) : Pos (x + y) := p4_add h k
theorem pos_mul {x y : R4} (h : Pos x) (k : Pos y) : Pos (x * y) := p4_mul h k
theorem pos_tri (x : R4) : x = 0 ∨ Pos x ∨ Pos (-x) := by
  rcases p4_tri x.a x.b x.c x.e with ⟨h1, h2, h3, h4⟩ | h | h
  · exact .inl (R4.ext h1 h2 h3 h4)
  · exact .inr (.inl h)
  · exact .inr (.inr h)
theorem pos_zero : ¬ Pos 0 := fun h => p4_zero h
theorem pos_not {x : R4} (h : Pos x) (k : Pos (-x)) : False := p4_not h k
theorem pos_ne {x : R4} (h : Pos x) : x ≠ 0 := fun e => pos_zero (e ▸ h)
theorem pos_of_mul {x y : R4} (h : Pos (x * y)) (hy : Pos y) : Pos x := by
  rcases pos_tri x with rfl | h1 | h1
  · rw [zero_mul] at h; exact (pos_zero h).elim
  · exact h1
  · have := pos_mul h1 hy
    rw [neg_mul] at this
    exact (pos_not h this).elim
theorem zero_of_mul {x y : R4} (h : x * y = 0) (hy : Pos y) : x = 0 := by
  rcases pos_tri x with h1 | h1 | h1
  · exact h1
  · exact (pos_ne (pos_mul h1 hy) h).elim
  · have := pos_mul h1 hy
    rw [neg_mul, h, neg_zero] at this
    exact (pos_zero this).elim
theorem pos_sq {x : R4} (h : x ≠ 0) : Pos (x * x) := by
  rcases pos_tri x with h1 | h1 | h1
  · exact (h h1).elim
  · exact pos_mul h1 h1
  · have := pos_mul h1 h1
    rwa [neg_mul_neg] at this
/-- Not below 0. -/
def NN (x : R4) : Prop := x = 0 ∨ Pos x
theorem nn_add {x y : R4} (h : NN x) (k : NN y) : NN (x + y) := by
  rcases h with rfl | h
  · rwa [zero_add]
  · rcases k with rfl | k
    · rw [add_zero]; exact .inr h
    · exact .inr (pos_add h k)
theorem pos_nn {x y : R4} (h : Pos x) (k : NN y) : Pos (x + y) := by
  rcases k with rfl | k
  · rwa [add_zero]
  · exact pos_add h k
theorem nn_pos {x y : R4} (h : NN x) (k : Pos y) : Pos (x + y) := by rw [add_comm]; exact pos_nn k h
theorem nn_mul {x y : R4} (h : NN x) (k : NN y) : NN (x * y) := by
  rcases h with rfl | h
  · rw [zero_mul]; exact .inl rfl
  · rcases k with rfl | k
    · rw [mul_zero]; exact .inl rfl
    · exact .inr (pos_mul h k)
end R4
open R4 (Pos NN)
/-- Vectors. -/
structure Q2 where
  x : R4
  y : R4
theorem Q2.ext {p q : Q2} (h1 : p.x = q.x) (h2 : p.y = q.y) : p = q := by
  cases p; cases q
  simp only at h1 h2
  rw [h1, h2]
namespace Q2
instance : Add Q2 := ⟨fun p q => ⟨p.x + q.x, p.y + q.y⟩⟩
instance : Neg Q2 := ⟨fun p => ⟨-p.x, -p.y⟩⟩
instance : Sub Q2 := ⟨fun p q => ⟨p.x - q.x, p.y - q.y⟩⟩
instance : OfNat Q2 0 := ⟨⟨0, 0⟩⟩
theorem addx (p q : Q2) : (p + q).x = p.x + q.x := rfl
theorem addy (p q : Q2) : (p + q).y = p.y + q.y := rfl
theorem negx (p : Q2) : (-p).x = -p.x := rfl
theorem negy (p : Q2) : (-p).y = -p.y := rfl
theorem subx (p q : Q2) : (p - q).x = p.x - q.x := rfl
theorem suby (p q : Q2) : (p - q).y = p.y - q.y := rfl
theorem zx : (0 : Q2).x = 0 := rfl
theorem zy : (0 : Q2).y = 0 := rfl
theorem neg_neg (p : Q2) : - -p = p := Q2.ext (R4.neg_neg _) (R4.neg_neg _)
theorem add_assoc (p q r : Q2) : p + q + r = p + (q + r) := Q2.ext (R4.add_assoc _ _ _) (R4.add_assoc _ _ _)
theorem add_comm (p q : Q2) : p + q = q + p := Q2.ext (R4.add_comm _ _) (R4.add_comm _ _)
theorem zero_add (p : Q2) : 0 + p = p := Q2.ext (R4.zero_add _) (R4.zero_add _)
theorem add_zero (p : Q2) : p + 0 = p := Q2.ext (R4.add_zero _) (R4.add_zero _)
theorem neg_add (p q : Q2) : -(p + q) = -p + -q := Q2.ext (R4.neg_add _ _) (R4.neg_add _ _)
theorem neg_sub (p q : Q2) : -(p - q) = q - p := Q2.ext (by simp only [negx, subx]; (apply R4.ext <;> simp only [R4.adda, R4.addb, R4.addc, R4.adde, R4.mula, R4.mulb, R4.mulc, R4.mule, R4.nega, R4.negb, R4.negc, R4.nege, R4.suba, R4.subb, R4.subc, R4.sube, R4.za, R4.zb, R4.zc, R4.ze] <;> grind)) (by simp only [negy, suby]; (apply R4.ext <;> simp only [R4.adda, R4.addb, R4.addc, R4.adde, R4.mula, R4.mulb, R4.mulc, R4.mule, R4.nega, R4.negb, R4.negc, R4.nege, R4.suba, R4.subb, R4.subc, R4.sube, R4.za, R4.zb, R4.zc, R4.ze] <;> grind))
theorem sub_add_sub (p q r : Q2) : (q - p) + (r - q) = r - p := Q2.ext (by simp only [addx, subx]; (apply R4.ext <;> simp only [R4.adda, R4.addb, R4.addc, R4.adde, R4.mula, R4.mulb, R4.mulc, R4.mule, R4.nega, R4.negb, R4.negc, R4.nege, R4.suba, R4.subb, R4.subc, R4.sube, R4.za, R4.zb, R4.zc, R4.ze] <;> grind)) (by simp only [addy, suby]; (apply R4.ext <;> simp only [R4.adda, R4.addb, R4.addc, R4.adde, R4.mula, R4.mulb, R4.mulc, R4.mule, R4.nega, R4.negb, R4.negc, R4.nege, R4.suba, R4.subb, R4.subc, R4.sube, R4.za, R4.zb, R4.zc, R4.ze] <;> grind))
theorem sub_self (p : Q2) : p - p = 0 := Q2.ext (by simp only [subx, zx]; (apply R4.ext <;> simp only [R4.adda, R4.addb, R4.addc, R4.adde, R4.mula, R4.mulb, R4.mulc, R4.mule, R4.nega, R4.negb, R4.negc, R4.nege, R4.suba, R4.subb, R4.subc, R4.sube, R4.za, R4.zb, R4.zc, R4.ze] <;> grind)) (by simp only [suby, zy]; (apply R4.ext <;> simp only [R4.adda, R4.addb, R4.addc, R4.adde, R4.mula, R4.mulb, R4.mulc, R4.mule, R4.nega, R4.negb, R4.negc, R4.nege, R4.suba, R4.subb, R4.subc, R4.sube, R4.za, R4.zb, R4.zc, R4.ze] <;> grind))
theorem add_sub (p q : Q2) : p + (q - p) = q := Q2.ext (by simp only [addx, subx]; (apply R4.ext <;> simp only [R4.adda, R4.addb, R4.addc, R4.adde, R4.mula, R4.mulb, R4.mulc, R4.mule, R4.nega, R4.negb, R4.negc, R4.nege, R4.suba, R4.subb, R4.subc, R4.sube, R4.za, R4.zb, R4.zc, R4.ze] <;> grind)) (by simp only [addy, suby]; (apply R4.ext <;> simp only [R4.adda, R4.addb, R4.addc, R4.adde, R4.mula, R4.mulb, R4.mulc, R4.mule, R4.nega, R4.negb, R4.negc, R4.nege, R4.suba, R4.subb, R4.subc, R4.sube, R4.za, R4.zb, R4.zc, R4.ze] <;> grind))
end Q2
/-- The cross of two vectors; how far they go along each other. -/
def cr (p q : Q2) : R4 := p.x * q.y - p.y * q.x
def dt (p q : Q2) : R4 := p.x * q.x + p.y * q.y
theorem cr_swap (p q : Q2) : cr q p = -cr p q := by unfold cr; (apply R4.ext <;> simp only [R4.adda, R4.addb, R4.addc, R4.adde, R4.mula, R4.mulb, R4.mulc, R4.mule, R4.nega, R4.negb, R4.negc, R4.nege, R4.suba, R4.subb, R4.subc, R4.sube, R4.za, R4.zb, R4.zc, R4.ze] <;> grind)
theorem cr_self (p : Q2) : cr p p = 0 := by unfold cr; (apply R4.ext <;> simp only [R4.adda, R4.addb, R4.addc, R4.adde, R4.mula, R4.mulb, R4.mulc, R4.mule, R4.nega, R4.negb, R4.negc, R4.nege, R4.suba, R4.subb, R4.subc, R4.sube, R4.za, R4.zb, R4.zc, R4.ze] <;> grind)
theorem dt_comm (p q : Q2) : dt q p = dt p q := by unfold dt; (apply R4.ext <;> simp only [R4.adda, R4.addb, R4.addc, R4.adde, R4.mula, R4.mulb, R4.mulc, R4.mule, R4.nega, R4.negb, R4.negc, R4.nege, R4.suba, R4.subb, R4.subc, R4.sube, R4.za, R4.zb, R4.zc, R4.ze] <;> grind)
theorem cr_neg (p q : Q2) : cr (-p) (-q) = cr p q := by unfold cr; simp only [Q2.negx, Q2.negy]; (apply R4.ext <;> simp only [R4.adda, R4.addb, R4.addc, R4.adde, R4.mula, R4.mulb, R4.mulc, R4.mule, R4.nega, R4.negb, R4.negc, R4.nege, R4.suba, R4.subb, R4.subc, R4.sube, R4.za, R4.zb, R4.zc, R4.ze] <;> grind)
theorem dt_neg (p q : Q2) : dt (-p) (-q) = dt p q := by unfold dt; simp only [Q2.negx, Q2.negy]; (apply R4.ext <;> simp only [R4.adda, R4.addb, R4.addc, R4.adde, R4.mula, R4.mulb, R4.mulc, R4.mule, R4.nega, R4.negb, R4.negc, R4.nege, R4.suba, R4.subb, R4.subc, R4.sube, R4.za, R4.zb, R4.zc, R4.ze] <;> grind)
theorem cr_negl (p q : Q2) : cr (-p) q = -cr p q := by unfold cr; simp only [Q2.negx, Q2.negy]; (apply R4.ext <;> simp only [R4.adda, R4.addb, R4.addc, R4.adde, R4.mula, R4.mulb, R4.mulc, R4.mule, R4.nega, R4.negb, R4.negc, R4.nege, R4.suba, R4.subb, R4.subc, R4.sube, R4.za, R4.zb, R4.zc, R4.ze] <;> grind)
theorem cr_addl (p q r : Q2) : cr (p + q) r = cr p r + cr q r := by unfold cr; simp only [Q2.addx, Q2.addy]; (apply R4.ext <;> simp only [R4.adda, R4.addb, R4.addc, R4.adde, R4.mula, R4.mulb, R4.mulc, R4.mule, R4.nega, R4.negb, R4.negc, R4.nege, R4.suba, R4.subb, R4.subc, R4.sube, R4.za, R4.zb, R4.zc, R4.ze] <;> grind)
theorem cr_addr (p q r : Q2) : cr p (q + r) = cr p q + cr p r := by unfold cr; simp only [Q2.addx, Q2.addy]; (apply R4.ext <;> simp only [R4.adda, R4.addb, R4.addc, R4.adde, R4.mula, R4.mulb, R4.mulc, R4.mule, R4.nega, R4.negb, R4.negc, R4.nege, R4.suba, R4.subb, R4.subc, R4.sube, R4.za, R4.zb, R4.zc, R4.ze] <;> grind)
theorem cr_zerol (p : Q2) : cr 0 p = 0 := by unfold cr; simp only [Q2.zx, Q2.zy]; (apply R4.ext <;> simp only [R4.adda, R4.addb, R4.addc, R4.adde, R4.mula, R4.mulb, R4.mulc, R4.mule, R4.nega, R4.negb, R4.negc, R4.nege, R4.suba, R4.subb, R4.subc, R4.sube, R4.za, R4.zb, R4.zc, R4.ze] <;> grind)
theorem cr_zeror (p : Q2) : cr p 0 = 0 := by unfold cr; simp only [Q2.zx, Q2.zy]; (apply R4.ext <;> simp only [R4.adda, R4.addb, R4.addc, R4.adde, R4.mula, R4.mulb, R4.mulc, R4.mule, R4.nega, R4.negb, R4.negc, R4.nege, R4.suba, R4.subb, R4.subc, R4.sube, R4.za, R4.zb, R4.zc, R4.ze] <;> grind)
theorem cr_next (p q : Q2) : cr p q = cr p (q - p) := by unfold cr; simp only [Q2.subx, Q2.suby]; (apply R4.ext <;> simp only [R4.adda, R4.addb, R4.addc, R4.adde, R4.mula, R4.mulb, R4.mulc, R4.mule, R4.nega, R4.negb, R4.negc, R4.nege, R4.suba, R4.subb, R4.subc, R4.sube, R4.za, R4.zb, R4.zc, R4.ze] <;> grind)
/-- Above the real line, or along it to the right. -/
def Hi (p : Q2) : Prop := Pos p.y ∨ (p.y = 0 ∧ Pos p.x)
theorem hi_zero : ¬ Hi 0 := fun h => by
  rcases h with h | ⟨_, h⟩
  · exact R4.pos_zero h
  · exact R4.pos_zero h
theorem hi_not {p : Q2} (h : Hi p) (k : Hi (-p)) : False := by
  rcases h with h | ⟨h0, h⟩ <;> rcases k with k | ⟨k0, k⟩
  · exact R4.pos_not h k
  · rw [Q2.negy] at k0
    have : p.y = 0 := by rw [← R4.neg_neg p.y, k0, R4.neg_zero]
    exact R4.pos_ne h this
  · rw [Q2.negy, h0, R4.neg_zero] at k; exact R4.pos_zero k
  · exact R4.pos_not h k
theorem hi_or {p : Q2} (h : p ≠ 0) : Hi p ∨ Hi (-p) := by
  rcases R4.pos_tri p.y with h1 | h1 | h1
  · rcases R4.pos_tri p.x with h2 | h2 | h2
    · exact (h (Q2.ext h2 h1)).elim
    · exact .inl (.inr ⟨h1, h2⟩)
    · exact .inr (.inr ⟨by rw [Q2.negy, h1, R4.neg_zero], h2⟩)
  · exact .inl (.inl h1)
  · exact .inr (.inl h1)
theorem hi_nn {p : Q2} (h : Hi p) : NN p.y := by
  rcases h with h | ⟨h, _⟩
  · exact .inr h
  · exact .inl h
theorem hi_add {p q : Q2} (h : Hi p) (k : Hi q) : Hi (p + q) := by
  rcases h with h | ⟨h0, h⟩
  · exact .inl (R4.pos_nn h (hi_nn k))
  · rcases k with k | ⟨k0, k⟩
    · exact .inl (R4.nn_pos (.inl h0) k)
    · exact .inr ⟨by rw [Q2.addy, h0, k0, R4.add_zero], R4.pos_add h k⟩
theorem cr_turn (p q r : Q2) : cr p r * q.y = cr p q * r.y + cr q r * p.y := by unfold cr; (apply R4.ext <;> simp only [R4.adda, R4.addb, R4.addc, R4.adde, R4.mula, R4.mulb, R4.mulc, R4.mule, R4.nega, R4.negb, R4.negc, R4.nege, R4.suba, R4.subb, R4.subc, R4.sube, R4.za, R4.zb, R4.zc, R4.ze] <;> grind)
theorem cr_flat {p q : Q2} (h : p.y = 0) : cr p q = p.x * q.y := by unfold cr; rw [h]; (apply R4.ext <;> simp only [R4.adda, R4.addb, R4.addc, R4.adde, R4.mula, R4.mulb, R4.mulc, R4.mule, R4.nega, R4.negb, R4.negc, R4.nege, R4.suba, R4.subb, R4.subc, R4.sube, R4.za, R4.zb, R4.zc, R4.ze] <;> grind)
/-- Crosses within a half of the plane go on. -/
theorem hi_trans {p q r : Q2} (hp : Hi p) (hq : Hi q) (hr : Hi r) (h1 : Pos (cr p q)) (h2 : Pos (cr q r)) : Pos (cr p r) := by
  rcases hq with hq | ⟨h0, hq⟩
  · have hry : Pos r.y := by
      rcases hr with hr | ⟨r0, hr⟩
      · exact hr
      · exfalso
        have e : cr q r = -(q.y * r.x) := by unfold cr; rw [r0]; (apply R4.ext <;> simp only [R4.adda, R4.addb, R4.addc, R4.adde, R4.mula, R4.mulb, R4.mulc, R4.mule, R4.nega, R4.negb, R4.negc, R4.nege, R4.suba, R4.subb, R4.subc, R4.sube, R4.za, R4.zb, R4.zc, R4.ze] <;> grind)
        rw [e] at h2
        exact R4.pos_not (R4.pos_mul hq hr) h2
    refine R4.pos_of_mul (y := q.y) ?_ hq
    rw [cr_turn p q r]
    exact R4.pos_nn (R4.pos_mul h1 hry) (R4.nn_mul (.inr h2) (hi_nn hp))
  · exfalso
    have e : cr p q = -(p.y * q.x) := by unfold cr; rw [h0]; (apply R4.ext <;> simp only [R4.adda, R4.addb, R4.addc, R4.adde, R4.mula, R4.mulb, R4.mulc, R4.mule, R4.nega, R4.negb, R4.negc, R4.nege, R4.suba, R4.subb, R4.subc, R4.sube, R4.za, R4.zb, R4.zc, R4.ze] <;> grind)
    rw [e] at h1
    rcases hi_nn hp with h | h
    · rw [h, R4.zero_mul, R4.neg_zero] at h1; exact R4.pos_zero h1
    · exact R4.pos_not (R4.pos_mul h hq) h1
theorem dt_self {p : Q2} (h : p ≠ 0) : Pos (dt p p) := by
  unfold dt
  by_cases hx : p.x = 0
  · have hy : p.y ≠ 0 := fun hy => h (Q2.ext hx hy)
    exact R4.nn_pos (by rw [hx, R4.zero_mul]; exact .inl rfl) (R4.pos_sq hy)
  · refine R4.pos_nn (R4.pos_sq hx) ?_
    by_cases hy : p.y = 0
    · rw [hy, R4.zero_mul]; exact .inl rfl
    · exact .inr (R4.pos_sq hy)
theorem dt_along (p q : Q2) : p.x * dt q q = q.x * dt p q + q.y * cr p q ∧ p.y * dt q q = q.y * dt p q - q.x * cr p q := by
  constructor
  · unfold dt cr; (apply R4.ext <;> simp only [R4.adda, R4.addb, R4.addc, R4.adde, R4.mula, R4.mulb, R4.mulc, R4.mule, R4.nega, R4.negb, R4.negc, R4.nege, R4.suba, R4.subb, R4.subc, R4.sube, R4.za, R4.zb, R4.zc, R4.ze] <;> grind)
  · unfold dt cr; (apply R4.ext <;> simp only [R4.adda, R4.addb, R4.addc, R4.adde, R4.mula, R4.mulb, R4.mulc, R4.mule, R4.nega, R4.negb, R4.negc, R4.nege, R4.suba, R4.subb, R4.subc, R4.sube, R4.za, R4.zb, R4.zc, R4.ze] <;> grind)
/-- Steps along each other are in the same half. -/
theorem hi_same {p q : Q2} (h0 : cr p q = 0) (h : Pos (dt p q)) (hp : Hi p) : Hi q := by
  have hq : q ≠ 0 := by
    rintro rfl
    have e : dt p 0 = 0 := by unfold dt; simp only [Q2.zx, Q2.zy]; (apply R4.ext <;> simp only [R4.adda, R4.addb, R4.addc, R4.adde, R4.mula, R4.mulb, R4.mulc, R4.mule, R4.nega, R4.negb, R4.negc, R4.nege, R4.suba, R4.subb, R4.subc, R4.sube, R4.za, R4.zb, R4.zc, R4.ze] <;> grind)
    rw [e] at h; exact R4.pos_zero h
  have hs := dt_self hq
  obtain ⟨e1, e2⟩ := dt_along p q
  rw [h0] at e1 e2
  have e3 : p.x * dt q q = q.x * dt p q := by rw [e1]; (apply R4.ext <;> simp only [R4.adda, R4.addb, R4.addc, R4.adde, R4.mula, R4.mulb, R4.mulc, R4.mule, R4.nega, R4.negb, R4.negc, R4.nege, R4.suba, R4.subb, R4.subc, R4.sube, R4.za, R4.zb, R4.zc, R4.ze] <;> grind)
  have e4 : p.y * dt q q = q.y * dt p q := by rw [e2]; (apply R4.ext <;> simp only [R4.adda, R4.addb, R4.addc, R4.adde, R4.mula, R4.mulb, R4.mulc, R4.mule, R4.nega, R4.negb, R4.negc, R4.nege, R4.suba, R4.subb, R4.subc, R4.sube, R4.za, R4.zb, R4.zc, R4.ze] <;> grind)
  rcases hp with hp | ⟨p0, hp⟩
  · exact .inl (R4.pos_of_mul (by rw [← e4]; exact R4.pos_mul hp hs) h)
  · refine .inr ⟨R4.zero_of_mul (by rw [← e4, p0, R4.zero_mul]) h, R4.pos_of_mul (by rw [← e3]; exact R4.pos_mul hp hs) h⟩
theorem hi_alike {p q : Q2} (h0 : cr p q = 0) (h : Pos (dt p q)) : Hi p ↔ Hi q :=
  ⟨hi_same h0 h, hi_same (by rw [cr_swap, h0, R4.neg_zero]) (by rw [dt_comm]; exact h)⟩

section
variable {α : Type} (add : α → α → α) (z : α)
def sm (f : Nat → α) : Nat → α
  | 0 => z
  | n + 1 => add (sm f n) (f n)
variable {add z}
theorem sm_same {f g : Nat → α} : ∀ {n : Nat}, (∀ i, i < n → f i = g i) → sm add z f n = sm add z g n
  | 0, _ => rfl
  | n + 1, h => by
    show add _ _ = add _ _
    rw [sm_same fun i hi => h i (by omega), h n (by omega)]
variable (h0 : ∀ x, add z x = x) (h1 : ∀ x, add x z = x) (ha : ∀ x y w, add (add x y) w = add x (add y w)) (hc : ∀ x y, add x y = add y x)
include h0 h1 ha
theorem sm_first (f : Nat → α) : ∀ n, sm add z f (n + 1) = add (f 0) (sm add z (fun i => f (i + 1)) n)
  | 0 => by show add z (f 0) = add (f 0) z; rw [h0, h1]
  | n + 1 => by
    show add (sm add z f (n + 1)) (f (n + 1)) = add (f 0) (add (sm add z (fun i => f (i + 1)) n) (f (n + 1)))
    rw [sm_first f n, ha]
include hc
theorem sm_rot (f : Nat → α) (n : Nat) : sm add z (fun i => f ((i + 1) % n)) n = sm add z f n := by
  cases n with
  | zero => rfl
  | succ n =>
    have e : sm add z f (n + 1) = add (f 0) (sm add z (fun i => f (i + 1)) n) := sm_first h0 h1 ha f n
    rw [e]
    show add (sm add z (fun i => f ((i + 1) % (n + 1))) n) (f ((n + 1) % (n + 1))) = _
    rw [sm_same (g := fun i => f (i + 1)) fun i hi => by rw [Nat.mod_eq_of_lt (by omega)], Nat.mod_self, hc]
theorem sm_turn (f : Nat → α) (n k : Nat) : sm add z (fun i => f ((i + k) % n)) n = sm add z f n := by
  induction k with
  | zero => exact sm_same fun i hi => by rw [Nat.add_zero, Nat.mod_eq_of_lt hi]
  | succ k ih =>
    rw [← ih, ← sm_rot h0 h1 ha hc (fun i => f ((i + k) % n)) n]
    exact sm_same fun i hi => by rw [Nat.mod_add_mod, Nat.add_right_comm, Nat.add_assoc]
theorem sm_rev (f : Nat → α) : ∀ n, sm add z (fun i => f (n - 1 - i)) n = sm add z f n
  | 0 => rfl
  | n + 1 => by
    have e : sm add z (fun i => f (n + 1 - 1 - i)) (n + 1) = add (f n) (sm add z (fun i => f (n + 1 - 1 - (i + 1))) n) := sm_first h0 h1 ha (fun i => f (n + 1 - 1 - i)) n
    rw [e]
    show _ = add (sm add z f n) (f n)
    rw [hc, ← sm_rev f n]
    congr 1
    exact sm_same fun i hi => by rw [show n + 1 - 1 - (i + 1) = n - 1 - i by omega]
end
def sgR (x : R4) : Int := sg4 x.a x.b x.c x.e
theorem sgR_pos {x : R4} : sgR x = 1 ↔ Pos x := sg4_pos
theorem sgR_neg (x : R4) : sgR (-x) = -sgR x := sg4_neg _ _ _ _
theorem sgR_three (x : R4) : sgR x = 1 ∨ sgR x = -1 ∨ sgR x = 0 := sg4_range _ _ _ _
theorem sgR_zero {x : R4} : sgR x = 0 ↔ x = 0 := by
  unfold sgR
  rw [sg4_zero]
  constructor
  · rintro ⟨h1, h2, h3, h4⟩; exact R4.ext h1 h2 h3 h4
  · rintro rfl; exact ⟨rfl, rfl, rfl, rfl⟩
theorem sgR_lt {x : R4} : 0 < sgR x ↔ Pos x := by
  rw [← sgR_pos]
  rcases sgR_three x with h | h | h <;> rw [h] <;> omega
def hiB (p : Q2) : Bool := decide (0 < sgR p.y) || (decide (sgR p.y = 0) && decide (0 < sgR p.x))
theorem hiB_iff {p : Q2} : hiB p = true ↔ Hi p := by
  unfold hiB Hi
  simp only [Bool.or_eq_true, Bool.and_eq_true, decide_eq_true_iff, sgR_lt, sgR_zero]
theorem hiB_not {p : Q2} (h : p ≠ 0) : hiB (-p) = !hiB p := by
  cases e : hiB p
  · have := hi_or h
    rcases this with k | k
    · rw [← hiB_iff, e] at k; cases k
    · exact hiB_iff.2 k
  · cases e2 : hiB (-p)
    · rfl
    · exact (hi_not (hiB_iff.1 e) (hiB_iff.1 e2)).elim
/-- What a step that follows another adds to the turns. -/
def tn (p q : Q2) : Int := if 0 < sgR (cr p q) ∧ hiB p = false ∧ hiB q = true then 1 else if sgR (cr p q) < 0 ∧ hiB p = true ∧ hiB q = false then -1 else 0
/-- A step that may follow another. -/
def okS (p q : Q2) : Prop := ¬ (sgR (cr p q) = 0 ∧ sgR (dt p q) ≤ 0)
theorem okS_left {p q : Q2} (h : okS p q) : p ≠ 0 := by
  rintro rfl
  refine h ⟨sgR_zero.2 (cr_zerol q), ?_⟩
  have e : dt 0 q = 0 := by unfold dt; simp only [Q2.zx, Q2.zy]; (apply R4.ext <;> simp only [R4.adda, R4.addb, R4.addc, R4.adde, R4.mula, R4.mulb, R4.mulc, R4.mule, R4.nega, R4.negb, R4.negc, R4.nege, R4.suba, R4.subb, R4.subc, R4.sube, R4.za, R4.zb, R4.zc, R4.ze] <;> grind)
  rw [e, sgR_zero.2 rfl]; omega
theorem okS_right {p q : Q2} (h : okS p q) : q ≠ 0 := by
  rintro rfl
  refine h ⟨sgR_zero.2 (cr_zeror p), ?_⟩
  have e : dt p 0 = 0 := by unfold dt; simp only [Q2.zx, Q2.zy]; (apply R4.ext <;> simp only [R4.adda, R4.addb, R4.addc, R4.adde, R4.mula, R4.mulb, R4.mulc, R4.mule, R4.nega, R4.negb, R4.negc, R4.nege, R4.suba, R4.subb, R4.subc, R4.sube, R4.za, R4.zb, R4.zc, R4.ze] <;> grind)
  rw [e, sgR_zero.2 rfl]; omega
theorem okS_back {p q : Q2} (h : okS p q) : okS (-q) (-p) := by
  unfold okS at *
  rw [cr_neg, dt_neg, cr_swap, dt_comm, sgR_neg]
  omega
def hZ (p : Q2) : Int := if hiB p then 1 else 0
theorem same_half {p q : Q2} (h : okS p q) (h0 : sgR (cr p q) = 0) : hiB p = hiB q := by
  have hd : Pos (dt p q) := by
    rw [← sgR_lt]
    unfold okS at h
    omega
  exact Bool.eq_iff_iff.2 (by rw [hiB_iff, hiB_iff]; exact hi_alike (sgR_zero.1 h0) hd)
theorem tn_back {p q : Q2} (h : okS p q) : tn (-q) (-p) = hZ q - hZ p - tn p q := by
  have hp := hiB_not (okS_left h)
  have hq := hiB_not (okS_right h)
  have hs := same_half h
  unfold tn hZ
  rw [cr_neg, cr_swap, sgR_neg, hp, hq]
  rcases sgR_three (cr p q) with e | e | e
  · rw [e]; cases hiB p <;> cases hiB q <;> decide
  · rw [e]; cases hiB p <;> cases hiB q <;> decide
  · rw [hs e, e]; cases hiB q <;> decide
/-- A side that passes the height of a point. -/
def upB (p : Q2) : Bool := decide (0 < sgR p.y)
def wn (p q : Q2) : Int := if upB p = false ∧ upB q = true ∧ 0 < sgR (cr p q) then 1 else if upB p = true ∧ upB q = false ∧ sgR (cr p q) < 0 then -1 else 0
theorem wn_back (p q : Q2) : wn q p = -wn p q := by
  unfold wn
  rw [cr_swap, sgR_neg]
  rcases sgR_three (cr p q) with e | e | e <;> rw [e] <;> cases upB p <;> cases upB q <;> decide

abbrev sumI (f : Nat → Int) (n : Nat) : Int := sm (fun a b => a + b) 0 f n
abbrev sumR (f : Nat → R4) (n : Nat) : R4 := sm (fun a b => a + b) 0 f n
abbrev sumQ (f : Nat → Q2) (n : Nat) : Q2 := sm (fun a b => a + b) 0 f n
theorem sumI_turn (f : Nat → Int) (n k : Nat) : sumI (fun i => f ((i + k) % n)) n = sumI f n := sm_turn (fun _ => by omega) (fun _ => by omega) (fun _ _ _ => by omega) (fun _ _ => by omega) f n k
theorem sumI_rev (f : Nat → Int) (n : Nat) : sumI (fun i => f (n - 1 - i)) n = sumI f n := sm_rev (fun _ => by omega) (fun _ => by omega) (fun _ _ _ => by omega) (fun _ _ => by omega) f n
theorem sumR_turn (f : Nat → R4) (n k : Nat) : sumR (fun i => f ((i + k) % n)) n = sumR f n := sm_turn R4.zero_add R4.add_zero R4.add_assoc R4.add_comm f n k
theorem sumR_rev (f : Nat → R4) (n : Nat) : sumR (fun i => f (n - 1 - i)) n = sumR f n := sm_rev R4.zero_add R4.add_zero R4.add_assoc R4.add_comm f n
theorem sumI_add (f g : Nat → Int) : ∀ n, sumI (fun i => f i + g i) n = sumI f n + sumI g n
  | 0 => rfl
  | n + 1 => by
    have := sumI_add f g n
    show sumI (fun i => f i + g i) n + (f n + g n) = (sumI f n + f n) + (sumI g n + g n)
    omega
theorem sumI_neg (f : Nat → Int) : ∀ n, sumI (fun i => -f i) n = -sumI f n
  | 0 => rfl
  | n + 1 => by
    have := sumI_neg f n
    show sumI (fun i => -f i) n + -f n = -(sumI f n + f n)
    omega
theorem sumR_neg (f : Nat → R4) : ∀ n, sumR (fun i => -f i) n = -sumR f n
  | 0 => R4.neg_zero.symm
  | n + 1 => by
    show sumR (fun i => -f i) n + -f n = -(sumR f n + f n)
    rw [sumR_neg f n, R4.neg_add]
theorem sumR_add (f g : Nat → R4) : ∀ n, sumR (fun i => f i + g i) n = sumR f n + sumR g n
  | 0 => (R4.add_zero 0).symm
  | n + 1 => by
    show sumR (fun i => f i + g i) n + (f n + g n) = (sumR f n + f n) + (sumR g n + g n)
    rw [sumR_add f g n]; (apply R4.ext <;> simp only [R4.adda, R4.addb, R4.addc, R4.adde, R4.mula, R4.mulb, R4.mulc, R4.mule, R4.nega, R4.negb, R4.negc, R4.nege, R4.suba, R4.subb, R4.subc, R4.sube, R4.za, R4.zb, R4.zc, R4.ze] <;> grind)
theorem sumQ_neg (f : Nat → Q2) : ∀ n, sumQ (fun i => -f i) n = -sumQ f n
  | 0 => Q2.ext R4.neg_zero.symm R4.neg_zero.symm
  | n + 1 => by
    show sumQ (fun i => -f i) n + -f n = -(sumQ f n + f n)
    rw [sumQ_neg f n, Q2.neg_add]
theorem sumQ_split (f : Nat → Q2) (i : Nat) : ∀ l, sumQ f (i + l) = sumQ f i + sumQ (fun j => f (i + j)) l
  | 0 => (Q2.add_zero _).symm
  | l + 1 => by
    show sumQ f (i + l) + f (i + l) = sumQ f i + (sumQ (fun j => f (i + j)) l + f (i + l))
    rw [sumQ_split f i l, Q2.add_assoc]
theorem cr_suml (f : Nat → Q2) (r : Q2) : ∀ n, cr (sumQ f n) r = sumR (fun i => cr (f i) r) n
  | 0 => cr_zerol r
  | n + 1 => by
    show cr (sumQ f n + f n) r = sumR (fun i => cr (f i) r) n + cr (f n) r
    rw [cr_addl, cr_suml f r n]
theorem cr_sumr (f : Nat → Q2) (r : Q2) : ∀ n, cr r (sumQ f n) = sumR (fun i => cr r (f i)) n
  | 0 => cr_zeror r
  | n + 1 => by
    show cr r (sumQ f n + f n) = sumR (fun i => cr r (f i)) n + cr r (f n)
    rw [cr_addr, cr_sumr f r n]
theorem sumR_nn {f : Nat → R4} : ∀ {n : Nat}, (∀ i, i < n → NN (f i)) → NN (sumR f n)
  | 0, _ => .inl rfl
  | n + 1, h => R4.nn_add (sumR_nn fun i hi => h i (by omega)) (h n (by omega))
theorem sumR_pos {f : Nat → R4} : ∀ {n : Nat}, (∀ i, i < n → NN (f i)) → ∀ {k : Nat}, k < n → Pos (f k) → Pos (sumR f n)
  | 0, _, _, hk, _ => absurd hk (Nat.not_lt_zero _)
  | n + 1, h, k, hk, hp => by
    by_cases e : k = n
    · subst e; exact R4.nn_pos (sumR_nn fun i hi => h i (by omega)) hp
    · exact R4.pos_nn (sumR_pos (fun i hi => h i (by omega)) (show k < n by omega) hp) (h n (by omega))
theorem sumQ_hi {f : Nat → Q2} : ∀ {n : Nat}, 1 ≤ n → (∀ i, i < n → Hi (f i)) → Hi (sumQ f n)
  | 0, h, _ => absurd h (by omega)
  | n + 1, _, h => by
    show Hi (sumQ f n + f n)
    cases n with
    | zero => exact (Q2.zero_add (f 0)).symm ▸ h 0 (by omega)
    | succ n => exact hi_add (sumQ_hi (by omega) fun i hi => h i (by omega)) (h (n + 1) (by omega))
theorem sumI_nn {f : Nat → Int} : ∀ {n : Nat}, (∀ i, i < n → 0 ≤ f i) → 0 ≤ sumI f n
  | 0, _ => Int.le_refl 0
  | n + 1, h => by
    have h1 := sumI_nn (f := f) (n := n) fun i hi => h i (by omega)
    have h2 := h n (by omega)
    show 0 ≤ sumI f n + f n
    omega
theorem sumI_none {f : Nat → Int} : ∀ {n : Nat}, (∀ i, i < n → 0 ≤ f i) → sumI f n ≤ 0 → ∀ i, i < n → f i = 0
  | 0, _, _, i, hi => absurd hi (Nat.not_lt_zero i)
  | n + 1, h, hs, i, hi => by
    have h1 := sumI_nn (f := f) (n := n) fun i hi => h i (by omega)
    have h2 := h n (by omega)
    have hs : sumI f n + f n ≤ 0 := hs
    by_cases e : i = n
    · subst e; omega
    · exact sumI_none (n := n) (fun i hi => h i (by omega)) (by omega) i (by omega)
theorem sumI_one {f : Nat → Int} : ∀ {n : Nat}, (∀ i, i < n → f i = 0 ∨ f i = 1) → sumI f n = 1 → ∃ k, k < n ∧ f k = 1 ∧ ∀ i, i < n → i ≠ k → f i = 0
  | 0, _, hs => by have hs : (0 : Int) = 1 := hs; omega
  | n + 1, h, hs => by
    have hs : sumI f n + f n = 1 := hs
    rcases h n (by omega) with e | e
    · obtain ⟨k, hk, h1, h2⟩ := sumI_one (n := n) (fun i hi => h i (by omega)) (show sumI f n = 1 by omega)
      refine ⟨k, by omega, h1, fun i hi hne => ?_⟩
      by_cases e2 : i = n
      · rw [e2, e]
      · exact h2 i (by omega) hne
    · refine ⟨n, by omega, e, fun i hi hne => ?_⟩
      exact sumI_none (n := n) (fun i hi => by rcases h i (by omega) with h | h <;> omega) (by omega) i (by omega)

def stp' (P : Nat → Q2) (n i : Nat) : Q2 := P ((i + 1) % n) - P i
def bnd (P : Nat → Q2) (n i : Nat) : Int := sgR (cr (stp' P n ((i + n - 1) % n)) (stp' P n i))
def turnZ (P : Nat → Q2) (n : Nat) : Int := sumI (fun i => tn (stp' P n ((i + n - 1) % n)) (stp' P n i)) n
def okP (P : Nat → Q2) (n : Nat) : Prop := ∀ i, i < n → okS (stp' P n ((i + n - 1) % n)) (stp' P n i)
def areaR (P : Nat → Q2) (n : Nat) : R4 := sumR (fun i => cr (P i) (P ((i + 1) % n))) n
def windZ (P : Nat → Q2) (c : Q2) (n : Nat) : Int := sumI (fun i => wn (P i - c) (P ((i + 1) % n) - c)) n
/-- The corners in the opposite order. -/
def rv (P : Nat → Q2) (n : Nat) : Nat → Q2 := fun i => P (n - 1 - i)
theorem prev_of {n i : Nat} (h : i < n) : (i + n - 1) % n = if i = 0 then n - 1 else i - 1 := by
  by_cases e : i = 0
  · rw [if_pos e, e, Nat.zero_add, Nat.mod_eq_of_lt (by omega)]
  · rw [if_neg e, show i + n - 1 = (i - 1) + n by omega, Nat.add_mod_right, Nat.mod_eq_of_lt (by omega)]
theorem next_of {n i : Nat} (h : i < n) : (i + 1) % n = if i + 1 = n then 0 else i + 1 := by
  by_cases e : i + 1 = n
  · rw [if_pos e, e, Nat.mod_self]
  · rw [if_neg e, Nat.mod_eq_of_lt (by omega)]
/-- The steps of the opposite order. -/
theorem stp_rv (P : Nat → Q2) {n i : Nat} (h : i < n) : stp' (rv P n) n i = -stp' P n ((n - 1 - i + n - 1) % n) := by
  unfold stp' rv
  rw [Q2.neg_sub, prev_of (show n - 1 - i < n by omega), next_of h]
  by_cases e : i + 1 = n
  · rw [if_pos e, if_pos (show n - 1 - i = 0 by omega), next_of (show n - 1 < n by omega), if_pos (show n - 1 + 1 = n by omega), show n - 1 - 0 = n - 1 by omega, show n - 1 - i = 0 by omega]
  · rw [if_neg e, if_neg (show ¬ n - 1 - i = 0 by omega), next_of (show n - 1 - i - 1 < n by omega), if_neg (by omega), show n - 1 - (i + 1) = n - 1 - i - 1 by omega, show n - 1 - i - 1 + 1 = n - 1 - i by omega]
theorem stp_rv_prev (P : Nat → Q2) {n i : Nat} (h : i < n) : stp' (rv P n) n ((i + n - 1) % n) = -stp' P n (n - 1 - i) := by
  have hp : (i + n - 1) % n < n := Nat.mod_lt _ (by omega)
  rw [stp_rv P hp]
  congr 2
  rw [prev_of (show n - 1 - (i + n - 1) % n < n by omega), prev_of h]
  by_cases e : i = 0
  · rw [if_pos e, if_pos (by omega)]; omega
  · rw [if_neg e, if_neg (by omega)]; omega
theorem bnd_rv (P : Nat → Q2) {n i : Nat} (h : i < n) : bnd (rv P n) n i = -bnd P n (n - 1 - i) := by
  unfold bnd
  rw [stp_rv P h, stp_rv_prev P h, cr_neg, cr_swap, sgR_neg]
theorem okP_rv {P : Nat → Q2} {n : Nat} (h : okP P n) : okP (rv P n) n := fun i hi => by
  rw [stp_rv P hi, stp_rv_prev P hi]
  exact okS_back (h (n - 1 - i) (by omega))
theorem turnZ_rv {P : Nat → Q2} {n : Nat} (h : okP P n) : turnZ (rv P n) n = -turnZ P n := by
  unfold turnZ
  rw [show sumI (fun i => tn (stp' (rv P n) n ((i + n - 1) % n)) (stp' (rv P n) n i)) n = sumI (fun i => (fun j => hZ (stp' P n j) + (-hZ (stp' P n ((j + (n - 1)) % n)) + -tn (stp' P n ((j + n - 1) % n)) (stp' P n j))) (n - 1 - i)) n from sm_same fun i hi => by
    rw [stp_rv P hi, stp_rv_prev P hi, tn_back (h (n - 1 - i) (by omega))]
    show _ = hZ _ + (-hZ (stp' P n ((n - 1 - i + (n - 1)) % n)) + _)
    rw [show n - 1 - i + (n - 1) = n - 1 - i + n - 1 by omega]
    omega]
  rw [sumI_rev (fun j => hZ (stp' P n j) + (-hZ (stp' P n ((j + (n - 1)) % n)) + -tn (stp' P n ((j + n - 1) % n)) (stp' P n j))) n, sumI_add, sumI_add, sumI_neg, sumI_neg, sumI_turn (fun j => hZ (stp' P n j)) n (n - 1)]
  omega
theorem side_rv (P : Nat → Q2) {n i : Nat} (h : i < n) : rv P n i = P (((n - 1 - i + (n - 1)) % n + 1) % n) ∧ rv P n ((i + 1) % n) = P ((n - 1 - i + (n - 1)) % n) := by
  unfold rv
  rw [show n - 1 - i + (n - 1) = n - 1 - i + n - 1 by omega]
  have hp : (n - 1 - i + n - 1) % n < n := Nat.mod_lt _ (by omega)
  rw [next_of hp, prev_of (show n - 1 - i < n by omega), next_of h]
  by_cases e : i + 1 = n
  · rw [if_pos e, if_pos (show n - 1 - i = 0 by omega), if_pos (by omega)]
    exact ⟨by rw [show n - 1 - i = 0 by omega], by rw [Nat.sub_zero]⟩
  · rw [if_neg e, if_neg (show ¬ n - 1 - i = 0 by omega), if_neg (by omega)]
    exact ⟨by rw [show n - 1 - i - 1 + 1 = n - 1 - i by omega], by rw [show n - 1 - (i + 1) = n - 1 - i - 1 by omega]⟩
theorem areaR_rv (P : Nat → Q2) (n : Nat) : areaR (rv P n) n = -areaR P n := by
  unfold areaR
  rw [show sumR (fun i => cr (rv P n i) (rv P n ((i + 1) % n))) n = sumR (fun i => (fun j => (fun k => -cr (P k) (P ((k + 1) % n))) ((j + (n - 1)) % n)) (n - 1 - i)) n from sm_same fun i hi => by
    rw [(side_rv P hi).1, (side_rv P hi).2, cr_swap]]
  rw [sumR_rev (fun j => (fun k => -cr (P k) (P ((k + 1) % n))) ((j + (n - 1)) % n)) n, sumR_turn (fun k => -cr (P k) (P ((k + 1) % n))) n (n - 1), sumR_neg]
theorem windZ_rv (P : Nat → Q2) (c : Q2) (n : Nat) : windZ (rv P n) c n = -windZ P c n := by
  unfold windZ
  rw [show sumI (fun i => wn (rv P n i - c) (rv P n ((i + 1) % n) - c)) n = sumI (fun i => (fun j => (fun k => -wn (P k - c) (P ((k + 1) % n) - c)) ((j + (n - 1)) % n)) (n - 1 - i)) n from sm_same fun i hi => by
    rw [(side_rv P hi).1, (side_rv P hi).2, wn_back]]
  rw [sumI_rev (fun j => (fun k => -wn (P k - c) (P ((k + 1) % n) - c)) ((j + (n - 1)) % n)) n, sumI_turn (fun k => -wn (P k - c) (P ((k + 1) % n) - c)) n (n - 1), sumI_neg]

theorem steps_to (P : Nat → Q2) (n : Nat) : ∀ {k : Nat}, k < n → sumQ (stp' P n) k = P k - P 0
  | 0, _ => (Q2.sub_self _).symm
  | k + 1, h => by
    show sumQ (stp' P n) k + stp' P n k = _
    rw [steps_to P n (show k < n by omega)]
    unfold stp'
    rw [next_of (show k < n by omega), if_neg (by omega), Q2.sub_add_sub]
theorem steps_home (P : Nat → Q2) {n : Nat} (h : 1 ≤ n) : sumQ (stp' P n) n = 0 := by
  obtain ⟨m, rfl⟩ : ∃ m, n = m + 1 := ⟨n - 1, by omega⟩
  show sumQ (stp' P (m + 1)) m + stp' P (m + 1) m = 0
  rw [steps_to P (m + 1) (show m < m + 1 by omega)]
  unfold stp'
  rw [Nat.mod_self, Q2.sub_add_sub, Q2.sub_self]
/-- A round has steps in both halves. -/
theorem not_all_hi (P : Nat → Q2) {n : Nat} (h : 1 ≤ n) (hh : ∀ i, i < n → Hi (stp' P n i)) : False := by
  have := sumQ_hi h hh
  rw [steps_home P h] at this
  exact hi_zero this
theorem not_all_lo (P : Nat → Q2) {n : Nat} (h : 1 ≤ n) (hh : ∀ i, i < n → Hi (-stp' P n i)) : False := by
  have := sumQ_hi h hh
  rw [sumQ_neg, steps_home P h] at this
  have e : -(0 : Q2) = 0 := Q2.ext R4.neg_zero R4.neg_zero
  rw [e] at this
  exact hi_zero this
/-- Without bends to the right a turn adds 1 where a step goes up behind one that doesn't, nothing else. -/
theorem tn_left {p q : Q2} (h : okS p q) (hl : 0 ≤ sgR (cr p q)) : tn p q = if hiB p = false ∧ hiB q = true then 1 else 0 := by
  have hs := same_half h
  unfold tn
  rcases sgR_three (cr p q) with e | e | e
  · rw [e]; cases hiB p <;> cases hiB q <;> decide
  · omega
  · rw [hs e, e]; cases hiB q <;> decide
theorem lo_of {p : Q2} (h : p ≠ 0) (e : hiB p = false) : Hi (-p) := by
  rw [← hiB_iff, hiB_not h, e]; rfl
theorem left_turns {P : Nat → Q2} {n : Nat} (h1 : 1 ≤ n) (h : okP P n) (hl : ∀ i, i < n → 0 ≤ bnd P n i) : 1 ≤ turnZ P n := by
  have ht : ∀ i, i < n → tn (stp' P n ((i + n - 1) % n)) (stp' P n i) = if hiB (stp' P n ((i + n - 1) % n)) = false ∧ hiB (stp' P n i) = true then 1 else 0 := fun i hi => tn_left (h i hi) (hl i hi)
  have hnn : ∀ i, i < n → 0 ≤ tn (stp' P n ((i + n - 1) % n)) (stp' P n i) := fun i hi => by rw [ht i hi]; split <;> omega
  rcases Int.lt_or_le 0 (turnZ P n) with k | k
  · omega
  · exfalso
    have h0 := sumI_none hnn k
    have hk : ∀ i, i < n → hiB (stp' P n i) = true → hiB (stp' P n ((i + n - 1) % n)) = true := fun i hi e => by
      have := h0 i hi
      rw [ht i hi, e] at this
      cases e2 : hiB (stp' P n ((i + n - 1) % n))
      · rw [e2] at this; simp at this
      · rfl
    have hne : ∀ i, i < n → stp' P n i ≠ 0 := fun i hi => okS_right (h i hi)
    cases e0 : hiB (stp' P n 0)
    · refine not_all_lo P h1 fun i hi => lo_of (hne i hi) ?_
      induction i with
      | zero => exact e0
      | succ i ih =>
        cases e : hiB (stp' P n (i + 1))
        · rfl
        · have := hk (i + 1) hi e
          rw [prev_of hi, if_neg (by omega), show i + 1 - 1 = i by omega, ih (by omega)] at this
          cases this
    · have hl' := hk 0 (by omega) e0
      rw [prev_of (by omega), if_pos rfl] at hl'
      have hall : ∀ d, d < n → hiB (stp' P n (n - 1 - d)) = true := fun d => by
        induction d with
        | zero => exact fun _ => hl'
        | succ d ih =>
          intro hd
          have := hk (n - 1 - d) (by omega) (ih (by omega))
          rwa [prev_of (by omega), if_neg (by omega), show n - 1 - d - 1 = n - 1 - (d + 1) by omega] at this
      refine not_all_hi P h1 fun i hi => hiB_iff.1 ?_
      have := hall (n - 1 - i) (by omega)
      rwa [show n - 1 - (n - 1 - i) = i by omega] at this

/-- All bends to the left, one turn, and the first step is the one that goes up. -/
structure Cvx (P : Nat → Q2) (n : Nat) : Prop where
  n3 : 3 ≤ n
  bend : ∀ i, i < n → Pos (cr (stp' P n ((i + n - 1) % n)) (stp' P n i))
  first : hiB (stp' P n 0) = true
  last : hiB (stp' P n (n - 1)) = false
  back : ∀ i, i + 1 < n → hiB (stp' P n (i + 1)) = true → hiB (stp' P n i) = true
/-- A polygon that begins with another corner. -/
def turned (P : Nat → Q2) (n k : Nat) : Nat → Q2 := fun i => P ((i + k) % n)
theorem stp_turned (P : Nat → Q2) {n k i : Nat} (h : i < n) : stp' (turned P n k) n i = stp' P n ((i + k) % n) := by
  unfold stp' turned
  rw [Nat.mod_add_mod, Nat.mod_add_mod, Nat.add_right_comm]
theorem prev_turned {n k i : Nat} (h : i < n) : ((i + n - 1) % n + k) % n = ((i + k) % n + n - 1) % n := by
  rw [Nat.mod_add_mod, show (i + k) % n + n - 1 = (i + k) % n + (n - 1) by omega, Nat.mod_add_mod]
  congr 1
  omega
theorem areaR_turned (P : Nat → Q2) (n k : Nat) : areaR (turned P n k) n = areaR P n := by
  unfold areaR
  rw [← sumR_turn (fun i => cr (P i) (P ((i + 1) % n))) n k]
  refine sm_same fun i hi => ?_
  unfold turned
  rw [Nat.mod_add_mod, Nat.mod_add_mod, Nat.add_right_comm]
theorem windZ_turned (P : Nat → Q2) (c : Q2) (n k : Nat) : windZ (turned P n k) c n = windZ P c n := by
  unfold windZ
  rw [← sumI_turn (fun i => wn (P i - c) (P ((i + 1) % n) - c)) n k]
  refine sm_same fun i hi => ?_
  unfold turned
  rw [Nat.mod_add_mod, Nat.mod_add_mod, Nat.add_right_comm]
theorem stp_ne_right {P : Nat → Q2} {n i : Nat} (h : Pos (cr (stp' P n ((i + n - 1) % n)) (stp' P n i))) : stp' P n i ≠ 0 := fun e => by
  rw [e, cr_zeror] at h
  exact R4.pos_zero h
theorem cvx_of {P : Nat → Q2} {n : Nat} (h3 : 3 ≤ n) (hb : ∀ i, i < n → bnd P n i = 1) (ht : turnZ P n = 1) : ∃ k, Cvx (turned P n k) n := by
  have hok : okP P n := fun i hi h => by
    have := hb i hi
    unfold bnd at this
    omega
  have hterm : ∀ i, i < n → tn (stp' P n ((i + n - 1) % n)) (stp' P n i) = if hiB (stp' P n ((i + n - 1) % n)) = false ∧ hiB (stp' P n i) = true then 1 else 0 := fun i hi => tn_left (hok i hi) (by have := hb i hi; unfold bnd at this; omega)
  obtain ⟨k, hk, h1, h2⟩ := sumI_one (n := n) (f := fun i => tn (stp' P n ((i + n - 1) % n)) (stp' P n i)) (fun i hi => by
    show tn _ _ = 0 ∨ tn _ _ = 1
    rw [hterm i hi]; split
    · exact .inr rfl
    · exact .inl rfl) ht
  have h1 : tn (stp' P n ((k + n - 1) % n)) (stp' P n k) = 1 := h1
  rw [hterm k hk] at h1
  have hk1 : hiB (stp' P n ((k + n - 1) % n)) = false ∧ hiB (stp' P n k) = true := by
    by_cases e : hiB (stp' P n ((k + n - 1) % n)) = false ∧ hiB (stp' P n k) = true
    · exact e
    · rw [if_neg e] at h1; omega
  refine ⟨k, h3, fun i hi => ?_, ?_, ?_, fun i hi e => ?_⟩
  · rw [stp_turned P hi, stp_turned P (Nat.mod_lt _ (by omega)), prev_turned hi]
    have := hb ((i + k) % n) (Nat.mod_lt _ (by omega))
    exact sgR_pos.1 this
  · rw [stp_turned P (by omega), Nat.zero_add, Nat.mod_eq_of_lt hk]; exact hk1.2
  · rw [stp_turned P (by omega), show n - 1 + k = k + n - 1 by omega]; exact hk1.1
  · rw [stp_turned P hi] at e
    rw [stp_turned P (by omega)]
    have hlt : (i + 1 + k) % n < n := Nat.mod_lt _ (by omega)
    have hne : (i + 1 + k) % n ≠ k := fun h => by
      have e1 : (i + 1 + k) % n = (0 + k) % n := by rw [h, Nat.zero_add, Nat.mod_eq_of_lt hk]
      have h5 := Nat.sub_mod_eq_zero_of_mod_eq e1
      rw [show i + 1 + k - (0 + k) = i + 1 by omega, Nat.mod_eq_of_lt hi] at h5
      omega
    have h3 : tn (stp' P n (((i + 1 + k) % n + n - 1) % n)) (stp' P n ((i + 1 + k) % n)) = 0 := h2 _ hlt hne
    rw [hterm _ hlt] at h3
    have hprev : ((i + 1 + k) % n + n - 1) % n = (i + k) % n := by
      rw [show (i + 1 + k) % n + n - 1 = (i + 1 + k) % n + (n - 1) by omega, Nat.mod_add_mod, show i + 1 + k + (n - 1) = i + k + n by omega, Nat.add_mod_right]
    rw [hprev, e] at h3
    cases e2 : hiB (stp' P n ((i + k) % n))
    · rw [e2] at h3; simp at h3
    · rfl
/-- Where the steps go down. -/
theorem cut_of {p : Nat → Bool} : ∀ n, (∀ i, i + 1 < n → p (i + 1) = true → p i = true) → ∃ m, m ≤ n ∧ ∀ i, i < n → (p i = true ↔ i < m)
  | 0, _ => ⟨0, Nat.le_refl _, fun i hi => absurd hi (Nat.not_lt_zero i)⟩
  | n + 1, h => by
    obtain ⟨m, hm, hi⟩ := cut_of n fun i hi => h i (by omega)
    cases e : p n with
    | false =>
      refine ⟨m, by omega, fun i hin => ?_⟩
      by_cases e2 : i = n
      · subst e2; rw [e]; constructor
        · intro h; cases h
        · intro h; omega
      · exact hi i (by omega)
    | true =>
      refine ⟨n + 1, Nat.le_refl _, fun i hin => ⟨fun _ => hin, fun _ => ?_⟩⟩
      have go : ∀ d, d ≤ n → p (n - d) = true := fun d => by
        induction d with
        | zero => exact fun _ => e
        | succ d ih => exact fun hd => h (n - (d + 1)) (by omega) (by rw [show n - (d + 1) + 1 = n - d by omega]; exact ih (by omega))
      have := go (n - i) (by omega)
      rwa [show n - (n - i) = i by omega] at this
section
variable {P : Nat → Q2} {n m : Nat} (C : Cvx P n) (hm : ∀ i, i < n → (hiB (stp' P n i) = true ↔ i < m)) (hmn : m ≤ n)
include C hm
theorem cvx_m1 : 1 ≤ m := (hm 0 (by have := C.n3; omega)).1 C.first
theorem cvx_mn : m < n := by
  have h := hm (n - 1) (by have := C.n3; omega)
  have := C.n3
  rw [C.last] at h
  have : ¬ n - 1 < m := fun k => by have := h.2 k; cases this
  omega
theorem cvx_hi {i : Nat} (h : i < m) : Hi (stp' P n i) := by
  have := cvx_mn C hm
  exact hiB_iff.1 ((hm i (by omega)).2 h)
theorem cvx_lo {i : Nat} (h : m ≤ i) (hi : i < n) : Hi (-stp' P n i) := by
  refine lo_of (stp_ne_right (C.bend i hi)) ?_
  cases e : hiB (stp' P n i)
  · rfl
  · have := (hm i hi).1 e; omega
theorem cvx_next {i : Nat} (h : i + 1 < n) : Pos (cr (stp' P n i) (stp' P n (i + 1))) := by
  have := C.bend (i + 1) h
  rwa [prev_of h, if_neg (by omega), show i + 1 - 1 = i by omega] at this
theorem cvx_up {j : Nat} : ∀ d, j + d + 1 < m → Pos (cr (stp' P n j) (stp' P n (j + d + 1)))
  | 0, h => cvx_next C hm (by have := cvx_mn C hm; omega)
  | d + 1, h => by
    refine hi_trans (cvx_hi C hm (by omega)) (cvx_hi C hm (show j + d + 1 < m by omega)) (cvx_hi C hm (by omega)) (cvx_up d (by omega)) ?_
    exact cvx_next C hm (i := j + d + 1) (by have := cvx_mn C hm; omega)
theorem cvx_down {j : Nat} (hj : m ≤ j) : ∀ d, j + d + 1 < n → Pos (cr (stp' P n j) (stp' P n (j + d + 1)))
  | 0, h => cvx_next C hm (by omega)
  | d + 1, h => by
    have h1 := cvx_down hj d (by omega)
    have h2 := cvx_next C hm (i := j + d + 1) (by omega)
    rw [← cr_neg] at h1 h2 ⊢
    exact hi_trans (cvx_lo C hm hj (by omega)) (cvx_lo C hm (by omega) (by omega)) (cvx_lo C hm (by omega) (by omega)) h1 h2
/-- What a corner adds to the area, seen from the first corner. -/
theorem cvx_part {i : Nat} (h : i < n) : NN (cr (sumQ (stp' P n) i) (stp' P n i)) ∧ ((1 ≤ i ∧ i < m) ∨ (m ≤ i ∧ i + 1 < n) → Pos (cr (sumQ (stp' P n) i) (stp' P n i))) := by
  by_cases hi : i < m
  · rw [cr_suml]
    have hp : ∀ j, j < i → Pos (cr (stp' P n j) (stp' P n i)) := fun j hj => by
      have := cvx_up C hm (j := j) (i - j - 1) (by omega)
      rwa [show j + (i - j - 1) + 1 = i by omega] at this
    refine ⟨sumR_nn fun j hj => .inr (hp j hj), fun k => ?_⟩
    have h1 : 1 ≤ i := by omega
    exact sumR_pos (fun j hj => .inr (hp j hj)) (show 0 < i by omega) (hp 0 (by omega))
  · have e : cr (sumQ (stp' P n) i) (stp' P n i) = sumR (fun l => cr (stp' P n i) (stp' P n (i + l))) (n - i) := by
      have h0 := steps_home P (n := n) (by have := C.n3; omega)
      have hs := sumQ_split (stp' P n) i (n - i)
      rw [show i + (n - i) = n by omega, h0] at hs
      rw [← cr_sumr]
      have h1 : cr 0 (stp' P n i) = cr (sumQ (stp' P n) i) (stp' P n i) + cr (sumQ (fun j => stp' P n (i + j)) (n - i)) (stp' P n i) := by rw [← cr_addl, ← hs]
      rw [cr_zerol] at h1
      rw [cr_swap (sumQ (fun j => stp' P n (i + j)) (n - i)) (stp' P n i)]
      have h2 : cr (sumQ (stp' P n) i) (stp' P n i) = (cr (sumQ (stp' P n) i) (stp' P n i) + cr (sumQ (fun j => stp' P n (i + j)) (n - i)) (stp' P n i)) + -cr (sumQ (fun j => stp' P n (i + j)) (n - i)) (stp' P n i) := by
        rw [R4.add_assoc, R4.add_neg, R4.add_zero]
      rw [h2, ← h1, R4.zero_add]
    rw [e]
    have hp : ∀ l, l < n - i → NN (cr (stp' P n i) (stp' P n (i + l))) := fun l hl => by
      cases l with
      | zero => exact .inl (cr_self _)
      | succ l => exact .inr (cvx_down C hm (show m ≤ i by omega) l (by omega))
    refine ⟨sumR_nn hp, fun k => sumR_pos hp (k := 1) (by omega) ?_⟩
    exact cvx_down C hm (show m ≤ i by omega) 0 (by omega)
include hmn
theorem cvx_area : Pos (areaR P n) := by
  have e : areaR P n = sumR (fun i => cr (sumQ (stp' P n) i) (stp' P n i)) n := by
    unfold areaR
    rw [show sumR (fun i => cr (P i) (P ((i + 1) % n))) n = sumR (fun i => cr (P 0) (stp' P n i) + cr (sumQ (stp' P n) i) (stp' P n i)) n from sm_same fun i hi => by
      rw [cr_next]
      show cr (P i) (stp' P n i) = _
      rw [← cr_addl, steps_to P n hi, Q2.add_sub]]
    rw [sumR_add, ← cr_sumr, steps_home P (by have := C.n3; omega), cr_zeror, R4.zero_add]
  rw [e]
  have h3 := C.n3
  have h1 := cvx_m1 C hm
  have h2 := cvx_mn C hm
  by_cases h : 2 ≤ m
  · exact sumR_pos (fun i hi => (cvx_part C hm hi).1) (k := 1) (by omega) ((cvx_part C hm (by omega)).2 (.inl ⟨by omega, by omega⟩))
  · exact sumR_pos (fun i hi => (cvx_part C hm hi).1) (k := m) (by omega) ((cvx_part C hm (by omega)).2 (.inr ⟨by omega, by omega⟩))
/-- A convex polygon goes round a point once or not at all. -/
theorem cvx_wind (c : Q2) : -1 ≤ windZ P c n ∧ windZ P c n ≤ 1 := by
  have h3 := C.n3
  have h1 := cvx_m1 C hm
  have h2 := cvx_mn C hm
  obtain ⟨Y, hY⟩ : ∃ Y : Nat → Q2, Y = fun i => P (i % n) - c := ⟨_, rfl⟩
  have hw : windZ P c n = sumI (fun i => wn (Y i) (Y (i + 1))) n := by
    unfold windZ
    refine sm_same fun i hi => ?_
    rw [hY]
    show _ = wn (P (i % n) - c) (P ((i + 1) % n) - c)
    rw [Nat.mod_eq_of_lt hi]
  have hst : ∀ i, i < n → Y (i + 1) = Y i + stp' P n i := fun i hi => by
    rw [hY]
    show P ((i + 1) % n) - c = (P (i % n) - c) + (P ((i + 1) % n) - P i)
    rw [Nat.mod_eq_of_lt hi]
    exact Q2.ext (by simp only [Q2.addx, Q2.subx]; (apply R4.ext <;> simp only [R4.adda, R4.addb, R4.addc, R4.adde, R4.mula, R4.mulb, R4.mulc, R4.mule, R4.nega, R4.negb, R4.negc, R4.nege, R4.suba, R4.subb, R4.subc, R4.sube, R4.za, R4.zb, R4.zc, R4.ze] <;> grind)) (by simp only [Q2.addy, Q2.suby]; (apply R4.ext <;> simp only [R4.adda, R4.addb, R4.addc, R4.adde, R4.mula, R4.mulb, R4.mulc, R4.mule, R4.nega, R4.negb, R4.negc, R4.nege, R4.suba, R4.subb, R4.subc, R4.sube, R4.za, R4.zb, R4.zc, R4.ze] <;> grind))
  have hup : ∀ i, i < m → upB (Y i) = true → upB (Y (i + 1)) = true := fun i hi e => by
    unfold upB at *
    rw [decide_eq_true_iff, sgR_lt] at *
    rw [hst i (by omega), Q2.addy]
    exact R4.pos_nn e (hi_nn (cvx_hi C hm hi))
  have hdn : ∀ i, m ≤ i → i < n → upB (Y i) = false → upB (Y (i + 1)) = false := fun i hi hn e => by
    unfold upB at *
    rw [decide_eq_false_iff_not, sgR_lt] at *
    intro k
    rw [hst i hn, Q2.addy] at k
    have hl := hi_nn (cvx_lo C hm hi hn)
    rw [Q2.negy] at hl
    have := R4.pos_nn k hl
    rw [R4.add_assoc, R4.add_neg, R4.add_zero] at this
    exact e this
  rw [hw]
  have hA : ∀ k, k ≤ m → 0 ≤ sumI (fun i => wn (Y i) (Y (i + 1))) k ∧ sumI (fun i => wn (Y i) (Y (i + 1))) k ≤ if upB (Y k) then 1 else 0 := fun k => by
    induction k with
    | zero => intro _; exact ⟨Int.le_refl _, by show (0 : Int) ≤ _; split <;> omega⟩
    | succ k ih =>
      intro hk
      obtain ⟨a, b⟩ := ih (by omega)
      have hu := hup k (by omega)
      show 0 ≤ sumI (fun i => wn (Y i) (Y (i + 1))) k + wn (Y k) (Y (k + 1)) ∧ sumI (fun i => wn (Y i) (Y (i + 1))) k + wn (Y k) (Y (k + 1)) ≤ _
      generalize sumI (fun i => wn (Y i) (Y (i + 1))) k = S at *
      unfold wn
      cases e1 : upB (Y k)
      · rw [e1] at b
        simp only [Bool.false_eq_true, if_false] at b
        cases e2 : upB (Y (k + 1))
        · simp; omega
        · simp only [true_and, if_true, Bool.true_eq_false, Bool.false_eq_true, false_and, if_false]
          split <;> omega
      · rw [e1] at b
        rw [hu e1]
        simp only [if_true] at b
        simp; omega
  have hB : ∀ d, m + d ≤ n → sumI (fun i => wn (Y i) (Y (i + 1))) (m + d) ≤ 1 ∧ (if upB (Y (m + d)) then 0 else -1) ≤ sumI (fun i => wn (Y i) (Y (i + 1))) (m + d) := fun d => by
    induction d with
    | zero =>
      intro _
      obtain ⟨a, b⟩ := hA m (Nat.le_refl _)
      refine ⟨?_, ?_⟩
      · show sumI (fun i => wn (Y i) (Y (i + 1))) m ≤ 1
        split at b <;> omega
      · show _ ≤ sumI (fun i => wn (Y i) (Y (i + 1))) m
        split <;> omega
    | succ d ih =>
      intro hk
      obtain ⟨a, b⟩ := ih (by omega)
      have hu := hdn (m + d) (by omega) (by omega)
      show sumI (fun i => wn (Y i) (Y (i + 1))) (m + d) + wn (Y (m + d)) (Y (m + d + 1)) ≤ 1 ∧ (if upB (Y (m + d + 1)) then 0 else -1) ≤ sumI (fun i => wn (Y i) (Y (i + 1))) (m + d) + wn (Y (m + d)) (Y (m + d + 1))
      generalize sumI (fun i => wn (Y i) (Y (i + 1))) (m + d) = S at *
      generalize Y (m + d) = y at *
      generalize Y (m + d + 1) = y2 at *
      unfold wn
      cases e1 : upB y
      · rw [e1] at b
        rw [hu e1]
        simp only [Bool.false_eq_true, if_false] at b
        simp; omega
      · rw [e1] at b
        simp only [if_true] at b
        cases e2 : upB y2
        · simp only [true_and, if_true, Bool.true_eq_false, Bool.false_eq_true, false_and, if_false]
          split <;> omega
        · simp; omega
  have := hB (n - m) (by omega)
  rw [show m + (n - m) = n by omega] at this
  obtain ⟨a, b⟩ := this
  refine ⟨?_, a⟩
  split at b <;> omega
end
theorem convex_left {P : Nat → Q2} {n : Nat} (h3 : 3 ≤ n) (hb : ∀ i, i < n → bnd P n i = 1) (ht : turnZ P n = 1) : Pos (areaR P n) ∧ ∀ c, -1 ≤ windZ P c n ∧ windZ P c n ≤ 1 := by
  obtain ⟨k, C⟩ := cvx_of h3 hb ht
  obtain ⟨m, hmn, hm⟩ := cut_of (p := fun i => hiB (stp' (turned P n k) n i)) n C.back
  have hA := cvx_area C hm hmn
  rw [areaR_turned] at hA
  refine ⟨hA, fun c => ?_⟩
  have hW := cvx_wind C hm hmn c
  rwa [windZ_turned] at hW
theorem convex_right {P : Nat → Q2} {n : Nat} (h3 : 3 ≤ n) (hb : ∀ i, i < n → bnd P n i = -1) (ht : turnZ P n = -1) : Pos (-areaR P n) ∧ ∀ c, -1 ≤ windZ P c n ∧ windZ P c n ≤ 1 := by
  have hok : okP P n := fun i hi h => by
    have := hb i hi
    unfold bnd at this
    omega
  have h := convex_left (P := rv P n) h3 (fun i hi => by rw [bnd_rv P hi, hb _ (by omega)]; rfl) (by rw [turnZ_rv hok, ht]; rfl)
  rw [areaR_rv] at h
  refine ⟨h.1, fun c => ?_⟩
  have := h.2 c
  rw [windZ_rv] at this
  omega

def onS (p q : Q2) : Bool := decide (sgR (cr p q) = 0) && decide (sgR (dt p q) ≤ 0)
theorem onS_back (p q : Q2) : onS q p = onS p q := by
  unfold onS
  rw [cr_swap, dt_comm, sgR_neg]
  congr 1
  exact decide_eq_decide.2 (by omega)
def onP (P : Nat → Q2) (c : Q2) (n : Nat) : Bool := (List.range n).any fun i => onS (P i - c) (P ((i + 1) % n) - c)
theorem onP_iff {P : Nat → Q2} {c : Q2} {n : Nat} : onP P c n = true ↔ ∃ i, i < n ∧ onS (P i - c) (P ((i + 1) % n) - c) = true := by
  unfold onP
  simp only [List.any_eq_true, List.mem_range]
theorem onP_some {P : Nat → Q2} {c : Q2} {n : Nat} (h : onP (rv P n) c n = true) : onP P c n = true := by
  obtain ⟨i, hi, e⟩ := onP_iff.1 h
  rw [(side_rv P hi).1, (side_rv P hi).2, onS_back] at e
  exact onP_iff.2 ⟨_, Nat.mod_lt _ (by omega), e⟩
theorem onP_rv (P : Nat → Q2) (c : Q2) (n : Nat) : onP (rv P n) c n = onP P c n := by
  refine Bool.eq_iff_iff.2 ⟨onP_some, fun h => ?_⟩
  have e : ∀ i, i < n → rv (rv P n) n i = P i := fun i hi => by
    show P (n - 1 - (n - 1 - i)) = P i
    rw [show n - 1 - (n - 1 - i) = i by omega]
  obtain ⟨i, hi, k⟩ := onP_iff.1 h
  refine onP_some (P := rv P n) (onP_iff.2 ⟨i, hi, ?_⟩)
  rw [e i hi, e _ (Nat.mod_lt _ (by omega))]
  exact k
/-- Convex polygons, as the program asks. -/
def convP (P : Nat → Q2) (n : Nat) : Prop := 3 ≤ n ∧ okP P n ∧ ((∀ i, i < n → bnd P n i = 1) ∧ turnZ P n = 1 ∨ (∀ i, i < n → bnd P n i = -1) ∧ turnZ P n = -1)
theorem convP_rv {P : Nat → Q2} {n : Nat} (h : convP P n) : convP (rv P n) n := by
  obtain ⟨h3, hok, h | h⟩ := h
  · exact ⟨h3, okP_rv hok, .inr ⟨fun i hi => by rw [bnd_rv P hi, h.1 _ (by omega)], by rw [turnZ_rv hok, h.2]⟩⟩
  · exact ⟨h3, okP_rv hok, .inl ⟨fun i hi => by rw [bnd_rv P hi, h.1 _ (by omega)]; rfl, by rw [turnZ_rv hok, h.2]; rfl⟩⟩
theorem convP_area {P : Nat → Q2} {n : Nat} (h : convP P n) : sgR (areaR P n) = bnd P n 0 := by
  obtain ⟨h3, hok, h | h⟩ := h
  · rw [h.1 0 (by omega), sgR_pos.2 (convex_left h3 h.1 h.2).1]
  · have := sgR_pos.2 (convex_right h3 h.1 h.2).1
    rw [sgR_neg] at this
    rw [h.1 0 (by omega)]; omega
theorem convP_wind {P : Nat → Q2} {n : Nat} (h : convP P n) (c : Q2) : -1 ≤ windZ P c n ∧ windZ P c n ≤ 1 := by
  obtain ⟨h3, hok, h | h⟩ := h
  · exact (convex_left h3 h.1 h.2).2 c
  · exact (convex_right h3 h.1 h.2).2 c

end Go.Proofs.YtdpakhggpgdgbaaGreat
/- Out of the text PolyV: what the draws of polygons need. -/
namespace Go.Proofs.YtdpakhggpgdgbaaGreat
set_option maxRecDepth 20000
set_option linter.unusedVariables false
set_option linter.unusedSimpArgs false
def q4 (f : Nat → Int) : R4 := ⟨f 0, f 1, f 2, f 3⟩
/-- Four times an exact point, as a vector. -/
def qv (a : Nat → Int) : Q2 := ⟨q4 (rea a), q4 (ima a)⟩
theorem sgR_q4 (f : Nat → Int) : sgR (q4 f) = sgf f := rfl
/-- What the cross and the dot of two points are made of. -/
def crs (a b : Nat → Int) : Nat → Int := ima (prd (mir a) b)
def dts (a b : Nat → Int) : Nat → Int := rea (prd (mir a) b)
set_option maxHeartbeats 4000000 in
theorem crs_parts (a b : Nat → Int) : ∀ j, j < 4 → stm (rea a) (ima b) j - stm (ima a) (rea b) j = 4 * crs a b j := by
  refine four_cases ?_ ?_ ?_ ?_ <;> simp [crs, stm, rea, ima, f4, prd, red, outer, inner_at, mir] <;> grind
set_option maxHeartbeats 4000000 in
theorem dts_parts (a b : Nat → Int) : ∀ j, j < 4 → stm (rea a) (rea b) j + stm (ima a) (ima b) j = 4 * dts a b j := by
  refine four_cases ?_ ?_ ?_ ?_ <;> simp [dts, stm, rea, ima, f4, prd, red, outer, inner_at, mir] <;> grind
def four (x : R4) : R4 := ⟨4 * x.a, 4 * x.b, 4 * x.c, 4 * x.e⟩
theorem q4_mul (f g : Nat → Int) : q4 f * q4 g = q4 (stm f g) := by
  apply R4.ext <;> simp only [R4.mula, R4.mulb, R4.mulc, R4.mule, q4, stm, f4] <;> grind
theorem cr_qv (a b : Nat → Int) : cr (qv a) (qv b) = four (q4 (crs a b)) := by
  unfold cr qv four
  simp only [q4_mul]
  apply R4.ext <;> simp only [R4.suba, R4.subb, R4.subc, R4.sube, q4]
  · exact crs_parts a b 0 (by omega)
  · exact crs_parts a b 1 (by omega)
  · exact crs_parts a b 2 (by omega)
  · exact crs_parts a b 3 (by omega)
theorem dt_qv (a b : Nat → Int) : dt (qv a) (qv b) = four (q4 (dts a b)) := by
  unfold dt qv four
  simp only [q4_mul]
  apply R4.ext <;> simp only [R4.adda, R4.addb, R4.addc, R4.adde, q4]
  · exact dts_parts a b 0 (by omega)
  · exact dts_parts a b 1 (by omega)
  · exact dts_parts a b 2 (by omega)
  · exact dts_parts a b 3 (by omega)
theorem four_pos {x : R4} : R4.Pos (four x) ↔ R4.Pos x := by
  constructor
  · exact fun h => p4_four h
  · intro h
    have h2 := R4.pos_add (R4.pos_add h h) (R4.pos_add h h)
    have e : x + x + (x + x) = four x := by
      apply R4.ext <;> simp only [R4.adda, R4.addb, R4.addc, R4.adde, four] <;> omega
    rwa [e] at h2
theorem four_neg (x : R4) : four (-x) = -four x := by
  apply R4.ext <;> simp only [R4.nega, R4.negb, R4.negc, R4.nege, four] <;> omega
theorem sgR_four (x : R4) : sgR (four x) = sgR x := by
  rcases R4.pos_tri x with h | h | h
  · rw [h, (show four 0 = 0 from rfl)]
  · rw [sgR_pos.2 h, sgR_pos.2 (four_pos.2 h)]
  · have h1 := sgR_pos.2 h
    have h2 := sgR_pos.2 (four_pos.2 h)
    rw [sgR_neg] at h1
    rw [four_neg, sgR_neg] at h2
    omega
theorem sgf_crs (a b : Nat → Int) : sgf (crs a b) = sgR (cr (qv a) (qv b)) := by rw [cr_qv, sgR_four]; rfl
theorem sgf_dts (a b : Nat → Int) : sgf (dts a b) = sgR (dt (qv a) (qv b)) := by rw [dt_qv, sgR_four]; rfl
theorem rea_lin (a b : Nat → Int) (n : Int) : ∀ j, j < 4 → rea (fun k => a k + n * b k) j = rea a j + n * rea b j := by
  refine four_cases ?_ ?_ ?_ ?_ <;> simp [rea, f4] <;> grind
theorem ima_lin (a b : Nat → Int) (n : Int) : ∀ j, j < 4 → ima (fun k => a k + n * b k) j = ima a j + n * ima b j := by
  refine four_cases ?_ ?_ ?_ ?_ <;> simp [ima, f4] <;> grind
theorem qv_sub (a b : Nat → Int) : qv (sub a b) = qv a - qv b := by
  have e : sub a b = fun k => a k + (-1) * b k := by funext k; show a k - b k = _; omega
  rw [e]
  have h := rea_lin a b (-1)
  have k := ima_lin a b (-1)
  refine Q2.ext ?_ ?_
  · apply R4.ext <;> simp only [qv, q4, Q2.subx, R4.suba, R4.subb, R4.subc, R4.sube]
    · rw [h 0 (by omega)]; omega
    · rw [h 1 (by omega)]; omega
    · rw [h 2 (by omega)]; omega
    · rw [h 3 (by omega)]; omega
  · apply R4.ext <;> simp only [qv, q4, Q2.suby, R4.suba, R4.subb, R4.subc, R4.sube]
    · rw [k 0 (by omega)]; omega
    · rw [k 1 (by omega)]; omega
    · rw [k 2 (by omega)]; omega
    · rw [k 3 (by omega)]; omega
/-- Sums of crosses. -/
def sumF (f : Nat → Nat → Int) (n : Nat) : Nat → Int := fun j => sumI (fun i => f i j) n
theorem sumR_q4 (f : Nat → Nat → Int) : ∀ n, sumR (fun i => four (q4 (f i))) n = four (q4 (sumF f n))
  | 0 => rfl
  | n + 1 => by
    show sumR (fun i => four (q4 (f i))) n + four (q4 (f n)) = four (q4 (sumF f (n + 1)))
    rw [sumR_q4 f n]
    have e : ∀ j, sumF f (n + 1) j = sumF f n j + f n j := fun j => rfl
    apply R4.ext <;> simp only [R4.adda, R4.addb, R4.addc, R4.adde, four, q4, e] <;> omega
/-- Twice the area of a polygon of exact points. -/
def areaF (P : Nat → Nat → Int) (n : Nat) : Nat → Int := sumF (fun i => crs (P i) (P ((i + 1) % n))) n
theorem area_qv (P : Nat → Nat → Int) (n : Nat) : areaR (fun i => qv (P i)) n = four (q4 (areaF P n)) := by
  unfold areaR areaF
  rw [← sumR_q4]
  exact sm_same fun i hi => cr_qv _ _
theorem mulP {x y : Int} (X Y : Nat) (hx : -(X : Int) ≤ x ∧ x ≤ X) (hy : -(Y : Int) ≤ y ∧ y ≤ Y) : -((X * Y : Nat) : Int) ≤ x * y ∧ x * y ≤ ((X * Y : Nat) : Int) := by
  have h1 : x.natAbs ≤ X := by omega
  have h2 : y.natAbs ≤ Y := by omega
  have h3 : (x * y).natAbs ≤ X * Y := by rw [Int.natAbs_mul]; exact Nat.mul_le_mul h1 h2
  omega
theorem mir_small {a : Nat → Int} {M : Nat} (h : ∀ j, j < 8 → -(M : Int) ≤ a j ∧ a j ≤ M) : ∀ j, j < 8 → -((2 * M : Nat) : Int) ≤ mir a j ∧ mir a j ≤ ((2 * M : Nat) : Int) := fun j hj => by
  have h0 := h 0 (by omega); have h1 := h 1 (by omega); have h2 := h 2 (by omega); have h3 := h 3 (by omega)
  have h4 := h 4 (by omega); have h5 := h 5 (by omega); have h6 := h 6 (by omega); have h7 := h 7 (by omega)
  rcases (show j = 0 ∨ j = 1 ∨ j = 2 ∨ j = 3 ∨ j = 4 ∨ j = 5 ∨ j = 6 ∨ j = 7 by omega) with rfl | rfl | rfl | rfl | rfl | rfl | rfl | rfl <;> simp [mir] <;> omega
theorem trn_small {a : Nat → Int} {M : Nat} (h : ∀ j, j < 8 → -(M : Int) ≤ a j ∧ a j ≤ M) (n : Nat) (j : Nat) : -((4 * M : Nat) : Int) ≤ trn a n j ∧ trn a n j ≤ ((4 * M : Nat) : Int) := by
  have hp : ∀ k, -(M : Int) ≤ tpow a n 8 k ∧ tpow a n 8 k ≤ M := fun k => by
    unfold tpow
    split
    · rename_i hk; exact h _ hk
    · omega
  unfold trn red
  have h1 := hp j; have h2 := hp (j + 4); have h3 := hp (j + 8); have h4 := hp (j + 12); have h5 := hp (j + 16); have h6 := hp (j + 20)
  split <;> omega
theorem smul_small {a b : Nat → Int} {A B : Nat} (ha : ∀ j, j < 8 → -(A : Int) ≤ a j ∧ a j ≤ A) (hb : ∀ j, j < 8 → -(B : Int) ≤ b j ∧ b j ≤ B) : ∀ k, k ≤ 8 → ∀ j, j < 8 → -((k * (A * (4 * B)) : Nat) : Int) ≤ smul a b k j ∧ smul a b k j ≤ ((k * (A * (4 * B)) : Nat) : Int)
  | 0, _, j, hj => by simp [smul]
  | k + 1, h, j, hj => by
    have h1 := smul_small ha hb k (by omega) j hj
    have h3 := trn_small hb k j
    rw [← trn_steps b k (by omega) j hj] at h3
    have h2 := mulP A (4 * B) (ha k (by omega)) h3
    simp only [smul, mul1]
    rw [Nat.succ_mul]
    omega
theorem prd_small {a b : Nat → Int} {A B : Nat} (ha : ∀ j, j < 8 → -(A : Int) ≤ a j ∧ a j ≤ A) (hb : ∀ j, j < 8 → -(B : Int) ≤ b j ∧ b j ≤ B) : ∀ j, j < 8 → -((8 * (A * (4 * B)) : Nat) : Int) ≤ prd a b j ∧ prd a b j ≤ ((8 * (A * (4 * B)) : Nat) : Int) := fun j hj => by
  rw [← prd_smul a b j hj]
  exact smul_small ha hb 8 (by omega) j hj
theorem ima_small {a : Nat → Int} {K : Nat} (h : ∀ j, j < 8 → -(K : Int) ≤ a j ∧ a j ≤ K) : ∀ j, j < 4 → -((6 * K : Nat) : Int) ≤ ima a j ∧ ima a j ≤ ((6 * K : Nat) : Int) := by
  have h0 := h 0 (by omega); have h1 := h 1 (by omega); have h2 := h 2 (by omega); have h3 := h 3 (by omega)
  have h4 := h 4 (by omega); have h5 := h 5 (by omega); have h6 := h 6 (by omega); have h7 := h 7 (by omega)
  refine four_cases ?_ ?_ ?_ ?_ <;> simp [ima, f4] <;> omega
theorem rea_small {a : Nat → Int} {K : Nat} (h : ∀ j, j < 8 → -(K : Int) ≤ a j ∧ a j ≤ K) : ∀ j, j < 4 → -((6 * K : Nat) : Int) ≤ rea a j ∧ rea a j ≤ ((6 * K : Nat) : Int) := by
  have h0 := h 0 (by omega); have h1 := h 1 (by omega); have h2 := h 2 (by omega); have h3 := h 3 (by omega)
  have h4 := h 4 (by omega); have h5 := h 5 (by omega); have h6 := h 6 (by omega); have h7 := h 7 (by omega)
  refine four_cases ?_ ?_ ?_ ?_ <;> simp [rea, f4] <;> omega

end Go.Proofs.YtdpakhggpgdgbaaGreat
/- Out of the text PolyMathB: what the draws of polygons need. -/
namespace Go.Proofs.YtdpakhggpgdgbaaGreat
set_option maxRecDepth 20000
set_option linter.unusedVariables false
set_option linter.unusedSimpArgs false
theorem sgR_mul (x y : R4) : sgR (x * y) = sgR x * sgR y := sg4_mul x.a x.b x.c x.e y.a y.b y.c y.e
/-- Along the real line to the right. -/
def rZ (p : Q2) : Int := if sgR p.y = 0 ∧ 0 < sgR p.x then 1 else 0
theorem cr_flatr {p q : Q2} (h : q.y = 0) : cr p q = -(q.x * p.y) := by
  rw [cr_swap, cr_flat h]
theorem sg_ne {x : R4} (h : x ≠ 0) : sgR x = 1 ∨ sgR x = -1 := by
  rcases sgR_three x with e | e | e
  · exact .inl e
  · exact .inr e
  · exact absurd (sgR_zero.1 e) h
/-- What a step adds to the turns is what it adds to the winding of the steps, but for the steps to the right. -/
theorem tn_wn {p q : Q2} (h : okS p q) : tn p q = wn p q + (rZ q + -rZ p) := by
  have hp := okS_left h
  have hq := okS_right h
  by_cases h0 : p.y = 0
  · have ec : cr p q = p.x * q.y := cr_flat h0
    have hpx : p.x ≠ 0 := fun e => hp (Q2.ext e h0)
    have s0 : sgR p.y = 0 := sgR_zero.2 h0
    by_cases k0 : q.y = 0
    · have hqx : q.x ≠ 0 := fun e => hq (Q2.ext e k0)
      have t0 : sgR q.y = 0 := sgR_zero.2 k0
      have hc : sgR (cr p q) = 0 := by rw [ec, sgR_mul, t0, Int.mul_zero]
      have ed : dt p q = p.x * q.x := by unfold dt; rw [h0, R4.zero_mul, R4.add_zero]
      have hd : ¬ sgR (dt p q) ≤ 0 := fun e => h ⟨hc, e⟩
      rw [ed, sgR_mul] at hd
      rcases sg_ne hpx with e1 | e1 <;> rcases sg_ne hqx with e2 | e2 <;> rw [e1, e2] at hd <;>
        first
          | exact absurd (by decide) hd
          | simp [tn, wn, rZ, hc, s0, t0, e1, e2]
    · have hc : sgR (cr p q) = sgR p.x * sgR q.y := by rw [ec, sgR_mul]
      rcases sg_ne hpx with e1 | e1 <;> rcases sg_ne k0 with e2 | e2 <;> rw [e1, e2] at hc <;>
        simp [tn, wn, rZ, hiB, upB, hc, s0, e1, e2]
  · by_cases k0 : q.y = 0
    · have hqx : q.x ≠ 0 := fun e => hq (Q2.ext e k0)
      have t0 : sgR q.y = 0 := sgR_zero.2 k0
      have hc : sgR (cr p q) = -(sgR q.x * sgR p.y) := by rw [cr_flatr k0, sgR_neg, sgR_mul]
      rcases sg_ne h0 with e1 | e1 <;> rcases sg_ne hqx with e2 | e2 <;> rw [e1, e2] at hc <;>
        simp [tn, wn, rZ, hiB, upB, hc, t0, e1, e2]
    · rcases sg_ne h0 with e1 | e1 <;> rcases sg_ne k0 with e2 | e2 <;> rcases sgR_three (cr p q) with hc | hc | hc <;>
        simp [tn, wn, rZ, hiB, upB, hc, e1, e2]
/-- The turns of a polygon are the winding of its steps. -/
theorem turn_wind {P : Nat → Q2} {n : Nat} (h : okP P n) : turnZ P n = sumI (fun i => wn (stp' P n ((i + n - 1) % n)) (stp' P n i)) n := by
  unfold turnZ
  rw [show sumI (fun i => tn (stp' P n ((i + n - 1) % n)) (stp' P n i)) n = sumI (fun i => wn (stp' P n ((i + n - 1) % n)) (stp' P n i) + ((fun j => rZ (stp' P n j)) i + -(fun j => rZ (stp' P n j)) ((i + (n - 1)) % n))) n from sm_same fun i hi => by
    rw [tn_wn (h i hi)]
    show _ = _ + (rZ _ + -rZ (stp' P n ((i + (n - 1)) % n)))
    rw [show i + (n - 1) = i + n - 1 by omega]]
  rw [sumI_add, sumI_add, sumI_neg, sumI_turn (fun j => rZ (stp' P n j)) n (n - 1)]
  omega

/-- The winding of a polygon around 0, side by side. -/
def wind0 (Q : Nat → Q2) (n : Nat) : Int := sumI (fun k => wn (Q k) (Q ((k + 1) % n))) n
def meet0 (Q : Nat → Q2) (n : Nat) : Bool := (List.range n).any fun k => onS (Q k) (Q ((k + 1) % n))
/-- The steps to the corners. -/
def stq (P : Nat → Q2) (n : Nat) : Nat → Q2 := fun k => P k - P ((k + n - 1) % n)
theorem next_prev {n k : Nat} (h : k < n) : ((k + n - 1) % n + 1) % n = k := by
  rw [prev_of h]
  by_cases e : k = 0
  · rw [if_pos e, e, show n - 1 + 1 = n by omega, Nat.mod_self]
  · rw [if_neg e, show k - 1 + 1 = k by omega, Nat.mod_eq_of_lt h]
theorem prev_next {n k : Nat} (h : k < n) : ((k + 1) % n + n - 1) % n = k := by
  rw [next_of h]
  by_cases e : k + 1 = n
  · rw [if_pos e, show 0 + n - 1 = n - 1 by omega, Nat.mod_eq_of_lt (by omega)]; omega
  · rw [if_neg e, show k + 1 + n - 1 = k + n by omega, Nat.add_mod_right, Nat.mod_eq_of_lt h]
theorem stq_here (P : Nat → Q2) {n k : Nat} (h : k < n) : stq P n k = stp' P n ((k + n - 1) % n) := by
  unfold stq stp'
  rw [next_prev h]
theorem stq_next (P : Nat → Q2) {n k : Nat} (h : k < n) : stq P n ((k + 1) % n) = stp' P n k := by
  unfold stq stp'
  rw [prev_next h]
theorem okS_on {p q : Q2} : okS p q ↔ onS p q = false := by
  unfold okS onS
  rw [← Bool.not_eq_true, Bool.and_eq_true, decide_eq_true_iff, decide_eq_true_iff]
theorem okP_meet {P : Nat → Q2} {n : Nat} : okP P n ↔ meet0 (stq P n) n = false := by
  unfold okP meet0
  rw [List.any_eq_false]
  constructor
  · intro h k hk
    have hk := List.mem_range.1 hk
    rw [stq_here P hk, stq_next P hk, okS_on.1 (h k hk)]
    decide
  · intro h k hk
    have := h k (List.mem_range.2 hk)
    rw [stq_here P hk, stq_next P hk] at this
    exact okS_on.2 (by simpa using this)
theorem turn_wind0 {P : Nat → Q2} {n : Nat} (h : okP P n) : turnZ P n = wind0 (stq P n) n := by
  rw [turn_wind h]
  unfold wind0
  exact sm_same fun k hk => by rw [stq_here P hk, stq_next P hk]
theorem bnd_stq (P : Nat → Q2) {n k : Nat} (hk : k < n) : bnd P n k = sgR (cr (stq P n k) (stq P n ((k + 1) % n))) := by
  unfold bnd
  rw [stq_here P hk, stq_next P hk]
theorem dt_negl (p q : Q2) : dt (-p) q = -dt p q := by
  unfold dt
  simp only [Q2.negx, Q2.negy, R4.neg_mul, R4.neg_add]
/-- Fewer than three corners turn back. -/
theorem few_turn {P : Nat → Q2} {n : Nat} (h1 : 1 ≤ n) (h : okP P n) : 3 ≤ n := by
  rcases Nat.lt_or_ge n 3 with hn | hn
  · exfalso
    rcases (show n = 1 ∨ n = 2 by omega) with rfl | rfl
    · have := okS_right (h 0 (by omega))
      exact this (Q2.sub_self _)
    · have h0 := h 0 (by omega)
      have e : stp' P 2 ((0 + 2 - 1) % 2) = -stp' P 2 0 := by
        unfold stp'
        rw [Q2.neg_sub]
      rw [e] at h0
      have hne := okS_right h0
      refine h0 ⟨?_, ?_⟩
      · rw [cr_negl, cr_self, R4.neg_zero, sgR_zero.2 rfl]
      · rw [dt_negl, sgR_neg, sgR_pos.2 (dt_self hne)]; omega
  · exact hn
/-- What the program asks of a convex polygon is what is asked. -/
theorem convex_same {P : Nat → Q2} {n : Nat} (h1 : 1 ≤ n) (h : okP P n) : (∀ k, k < n → bnd P n k = turnZ P n) ↔ (3 ≤ n ∧ (∀ k, k < n → bnd P n k = bnd P n 0) ∧ bnd P n 0 = turnZ P n ∧ turnZ P n * turnZ P n = 1) := by
  constructor
  · intro hb
    have h0 := hb 0 (by omega)
    refine ⟨few_turn h1 h, fun k hk => by rw [hb k hk, h0], h0, ?_⟩
    have h3 := sgR_three (cr (stp' P n ((0 + n - 1) % n)) (stp' P n 0))
    have h3 : bnd P n 0 = 1 ∨ bnd P n 0 = -1 ∨ bnd P n 0 = 0 := h3
    rw [h0] at h3
    rcases h3 with e | e | e
    · rw [e]; rfl
    · rw [e]; rfl
    · have := left_turns h1 h fun k hk => by rw [hb k hk, e]; omega
      omega
  · rintro ⟨-, hb, h0, -⟩ k hk
    rw [hb k hk, h0]

end Go.Proofs.YtdpakhggpgdgbaaGreat
