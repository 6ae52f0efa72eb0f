/-
  Polygons, the mathematics: numbers a + b root 2 + c root 3 + e root 6, vectors of them, crosses, halves of the plane, rounds of steps.
  Polygons of exact points: their crosses are crosses of vectors.
  spec: small points, polygons, crosses.
  spec: the steps of a polygon.
-/
import Derived.Test.YtdpakhggpgdgbaaM12
import Derived.Test.YtdpakhggpgdgbaaM14
import Derived.Test.YtdpakhggpgdgbaaM15
import Derived.Test.YtdpakhggpgdgbaaM10
/- Polygons, the mathematics: numbers a + b root 2 + c root 3 + e root 6, vectors of them, crosses, halves of the plane, rounds of steps. -/
namespace Go.Proofs.Ytdpakhggpgdgbaa
set_option maxRecDepth 20000
set_option linter.unusedVariables false
set_option linter.unusedSimpArgs false
set_option linter.unusedSectionVars false

/-- a + b root 2 + c root 3 + e root 6. -/
structure R4 where
  a : Int
  b : Int
  c : Int
  e : Int
theorem R4.ext {x y : R4} (h1 : x.a = y.a) (h2 : x.b = y.b) (h3 : x.c = y.c) (h4 : x.e = y.e) : x = y := by
  cases x; cases y
  simp only at h1 h2 h3 h4
  rw [h1, h2, h3, h4]
namespace R4
instance : Add R4 := ⟨fun x y => ⟨x.a + y.a, x.b + y.b, x.c + y.c, x.e + y.e⟩⟩
instance : Mul R4 := ⟨fun x y => ⟨x.a * y.a + 2 * x.b * y.b + 3 * x.c * y.c + 6 * x.e * y.e, x.a * y.b + x.b * y.a + 3 * (x.c * y.e + x.e * y.c), x.a * y.c + x.c * y.a + 2 * (x.b * y.e + x.e * y.b), x.a * y.e + x.e * y.a + x.b * y.c + x.c * y.b⟩⟩
instance : Neg R4 := ⟨fun x => ⟨-x.a, -x.b, -x.c, -x.e⟩⟩
instance : Sub R4 := ⟨fun x y => ⟨x.a - y.a, x.b - y.b, x.c - y.c, x.e - y.e⟩⟩
instance : OfNat R4 0 := ⟨⟨0, 0, 0, 0⟩⟩
theorem adda (x y : R4) : (x + y).a = x.a + y.a := rfl
theorem addb (x y : R4) : (x + y).b = x.b + y.b := rfl
theorem addc (x y : R4) : (x + y).c = x.c + y.c := rfl
theorem adde (x y : R4) : (x + y).e = x.e + y.e := rfl
theorem mula (x y : R4) : (x * y).a = x.a * y.a + 2 * x.b * y.b + 3 * x.c * y.c + 6 * x.e * y.e := rfl
theorem mulb (x y : R4) : (x * y).b = x.a * y.b + x.b * y.a + 3 * (x.c * y.e + x.e * y.c) := rfl
theorem mulc (x y : R4) : (x * y).c = x.a * y.c + x.c * y.a + 2 * (x.b * y.e + x.e * y.b) := rfl
theorem mule (x y : R4) : (x * y).e = x.a * y.e + x.e * y.a + x.b * y.c + x.c * y.b := rfl
theorem nega (x : R4) : (-x).a = -x.a := rfl
theorem negb (x : R4) : (-x).b = -x.b := rfl
theorem negc (x : R4) : (-x).c = -x.c := rfl
theorem nege (x : R4) : (-x).e = -x.e := rfl
theorem suba (x y : R4) : (x - y).a = x.a - y.a := rfl
theorem subb (x y : R4) : (x - y).b = x.b - y.b := rfl
theorem subc (x y : R4) : (x - y).c = x.c - y.c := rfl
theorem sube (x y : R4) : (x - y).e = x.e - y.e := rfl
theorem za : (0 : R4).a = 0 := rfl
theorem zb : (0 : R4).b = 0 := rfl
theorem zc : (0 : R4).c = 0 := rfl
theorem ze : (0 : R4).e = 0 := rfl
theorem zero_mul (x : R4) : 0 * x = 0 := by (apply R4.ext <;> simp only [R4.adda, R4.addb, R4.addc, R4.adde, R4.mula, R4.mulb, R4.mulc, R4.mule, R4.nega, R4.negb, R4.negc, R4.nege, R4.suba, R4.subb, R4.subc, R4.sube, R4.za, R4.zb, R4.zc, R4.ze] <;> grind)
theorem mul_zero (x : R4) : x * 0 = 0 := by (apply R4.ext <;> simp only [R4.adda, R4.addb, R4.addc, R4.adde, R4.mula, R4.mulb, R4.mulc, R4.mule, R4.nega, R4.negb, R4.negc, R4.nege, R4.suba, R4.subb, R4.subc, R4.sube, R4.za, R4.zb, R4.zc, R4.ze] <;> grind)
theorem add_zero (x : R4) : x + 0 = x := by (apply R4.ext <;> simp only [R4.adda, R4.addb, R4.addc, R4.adde, R4.mula, R4.mulb, R4.mulc, R4.mule, R4.nega, R4.negb, R4.negc, R4.nege, R4.suba, R4.subb, R4.subc, R4.sube, R4.za, R4.zb, R4.zc, R4.ze] <;> grind)
theorem zero_add (x : R4) : 0 + x = x := by (apply R4.ext <;> simp only [R4.adda, R4.addb, R4.addc, R4.adde, R4.mula, R4.mulb, R4.mulc, R4.mule, R4.nega, R4.negb, R4.negc, R4.nege, R4.suba, R4.subb, R4.subc, R4.sube, R4.za, R4.zb, R4.zc, R4.ze] <;> grind)
theorem neg_mul (x y : R4) : -x * y = -(x * y) := by (apply R4.ext <;> simp only [R4.adda, R4.addb, R4.addc, R4.adde, R4.mula, R4.mulb, R4.mulc, R4.mule, R4.nega, R4.negb, R4.negc, R4.nege, R4.suba, R4.subb, R4.subc, R4.sube, R4.za, R4.zb, R4.zc, R4.ze] <;> grind)
theorem neg_neg (x : R4) : - -x = x := by (apply R4.ext <;> simp only [R4.adda, R4.addb, R4.addc, R4.adde, R4.mula, R4.mulb, R4.mulc, R4.mule, R4.nega, R4.negb, R4.negc, R4.nege, R4.suba, R4.subb, R4.subc, R4.sube, R4.za, R4.zb, R4.zc, R4.ze] <;> grind)
theorem neg_zero : -(0 : R4) = 0 := by (apply R4.ext <;> simp only [R4.adda, R4.addb, R4.addc, R4.adde, R4.mula, R4.mulb, R4.mulc, R4.mule, R4.nega, R4.negb, R4.negc, R4.nege, R4.suba, R4.subb, R4.subc, R4.sube, R4.za, R4.zb, R4.zc, R4.ze] <;> grind)
theorem neg_mul_neg (x y : R4) : -x * -y = x * y := by (apply R4.ext <;> simp only [R4.adda, R4.addb, R4.addc, R4.adde, R4.mula, R4.mulb, R4.mulc, R4.mule, R4.nega, R4.negb, R4.negc, R4.nege, R4.suba, R4.subb, R4.subc, R4.sube, R4.za, R4.zb, R4.zc, R4.ze] <;> grind)
theorem mul_comm (x y : R4) : x * y = y * x := by (apply R4.ext <;> simp only [R4.adda, R4.addb, R4.addc, R4.adde, R4.mula, R4.mulb, R4.mulc, R4.mule, R4.nega, R4.negb, R4.negc, R4.nege, R4.suba, R4.subb, R4.subc, R4.sube, R4.za, R4.zb, R4.zc, R4.ze] <;> grind)
theorem add_comm (x y : R4) : x + y = y + x := by (apply R4.ext <;> simp only [R4.adda, R4.addb, R4.addc, R4.adde, R4.mula, R4.mulb, R4.mulc, R4.mule, R4.nega, R4.negb, R4.negc, R4.nege, R4.suba, R4.subb, R4.subc, R4.sube, R4.za, R4.zb, R4.zc, R4.ze] <;> grind)
theorem add_assoc (x y z : R4) : x + y + z = x + (y + z) := by (apply R4.ext <;> simp only [R4.adda, R4.addb, R4.addc, R4.adde, R4.mula, R4.mulb, R4.mulc, R4.mule, R4.nega, R4.negb, R4.negc, R4.nege, R4.suba, R4.subb, R4.subc, R4.sube, R4.za, R4.zb, R4.zc, R4.ze] <;> grind)
theorem neg_add (x y : R4) : -(x + y) = -x + -y := by (apply R4.ext <;> simp only [R4.adda, R4.addb, R4.addc, R4.adde, R4.mula, R4.mulb, R4.mulc, R4.mule, R4.nega, R4.negb, R4.negc, R4.nege, R4.suba, R4.subb, R4.subc, R4.sube, R4.za, R4.zb, R4.zc, R4.ze] <;> grind)
theorem add_neg (x : R4) : x + -x = 0 := by (apply R4.ext <;> simp only [R4.adda, R4.addb, R4.addc, R4.adde, R4.mula, R4.mulb, R4.mulc, R4.mule, R4.nega, R4.negb, R4.negc, R4.nege, R4.suba, R4.subb, R4.subc, R4.sube, R4.za, R4.zb, R4.zc, R4.ze] <;> grind)
theorem zero_sub (x : R4) : 0 - x = -x := by (apply R4.ext <;> simp only [R4.adda, R4.addb, R4.addc, R4.adde, R4.mula, R4.mulb, R4.mulc, R4.mule, R4.nega, R4.negb, R4.negc, R4.nege, R4.suba, R4.subb, R4.subc, R4.sube, R4.za, R4.zb, R4.zc, R4.ze] <;> grind)

def Pos (x : R4) : Prop := P4 x.a x.b x.c x.e
theorem pos_add {x y : R4} (h : Pos x) (k : Pos y) : Pos (x + y) := p4_add h k
theorem pos_mul {x y : R4} (h : Pos x) (k : Pos y) : Pos (x * y) := p4_mul h k
theorem pos_tri (x : R4) : x = 0 ∨ Pos x ∨ Pos (-x) := by
  rcases p4_tri x.a x.b x.c x.e with ⟨h1, h2, h3, h4⟩ | h | h
  · exact .inl (R4.ext h1 h2 h3 h4)
  · exact .inr (.inl h)
  · exact .inr (.inr h)
theorem pos_zero : ¬ Pos 0 := fun h => p4_zero h
theorem pos_not {x : R4} (h : Pos x) (k : Pos (-x)) : False := p4_not h k
theorem pos_ne {x : R4} (h : Pos x) : x ≠ 0 := fun e => pos_zero (e ▸ h)
theorem pos_of_mul {x y : R4} (h : Pos (x * y)) (hy : Pos y) : Pos x := by
  rcases pos_tri x with rfl | h1 | h1
  · rw [zero_mul] at h; exact (pos_zero h).elim
  · exact h1
  · have := pos_mul h1 hy
    rw [neg_mul] at this
    exact (pos_not h this).elim
theorem zero_of_mul {x y : R4} (h : x * y = 0) (hy : Pos y) : x = 0 := by
  rcases pos_tri x with h1 | h1 | h1
  · exact h1
  · exact (pos_ne (pos_mul h1 hy) h).elim
  · have := pos_mul h1 hy
    rw [neg_mul, h, neg_zero] at this
    exact (pos_zero this).elim
theorem pos_sq {x : R4} (h : x ≠ 0) : Pos (x * x) := by
  rcases pos_tri x with h1 | h1 | h1
  · exact (h h1).elim
  · exact pos_mul h1 h1
  · have := pos_mul h1 h1
    rwa [neg_mul_neg] at this
/-- Not below 0. -/
def NN (x : R4) : Prop := x = 0 ∨ Pos x
theorem nn_zero : NN 0 := .inl rfl
theorem nn_add {x y : R4} (h : NN x) (k : NN y) : NN (x + y) := by
  rcases h with rfl | h
  · rwa [zero_add]
  · rcases k with rfl | k
    · rw [add_zero]; exact .inr h
    · exact .inr (pos_add h k)
theorem pos_nn {x y : R4} (h : Pos x) (k : NN y) : Pos (x + y) := by
  rcases k with rfl | k
  · rwa [add_zero]
  · exact pos_add h k
theorem nn_pos {x y : R4} (h : NN x) (k : Pos y) : Pos (x + y) := by rw [add_comm]; exact pos_nn k h
theorem nn_mul {x y : R4} (h : NN x) (k : NN y) : NN (x * y) := by
  rcases h with rfl | h
  · rw [zero_mul]; exact .inl rfl
  · rcases k with rfl | k
    · rw [mul_zero]; exact .inl rfl
    · exact .inr (pos_mul h k)
theorem nn_not {x : R4} (h : NN x) (k : Pos (-x)) : False := by
  rcases h with rfl | h
  · rw [neg_zero] at k; exact pos_zero k
  · exact pos_not h k
theorem not_pos {x : R4} (h : ¬ Pos x) : NN (-x) := by
  rcases pos_tri x with rfl | h1 | h1
  · rw [neg_zero]; exact .inl rfl
  · exact (h h1).elim
  · exact .inr h1
theorem not_neg {x : R4} (h : ¬ Pos (-x)) : NN x := by
  rcases pos_tri x with h1 | h1 | h1
  · exact .inl h1
  · exact .inr h1
  · exact (h h1).elim
end R4
open R4 (Pos NN)

/-- Vectors. -/
structure Q2 where
  x : R4
  y : R4
theorem Q2.ext {p q : Q2} (h1 : p.x = q.x) (h2 : p.y = q.y) : p = q := by
  cases p; cases q
  simp only at h1 h2
  rw [h1, h2]
namespace Q2
instance : Add Q2 := ⟨fun p q => ⟨p.x + q.x, p.y + q.y⟩⟩
instance : Neg Q2 := ⟨fun p => ⟨-p.x, -p.y⟩⟩
instance : Sub Q2 := ⟨fun p q => ⟨p.x - q.x, p.y - q.y⟩⟩
instance : OfNat Q2 0 := ⟨⟨0, 0⟩⟩
theorem addx (p q : Q2) : (p + q).x = p.x + q.x := rfl
theorem addy (p q : Q2) : (p + q).y = p.y + q.y := rfl
theorem negx (p : Q2) : (-p).x = -p.x := rfl
theorem negy (p : Q2) : (-p).y = -p.y := rfl
theorem subx (p q : Q2) : (p - q).x = p.x - q.x := rfl
theorem suby (p q : Q2) : (p - q).y = p.y - q.y := rfl
theorem zx : (0 : Q2).x = 0 := rfl
theorem zy : (0 : Q2).y = 0 := rfl
theorem neg_neg (p : Q2) : - -p = p := Q2.ext (R4.neg_neg _) (R4.neg_neg _)
theorem add_assoc (p q r : Q2) : p + q + r = p + (q + r) := Q2.ext (R4.add_assoc _ _ _) (R4.add_assoc _ _ _)
theorem add_comm (p q : Q2) : p + q = q + p := Q2.ext (R4.add_comm _ _) (R4.add_comm _ _)
theorem zero_add (p : Q2) : 0 + p = p := Q2.ext (R4.zero_add _) (R4.zero_add _)
theorem add_zero (p : Q2) : p + 0 = p := Q2.ext (R4.add_zero _) (R4.add_zero _)
theorem neg_add (p q : Q2) : -(p + q) = -p + -q := Q2.ext (R4.neg_add _ _) (R4.neg_add _ _)
theorem neg_sub (p q : Q2) : -(p - q) = q - p := Q2.ext (by simp only [negx, subx]; (apply R4.ext <;> simp only [R4.adda, R4.addb, R4.addc, R4.adde, R4.mula, R4.mulb, R4.mulc, R4.mule, R4.nega, R4.negb, R4.negc, R4.nege, R4.suba, R4.subb, R4.subc, R4.sube, R4.za, R4.zb, R4.zc, R4.ze] <;> grind)) (by simp only [negy, suby]; (apply R4.ext <;> simp only [R4.adda, R4.addb, R4.addc, R4.adde, R4.mula, R4.mulb, R4.mulc, R4.mule, R4.nega, R4.negb, R4.negc, R4.nege, R4.suba, R4.subb, R4.subc, R4.sube, R4.za, R4.zb, R4.zc, R4.ze] <;> grind))
theorem sub_add_sub (p q r : Q2) : (q - p) + (r - q) = r - p := Q2.ext (by simp only [addx, subx]; (apply R4.ext <;> simp only [R4.adda, R4.addb, R4.addc, R4.adde, R4.mula, R4.mulb, R4.mulc, R4.mule, R4.nega, R4.negb, R4.negc, R4.nege, R4.suba, R4.subb, R4.subc, R4.sube, R4.za, R4.zb, R4.zc, R4.ze] <;> grind)) (by simp only [addy, suby]; (apply R4.ext <;> simp only [R4.adda, R4.addb, R4.addc, R4.adde, R4.mula, R4.mulb, R4.mulc, R4.mule, R4.nega, R4.negb, R4.negc, R4.nege, R4.suba, R4.subb, R4.subc, R4.sube, R4.za, R4.zb, R4.zc, R4.ze] <;> grind))
theorem sub_self (p : Q2) : p - p = 0 := Q2.ext (by simp only [subx, zx]; (apply R4.ext <;> simp only [R4.adda, R4.addb, R4.addc, R4.adde, R4.mula, R4.mulb, R4.mulc, R4.mule, R4.nega, R4.negb, R4.negc, R4.nege, R4.suba, R4.subb, R4.subc, R4.sube, R4.za, R4.zb, R4.zc, R4.ze] <;> grind)) (by simp only [suby, zy]; (apply R4.ext <;> simp only [R4.adda, R4.addb, R4.addc, R4.adde, R4.mula, R4.mulb, R4.mulc, R4.mule, R4.nega, R4.negb, R4.negc, R4.nege, R4.suba, R4.subb, R4.subc, R4.sube, R4.za, R4.zb, R4.zc, R4.ze] <;> grind))
theorem add_sub (p q : Q2) : p + (q - p) = q := Q2.ext (by simp only [addx, subx]; (apply R4.ext <;> simp only [R4.adda, R4.addb, R4.addc, R4.adde, R4.mula, R4.mulb, R4.mulc, R4.mule, R4.nega, R4.negb, R4.negc, R4.nege, R4.suba, R4.subb, R4.subc, R4.sube, R4.za, R4.zb, R4.zc, R4.ze] <;> grind)) (by simp only [addy, suby]; (apply R4.ext <;> simp only [R4.adda, R4.addb, R4.addc, R4.adde, R4.mula, R4.mulb, R4.mulc, R4.mule, R4.nega, R4.negb, R4.negc, R4.nege, R4.suba, R4.subb, R4.subc, R4.sube, R4.za, R4.zb, R4.zc, R4.ze] <;> grind))
end Q2
/-- The cross of two vectors; how far they go along each other. -/
def cr (p q : Q2) : R4 := p.x * q.y - p.y * q.x
def dt (p q : Q2) : R4 := p.x * q.x + p.y * q.y
theorem cr_swap (p q : Q2) : cr q p = -cr p q := by unfold cr; (apply R4.ext <;> simp only [R4.adda, R4.addb, R4.addc, R4.adde, R4.mula, R4.mulb, R4.mulc, R4.mule, R4.nega, R4.negb, R4.negc, R4.nege, R4.suba, R4.subb, R4.subc, R4.sube, R4.za, R4.zb, R4.zc, R4.ze] <;> grind)
theorem cr_self (p : Q2) : cr p p = 0 := by unfold cr; (apply R4.ext <;> simp only [R4.adda, R4.addb, R4.addc, R4.adde, R4.mula, R4.mulb, R4.mulc, R4.mule, R4.nega, R4.negb, R4.negc, R4.nege, R4.suba, R4.subb, R4.subc, R4.sube, R4.za, R4.zb, R4.zc, R4.ze] <;> grind)
theorem dt_comm (p q : Q2) : dt q p = dt p q := by unfold dt; (apply R4.ext <;> simp only [R4.adda, R4.addb, R4.addc, R4.adde, R4.mula, R4.mulb, R4.mulc, R4.mule, R4.nega, R4.negb, R4.negc, R4.nege, R4.suba, R4.subb, R4.subc, R4.sube, R4.za, R4.zb, R4.zc, R4.ze] <;> grind)
theorem cr_neg (p q : Q2) : cr (-p) (-q) = cr p q := by unfold cr; simp only [Q2.negx, Q2.negy]; (apply R4.ext <;> simp only [R4.adda, R4.addb, R4.addc, R4.adde, R4.mula, R4.mulb, R4.mulc, R4.mule, R4.nega, R4.negb, R4.negc, R4.nege, R4.suba, R4.subb, R4.subc, R4.sube, R4.za, R4.zb, R4.zc, R4.ze] <;> grind)
theorem dt_neg (p q : Q2) : dt (-p) (-q) = dt p q := by unfold dt; simp only [Q2.negx, Q2.negy]; (apply R4.ext <;> simp only [R4.adda, R4.addb, R4.addc, R4.adde, R4.mula, R4.mulb, R4.mulc, R4.mule, R4.nega, R4.negb, R4.negc, R4.nege, R4.suba, R4.subb, R4.subc, R4.sube, R4.za, R4.zb, R4.zc, R4.ze] <;> grind)
theorem cr_negl (p q : Q2) : cr (-p) q = -cr p q := by unfold cr; simp only [Q2.negx, Q2.negy]; (apply R4.ext <;> simp only [R4.adda, R4.addb, R4.addc, R4.adde, R4.mula, R4.mulb, R4.mulc, R4.mule, R4.nega, R4.negb, R4.negc, R4.nege, R4.suba, R4.subb, R4.subc, R4.sube, R4.za, R4.zb, R4.zc, R4.ze] <;> grind)
theorem cr_addl (p q r : Q2) : cr (p + q) r = cr p r + cr q r := by unfold cr; simp only [Q2.addx, Q2.addy]; (apply R4.ext <;> simp only [R4.adda, R4.addb, R4.addc, R4.adde, R4.mula, R4.mulb, R4.mulc, R4.mule, R4.nega, R4.negb, R4.negc, R4.nege, R4.suba, R4.subb, R4.subc, R4.sube, R4.za, R4.zb, R4.zc, R4.ze] <;> grind)
theorem cr_addr (p q r : Q2) : cr p (q + r) = cr p q + cr p r := by unfold cr; simp only [Q2.addx, Q2.addy]; (apply R4.ext <;> simp only [R4.adda, R4.addb, R4.addc, R4.adde, R4.mula, R4.mulb, R4.mulc, R4.mule, R4.nega, R4.negb, R4.negc, R4.nege, R4.suba, R4.subb, R4.subc, R4.sube, R4.za, R4.zb, R4.zc, R4.ze] <;> grind)
theorem cr_zerol (p : Q2) : cr 0 p = 0 := by unfold cr; simp only [Q2.zx, Q2.zy]; (apply R4.ext <;> simp only [R4.adda, R4.addb, R4.addc, R4.adde, R4.mula, R4.mulb, R4.mulc, R4.mule, R4.nega, R4.negb, R4.negc, R4.nege, R4.suba, R4.subb, R4.subc, R4.sube, R4.za, R4.zb, R4.zc, R4.ze] <;> grind)
theorem cr_zeror (p : Q2) : cr p 0 = 0 := by unfold cr; simp only [Q2.zx, Q2.zy]; (apply R4.ext <;> simp only [R4.adda, R4.addb, R4.addc, R4.adde, R4.mula, R4.mulb, R4.mulc, R4.mule, R4.nega, R4.negb, R4.negc, R4.nege, R4.suba, R4.subb, R4.subc, R4.sube, R4.za, R4.zb, R4.zc, R4.ze] <;> grind)
theorem cr_next (p q : Q2) : cr p q = cr p (q - p) := by unfold cr; simp only [Q2.subx, Q2.suby]; (apply R4.ext <;> simp only [R4.adda, R4.addb, R4.addc, R4.adde, R4.mula, R4.mulb, R4.mulc, R4.mule, R4.nega, R4.negb, R4.negc, R4.nege, R4.suba, R4.subb, R4.subc, R4.sube, R4.za, R4.zb, R4.zc, R4.ze] <;> grind)
/-- Above the real line, or along it to the right. -/
def Hi (p : Q2) : Prop := Pos p.y ∨ (p.y = 0 ∧ Pos p.x)
theorem hi_zero : ¬ Hi 0 := fun h => by
  rcases h with h | ⟨_, h⟩
  · exact R4.pos_zero h
  · exact R4.pos_zero h
theorem hi_not {p : Q2} (h : Hi p) (k : Hi (-p)) : False := by
  rcases h with h | ⟨h0, h⟩ <;> rcases k with k | ⟨k0, k⟩
  · exact R4.pos_not h k
  · rw [Q2.negy] at k0
    have : p.y = 0 := by rw [← R4.neg_neg p.y, k0, R4.neg_zero]
    exact R4.pos_ne h this
  · rw [Q2.negy, h0, R4.neg_zero] at k; exact R4.pos_zero k
  · exact R4.pos_not h k
theorem hi_or {p : Q2} (h : p ≠ 0) : Hi p ∨ Hi (-p) := by
  rcases R4.pos_tri p.y with h1 | h1 | h1
  · rcases R4.pos_tri p.x with h2 | h2 | h2
    · exact (h (Q2.ext h2 h1)).elim
    · exact .inl (.inr ⟨h1, h2⟩)
    · exact .inr (.inr ⟨by rw [Q2.negy, h1, R4.neg_zero], h2⟩)
  · exact .inl (.inl h1)
  · exact .inr (.inl h1)
theorem hi_nn {p : Q2} (h : Hi p) : NN p.y := by
  rcases h with h | ⟨h, _⟩
  · exact .inr h
  · exact .inl h
theorem hi_add {p q : Q2} (h : Hi p) (k : Hi q) : Hi (p + q) := by
  rcases h with h | ⟨h0, h⟩
  · exact .inl (R4.pos_nn h (hi_nn k))
  · rcases k with k | ⟨k0, k⟩
    · exact .inl (R4.nn_pos (.inl h0) k)
    · exact .inr ⟨by rw [Q2.addy, h0, k0, R4.add_zero], R4.pos_add h k⟩
theorem cr_turn (p q r : Q2) : cr p r * q.y = cr p q * r.y + cr q r * p.y := by unfold cr; (apply R4.ext <;> simp only [R4.adda, R4.addb, R4.addc, R4.adde, R4.mula, R4.mulb, R4.mulc, R4.mule, R4.nega, R4.negb, R4.negc, R4.nege, R4.suba, R4.subb, R4.subc, R4.sube, R4.za, R4.zb, R4.zc, R4.ze] <;> grind)
theorem cr_flat {p q : Q2} (h : p.y = 0) : cr p q = p.x * q.y := by unfold cr; rw [h]; (apply R4.ext <;> simp only [R4.adda, R4.addb, R4.addc, R4.adde, R4.mula, R4.mulb, R4.mulc, R4.mule, R4.nega, R4.negb, R4.negc, R4.nege, R4.suba, R4.subb, R4.subc, R4.sube, R4.za, R4.zb, R4.zc, R4.ze] <;> grind)
/-- Crosses within a half of the plane go on. -/
theorem hi_trans {p q r : Q2} (hp : Hi p) (hq : Hi q) (hr : Hi r) (h1 : Pos (cr p q)) (h2 : Pos (cr q r)) : Pos (cr p r) := by
  rcases hq with hq | ⟨h0, hq⟩
  · have hry : Pos r.y := by
      rcases hr with hr | ⟨r0, hr⟩
      · exact hr
      · exfalso
        have e : cr q r = -(q.y * r.x) := by unfold cr; rw [r0]; (apply R4.ext <;> simp only [R4.adda, R4.addb, R4.addc, R4.adde, R4.mula, R4.mulb, R4.mulc, R4.mule, R4.nega, R4.negb, R4.negc, R4.nege, R4.suba, R4.subb, R4.subc, R4.sube, R4.za, R4.zb, R4.zc, R4.ze] <;> grind)
        rw [e] at h2
        exact R4.pos_not (R4.pos_mul hq hr) h2
    refine R4.pos_of_mul (y := q.y) ?_ hq
    rw [cr_turn p q r]
    exact R4.pos_nn (R4.pos_mul h1 hry) (R4.nn_mul (.inr h2) (hi_nn hp))
  · exfalso
    have e : cr p q = -(p.y * q.x) := by unfold cr; rw [h0]; (apply R4.ext <;> simp only [R4.adda, R4.addb, R4.addc, R4.adde, R4.mula, R4.mulb, R4.mulc, R4.mule, R4.nega, R4.negb, R4.negc, R4.nege, R4.suba, R4.subb, R4.subc, R4.sube, R4.za, R4.zb, R4.zc, R4.ze] <;> grind)
    rw [e] at h1
    rcases hi_nn hp with h | h
    · rw [h, R4.zero_mul, R4.neg_zero] at h1; exact R4.pos_zero h1
    · exact R4.pos_not (R4.pos_mul h hq) h1
theorem dt_self {p : Q2} (h : p ≠ 0) : Pos (dt p p) := by
  unfold dt
  by_cases hx : p.x = 0
  · have hy : p.y ≠ 0 := fun hy => h (Q2.ext hx hy)
    exact R4.nn_pos (by rw [hx, R4.zero_mul]; exact .inl rfl) (R4.pos_sq hy)
  · refine R4.pos_nn (R4.pos_sq hx) ?_
    by_cases hy : p.y = 0
    · rw [hy, R4.zero_mul]; exact .inl rfl
    · exact .inr (R4.pos_sq hy)
theorem dt_along (p q : Q2) : p.x * dt q q = q.x * dt p q + q.y * cr p q ∧ p.y * dt q q = q.y * dt p q - q.x * cr p q := by
  constructor
  · unfold dt cr; (apply R4.ext <;> simp only [R4.adda, R4.addb, R4.addc, R4.adde, R4.mula, R4.mulb, R4.mulc, R4.mule, R4.nega, R4.negb, R4.negc, R4.nege, R4.suba, R4.subb, R4.subc, R4.sube, R4.za, R4.zb, R4.zc, R4.ze] <;> grind)
  · unfold dt cr; (apply R4.ext <;> simp only [R4.adda, R4.addb, R4.addc, R4.adde, R4.mula, R4.mulb, R4.mulc, R4.mule, R4.nega, R4.negb, R4.negc, R4.nege, R4.suba, R4.subb, R4.subc, R4.sube, R4.za, R4.zb, R4.zc, R4.ze] <;> grind)
/-- Steps along each other are in the same half. -/
theorem hi_same {p q : Q2} (h0 : cr p q = 0) (h : Pos (dt p q)) (hp : Hi p) : Hi q := by
  have hq : q ≠ 0 := by
    rintro rfl
    have e : dt p 0 = 0 := by unfold dt; simp only [Q2.zx, Q2.zy]; (apply R4.ext <;> simp only [R4.adda, R4.addb, R4.addc, R4.adde, R4.mula, R4.mulb, R4.mulc, R4.mule, R4.nega, R4.negb, R4.negc, R4.nege, R4.suba, R4.subb, R4.subc, R4.sube, R4.za, R4.zb, R4.zc, R4.ze] <;> grind)
    rw [e] at h; exact R4.pos_zero h
  have hs := dt_self hq
  obtain ⟨e1, e2⟩ := dt_along p q
  rw [h0] at e1 e2
  have e3 : p.x * dt q q = q.x * dt p q := by rw [e1]; (apply R4.ext <;> simp only [R4.adda, R4.addb, R4.addc, R4.adde, R4.mula, R4.mulb, R4.mulc, R4.mule, R4.nega, R4.negb, R4.negc, R4.nege, R4.suba, R4.subb, R4.subc, R4.sube, R4.za, R4.zb, R4.zc, R4.ze] <;> grind)
  have e4 : p.y * dt q q = q.y * dt p q := by rw [e2]; (apply R4.ext <;> simp only [R4.adda, R4.addb, R4.addc, R4.adde, R4.mula, R4.mulb, R4.mulc, R4.mule, R4.nega, R4.negb, R4.negc, R4.nege, R4.suba, R4.subb, R4.subc, R4.sube, R4.za, R4.zb, R4.zc, R4.ze] <;> grind)
  rcases hp with hp | ⟨p0, hp⟩
  · exact .inl (R4.pos_of_mul (by rw [← e4]; exact R4.pos_mul hp hs) h)
  · refine .inr ⟨R4.zero_of_mul (by rw [← e4, p0, R4.zero_mul]) h, R4.pos_of_mul (by rw [← e3]; exact R4.pos_mul hp hs) h⟩
theorem hi_alike {p q : Q2} (h0 : cr p q = 0) (h : Pos (dt p q)) : Hi p ↔ Hi q :=
  ⟨hi_same h0 h, hi_same (by rw [cr_swap, h0, R4.neg_zero]) (by rw [dt_comm]; exact h)⟩

/-! Sums over a round. -/
section
variable {α : Type} (add : α → α → α) (z : α)
def sm (f : Nat → α) : Nat → α
  | 0 => z
  | n + 1 => add (sm f n) (f n)
variable {add z}
theorem sm_same {f g : Nat → α} : ∀ {n : Nat}, (∀ i, i < n → f i = g i) → sm add z f n = sm add z g n
  | 0, _ => rfl
  | n + 1, h => by
    show add _ _ = add _ _
    rw [sm_same fun i hi => h i (by omega), h n (by omega)]
variable (h0 : ∀ x, add z x = x) (h1 : ∀ x, add x z = x) (ha : ∀ x y w, add (add x y) w = add x (add y w)) (hc : ∀ x y, add x y = add y x)
include h0 h1 ha
theorem sm_first (f : Nat → α) : ∀ n, sm add z f (n + 1) = add (f 0) (sm add z (fun i => f (i + 1)) n)
  | 0 => by show add z (f 0) = add (f 0) z; rw [h0, h1]
  | n + 1 => by
    show add (sm add z f (n + 1)) (f (n + 1)) = add (f 0) (add (sm add z (fun i => f (i + 1)) n) (f (n + 1)))
    rw [sm_first f n, ha]
include hc
theorem sm_rot (f : Nat → α) (n : Nat) : sm add z (fun i => f ((i + 1) % n)) n = sm add z f n := by
  cases n with
  | zero => rfl
  | succ n =>
    have e : sm add z f (n + 1) = add (f 0) (sm add z (fun i => f (i + 1)) n) := sm_first h0 h1 ha f n
    rw [e]
    show add (sm add z (fun i => f ((i + 1) % (n + 1))) n) (f ((n + 1) % (n + 1))) = _
    rw [sm_same (g := fun i => f (i + 1)) fun i hi => by rw [Nat.mod_eq_of_lt (by omega)], Nat.mod_self, hc]
theorem sm_turn (f : Nat → α) (n k : Nat) : sm add z (fun i => f ((i + k) % n)) n = sm add z f n := by
  induction k with
  | zero => exact sm_same fun i hi => by rw [Nat.add_zero, Nat.mod_eq_of_lt hi]
  | succ k ih =>
    rw [← ih, ← sm_rot h0 h1 ha hc (fun i => f ((i + k) % n)) n]
    exact sm_same fun i hi => by rw [Nat.mod_add_mod, Nat.add_right_comm, Nat.add_assoc]
theorem sm_rev (f : Nat → α) : ∀ n, sm add z (fun i => f (n - 1 - i)) n = sm add z f n
  | 0 => rfl
  | n + 1 => by
    have e : sm add z (fun i => f (n + 1 - 1 - i)) (n + 1) = add (f n) (sm add z (fun i => f (n + 1 - 1 - (i + 1))) n) := sm_first h0 h1 ha (fun i => f (n + 1 - 1 - i)) n
    rw [e]
    show _ = add (sm add z f n) (f n)
    rw [hc, ← sm_rev f n]
    congr 1
    exact sm_same fun i hi => by rw [show n + 1 - 1 - (i + 1) = n - 1 - i by omega]
end

/-! Signs. -/
def sgR (x : R4) : Int := sg4 x.a x.b x.c x.e
theorem sgR_pos {x : R4} : sgR x = 1 ↔ Pos x := sg4_pos
theorem sgR_neg (x : R4) : sgR (-x) = -sgR x := sg4_neg _ _ _ _
theorem sgR_three (x : R4) : sgR x = 1 ∨ sgR x = -1 ∨ sgR x = 0 := sg4_range _ _ _ _
theorem sgR_zero {x : R4} : sgR x = 0 ↔ x = 0 := by
  unfold sgR
  rw [sg4_zero]
  constructor
  · rintro ⟨h1, h2, h3, h4⟩; exact R4.ext h1 h2 h3 h4
  · rintro rfl; exact ⟨rfl, rfl, rfl, rfl⟩
theorem sgR_lt {x : R4} : 0 < sgR x ↔ Pos x := by
  rw [← sgR_pos]
  rcases sgR_three x with h | h | h <;> rw [h] <;> omega
theorem sgR_gt {x : R4} : sgR x < 0 ↔ Pos (-x) := by
  rw [← sgR_lt, sgR_neg]; omega
def hiB (p : Q2) : Bool := decide (0 < sgR p.y) || (decide (sgR p.y = 0) && decide (0 < sgR p.x))
theorem hiB_iff {p : Q2} : hiB p = true ↔ Hi p := by
  unfold hiB Hi
  simp only [Bool.or_eq_true, Bool.and_eq_true, decide_eq_true_iff, sgR_lt, sgR_zero]
theorem hiB_not {p : Q2} (h : p ≠ 0) : hiB (-p) = !hiB p := by
  cases e : hiB p
  · have := hi_or h
    rcases this with k | k
    · rw [← hiB_iff, e] at k; cases k
    · exact hiB_iff.2 k
  · cases e2 : hiB (-p)
    · rfl
    · exact (hi_not (hiB_iff.1 e) (hiB_iff.1 e2)).elim
/-- What a step that follows another adds to the turns. -/
def tn (p q : Q2) : Int := if 0 < sgR (cr p q) ∧ hiB p = false ∧ hiB q = true then 1 else if sgR (cr p q) < 0 ∧ hiB p = true ∧ hiB q = false then -1 else 0
/-- A step that may follow another. -/
def okS (p q : Q2) : Prop := ¬ (sgR (cr p q) = 0 ∧ sgR (dt p q) ≤ 0)
theorem okS_left {p q : Q2} (h : okS p q) : p ≠ 0 := by
  rintro rfl
  refine h ⟨sgR_zero.2 (cr_zerol q), ?_⟩
  have e : dt 0 q = 0 := by unfold dt; simp only [Q2.zx, Q2.zy]; (apply R4.ext <;> simp only [R4.adda, R4.addb, R4.addc, R4.adde, R4.mula, R4.mulb, R4.mulc, R4.mule, R4.nega, R4.negb, R4.negc, R4.nege, R4.suba, R4.subb, R4.subc, R4.sube, R4.za, R4.zb, R4.zc, R4.ze] <;> grind)
  rw [e, sgR_zero.2 rfl]; omega
theorem okS_right {p q : Q2} (h : okS p q) : q ≠ 0 := by
  rintro rfl
  refine h ⟨sgR_zero.2 (cr_zeror p), ?_⟩
  have e : dt p 0 = 0 := by unfold dt; simp only [Q2.zx, Q2.zy]; (apply R4.ext <;> simp only [R4.adda, R4.addb, R4.addc, R4.adde, R4.mula, R4.mulb, R4.mulc, R4.mule, R4.nega, R4.negb, R4.negc, R4.nege, R4.suba, R4.subb, R4.subc, R4.sube, R4.za, R4.zb, R4.zc, R4.ze] <;> grind)
  rw [e, sgR_zero.2 rfl]; omega
theorem okS_back {p q : Q2} (h : okS p q) : okS (-q) (-p) := by
  unfold okS at *
  rw [cr_neg, dt_neg, cr_swap, dt_comm, sgR_neg]
  omega
def hZ (p : Q2) : Int := if hiB p then 1 else 0
theorem same_half {p q : Q2} (h : okS p q) (h0 : sgR (cr p q) = 0) : hiB p = hiB q := by
  have hd : Pos (dt p q) := by
    rw [← sgR_lt]
    unfold okS at h
    omega
  exact Bool.eq_iff_iff.2 (by rw [hiB_iff, hiB_iff]; exact hi_alike (sgR_zero.1 h0) hd)
theorem tn_back {p q : Q2} (h : okS p q) : tn (-q) (-p) = hZ q - hZ p - tn p q := by
  have hp := hiB_not (okS_left h)
  have hq := hiB_not (okS_right h)
  have hs := same_half h
  unfold tn hZ
  rw [cr_neg, cr_swap, sgR_neg, hp, hq]
  rcases sgR_three (cr p q) with e | e | e
  · rw [e]; cases hiB p <;> cases hiB q <;> decide
  · rw [e]; cases hiB p <;> cases hiB q <;> decide
  · rw [hs e, e]; cases hiB q <;> decide
/-- A side that passes the height of a point. -/
def upB (p : Q2) : Bool := decide (0 < sgR p.y)
def wn (p q : Q2) : Int := if upB p = false ∧ upB q = true ∧ 0 < sgR (cr p q) then 1 else if upB p = true ∧ upB q = false ∧ sgR (cr p q) < 0 then -1 else 0
theorem wn_back (p q : Q2) : wn q p = -wn p q := by
  unfold wn
  rw [cr_swap, sgR_neg]
  rcases sgR_three (cr p q) with e | e | e <;> rw [e] <;> cases upB p <;> cases upB q <;> decide

/-! Sums of numbers and of vectors. -/
abbrev sumI (f : Nat → Int) (n : Nat) : Int := sm (fun a b => a + b) 0 f n
abbrev sumR (f : Nat → R4) (n : Nat) : R4 := sm (fun a b => a + b) 0 f n
abbrev sumQ (f : Nat → Q2) (n : Nat) : Q2 := sm (fun a b => a + b) 0 f n
theorem sumI_turn (f : Nat → Int) (n k : Nat) : sumI (fun i => f ((i + k) % n)) n = sumI f n := sm_turn (fun _ => by omega) (fun _ => by omega) (fun _ _ _ => by omega) (fun _ _ => by omega) f n k
theorem sumI_rev (f : Nat → Int) (n : Nat) : sumI (fun i => f (n - 1 - i)) n = sumI f n := sm_rev (fun _ => by omega) (fun _ => by omega) (fun _ _ _ => by omega) (fun _ _ => by omega) f n
theorem sumR_turn (f : Nat → R4) (n k : Nat) : sumR (fun i => f ((i + k) % n)) n = sumR f n := sm_turn R4.zero_add R4.add_zero R4.add_assoc R4.add_comm f n k
theorem sumR_rev (f : Nat → R4) (n : Nat) : sumR (fun i => f (n - 1 - i)) n = sumR f n := sm_rev R4.zero_add R4.add_zero R4.add_assoc R4.add_comm f n
theorem sumI_add (f g : Nat → Int) : ∀ n, sumI (fun i => f i + g i) n = sumI f n + sumI g n
  | 0 => rfl
  | n + 1 => by
    have := sumI_add f g n
    show sumI (fun i => f i + g i) n + (f n + g n) = (sumI f n + f n) + (sumI g n + g n)
    omega
theorem sumI_neg (f : Nat → Int) : ∀ n, sumI (fun i => -f i) n = -sumI f n
  | 0 => rfl
  | n + 1 => by
    have := sumI_neg f n
    show sumI (fun i => -f i) n + -f n = -(sumI f n + f n)
    omega
theorem sumR_neg (f : Nat → R4) : ∀ n, sumR (fun i => -f i) n = -sumR f n
  | 0 => R4.neg_zero.symm
  | n + 1 => by
    show sumR (fun i => -f i) n + -f n = -(sumR f n + f n)
    rw [sumR_neg f n, R4.neg_add]
theorem sumR_add (f g : Nat → R4) : ∀ n, sumR (fun i => f i + g i) n = sumR f n + sumR g n
  | 0 => (R4.add_zero 0).symm
  | n + 1 => by
    show sumR (fun i => f i + g i) n + (f n + g n) = (sumR f n + f n) + (sumR g n + g n)
    rw [sumR_add f g n]; (apply R4.ext <;> simp only [R4.adda, R4.addb, R4.addc, R4.adde, R4.mula, R4.mulb, R4.mulc, R4.mule, R4.nega, R4.negb, R4.negc, R4.nege, R4.suba, R4.subb, R4.subc, R4.sube, R4.za, R4.zb, R4.zc, R4.ze] <;> grind)
theorem sumQ_neg (f : Nat → Q2) : ∀ n, sumQ (fun i => -f i) n = -sumQ f n
  | 0 => Q2.ext R4.neg_zero.symm R4.neg_zero.symm
  | n + 1 => by
    show sumQ (fun i => -f i) n + -f n = -(sumQ f n + f n)
    rw [sumQ_neg f n, Q2.neg_add]
theorem sumQ_split (f : Nat → Q2) (i : Nat) : ∀ l, sumQ f (i + l) = sumQ f i + sumQ (fun j => f (i + j)) l
  | 0 => (Q2.add_zero _).symm
  | l + 1 => by
    show sumQ f (i + l) + f (i + l) = sumQ f i + (sumQ (fun j => f (i + j)) l + f (i + l))
    rw [sumQ_split f i l, Q2.add_assoc]
theorem cr_suml (f : Nat → Q2) (r : Q2) : ∀ n, cr (sumQ f n) r = sumR (fun i => cr (f i) r) n
  | 0 => cr_zerol r
  | n + 1 => by
    show cr (sumQ f n + f n) r = sumR (fun i => cr (f i) r) n + cr (f n) r
    rw [cr_addl, cr_suml f r n]
theorem cr_sumr (f : Nat → Q2) (r : Q2) : ∀ n, cr r (sumQ f n) = sumR (fun i => cr r (f i)) n
  | 0 => cr_zeror r
  | n + 1 => by
    show cr r (sumQ f n + f n) = sumR (fun i => cr r (f i)) n + cr r (f n)
    rw [cr_addr, cr_sumr f r n]
theorem sumR_nn {f : Nat → R4} : ∀ {n : Nat}, (∀ i, i < n → NN (f i)) → NN (sumR f n)
  | 0, _ => .inl rfl
  | n + 1, h => R4.nn_add (sumR_nn fun i hi => h i (by omega)) (h n (by omega))
theorem sumR_pos {f : Nat → R4} : ∀ {n : Nat}, (∀ i, i < n → NN (f i)) → ∀ {k : Nat}, k < n → Pos (f k) → Pos (sumR f n)
  | 0, _, _, hk, _ => absurd hk (Nat.not_lt_zero _)
  | n + 1, h, k, hk, hp => by
    by_cases e : k = n
    · subst e; exact R4.nn_pos (sumR_nn fun i hi => h i (by omega)) hp
    · exact R4.pos_nn (sumR_pos (fun i hi => h i (by omega)) (show k < n by omega) hp) (h n (by omega))
theorem sumQ_hi {f : Nat → Q2} : ∀ {n : Nat}, 1 ≤ n → (∀ i, i < n → Hi (f i)) → Hi (sumQ f n)
  | 0, h, _ => absurd h (by omega)
  | n + 1, _, h => by
    show Hi (sumQ f n + f n)
    cases n with
    | zero => exact (Q2.zero_add (f 0)).symm ▸ h 0 (by omega)
    | succ n => exact hi_add (sumQ_hi (by omega) fun i hi => h i (by omega)) (h (n + 1) (by omega))
theorem sumI_nn {f : Nat → Int} : ∀ {n : Nat}, (∀ i, i < n → 0 ≤ f i) → 0 ≤ sumI f n
  | 0, _ => Int.le_refl 0
  | n + 1, h => by
    have h1 := sumI_nn (f := f) (n := n) fun i hi => h i (by omega)
    have h2 := h n (by omega)
    show 0 ≤ sumI f n + f n
    omega
theorem sumI_none {f : Nat → Int} : ∀ {n : Nat}, (∀ i, i < n → 0 ≤ f i) → sumI f n ≤ 0 → ∀ i, i < n → f i = 0
  | 0, _, _, i, hi => absurd hi (Nat.not_lt_zero i)
  | n + 1, h, hs, i, hi => by
    have h1 := sumI_nn (f := f) (n := n) fun i hi => h i (by omega)
    have h2 := h n (by omega)
    have hs : sumI f n + f n ≤ 0 := hs
    by_cases e : i = n
    · subst e; omega
    · exact sumI_none (n := n) (fun i hi => h i (by omega)) (by omega) i (by omega)
theorem sumI_one {f : Nat → Int} : ∀ {n : Nat}, (∀ i, i < n → f i = 0 ∨ f i = 1) → sumI f n = 1 → ∃ k, k < n ∧ f k = 1 ∧ ∀ i, i < n → i ≠ k → f i = 0
  | 0, _, hs => by have hs : (0 : Int) = 1 := hs; omega
  | n + 1, h, hs => by
    have hs : sumI f n + f n = 1 := hs
    rcases h n (by omega) with e | e
    · obtain ⟨k, hk, h1, h2⟩ := sumI_one (n := n) (fun i hi => h i (by omega)) (show sumI f n = 1 by omega)
      refine ⟨k, by omega, h1, fun i hi hne => ?_⟩
      by_cases e2 : i = n
      · rw [e2, e]
      · exact h2 i (by omega) hne
    · refine ⟨n, by omega, e, fun i hi hne => ?_⟩
      exact sumI_none (n := n) (fun i hi => by rcases h i (by omega) with h | h <;> omega) (by omega) i (by omega)

/-! Polygons. -/
def stp' (P : Nat → Q2) (n i : Nat) : Q2 := P ((i + 1) % n) - P i
def bnd (P : Nat → Q2) (n i : Nat) : Int := sgR (cr (stp' P n ((i + n - 1) % n)) (stp' P n i))
def turnZ (P : Nat → Q2) (n : Nat) : Int := sumI (fun i => tn (stp' P n ((i + n - 1) % n)) (stp' P n i)) n
def okP (P : Nat → Q2) (n : Nat) : Prop := ∀ i, i < n → okS (stp' P n ((i + n - 1) % n)) (stp' P n i)
def areaR (P : Nat → Q2) (n : Nat) : R4 := sumR (fun i => cr (P i) (P ((i + 1) % n))) n
def windZ (P : Nat → Q2) (c : Q2) (n : Nat) : Int := sumI (fun i => wn (P i - c) (P ((i + 1) % n) - c)) n
/-- The corners in the opposite order. -/
def rv (P : Nat → Q2) (n : Nat) : Nat → Q2 := fun i => P (n - 1 - i)
theorem prev_of {n i : Nat} (h : i < n) : (i + n - 1) % n = if i = 0 then n - 1 else i - 1 := by
  by_cases e : i = 0
  · rw [if_pos e, e, Nat.zero_add, Nat.mod_eq_of_lt (by omega)]
  · rw [if_neg e, show i + n - 1 = (i - 1) + n by omega, Nat.add_mod_right, Nat.mod_eq_of_lt (by omega)]
theorem next_of {n i : Nat} (h : i < n) : (i + 1) % n = if i + 1 = n then 0 else i + 1 := by
  by_cases e : i + 1 = n
  · rw [if_pos e, e, Nat.mod_self]
  · rw [if_neg e, Nat.mod_eq_of_lt (by omega)]
/-- The steps of the opposite order. -/
theorem stp_rv (P : Nat → Q2) {n i : Nat} (h : i < n) : stp' (rv P n) n i = -stp' P n ((n - 1 - i + n - 1) % n) := by
  unfold stp' rv
  rw [Q2.neg_sub, prev_of (show n - 1 - i < n by omega), next_of h]
  by_cases e : i + 1 = n
  · rw [if_pos e, if_pos (show n - 1 - i = 0 by omega), next_of (show n - 1 < n by omega), if_pos (show n - 1 + 1 = n by omega), show n - 1 - 0 = n - 1 by omega, show n - 1 - i = 0 by omega]
  · rw [if_neg e, if_neg (show ¬ n - 1 - i = 0 by omega), next_of (show n - 1 - i - 1 < n by omega), if_neg (by omega), show n - 1 - (i + 1) = n - 1 - i - 1 by omega, show n - 1 - i - 1 + 1 = n - 1 - i by omega]
theorem stp_rv_prev (P : Nat → Q2) {n i : Nat} (h : i < n) : stp' (rv P n) n ((i + n - 1) % n) = -stp' P n (n - 1 - i) := by
  have hp : (i + n - 1) % n < n := Nat.mod_lt _ (by omega)
  rw [stp_rv P hp]
  congr 2
  rw [prev_of (show n - 1 - (i + n - 1) % n < n by omega), prev_of h]
  by_cases e : i = 0
  · rw [if_pos e, if_pos (by omega)]; omega
  · rw [if_neg e, if_neg (by omega)]; omega
theorem bnd_rv (P : Nat → Q2) {n i : Nat} (h : i < n) : bnd (rv P n) n i = -bnd P n (n - 1 - i) := by
  unfold bnd
  rw [stp_rv P h, stp_rv_prev P h, cr_neg, cr_swap, sgR_neg]
theorem okP_rv {P : Nat → Q2} {n : Nat} (h : okP P n) : okP (rv P n) n := fun i hi => by
  rw [stp_rv P hi, stp_rv_prev P hi]
  exact okS_back (h (n - 1 - i) (by omega))
theorem turnZ_rv {P : Nat → Q2} {n : Nat} (h : okP P n) : turnZ (rv P n) n = -turnZ P n := by
  unfold turnZ
  rw [show sumI (fun i => tn (stp' (rv P n) n ((i + n - 1) % n)) (stp' (rv P n) n i)) n = sumI (fun i => (fun j => hZ (stp' P n j) + (-hZ (stp' P n ((j + (n - 1)) % n)) + -tn (stp' P n ((j + n - 1) % n)) (stp' P n j))) (n - 1 - i)) n from sm_same fun i hi => by
    rw [stp_rv P hi, stp_rv_prev P hi, tn_back (h (n - 1 - i) (by omega))]
    show _ = hZ _ + (-hZ (stp' P n ((n - 1 - i + (n - 1)) % n)) + _)
    rw [show n - 1 - i + (n - 1) = n - 1 - i + n - 1 by omega]
    omega]
  rw [sumI_rev (fun j => hZ (stp' P n j) + (-hZ (stp' P n ((j + (n - 1)) % n)) + -tn (stp' P n ((j + n - 1) % n)) (stp' P n j))) n, sumI_add, sumI_add, sumI_neg, sumI_neg, sumI_turn (fun j => hZ (stp' P n j)) n (n - 1)]
  omega
theorem side_rv (P : Nat → Q2) {n i : Nat} (h : i < n) : rv P n i = P (((n - 1 - i + (n - 1)) % n + 1) % n) ∧ rv P n ((i + 1) % n) = P ((n - 1 - i + (n - 1)) % n) := by
  unfold rv
  rw [show n - 1 - i + (n - 1) = n - 1 - i + n - 1 by omega]
  have hp : (n - 1 - i + n - 1) % n < n := Nat.mod_lt _ (by omega)
  rw [next_of hp, prev_of (show n - 1 - i < n by omega), next_of h]
  by_cases e : i + 1 = n
  · rw [if_pos e, if_pos (show n - 1 - i = 0 by omega), if_pos (by omega)]
    exact ⟨by rw [show n - 1 - i = 0 by omega], by rw [Nat.sub_zero]⟩
  · rw [if_neg e, if_neg (show ¬ n - 1 - i = 0 by omega), if_neg (by omega)]
    exact ⟨by rw [show n - 1 - i - 1 + 1 = n - 1 - i by omega], by rw [show n - 1 - (i + 1) = n - 1 - i - 1 by omega]⟩
theorem areaR_rv (P : Nat → Q2) (n : Nat) : areaR (rv P n) n = -areaR P n := by
  unfold areaR
  rw [show sumR (fun i => cr (rv P n i) (rv P n ((i + 1) % n))) n = sumR (fun i => (fun j => (fun k => -cr (P k) (P ((k + 1) % n))) ((j + (n - 1)) % n)) (n - 1 - i)) n from sm_same fun i hi => by
    rw [(side_rv P hi).1, (side_rv P hi).2, cr_swap]]
  rw [sumR_rev (fun j => (fun k => -cr (P k) (P ((k + 1) % n))) ((j + (n - 1)) % n)) n, sumR_turn (fun k => -cr (P k) (P ((k + 1) % n))) n (n - 1), sumR_neg]
theorem windZ_rv (P : Nat → Q2) (c : Q2) (n : Nat) : windZ (rv P n) c n = -windZ P c n := by
  unfold windZ
  rw [show sumI (fun i => wn (rv P n i - c) (rv P n ((i + 1) % n) - c)) n = sumI (fun i => (fun j => (fun k => -wn (P k - c) (P ((k + 1) % n) - c)) ((j + (n - 1)) % n)) (n - 1 - i)) n from sm_same fun i hi => by
    rw [(side_rv P hi).1, (side_rv P hi).2, wn_back]]
  rw [sumI_rev (fun j => (fun k => -wn (P k - c) (P ((k + 1) % n) - c)) ((j + (n - 1)) % n)) n, sumI_turn (fun k => -wn (P k - c) (P ((k + 1) % n) - c)) n (n - 1), sumI_neg]

/-! A round of steps comes back. -/
theorem steps_to (P : Nat → Q2) (n : Nat) : ∀ {k : Nat}, k < n → sumQ (stp' P n) k = P k - P 0
  | 0, _ => (Q2.sub_self _).symm
  | k + 1, h => by
    show sumQ (stp' P n) k + stp' P n k = _
    rw [steps_to P n (show k < n by omega)]
    unfold stp'
    rw [next_of (show k < n by omega), if_neg (by omega), Q2.sub_add_sub]
theorem steps_home (P : Nat → Q2) {n : Nat} (h : 1 ≤ n) : sumQ (stp' P n) n = 0 := by
  obtain ⟨m, rfl⟩ : ∃ m, n = m + 1 := ⟨n - 1, by omega⟩
  show sumQ (stp' P (m + 1)) m + stp' P (m + 1) m = 0
  rw [steps_to P (m + 1) (show m < m + 1 by omega)]
  unfold stp'
  rw [Nat.mod_self, Q2.sub_add_sub, Q2.sub_self]
/-- A round has steps in both halves. -/
theorem not_all_hi (P : Nat → Q2) {n : Nat} (h : 1 ≤ n) (hh : ∀ i, i < n → Hi (stp' P n i)) : False := by
  have := sumQ_hi h hh
  rw [steps_home P h] at this
  exact hi_zero this
theorem not_all_lo (P : Nat → Q2) {n : Nat} (h : 1 ≤ n) (hh : ∀ i, i < n → Hi (-stp' P n i)) : False := by
  have := sumQ_hi h hh
  rw [sumQ_neg, steps_home P h] at this
  have e : -(0 : Q2) = 0 := Q2.ext R4.neg_zero R4.neg_zero
  rw [e] at this
  exact hi_zero this
/-- Without bends to the right a turn adds 1 where a step goes up behind one that doesn't, nothing else. -/
theorem tn_left {p q : Q2} (h : okS p q) (hl : 0 ≤ sgR (cr p q)) : tn p q = if hiB p = false ∧ hiB q = true then 1 else 0 := by
  have hs := same_half h
  unfold tn
  rcases sgR_three (cr p q) with e | e | e
  · rw [e]; cases hiB p <;> cases hiB q <;> decide
  · omega
  · rw [hs e, e]; cases hiB q <;> decide
theorem lo_of {p : Q2} (h : p ≠ 0) (e : hiB p = false) : Hi (-p) := by
  rw [← hiB_iff, hiB_not h, e]; rfl
theorem left_turns {P : Nat → Q2} {n : Nat} (h1 : 1 ≤ n) (h : okP P n) (hl : ∀ i, i < n → 0 ≤ bnd P n i) : 1 ≤ turnZ P n := by
  have ht : ∀ i, i < n → tn (stp' P n ((i + n - 1) % n)) (stp' P n i) = if hiB (stp' P n ((i + n - 1) % n)) = false ∧ hiB (stp' P n i) = true then 1 else 0 := fun i hi => tn_left (h i hi) (hl i hi)
  have hnn : ∀ i, i < n → 0 ≤ tn (stp' P n ((i + n - 1) % n)) (stp' P n i) := fun i hi => by rw [ht i hi]; split <;> omega
  rcases Int.lt_or_le 0 (turnZ P n) with k | k
  · omega
  · exfalso
    have h0 := sumI_none hnn k
    have hk : ∀ i, i < n → hiB (stp' P n i) = true → hiB (stp' P n ((i + n - 1) % n)) = true := fun i hi e => by
      have := h0 i hi
      rw [ht i hi, e] at this
      cases e2 : hiB (stp' P n ((i + n - 1) % n))
      · rw [e2] at this; simp at this
      · rfl
    have hne : ∀ i, i < n → stp' P n i ≠ 0 := fun i hi => okS_right (h i hi)
    cases e0 : hiB (stp' P n 0)
    · refine not_all_lo P h1 fun i hi => lo_of (hne i hi) ?_
      induction i with
      | zero => exact e0
      | succ i ih =>
        cases e : hiB (stp' P n (i + 1))
        · rfl
        · have := hk (i + 1) hi e
          rw [prev_of hi, if_neg (by omega), show i + 1 - 1 = i by omega, ih (by omega)] at this
          cases this
    · have hl' := hk 0 (by omega) e0
      rw [prev_of (by omega), if_pos rfl] at hl'
      have hall : ∀ d, d < n → hiB (stp' P n (n - 1 - d)) = true := fun d => by
        induction d with
        | zero => exact fun _ => hl'
        | succ d ih =>
          intro hd
          have := hk (n - 1 - d) (by omega) (ih (by omega))
          rwa [prev_of (by omega), if_neg (by omega), show n - 1 - d - 1 = n - 1 - (d + 1) by omega] at this
      refine not_all_hi P h1 fun i hi => hiB_iff.1 ?_
      have := hall (n - 1 - i) (by omega)
      rwa [show n - 1 - (n - 1 - i) = i by omega] at this

/-! Convex polygons. -/
/-- All bends to the left, one turn, and the first step is the one that goes up. -/
structure Cvx (P : Nat → Q2) (n : Nat) : Prop where
  n3 : 3 ≤ n
  bend : ∀ i, i < n → Pos (cr (stp' P n ((i + n - 1) % n)) (stp' P n i))
  first : hiB (stp' P n 0) = true
  last : hiB (stp' P n (n - 1)) = false
  back : ∀ i, i + 1 < n → hiB (stp' P n (i + 1)) = true → hiB (stp' P n i) = true
/-- A polygon that begins with another corner. -/
def turned (P : Nat → Q2) (n k : Nat) : Nat → Q2 := fun i => P ((i + k) % n)
theorem stp_turned (P : Nat → Q2) {n k i : Nat} (h : i < n) : stp' (turned P n k) n i = stp' P n ((i + k) % n) := by
  unfold stp' turned
  rw [Nat.mod_add_mod, Nat.mod_add_mod, Nat.add_right_comm]
theorem prev_turned {n k i : Nat} (h : i < n) : ((i + n - 1) % n + k) % n = ((i + k) % n + n - 1) % n := by
  rw [Nat.mod_add_mod, show (i + k) % n + n - 1 = (i + k) % n + (n - 1) by omega, Nat.mod_add_mod]
  congr 1
  omega
theorem areaR_turned (P : Nat → Q2) (n k : Nat) : areaR (turned P n k) n = areaR P n := by
  unfold areaR
  rw [← sumR_turn (fun i => cr (P i) (P ((i + 1) % n))) n k]
  refine sm_same fun i hi => ?_
  unfold turned
  rw [Nat.mod_add_mod, Nat.mod_add_mod, Nat.add_right_comm]
theorem windZ_turned (P : Nat → Q2) (c : Q2) (n k : Nat) : windZ (turned P n k) c n = windZ P c n := by
  unfold windZ
  rw [← sumI_turn (fun i => wn (P i - c) (P ((i + 1) % n) - c)) n k]
  refine sm_same fun i hi => ?_
  unfold turned
  rw [Nat.mod_add_mod, Nat.mod_add_mod, Nat.add_right_comm]
theorem stp_ne_right {P : Nat → Q2} {n i : Nat} (h : Pos (cr (stp' P n ((i + n - 1) % n)) (stp' P n i))) : stp' P n i ≠ 0 := fun e => by
  rw [e, cr_zeror] at h
  exact R4.pos_zero h
theorem cvx_of {P : Nat → Q2} {n : Nat} (h3 : 3 ≤ n) (hb : ∀ i, i < n → bnd P n i = 1) (ht : turnZ P n = 1) : ∃ k, Cvx (turned P n k) n := by
  have hok : okP P n := fun i hi h => by
    have := hb i hi
    unfold bnd at this
    omega
  have hterm : ∀ i, i < n → tn (stp' P n ((i + n - 1) % n)) (stp' P n i) = if hiB (stp' P n ((i + n - 1) % n)) = false ∧ hiB (stp' P n i) = true then 1 else 0 := fun i hi => tn_left (hok i hi) (by have := hb i hi; unfold bnd at this; omega)
  obtain ⟨k, hk, h1, h2⟩ := sumI_one (n := n) (f := fun i => tn (stp' P n ((i + n - 1) % n)) (stp' P n i)) (fun i hi => by
    show tn _ _ = 0 ∨ tn _ _ = 1
    rw [hterm i hi]; split
    · exact .inr rfl
    · exact .inl rfl) ht
  have h1 : tn (stp' P n ((k + n - 1) % n)) (stp' P n k) = 1 := h1
  rw [hterm k hk] at h1
  have hk1 : hiB (stp' P n ((k + n - 1) % n)) = false ∧ hiB (stp' P n k) = true := by
    by_cases e : hiB (stp' P n ((k + n - 1) % n)) = false ∧ hiB (stp' P n k) = true
    · exact e
    · rw [if_neg e] at h1; omega
  refine ⟨k, h3, fun i hi => ?_, ?_, ?_, fun i hi e => ?_⟩
  · rw [stp_turned P hi, stp_turned P (Nat.mod_lt _ (by omega)), prev_turned hi]
    have := hb ((i + k) % n) (Nat.mod_lt _ (by omega))
    exact sgR_pos.1 this
  · rw [stp_turned P (by omega), Nat.zero_add, Nat.mod_eq_of_lt hk]; exact hk1.2
  · rw [stp_turned P (by omega), show n - 1 + k = k + n - 1 by omega]; exact hk1.1
  · rw [stp_turned P hi] at e
    rw [stp_turned P (by omega)]
    have hlt : (i + 1 + k) % n < n := Nat.mod_lt _ (by omega)
    have hne : (i + 1 + k) % n ≠ k := fun h => by
      have e1 : (i + 1 + k) % n = (0 + k) % n := by rw [h, Nat.zero_add, Nat.mod_eq_of_lt hk]
      have h5 := Nat.sub_mod_eq_zero_of_mod_eq e1
      rw [show i + 1 + k - (0 + k) = i + 1 by omega, Nat.mod_eq_of_lt hi] at h5
      omega
    have h3 : tn (stp' P n (((i + 1 + k) % n + n - 1) % n)) (stp' P n ((i + 1 + k) % n)) = 0 := h2 _ hlt hne
    rw [hterm _ hlt] at h3
    have hprev : ((i + 1 + k) % n + n - 1) % n = (i + k) % n := by
      rw [show (i + 1 + k) % n + n - 1 = (i + 1 + k) % n + (n - 1) by omega, Nat.mod_add_mod, show i + 1 + k + (n - 1) = i + k + n by omega, Nat.add_mod_right]
    rw [hprev, e] at h3
    cases e2 : hiB (stp' P n ((i + k) % n))
    · rw [e2] at h3; simp at h3
    · rfl
/-- Where the steps go down. -/
theorem cut_of {p : Nat → Bool} : ∀ n, (∀ i, i + 1 < n → p (i + 1) = true → p i = true) → ∃ m, m ≤ n ∧ ∀ i, i < n → (p i = true ↔ i < m)
  | 0, _ => ⟨0, Nat.le_refl _, fun i hi => absurd hi (Nat.not_lt_zero i)⟩
  | n + 1, h => by
    obtain ⟨m, hm, hi⟩ := cut_of n fun i hi => h i (by omega)
    cases e : p n with
    | false =>
      refine ⟨m, by omega, fun i hin => ?_⟩
      by_cases e2 : i = n
      · subst e2; rw [e]; constructor
        · intro h; cases h
        · intro h; omega
      · exact hi i (by omega)
    | true =>
      refine ⟨n + 1, Nat.le_refl _, fun i hin => ⟨fun _ => hin, fun _ => ?_⟩⟩
      have go : ∀ d, d ≤ n → p (n - d) = true := fun d => by
        induction d with
        | zero => exact fun _ => e
        | succ d ih => exact fun hd => h (n - (d + 1)) (by omega) (by rw [show n - (d + 1) + 1 = n - d by omega]; exact ih (by omega))
      have := go (n - i) (by omega)
      rwa [show n - (n - i) = i by omega] at this
section
variable {P : Nat → Q2} {n m : Nat} (C : Cvx P n) (hm : ∀ i, i < n → (hiB (stp' P n i) = true ↔ i < m)) (hmn : m ≤ n)
include C hm
theorem cvx_m1 : 1 ≤ m := (hm 0 (by have := C.n3; omega)).1 C.first
theorem cvx_mn : m < n := by
  have h := hm (n - 1) (by have := C.n3; omega)
  have := C.n3
  rw [C.last] at h
  have : ¬ n - 1 < m := fun k => by have := h.2 k; cases this
  omega
theorem cvx_hi {i : Nat} (h : i < m) : Hi (stp' P n i) := by
  have := cvx_mn C hm
  exact hiB_iff.1 ((hm i (by omega)).2 h)
theorem cvx_lo {i : Nat} (h : m ≤ i) (hi : i < n) : Hi (-stp' P n i) := by
  refine lo_of (stp_ne_right (C.bend i hi)) ?_
  cases e : hiB (stp' P n i)
  · rfl
  · have := (hm i hi).1 e; omega
theorem cvx_next {i : Nat} (h : i + 1 < n) : Pos (cr (stp' P n i) (stp' P n (i + 1))) := by
  have := C.bend (i + 1) h
  rwa [prev_of h, if_neg (by omega), show i + 1 - 1 = i by omega] at this
theorem cvx_up {j : Nat} : ∀ d, j + d + 1 < m → Pos (cr (stp' P n j) (stp' P n (j + d + 1)))
  | 0, h => cvx_next C hm (by have := cvx_mn C hm; omega)
  | d + 1, h => by
    refine hi_trans (cvx_hi C hm (by omega)) (cvx_hi C hm (show j + d + 1 < m by omega)) (cvx_hi C hm (by omega)) (cvx_up d (by omega)) ?_
    exact cvx_next C hm (i := j + d + 1) (by have := cvx_mn C hm; omega)
theorem cvx_down {j : Nat} (hj : m ≤ j) : ∀ d, j + d + 1 < n → Pos (cr (stp' P n j) (stp' P n (j + d + 1)))
  | 0, h => cvx_next C hm (by omega)
  | d + 1, h => by
    have h1 := cvx_down hj d (by omega)
    have h2 := cvx_next C hm (i := j + d + 1) (by omega)
    rw [← cr_neg] at h1 h2 ⊢
    exact hi_trans (cvx_lo C hm hj (by omega)) (cvx_lo C hm (by omega) (by omega)) (cvx_lo C hm (by omega) (by omega)) h1 h2
/-- What a corner adds to the area, seen from the first corner. -/
theorem cvx_part {i : Nat} (h : i < n) : NN (cr (sumQ (stp' P n) i) (stp' P n i)) ∧ ((1 ≤ i ∧ i < m) ∨ (m ≤ i ∧ i + 1 < n) → Pos (cr (sumQ (stp' P n) i) (stp' P n i))) := by
  by_cases hi : i < m
  · rw [cr_suml]
    have hp : ∀ j, j < i → Pos (cr (stp' P n j) (stp' P n i)) := fun j hj => by
      have := cvx_up C hm (j := j) (i - j - 1) (by omega)
      rwa [show j + (i - j - 1) + 1 = i by omega] at this
    refine ⟨sumR_nn fun j hj => .inr (hp j hj), fun k => ?_⟩
    have h1 : 1 ≤ i := by omega
    exact sumR_pos (fun j hj => .inr (hp j hj)) (show 0 < i by omega) (hp 0 (by omega))
  · have e : cr (sumQ (stp' P n) i) (stp' P n i) = sumR (fun l => cr (stp' P n i) (stp' P n (i + l))) (n - i) := by
      have h0 := steps_home P (n := n) (by have := C.n3; omega)
      have hs := sumQ_split (stp' P n) i (n - i)
      rw [show i + (n - i) = n by omega, h0] at hs
      rw [← cr_sumr]
      have h1 : cr 0 (stp' P n i) = cr (sumQ (stp' P n) i) (stp' P n i) + cr (sumQ (fun j => stp' P n (i + j)) (n - i)) (stp' P n i) := by rw [← cr_addl, ← hs]
      rw [cr_zerol] at h1
      rw [cr_swap (sumQ (fun j => stp' P n (i + j)) (n - i)) (stp' P n i)]
      have h2 : cr (sumQ (stp' P n) i) (stp' P n i) = (cr (sumQ (stp' P n) i) (stp' P n i) + cr (sumQ (fun j => stp' P n (i + j)) (n - i)) (stp' P n i)) + -cr (sumQ (fun j => stp' P n (i + j)) (n - i)) (stp' P n i) := by
        rw [R4.add_assoc, R4.add_neg, R4.add_zero]
      rw [h2, ← h1, R4.zero_add]
    rw [e]
    have hp : ∀ l, l < n - i → NN (cr (stp' P n i) (stp' P n (i + l))) := fun l hl => by
      cases l with
      | zero => exact .inl (cr_self _)
      | succ l => exact .inr (cvx_down C hm (show m ≤ i by omega) l (by omega))
    refine ⟨sumR_nn hp, fun k => sumR_pos hp (k := 1) (by omega) ?_⟩
    exact cvx_down C hm (show m ≤ i by omega) 0 (by omega)
include hmn
theorem cvx_area : Pos (areaR P n) := by
  have e : areaR P n = sumR (fun i => cr (sumQ (stp' P n) i) (stp' P n i)) n := by
    unfold areaR
    rw [show sumR (fun i => cr (P i) (P ((i + 1) % n))) n = sumR (fun i => cr (P 0) (stp' P n i) + cr (sumQ (stp' P n) i) (stp' P n i)) n from sm_same fun i hi => by
      rw [cr_next]
      show cr (P i) (stp' P n i) = _
      rw [← cr_addl, steps_to P n hi, Q2.add_sub]]
    rw [sumR_add, ← cr_sumr, steps_home P (by have := C.n3; omega), cr_zeror, R4.zero_add]
  rw [e]
  have h3 := C.n3
  have h1 := cvx_m1 C hm
  have h2 := cvx_mn C hm
  by_cases h : 2 ≤ m
  · exact sumR_pos (fun i hi => (cvx_part C hm hi).1) (k := 1) (by omega) ((cvx_part C hm (by omega)).2 (.inl ⟨by omega, by omega⟩))
  · exact sumR_pos (fun i hi => (cvx_part C hm hi).1) (k := m) (by omega) ((cvx_part C hm (by omega)).2 (.inr ⟨by omega, by omega⟩))
/-- A convex polygon goes round a point once or not at all. -/
theorem cvx_wind (c : Q2) : -1 ≤ windZ P c n ∧ windZ P c n ≤ 1 := by
  have h3 := C.n3
  have h1 := cvx_m1 C hm
  have h2 := cvx_mn C hm
  obtain ⟨Y, hY⟩ : ∃ Y : Nat → Q2, Y = fun i => P (i % n) - c := ⟨_, rfl⟩
  have hw : windZ P c n = sumI (fun i => wn (Y i) (Y (i + 1))) n := by
    unfold windZ
    refine sm_same fun i hi => ?_
    rw [hY]
    show _ = wn (P (i % n) - c) (P ((i + 1) % n) - c)
    rw [Nat.mod_eq_of_lt hi]
  have hst : ∀ i, i < n → Y (i + 1) = Y i + stp' P n i := fun i hi => by
    rw [hY]
    show P ((i + 1) % n) - c = (P (i % n) - c) + (P ((i + 1) % n) - P i)
    rw [Nat.mod_eq_of_lt hi]
    exact Q2.ext (by simp only [Q2.addx, Q2.subx]; (apply R4.ext <;> simp only [R4.adda, R4.addb, R4.addc, R4.adde, R4.mula, R4.mulb, R4.mulc, R4.mule, R4.nega, R4.negb, R4.negc, R4.nege, R4.suba, R4.subb, R4.subc, R4.sube, R4.za, R4.zb, R4.zc, R4.ze] <;> grind)) (by simp only [Q2.addy, Q2.suby]; (apply R4.ext <;> simp only [R4.adda, R4.addb, R4.addc, R4.adde, R4.mula, R4.mulb, R4.mulc, R4.mule, R4.nega, R4.negb, R4.negc, R4.nege, R4.suba, R4.subb, R4.subc, R4.sube, R4.za, R4.zb, R4.zc, R4.ze] <;> grind))
  have hup : ∀ i, i < m → upB (Y i) = true → upB (Y (i + 1)) = true := fun i hi e => by
    unfold upB at *
    rw [decide_eq_true_iff, sgR_lt] at *
    rw [hst i (by omega), Q2.addy]
    exact R4.pos_nn e (hi_nn (cvx_hi C hm hi))
  have hdn : ∀ i, m ≤ i → i < n → upB (Y i) = false → upB (Y (i + 1)) = false := fun i hi hn e => by
    unfold upB at *
    rw [decide_eq_false_iff_not, sgR_lt] at *
    intro k
    rw [hst i hn, Q2.addy] at k
    have hl := hi_nn (cvx_lo C hm hi hn)
    rw [Q2.negy] at hl
    have := R4.pos_nn k hl
    rw [R4.add_assoc, R4.add_neg, R4.add_zero] at this
    exact e this
  rw [hw]
  have hA : ∀ k, k ≤ m → 0 ≤ sumI (fun i => wn (Y i) (Y (i + 1))) k ∧ sumI (fun i => wn (Y i) (Y (i + 1))) k ≤ if upB (Y k) then 1 else 0 := fun k => by
    induction k with
    | zero => intro _; exact ⟨Int.le_refl _, by show (0 : Int) ≤ _; split <;> omega⟩
    | succ k ih =>
      intro hk
      obtain ⟨a, b⟩ := ih (by omega)
      have hu := hup k (by omega)
      show 0 ≤ sumI (fun i => wn (Y i) (Y (i + 1))) k + wn (Y k) (Y (k + 1)) ∧ sumI (fun i => wn (Y i) (Y (i + 1))) k + wn (Y k) (Y (k + 1)) ≤ _
      generalize sumI (fun i => wn (Y i) (Y (i + 1))) k = S at *
      unfold wn
      cases e1 : upB (Y k)
      · rw [e1] at b
        simp only [Bool.false_eq_true, if_false] at b
        cases e2 : upB (Y (k + 1))
        · simp; omega
        · simp only [true_and, if_true, Bool.true_eq_false, Bool.false_eq_true, false_and, if_false]
          split <;> omega
      · rw [e1] at b
        rw [hu e1]
        simp only [if_true] at b
        simp; omega
  have hB : ∀ d, m + d ≤ n → sumI (fun i => wn (Y i) (Y (i + 1))) (m + d) ≤ 1 ∧ (if upB (Y (m + d)) then 0 else -1) ≤ sumI (fun i => wn (Y i) (Y (i + 1))) (m + d) := fun d => by
    induction d with
    | zero =>
      intro _
      obtain ⟨a, b⟩ := hA m (Nat.le_refl _)
      refine ⟨?_, ?_⟩
      · show sumI (fun i => wn (Y i) (Y (i + 1))) m ≤ 1
        split at b <;> omega
      · show _ ≤ sumI (fun i => wn (Y i) (Y (i + 1))) m
        split <;> omega
    | succ d ih =>
      intro hk
      obtain ⟨a, b⟩ := ih (by omega)
      have hu := hdn (m + d) (by omega) (by omega)
      show sumI (fun i => wn (Y i) (Y (i + 1))) (m + d) + wn (Y (m + d)) (Y (m + d + 1)) ≤ 1 ∧ (if upB (Y (m + d + 1)) then 0 else -1) ≤ sumI (fun i => wn (Y i) (Y (i + 1))) (m + d) + wn (Y (m + d)) (Y (m + d + 1))
      generalize sumI (fun i => wn (Y i) (Y (i + 1))) (m + d) = S at *
      generalize Y (m + d) = y at *
      generalize Y (m + d + 1) = y2 at *
      unfold wn
      cases e1 : upB y
      · rw [e1] at b
        rw [hu e1]
        simp only [Bool.false_eq_true, if_false] at b
        simp; omega
      · rw [e1] at b
        simp only [if_true] at b
        cases e2 : upB y2
        · simp only [true_and, if_true, Bool.true_eq_false, Bool.false_eq_true, false_and, if_false]
          split <;> omega
        · simp; omega
  have := hB (n - m) (by omega)
  rw [show m + (n - m) = n by omega] at this
  obtain ⟨a, b⟩ := this
  refine ⟨?_, a⟩
  split at b <;> omega
end
theorem convex_left {P : Nat → Q2} {n : Nat} (h3 : 3 ≤ n) (hb : ∀ i, i < n → bnd P n i = 1) (ht : turnZ P n = 1) : Pos (areaR P n) ∧ ∀ c, -1 ≤ windZ P c n ∧ windZ P c n ≤ 1 := by
  obtain ⟨k, C⟩ := cvx_of h3 hb ht
  obtain ⟨m, hmn, hm⟩ := cut_of (p := fun i => hiB (stp' (turned P n k) n i)) n C.back
  have hA := cvx_area C hm hmn
  rw [areaR_turned] at hA
  refine ⟨hA, fun c => ?_⟩
  have hW := cvx_wind C hm hmn c
  rwa [windZ_turned] at hW
theorem convex_right {P : Nat → Q2} {n : Nat} (h3 : 3 ≤ n) (hb : ∀ i, i < n → bnd P n i = -1) (ht : turnZ P n = -1) : Pos (-areaR P n) ∧ ∀ c, -1 ≤ windZ P c n ∧ windZ P c n ≤ 1 := by
  have hok : okP P n := fun i hi h => by
    have := hb i hi
    unfold bnd at this
    omega
  have h := convex_left (P := rv P n) h3 (fun i hi => by rw [bnd_rv P hi, hb _ (by omega)]; rfl) (by rw [turnZ_rv hok, ht]; rfl)
  rw [areaR_rv] at h
  refine ⟨h.1, fun c => ?_⟩
  have := h.2 c
  rw [windZ_rv] at this
  omega

/-! On a side. -/
def onS (p q : Q2) : Bool := decide (sgR (cr p q) = 0) && decide (sgR (dt p q) ≤ 0)
theorem onS_back (p q : Q2) : onS q p = onS p q := by
  unfold onS
  rw [cr_swap, dt_comm, sgR_neg]
  congr 1
  exact decide_eq_decide.2 (by omega)
theorem onS_left (q : Q2) : onS 0 q = true := by
  unfold onS
  have e : dt 0 q = 0 := by unfold dt; simp only [Q2.zx, Q2.zy]; (apply R4.ext <;> simp only [R4.adda, R4.addb, R4.addc, R4.adde, R4.mula, R4.mulb, R4.mulc, R4.mule, R4.nega, R4.negb, R4.negc, R4.nege, R4.suba, R4.subb, R4.subc, R4.sube, R4.za, R4.zb, R4.zc, R4.ze] <;> grind)
  rw [cr_zerol, e, sgR_zero.2 rfl]; decide
def onP (P : Nat → Q2) (c : Q2) (n : Nat) : Bool := (List.range n).any fun i => onS (P i - c) (P ((i + 1) % n) - c)
theorem onP_iff {P : Nat → Q2} {c : Q2} {n : Nat} : onP P c n = true ↔ ∃ i, i < n ∧ onS (P i - c) (P ((i + 1) % n) - c) = true := by
  unfold onP
  simp only [List.any_eq_true, List.mem_range]
theorem onP_corner (P : Nat → Q2) {n i : Nat} (h : i < n) : onP P (P i) n = true := onP_iff.2 ⟨i, h, by rw [Q2.sub_self]; exact onS_left _⟩
theorem onP_some {P : Nat → Q2} {c : Q2} {n : Nat} (h : onP (rv P n) c n = true) : onP P c n = true := by
  obtain ⟨i, hi, e⟩ := onP_iff.1 h
  rw [(side_rv P hi).1, (side_rv P hi).2, onS_back] at e
  exact onP_iff.2 ⟨_, Nat.mod_lt _ (by omega), e⟩
theorem onP_rv (P : Nat → Q2) (c : Q2) (n : Nat) : onP (rv P n) c n = onP P c n := by
  refine Bool.eq_iff_iff.2 ⟨onP_some, fun h => ?_⟩
  have e : ∀ i, i < n → rv (rv P n) n i = P i := fun i hi => by
    show P (n - 1 - (n - 1 - i)) = P i
    rw [show n - 1 - (n - 1 - i) = i by omega]
  obtain ⟨i, hi, k⟩ := onP_iff.1 h
  refine onP_some (P := rv P n) (onP_iff.2 ⟨i, hi, ?_⟩)
  rw [e i hi, e _ (Nat.mod_lt _ (by omega))]
  exact k
/-- Convex polygons, as the program asks. -/
def convP (P : Nat → Q2) (n : Nat) : Prop := 3 ≤ n ∧ okP P n ∧ ((∀ i, i < n → bnd P n i = 1) ∧ turnZ P n = 1 ∨ (∀ i, i < n → bnd P n i = -1) ∧ turnZ P n = -1)
theorem convP_rv {P : Nat → Q2} {n : Nat} (h : convP P n) : convP (rv P n) n := by
  obtain ⟨h3, hok, h | h⟩ := h
  · exact ⟨h3, okP_rv hok, .inr ⟨fun i hi => by rw [bnd_rv P hi, h.1 _ (by omega)], by rw [turnZ_rv hok, h.2]⟩⟩
  · exact ⟨h3, okP_rv hok, .inl ⟨fun i hi => by rw [bnd_rv P hi, h.1 _ (by omega)]; rfl, by rw [turnZ_rv hok, h.2]; rfl⟩⟩
theorem convP_area {P : Nat → Q2} {n : Nat} (h : convP P n) : sgR (areaR P n) = bnd P n 0 := by
  obtain ⟨h3, hok, h | h⟩ := h
  · rw [h.1 0 (by omega), sgR_pos.2 (convex_left h3 h.1 h.2).1]
  · have := sgR_pos.2 (convex_right h3 h.1 h.2).1
    rw [sgR_neg] at this
    rw [h.1 0 (by omega)]; omega
theorem convP_wind {P : Nat → Q2} {n : Nat} (h : convP P n) (c : Q2) : -1 ≤ windZ P c n ∧ windZ P c n ≤ 1 := by
  obtain ⟨h3, hok, h | h⟩ := h
  · exact (convex_left h3 h.1 h.2).2 c
  · exact (convex_right h3 h.1 h.2).2 c

end Go.Proofs.Ytdpakhggpgdgbaa
/- Polygons of exact points: their crosses are crosses of vectors. -/
namespace Go.Proofs.Ytdpakhggpgdgbaa
set_option maxRecDepth 20000
set_option linter.unusedVariables false
set_option linter.unusedSimpArgs false

def q4 (f : Nat → Int) : R4 := ⟨f 0, f 1, f 2, f 3⟩
/-- Four times an exact point, as a vector. -/
def qv (a : Nat → Int) : Q2 := ⟨q4 (rea a), q4 (ima a)⟩
theorem sgR_q4 (f : Nat → Int) : sgR (q4 f) = sgf f := rfl
/-- What the cross and the dot of two points are made of. -/
def crs (a b : Nat → Int) : Nat → Int := ima (prd (mir a) b)
def dts (a b : Nat → Int) : Nat → Int := rea (prd (mir a) b)
set_option maxHeartbeats 4000000 in
theorem crs_parts (a b : Nat → Int) : ∀ j, j < 4 → stm (rea a) (ima b) j - stm (ima a) (rea b) j = 4 * crs a b j := by
  refine four_cases ?_ ?_ ?_ ?_ <;> simp [crs, stm, rea, ima, f4, prd, red, outer, inner_at, mir] <;> grind
set_option maxHeartbeats 4000000 in
theorem dts_parts (a b : Nat → Int) : ∀ j, j < 4 → stm (rea a) (rea b) j + stm (ima a) (ima b) j = 4 * dts a b j := by
  refine four_cases ?_ ?_ ?_ ?_ <;> simp [dts, stm, rea, ima, f4, prd, red, outer, inner_at, mir] <;> grind
def four (x : R4) : R4 := ⟨4 * x.a, 4 * x.b, 4 * x.c, 4 * x.e⟩
theorem q4_mul (f g : Nat → Int) : q4 f * q4 g = q4 (stm f g) := by
  apply R4.ext <;> simp only [R4.mula, R4.mulb, R4.mulc, R4.mule, q4, stm, f4] <;> grind
theorem cr_qv (a b : Nat → Int) : cr (qv a) (qv b) = four (q4 (crs a b)) := by
  unfold cr qv four
  simp only [q4_mul]
  apply R4.ext <;> simp only [R4.suba, R4.subb, R4.subc, R4.sube, q4]
  · exact crs_parts a b 0 (by omega)
  · exact crs_parts a b 1 (by omega)
  · exact crs_parts a b 2 (by omega)
  · exact crs_parts a b 3 (by omega)
theorem dt_qv (a b : Nat → Int) : dt (qv a) (qv b) = four (q4 (dts a b)) := by
  unfold dt qv four
  simp only [q4_mul]
  apply R4.ext <;> simp only [R4.adda, R4.addb, R4.addc, R4.adde, q4]
  · exact dts_parts a b 0 (by omega)
  · exact dts_parts a b 1 (by omega)
  · exact dts_parts a b 2 (by omega)
  · exact dts_parts a b 3 (by omega)
theorem four_pos {x : R4} : R4.Pos (four x) ↔ R4.Pos x := by
  constructor
  · exact fun h => p4_four h
  · intro h
    have h2 := R4.pos_add (R4.pos_add h h) (R4.pos_add h h)
    have e : x + x + (x + x) = four x := by
      apply R4.ext <;> simp only [R4.adda, R4.addb, R4.addc, R4.adde, four] <;> omega
    rwa [e] at h2
theorem four_neg (x : R4) : four (-x) = -four x := by
  apply R4.ext <;> simp only [R4.nega, R4.negb, R4.negc, R4.nege, four] <;> omega
theorem four_zero {x : R4} : four x = 0 ↔ x = 0 := by
  constructor
  · intro h
    have h1 := congrArg R4.a h
    have h2 := congrArg R4.b h
    have h3 := congrArg R4.c h
    have h4 := congrArg R4.e h
    simp only [four, R4.za, R4.zb, R4.zc, R4.ze] at h1 h2 h3 h4
    exact R4.ext (show x.a = 0 by omega) (show x.b = 0 by omega) (show x.c = 0 by omega) (show x.e = 0 by omega)
  · rintro rfl; rfl
theorem sgR_four (x : R4) : sgR (four x) = sgR x := by
  rcases R4.pos_tri x with h | h | h
  · rw [h, (show four 0 = 0 from rfl)]
  · rw [sgR_pos.2 h, sgR_pos.2 (four_pos.2 h)]
  · have h1 := sgR_pos.2 h
    have h2 := sgR_pos.2 (four_pos.2 h)
    rw [sgR_neg] at h1
    rw [four_neg, sgR_neg] at h2
    omega
theorem sgf_crs (a b : Nat → Int) : sgf (crs a b) = sgR (cr (qv a) (qv b)) := by rw [cr_qv, sgR_four]; rfl
theorem sgf_dts (a b : Nat → Int) : sgf (dts a b) = sgR (dt (qv a) (qv b)) := by rw [dt_qv, sgR_four]; rfl
theorem rea_lin (a b : Nat → Int) (n : Int) : ∀ j, j < 4 → rea (fun k => a k + n * b k) j = rea a j + n * rea b j := by
  refine four_cases ?_ ?_ ?_ ?_ <;> simp [rea, f4] <;> grind
theorem ima_lin (a b : Nat → Int) (n : Int) : ∀ j, j < 4 → ima (fun k => a k + n * b k) j = ima a j + n * ima b j := by
  refine four_cases ?_ ?_ ?_ ?_ <;> simp [ima, f4] <;> grind
theorem qv_sub (a b : Nat → Int) : qv (sub a b) = qv a - qv b := by
  have e : sub a b = fun k => a k + (-1) * b k := by funext k; show a k - b k = _; omega
  rw [e]
  have h := rea_lin a b (-1)
  have k := ima_lin a b (-1)
  refine Q2.ext ?_ ?_
  · apply R4.ext <;> simp only [qv, q4, Q2.subx, R4.suba, R4.subb, R4.subc, R4.sube]
    · rw [h 0 (by omega)]; omega
    · rw [h 1 (by omega)]; omega
    · rw [h 2 (by omega)]; omega
    · rw [h 3 (by omega)]; omega
  · apply R4.ext <;> simp only [qv, q4, Q2.suby, R4.suba, R4.subb, R4.subc, R4.sube]
    · rw [k 0 (by omega)]; omega
    · rw [k 1 (by omega)]; omega
    · rw [k 2 (by omega)]; omega
    · rw [k 3 (by omega)]; omega
theorem q4_eq {f g : Nat → Int} (h : q4 f = q4 g) : ∀ j, j < 4 → f j = g j :=
  four_cases (congrArg R4.a h) (congrArg R4.b h) (congrArg R4.c h) (congrArg R4.e h)
theorem four_inj {x y : R4} (h : four x = four y) : x = y := by
  have h1 := congrArg R4.a h
  have h2 := congrArg R4.b h
  have h3 := congrArg R4.c h
  have h4 := congrArg R4.e h
  simp only [four] at h1 h2 h3 h4
  exact R4.ext (by omega) (by omega) (by omega) (by omega)
/-- Crosses both ways are opposite; of a point and itself it is nothing. -/
theorem crs_swap (a b : Nat → Int) : ∀ j, j < 4 → crs b a j = -crs a b j := by
  have h := cr_swap (qv a) (qv b)
  rw [cr_qv, cr_qv, ← four_neg] at h
  have h2 : q4 (crs b a) = q4 (fun k => -crs a b k) := four_inj h
  exact q4_eq h2
theorem crs_self (a : Nat → Int) : ∀ j, j < 4 → crs a a j = 0 := fun j hj => by
  have := crs_swap a a j hj
  omega
/-- Sums of crosses. -/
def sumF (f : Nat → Nat → Int) (n : Nat) : Nat → Int := fun j => sumI (fun i => f i j) n
theorem sumR_q4 (f : Nat → Nat → Int) : ∀ n, sumR (fun i => four (q4 (f i))) n = four (q4 (sumF f n))
  | 0 => rfl
  | n + 1 => by
    show sumR (fun i => four (q4 (f i))) n + four (q4 (f n)) = four (q4 (sumF f (n + 1)))
    rw [sumR_q4 f n]
    have e : ∀ j, sumF f (n + 1) j = sumF f n j + f n j := fun j => rfl
    apply R4.ext <;> simp only [R4.adda, R4.addb, R4.addc, R4.adde, four, q4, e] <;> omega
/-- Twice the area of a polygon of exact points. -/
def areaF (P : Nat → Nat → Int) (n : Nat) : Nat → Int := sumF (fun i => crs (P i) (P ((i + 1) % n))) n
theorem area_qv (P : Nat → Nat → Int) (n : Nat) : areaR (fun i => qv (P i)) n = four (q4 (areaF P n)) := by
  unfold areaR areaF
  rw [← sumR_q4]
  exact sm_same fun i hi => cr_qv _ _
theorem area_back (P : Nat → Nat → Int) (n : Nat) : ∀ j, j < 4 → areaF (fun i => P (n - 1 - i)) n j = -areaF P n j := by
  have h := areaR_rv (fun i => qv (P i)) n
  rw [area_qv, show rv (fun i => qv (P i)) n = fun i => qv (P (n - 1 - i)) from rfl, area_qv (fun i => P (n - 1 - i)), ← four_neg] at h
  have h2 : q4 (areaF (fun i => P (n - 1 - i)) n) = q4 (fun k => -areaF P n k) := four_inj h
  exact q4_eq h2
theorem area_next (P : Nat → Nat → Int) (n k : Nat) : ∀ j, j < 4 → areaF (fun i => P ((i + k) % n)) n j = areaF P n j := by
  have h := areaR_turned (fun i => qv (P i)) n k
  rw [area_qv, show turned (fun i => qv (P i)) n k = fun i => qv (P ((i + k) % n)) from rfl, area_qv (fun i => P ((i + k) % n))] at h
  exact q4_eq (four_inj h)

/-! How great crosses are. -/
theorem mulP {x y : Int} (X Y : Nat) (hx : -(X : Int) ≤ x ∧ x ≤ X) (hy : -(Y : Int) ≤ y ∧ y ≤ Y) : -((X * Y : Nat) : Int) ≤ x * y ∧ x * y ≤ ((X * Y : Nat) : Int) := by
  have h1 : x.natAbs ≤ X := by omega
  have h2 : y.natAbs ≤ Y := by omega
  have h3 : (x * y).natAbs ≤ X * Y := by rw [Int.natAbs_mul]; exact Nat.mul_le_mul h1 h2
  omega
theorem mir_small {a : Nat → Int} {M : Nat} (h : ∀ j, j < 8 → -(M : Int) ≤ a j ∧ a j ≤ M) : ∀ j, j < 8 → -((2 * M : Nat) : Int) ≤ mir a j ∧ mir a j ≤ ((2 * M : Nat) : Int) := fun j hj => by
  have h0 := h 0 (by omega); have h1 := h 1 (by omega); have h2 := h 2 (by omega); have h3 := h 3 (by omega)
  have h4 := h 4 (by omega); have h5 := h 5 (by omega); have h6 := h 6 (by omega); have h7 := h 7 (by omega)
  rcases (show j = 0 ∨ j = 1 ∨ j = 2 ∨ j = 3 ∨ j = 4 ∨ j = 5 ∨ j = 6 ∨ j = 7 by omega) with rfl | rfl | rfl | rfl | rfl | rfl | rfl | rfl <;> simp [mir] <;> omega
theorem trn_small {a : Nat → Int} {M : Nat} (h : ∀ j, j < 8 → -(M : Int) ≤ a j ∧ a j ≤ M) (n : Nat) (j : Nat) : -((4 * M : Nat) : Int) ≤ trn a n j ∧ trn a n j ≤ ((4 * M : Nat) : Int) := by
  have hp : ∀ k, -(M : Int) ≤ tpow a n 8 k ∧ tpow a n 8 k ≤ M := fun k => by
    unfold tpow
    split
    · rename_i hk; exact h _ hk
    · omega
  unfold trn red
  have h1 := hp j; have h2 := hp (j + 4); have h3 := hp (j + 8); have h4 := hp (j + 12); have h5 := hp (j + 16); have h6 := hp (j + 20)
  split <;> omega
theorem smul_small {a b : Nat → Int} {A B : Nat} (ha : ∀ j, j < 8 → -(A : Int) ≤ a j ∧ a j ≤ A) (hb : ∀ j, j < 8 → -(B : Int) ≤ b j ∧ b j ≤ B) : ∀ k, k ≤ 8 → ∀ j, j < 8 → -((k * (A * (4 * B)) : Nat) : Int) ≤ smul a b k j ∧ smul a b k j ≤ ((k * (A * (4 * B)) : Nat) : Int)
  | 0, _, j, hj => by simp [smul]
  | k + 1, h, j, hj => by
    have h1 := smul_small ha hb k (by omega) j hj
    have h3 := trn_small hb k j
    rw [← trn_steps b k (by omega) j hj] at h3
    have h2 := mulP A (4 * B) (ha k (by omega)) h3
    simp only [smul, mul1]
    rw [Nat.succ_mul]
    omega
theorem prd_small {a b : Nat → Int} {A B : Nat} (ha : ∀ j, j < 8 → -(A : Int) ≤ a j ∧ a j ≤ A) (hb : ∀ j, j < 8 → -(B : Int) ≤ b j ∧ b j ≤ B) : ∀ j, j < 8 → -((8 * (A * (4 * B)) : Nat) : Int) ≤ prd a b j ∧ prd a b j ≤ ((8 * (A * (4 * B)) : Nat) : Int) := fun j hj => by
  rw [← prd_smul a b j hj]
  exact smul_small ha hb 8 (by omega) j hj
theorem ima_small {a : Nat → Int} {K : Nat} (h : ∀ j, j < 8 → -(K : Int) ≤ a j ∧ a j ≤ K) : ∀ j, j < 4 → -((6 * K : Nat) : Int) ≤ ima a j ∧ ima a j ≤ ((6 * K : Nat) : Int) := by
  have h0 := h 0 (by omega); have h1 := h 1 (by omega); have h2 := h 2 (by omega); have h3 := h 3 (by omega)
  have h4 := h 4 (by omega); have h5 := h 5 (by omega); have h6 := h 6 (by omega); have h7 := h 7 (by omega)
  refine four_cases ?_ ?_ ?_ ?_ <;> simp [ima, f4] <;> omega
theorem rea_small {a : Nat → Int} {K : Nat} (h : ∀ j, j < 8 → -(K : Int) ≤ a j ∧ a j ≤ K) : ∀ j, j < 4 → -((6 * K : Nat) : Int) ≤ rea a j ∧ rea a j ≤ ((6 * K : Nat) : Int) := by
  have h0 := h 0 (by omega); have h1 := h 1 (by omega); have h2 := h 2 (by omega); have h3 := h 3 (by omega)
  have h4 := h 4 (by omega); have h5 := h 5 (by omega); have h6 := h 6 (by omega); have h7 := h 7 (by omega)
  refine four_cases ?_ ?_ ?_ ?_ <;> simp [rea, f4] <;> omega

end Go.Proofs.Ytdpakhggpgdgbaa
/- spec: small points, polygons, crosses. -/
namespace Go.Proofs.Ytdpakhggpgdgbaa
set_option maxRecDepth 20000
open Go.ChangeShapes Go.WideShapes Go.ChangeAt Go.RowKit
set_option linter.unusedVariables false
set_option linter.unusedSimpArgs false

/-- Coefficients of a size of at most m. -/
def smallF (m : Int) (f : Nat → Int) : Bool := (List.range 8).all fun k => decide (-m ≤ f k ∧ f k ≤ m)
theorem smallF_iff {m : Int} {f : Nat → Int} : smallF m f = true ↔ ∀ j, j < 8 → -m ≤ f j ∧ f j ≤ m := by
  unfold smallF
  simp only [List.all_eq_true, List.mem_range, decide_eq_true_iff]
theorem smallF_no {m : Int} {f : Nat → Int} {k : Nat} (hk : k < 8) (h : ¬ (-m ≤ f k ∧ f k ≤ m)) : smallF m f = false := by
  cases e : smallF m f
  · rfl
  · exact absurd (smallF_iff.1 e k hk) h
set_option maxHeartbeats 1000000 in
theorem l8Small_any (a : Nat → Int) (m : Int) (hm : 0 ≤ m ∧ m ≤ 1000000) (w : World) :
    Calls Try.prog 59 #[pt a, .int .i64 m] w fun e w' => e = .returned (.bool (smallF m a)) ∧ Below w.heap.size w w' := by
  have sa := vec_size 8 a
  unfold pt
  have e1 : IntKind.i64.wrap (0 - m) = -m := by rw [IntKind.wrap_i64]; omega
  go_enter Try.func59, Try.ntmps59
  go_upto_region 1 with fail
  show Code.wp _ _ _ _ (box0 w a 32)
  obtain ⟨hA, hL⟩ := box0_facts w a 32
  generalize box0 w a 32 = W at *
  go_wp2_with fail
  go_loopw [5] (fun i wr => ∃ k : Nat, k ≤ 8 ∧ i = .int .i64 k ∧ (∀ j, j < k → -m ≤ a j ∧ a j ≤ m) ∧ RowAt wr w.heap.size 8 32 a ∧ Below w.heap.size w wr) (fun i _ => 8 - (intOf i).toNat)
  case atStart => exact ⟨0, Nat.zero_le _, rfl, fun j hj => absurd hj (by omega), hA, hL⟩
  case round =>
    clear hA hL
    obtain ⟨k, hk, rfl, hin, hA, hL⟩ := hrel
    by_cases hlt : k < 8
    · have hlt' : (k : Int) < 8 := by omega
      have hk0 : (0 : Int) ≤ (k : Int) := by omega
      have cA := hA.cell hlt
      have HA := Lib.hid hA
      have HL := Lib.hid hL
      have HI := Lib.hid hin
      clear hA hL hin
      by_cases hc : -m ≤ a k ∧ a k ≤ m
      · have G := fun w => in_yes (a k) (-m) m hc.1 hc.2 w
        go_wp2_with fail
        refine (G _).mono ?_; rintro e w' ⟨rfl, rfl⟩
        clear G
        go_wp2_with fail
        go_roundw
        case rel => exact ⟨k + 1, by omega, by go_num, upto_succ HI.out hc, HA.out, HL.out⟩
        case measure => simp [intOf]; omega
      · have G := fun w => in_no (a k) (-m) m (by omega) w
        go_wp2_with fail
        refine (G _).mono ?_; rintro e w' ⟨rfl, rfl⟩
        clear G
        go_wp2_with fail
        go_ret
        exact ⟨ret_bool (smallF_no hlt hc).symm, HL.out⟩
    · obtain rfl : k = 8 := by omega
      have HL := Lib.hid hL; have HI := Lib.hid hin
      clear hA hL hin
      go_wp2_with fail
      go_ret
      exact ⟨ret_bool (smallF_iff.2 HI.out).symm, HL.out⟩
set_option maxHeartbeats 1000000 in
theorem specIm_wide (a : Nat → Int) (ha : ∀ j, j < 8 → -1000000000000 ≤ a j ∧ a j ≤ 1000000000000) (w : World) : Calls Try.prog 89 #[.agg (vec 8 a)] w fun e w' => e = .returned (.agg (vec 4 (ima a))) ∧ Below w.heap.size w w' := by
  have h0 := ha 0 (by omega); have h1 := ha 1 (by omega); have h2 := ha 2 (by omega); have h3 := ha 3 (by omega); have h4 := ha 4 (by omega); have h5 := ha 5 (by omega); have h6 := ha 6 (by omega); have h7 := ha 7 (by omega)
  clear ha
  change Calls Try.prog 89 #[.agg #[.int .i64 (a 0), .int .i64 (a 1), .int .i64 (a 2), .int .i64 (a 3), .int .i64 (a 4), .int .i64 (a 5), .int .i64 (a 6), .int .i64 (a 7)]] w fun e w' => e = .returned (.agg #[.int .i64 (2 * a 2 + 4 * a 6), .int .i64 (0 - a 1 + 2 * a 3 + a 5 + a 7), .int .i64 (2 * a 4), .int .i64 (a 1 + a 5 + a 7)]) ∧ Below w.heap.size w w'
  go_enter Try.func89, Try.ntmps89
  go_wp2
  simp [bodyPost, results, Try.results89, go_sem]
  exact below_three _ _ _ _
set_option maxHeartbeats 1000000 in
theorem specRe_wide (a : Nat → Int) (ha : ∀ j, j < 8 → -1000000000000 ≤ a j ∧ a j ≤ 1000000000000) (w : World) : Calls Try.prog 77 #[.agg (vec 8 a)] w fun e w' => e = .returned (.agg (vec 4 (rea a))) ∧ Below w.heap.size w w' := by
  have h0 := ha 0 (by omega); have h1 := ha 1 (by omega); have h2 := ha 2 (by omega); have h3 := ha 3 (by omega); have h4 := ha 4 (by omega); have h5 := ha 5 (by omega); have h6 := ha 6 (by omega); have h7 := ha 7 (by omega)
  clear ha
  change Calls Try.prog 77 #[.agg #[.int .i64 (a 0), .int .i64 (a 1), .int .i64 (a 2), .int .i64 (a 3), .int .i64 (a 4), .int .i64 (a 5), .int .i64 (a 6), .int .i64 (a 7)]] w fun e w' => e = .returned (.agg #[.int .i64 (4 * a 0 + 2 * a 4), .int .i64 (a 1 + 2 * a 3 - a 5 + a 7), .int .i64 (2 * a 2), .int .i64 (a 1 + a 5 - a 7)]) ∧ Below w.heap.size w w'
  go_enter Try.func77, Try.ntmps77
  go_wp2
  simp [bodyPost, results, Try.results77, go_sem]
  exact below_three _ _ _ _
theorem small_inR {a : Nat → Int} {M : Nat} (h : ∀ j, j < 8 → -(M : Int) ≤ a j ∧ a j ≤ M) (hM : M ≤ 1000) : InR a := fun j hj => by have := h j hj; omega
def boxX (w : World) (a b : Nat → Int) (T O : TypeId) : World := ((w.alloc (.cells (vec 8 a) T)).alloc (.cells (vec 8 b) T)).alloc (.cells (vec 4 nul) O)
theorem boxX_facts (w : World) (a b : Nat → Int) (T O : TypeId) : RowAt (boxX w a b T O) w.heap.size 8 T a ∧ RowAt (boxX w a b T O) (w.heap.size + 1) 8 T b ∧ RowAt (boxX w a b T O) (w.heap.size + 1 + 1) 4 O nul ∧ Below w.heap.size w (boxX w a b T O) :=
  ⟨((RowAt.newAt rfl rfl).alloc _).alloc _, (RowAt.newAt rfl (by simp)).alloc _, RowAt.newAt rfl (by simp), (((Below.refl _ _).alloc (Nat.le_refl _) _).alloc (by simp) _).alloc (by simp; omega) _⟩
set_option maxHeartbeats 1000000 in
theorem l8Cross_any (a b : Nat → Int) {M : Nat} (hM : M ≤ 1000) (ha : ∀ j, j < 8 → -(M : Int) ≤ a j ∧ a j ≤ M) (hb : ∀ j, j < 8 → -(M : Int) ≤ b j ∧ b j ≤ M) (w : World) :
    Calls Try.prog 70 #[pt a, pt b] w fun e w' => e = .returned (.agg (vec 4 (crs a b))) ∧ Below w.heap.size w w' := by
  have hm := mir_small ha
  have A := fun w => specMirror_any a (small_inR ha hM) w
  have B := fun w => specTimes_any (mir a) b (fun j hj => by have := hm j hj; omega) (small_inR hb hM) w
  have hp := prd_small hm hb
  have hMM : M * M ≤ 1000 * 1000 := Nat.mul_le_mul hM hM
  have hk : 8 * (2 * M * (4 * M)) ≤ 1000000000000 := by
    have e : 8 * (2 * M * (4 * M)) = 64 * (M * M) := by rw [Nat.mul_mul_mul_comm]; omega
    omega
  have C := fun w => specIm_wide (prd (mir a) b) (fun j hj => by have := hp j hj; omega) w
  unfold crs
  unfold pt at *
  clear hm hp hk hMM ha hb
  generalize ima (prd (mir a) b) = r at *
  generalize prd (mir a) b = q at *
  generalize mir a = c at *
  have sa := vec_size 8 a
  have sb := vec_size 8 b
  go_enter Try.func70, Try.ntmps70
  go_upto_region 1 with fail
  show Code.wp _ _ _ _ (boxX w a b 32 37)
  obtain ⟨hA, hB, hO, hL⟩ := boxX_facts w a b 32 37
  generalize boxX w a b 32 37 = W at *
  refine wp_region_held_drew (S := fun w' => RowAt w' w.heap.size 8 32 a ∧ RowAt w' (w.heap.size + 1) 8 32 b ∧ (∃ f, RowAt w' (w.heap.size + 1 + 1) 4 37 f) ∧ Below w.heap.size w w') (by kernel_rfl) ⟨hA.drew1, hB.drew1, ⟨_, hO.drew1⟩, hL.drew⟩ (fun hHeld => ?_)
  clear hA hB hO hL
  refine wpAnyH_take (i := 0) (oi := _) (v := .agg (vec 8 a)) rfl (by kernel_rfl) (by kernel_rfl) (by kernel_rfl) (fun _ _ _ h => h) (yieldsIf_load_mid (by rfl) _ _ rfl _ _ rfl _ _ ((fun w h => h.1.range)) Try.underlying32 rfl (size_cyc8 a)) hHeld ?_
  try simp only [Act.put, List.setIfInBounds_toArray, List.set_cons_zero, List.set_cons_succ, List.getElem_toArray, List.getElem_cons_succ, List.getElem_cons_zero]
  refine wpAnyH_take (i := 2) (oi := _) (v := .agg (vec 8 b)) rfl (by kernel_rfl) (by kernel_rfl) (by kernel_rfl) (fun _ _ _ h => h) (yieldsIf_load_mid (by rfl) _ _ rfl _ _ rfl _ _ ((fun w h => h.2.1.range)) Try.underlying32 rfl (size_cyc8 b)) hHeld ?_
  try simp only [Act.put, List.setIfInBounds_toArray, List.set_cons_zero, List.set_cons_succ, List.getElem_toArray, List.getElem_cons_succ, List.getElem_cons_zero]
  refine wpAnyH_ready (rs := [1]) (by kernel_rfl) (by simp) ?_
  refine AllReadyH.cons (o := _) rfl (fun K hK => ?_) AllReadyH.nil
  go_simp
  refine (A _).mono ?_; rintro e w1 ⟨rfl, hb1⟩
  go_wp2_with fail
  obtain ⟨h1, h2, ⟨_, h3⟩, h4⟩ := hHeld
  refine hK.out _ _ ⟨h1.below hb1, h2.below hb1, ⟨_, h3.below hb1⟩, below_next h4 hb1⟩ (fun hHeld => ?_)
  clear hK K
  try simp only [Act.put, List.setIfInBounds_toArray, List.set_cons_zero, List.set_cons_succ, List.getElem_toArray, List.getElem_cons_succ, List.getElem_cons_zero]
  clear h1 h2 h3 h4 hb1 A
  refine wpAnyH_ready (rs := [3]) (by kernel_rfl) (by simp) ?_
  refine AllReadyH.cons (o := _) rfl (fun K hK => ?_) AllReadyH.nil
  go_simp
  refine (B _).mono ?_; rintro e w2 ⟨rfl, hb1⟩
  go_wp2_with fail
  obtain ⟨h1, h2, ⟨_, h3⟩, h4⟩ := hHeld
  refine hK.out _ _ ⟨h1.below hb1, h2.below hb1, ⟨_, h3.below hb1⟩, below_next h4 hb1⟩ (fun hHeld => ?_)
  clear hK K
  try simp only [Act.put, List.setIfInBounds_toArray, List.set_cons_zero, List.set_cons_succ, List.getElem_toArray, List.getElem_cons_succ, List.getElem_cons_zero]
  clear h1 h2 h3 h4 hb1 B
  refine wpAnyH_ready (rs := [4]) (by kernel_rfl) (by simp) ?_
  refine AllReadyH.cons (o := _) rfl (fun K hK => ?_) AllReadyH.nil
  go_simp
  refine (C _).mono ?_; rintro e w3 ⟨rfl, hb1⟩
  go_wp2_with fail
  obtain ⟨h1, h2, ⟨_, h3⟩, h4⟩ := hHeld
  refine hK.out _ _ ⟨h1.below hb1, h2.below hb1, ⟨_, h3.below hb1⟩, below_next h4 hb1⟩ (fun hHeld => ?_)
  clear hK K
  try simp only [Act.put, List.setIfInBounds_toArray, List.set_cons_zero, List.set_cons_succ, List.getElem_toArray, List.getElem_cons_succ, List.getElem_cons_zero]
  clear h1 h2 h3 h4 hb1 C
  refine wpAnyH_ready (rs := [5]) (by kernel_rfl) (by simp) ?_
  refine AllReadyH.cons (o := _) rfl (fun K hK => ?_) AllReadyH.nil
  rw [if_pos (by rfl)]
  obtain ⟨h1, h2, ⟨_, h3⟩, h4⟩ := hHeld
  refine store_step (f' := r) rfl rfl rfl h3 info_surd ?_
  have hG := h3.setRow (f' := r)
  have hF := below_setRow h4 (g := w.heap.size + 1 + 1) (by omega) (vec 4 r)
  refine hK.out _ _ ⟨h1.rowOther _ _ (by omega), h2.rowOther _ _ (by omega), ⟨_, hG⟩, hF⟩ (fun hHeld => ?_)
  clear hK K
  try simp only [Act.put, List.setIfInBounds_toArray, List.set_cons_zero, List.set_cons_succ, List.getElem_toArray, List.getElem_cons_succ, List.getElem_cons_zero]
  clear h1 h2 h3 h4 hHeld
  refine wpAnyH_done (by kernel_rfl) ?_ _
  go_wp2
  refine bodyPost_ret (results_row rfl rfl hG Try.underlying37 rfl info_surd) rfl ?_
  exact ⟨rfl, hF⟩

/-- A polygon. -/
def polyOk (xs : List V) : Bool := xs.all (fun c => smallF 100 c.up) && decide (1 ≤ xs.length ∧ xs.length ≤ 48)
theorem polyOk_bad {xs : List V} {k : Nat} {c : V} (hc : xs[k]? = some c) (h : smallF 100 c.up = false) : polyOk xs = false := by
  unfold polyOk
  have : xs.all (fun c => smallF 100 c.up) = false := by
    rw [List.all_eq_false]
    exact ⟨c, List.mem_of_getElem? hc, by simp [h]⟩
  rw [this]; rfl
theorem polyAll_take {xs : List V} {k : Nat} {c : V} (h : (xs.take k).all (fun c => smallF 100 c.up) = true) (hc : xs[k]? = some c) (h1 : smallF 100 c.up = true) : (xs.take (k + 1)).all (fun c => smallF 100 c.up) = true := by
  rw [take_nextV hc, List.all_append, h]
  simp [h1]
set_option maxHeartbeats 2000000 in
theorem specPolyValid_any (v : Value) (xs : List V) (w : World) (hv : ReadsL encV w v xs) : Calls Try.prog 21 #[v] w fun e w' => e = .returned (.bool (polyOk xs)) ∧ Below w.heap.size w w' := by
  obtain ⟨p, cap, rfl, hc1, hc2, hp0, hp⟩ := hv
  simp only [maxLen] at hc2
  have HP := Lib.hid hp
  clear hp
  generalize hres : polyOk xs = res
  have HRES := Lib.hid hres
  clear hres
  go_enter Try.func21, Try.ntmps21
  go_wp2
  go_loopw [3] (fun i wr => ∃ k : Nat, k ≤ xs.length ∧ i = .int .i64 k ∧ Aside ((xs.take k).all (fun c => smallF 100 c.up) = true) ∧ Aside (Below w.heap.size w wr)) (fun i _ => xs.length - (intOf i).toNat)
  case atStart => exact ⟨0, Nat.zero_le _, rfl, Lib.hid rfl, Lib.hid (Below.refl _ _)⟩
  case round =>
    obtain ⟨k, hk, rfl, HA, HL⟩ := hrel
    by_cases hlt : k < xs.length
    · have hkz : (k : Int) < (xs.length : Int) := by omega
      have hk0 : (0 : Int) ≤ (k : Int) := by omega
      obtain ⟨c, hc⟩ : ∃ c, xs[k]? = some c := ⟨_, List.getElem?_eq_getElem hlt⟩
      obtain ⟨g, o, rfl, hg, hr⟩ := HP.out (by rintro rfl; have := hp0 rfl; omega)
      have HE := Lib.hid (cells_part encV_ok (cells_below hr hg HL.out) hc)
      have HC := Lib.hid hc
      have C := fun w => l8Small_any c.up 100 (by omega) w
      clear hr hc
      cases h1 : smallF 100 c.up
      · have HF : Aside (res = false) := (show res = false from by rw [← HRES.out]; exact polyOk_bad HC.out h1)
        rw [h1] at C
        go_wp2_with (first | (refine load_part (T := 32) (f := c.up) rfl rfl rfl HE.out Try.underlying32 rfl info_cyc ?_))
        refine (C _).mono ?_; rintro e w2 ⟨rfl, hb2⟩
        have HL2 := Lib.hid (below_next HL.out hb2)
        clear C hb2
        go_wp2
        go_ret
        exact ⟨by rw [HF.out]; rfl, HL2.out⟩
      · rw [h1] at C
        go_wp2_with (first | (refine load_part (T := 32) (f := c.up) rfl rfl rfl HE.out Try.underlying32 rfl info_cyc ?_))
        refine (C _).mono ?_; rintro e w2 ⟨rfl, hb2⟩
        have HL2 := Lib.hid (below_next HL.out hb2)
        clear C hb2
        go_wp2
        go_roundw
        case rel => exact ⟨k + 1, by omega, by go_num, Lib.hid (polyAll_take HA.out HC.out h1), HL2⟩
        case measure => simp [intOf]; omega
    · obtain rfl : k = xs.length := by omega
      have HF : Aside (res = decide (1 ≤ xs.length ∧ xs.length ≤ 48)) := (show res = _ from by
        have ha := HA.out
        rw [List.take_length] at ha
        rw [← HRES.out]; unfold polyOk; rw [ha, Bool.true_and])
      clear HA
      by_cases hin : 1 ≤ xs.length ∧ xs.length ≤ 48
      · have LN := fun w => in_yes (xs.length : Int) 1 48 (by omega) (by omega) w
        go_wp2_with fail
        refine (LN _).mono ?_; rintro e w2 ⟨rfl, rfl⟩
        clear LN
        go_wp2
        go_ret
        exact ⟨by rw [HF.out, decide_eq_true hin]; rfl, HL.out⟩
      · have LN := fun w => in_no (xs.length : Int) 1 48 (by omega) w
        go_wp2_with fail
        refine (LN _).mono ?_; rintro e w2 ⟨rfl, rfl⟩
        clear LN
        go_wp2
        go_ret
        exact ⟨by rw [HF.out, decide_eq_false hin]; rfl, HL.out⟩

section
variable {P : Program} {ops : Array Oper} {rest : List Oper} {o : Oper} {a : Act} {Q : Exit → Act → World → Prop} {w : World}
/-- A point that is read behind a test. -/
theorem load_pt_on {T : TypeId} {d : TypeDesc} {g p : Nat} {f : Nat → Int} (hw : Region.wanted o (yielded ops a.tmps) = true) {x : Operand} (ho : o.op = .load T x) (hx : a.eval x = .pointer (some ⟨g, p, none⟩)) (hr : w.rangeAt g p (lst 8 f))
    (hu : P.underlying T = some d) (hd : d.isRow = true) (hi : (P.info? T).map (·.size) = some 8)
    (h : wpList P ops Q rest (a.put o.dst (pt f)) w) : wpList P ops Q (o :: rest) a w :=
  wpList_step fun K hK => by
    rw [if_pos hw]
    exact wp_load_mid T x ho g p hx (lst 8 f) d hr hu hd (by rw [lst_length]; exact hi) (hK _ _ h)
end
theorem smallF_at {M : Nat} {f : Nat → Int} (h : smallF M f = true) : ∀ j, j < 8 → -(M : Int) ≤ f j ∧ f j ≤ M := smallF_iff.1 h
set_option maxHeartbeats 2000000 in
theorem specPolyCross_any (a b : Nat → Int) (w : World) : Calls Try.prog 27 #[pt a, pt b] w fun e w' => e = .returned (tls (smallF 1000 a && smallF 1000 b) (crs a b)) ∧ Below w.heap.size w w' := by
  have sa := vec_size 8 a
  have sb := vec_size 8 b
  have P1 := fun w => l8Small_any a 1000 (by omega) w
  have P2 := fun w => l8Small_any b 1000 (by omega) w
  obtain ⟨hA, hB, hO, hL⟩ := boxX_facts w a b 32 37
  cases h1 : smallF 1000 a
  · rw [h1] at P1
    rw [Bool.false_and, ans_no4]
    unfold pt at *
    clear P2
    go_enter Try.func27, Try.ntmps27
    go_upto_region 1 with fail
    show Code.wp _ _ _ _ (boxX w a b 32 37)
    generalize boxX w a b 32 37 = W at *
    go_wp2_with (refine load_row rfl rfl rfl hA Try.underlying32 rfl info_cyc ?_)
    refine (P1 _).mono ?_; rintro e w2 ⟨rfl, hb2⟩
    have hO2 := hO.below hb2
    have hL2 := below_next hL hb2
    clear hA hB hO hL hb2 P1
    go_wp2_with (refine store_row rfl rfl rfl (show _ = Value.agg (vec 4 nul) from rfl) hO2 info_surd ?_)
    refine bodyPost_ret (results_row_tmp rfl rfl hO2.setRow Try.underlying37 rfl info_surd) rfl ?_
    exact ⟨rfl, below_setRow hL2 (by omega) _⟩
  · rw [h1] at P1
    cases h2 : smallF 1000 b
    · rw [h2] at P2
      rw [Bool.and_false, ans_no4]
      unfold pt at *
      go_enter Try.func27, Try.ntmps27
      go_upto_region 1 with fail
      show Code.wp _ _ _ _ (boxX w a b 32 37)
      generalize boxX w a b 32 37 = W at *
      go_wp2_with (refine load_row rfl rfl rfl hA Try.underlying32 rfl info_cyc ?_)
      refine (P1 _).mono ?_; rintro e w2 ⟨rfl, hb2⟩
      have hB2 := hB.below hb2
      have hO2 := hO.below hb2
      have hL2 := below_next hL hb2
      clear hA hB hO hL hb2 P1
      go_wp2_with (refine load_pt_on (by rfl) rfl rfl hB2.range Try.underlying32 rfl info_cyc ?_)
      refine (P2 _).mono ?_; rintro e w3 ⟨rfl, hb3⟩
      have hO3 := hO2.below hb3
      have hL3 := below_next hL2 hb3
      clear hB2 hO2 hL2 hb3 P2
      go_wp2_with (refine store_row rfl rfl rfl (show _ = Value.agg (vec 4 nul) from rfl) hO3 info_surd ?_)
      refine bodyPost_ret (results_row_tmp rfl rfl hO3.setRow Try.underlying37 rfl info_surd) rfl ?_
      exact ⟨rfl, below_setRow hL3 (by omega) _⟩
    · rw [h2] at P2
      have C := fun w => l8Cross_any a b (M := 1000) (by omega) (smallF_at h1) (smallF_at h2) w
      obtain ⟨c', v', T, eT⟩ := specDone_some (crs a b)
      rw [Bool.and_true, eT]
      unfold pt at *
      clear eT h1 h2
      generalize crs a b = r at *
      go_enter Try.func27, Try.ntmps27
      go_upto_region 1 with fail
      show Code.wp _ _ _ _ (boxX w a b 32 37)
      generalize boxX w a b 32 37 = W at *
      go_wp2_with (refine load_row rfl rfl rfl hA Try.underlying32 rfl info_cyc ?_)
      refine (P1 _).mono ?_; rintro e w2 ⟨rfl, hb2⟩
      have hA2 := hA.below hb2
      have hB2 := hB.below hb2
      have hO2 := hO.below hb2
      have hL2 := below_next hL hb2
      clear hA hB hO hL hb2 P1
      go_wp2_with (refine load_pt_on (by rfl) rfl rfl hB2.range Try.underlying32 rfl info_cyc ?_)
      refine (P2 _).mono ?_; rintro e w3 ⟨rfl, hb3⟩
      have hA3 := hA2.below hb3
      have hB3 := hB2.below hb3
      have hO3 := hO2.below hb3
      have hL3 := below_next hL2 hb3
      clear hA2 hB2 hO2 hL2 hb3 P2
      go_wp2_with (first | (refine load_row rfl rfl rfl hA3 Try.underlying32 rfl info_cyc ?_) | (refine load_row rfl rfl rfl hB3 Try.underlying32 rfl info_cyc ?_))
      refine (C _).mono ?_; rintro e w4 ⟨rfl, hb4⟩
      have hO4 := hO3.below hb4
      have hL4 := below_next hL3 hb4
      clear hA3 hB3 hO3 hL3 hb4 C
      go_wp2_with fail
      refine (T _).mono ?_; rintro e w5 ⟨rfl, hb5⟩
      have hO5 := hO4.below hb5
      have hL5 := below_next hL4 hb5
      clear hO4 hL4 hb5 T
      go_wp2_with (refine store_row rfl rfl rfl rfl hO5 info_surd ?_)
      refine bodyPost_ret (results_row_tmp rfl rfl hO5.setRow Try.underlying37 rfl info_surd) rfl ?_
      exact ⟨rfl, below_setRow hL5 (by omega) _⟩

end Go.Proofs.Ytdpakhggpgdgbaa
/- spec: the steps of a polygon. -/
namespace Go.Proofs.Ytdpakhggpgdgbaa
set_option maxRecDepth 20000
open Go.ChangeShapes Go.WideShapes Go.ChangeAt Go.RowKit
set_option linter.unusedVariables false
set_option linter.unusedSimpArgs false

/-- The difference of two points. -/
def subV (a b : V) : V := dn (mul1 a.up (-1) b.up)
theorem pt_subV (a b : V) : pt (subV a b).up = pt (mul1 a.up (-1) b.up) := by
  unfold subV pt
  rw [vec_same (up_dn _)]
/-- The first k steps of a polygon. -/
def stepsV (xs : List V) (k : Nat) : List V := (List.range k).map fun i => subV (at' xs ((i + 1) % xs.length)) (at' xs i)
theorem stepsV_len (xs : List V) (k : Nat) : (stepsV xs k).length = k := by simp [stepsV]
theorem stepsV_next (xs : List V) (k : Nat) : stepsV xs (k + 1) = stepsV xs k ++ [subV (at' xs ((k + 1) % xs.length)) (at' xs k)] := by simp [stepsV, List.range_succ]
theorem range_kept8 {B : Nat} {w w' : World} {g o : Nat} {cs : List Value} (h : w.rangeAt g o cs) (hg : g < B) (hb : Below B w w') : w'.rangeAt g o cs := fun j v hv => (World.cell?_of_block (hb.block g hg)).trans (h j v hv)
theorem wp_one8 {P : Program} {o : Oper} {a : Act} {w : World} {K : Act → World → Prop} {Q : Exit → Act → World → Prop} {t e : TypeId} (ty : TyL P t e 8) {x : Operand} {f : Nat → Int} (ho : o.op = .buildSlice t 1 #[(0, x)]) (hx : a.eval x = .agg (vec 8 f))
    (h : K (a.put o.dst (.slice (some ⟨w.heap.size, 0, none⟩) 1 1)) (w.alloc (.cells (vec 8 f) e))) : o.wp P a w K Q := by
  unfold Oper.wp execOp
  simp [ho, hx, Sem.run_bind, run_one8 ty f w, Result.andThen]
  exact h
set_option maxHeartbeats 2000000 in
theorem l8Steps_any (g o cap : Nat) (xs : List V) (w : World) (hg : g < w.heap.size) (hr : w.rangeAt g o (flt encV xs)) (hc1 : xs.length ≤ cap) (hc2 : cap ≤ maxLen) (hn : xs.length ≤ 48) (hn1 : 1 ≤ xs.length) (hs : ∀ k, k < xs.length → ∀ j, j < 8 → -100 ≤ (at' xs k).up j ∧ (at' xs k).up j ≤ 100) :
    Calls Try.prog 74 #[.slice (some ⟨g, o, none⟩) xs.length cap] w fun e w' => Below w.heap.size w w' ∧ ∃ v', e = .returned v' ∧ OwnL encV 8 w' w.heap.size 32 v' (stepsV xs xs.length) := by
  simp only [maxLen] at hc2
  have HR := Lib.hid hr
  have HS := Lib.hid hs
  clear hr hs
  go_enter Try.func74, Try.ntmps74
  go_wp2
  go_loopw [3, 4] (fun s3 i wr => ∃ k : Nat, k ≤ xs.length ∧ i = .int .i64 k ∧ OwnL encV 8 wr w.heap.size 32 s3 (stepsV xs k) ∧ Below w.heap.size w wr ∧ w.heap.size ≤ wr.heap.size) (fun _ i _ => xs.length - (intOf i).toNat)
  case atStart => exact ⟨0, Nat.zero_le _, rfl, (show OwnL _ _ _ _ _ _ _ from World.ownsRow_made w #[] 0 (Nat.le_refl _) (by simp [maxLen]) (by simp)), (Below.refl _ w).alloc (Nat.le_refl _) _, by simp⟩
  case round =>
    obtain ⟨k, hk, rfl, hO, hbel, hZ⟩ := hrel
    have HO := Lib.hid hO
    have HB := Lib.hid hbel
    clear hO hbel
    by_cases hlt : k < xs.length
    · have hkz : (k : Int) < (xs.length : Int) := by omega
      have hk0 : (0 : Int) ≤ (k : Int) := by omega
      obtain ⟨r, hrr⟩ : ∃ r, (k + 1) % xs.length = r := ⟨_, rfl⟩
      have hrl : r < xs.length := by rw [← hrr]; exact Nat.mod_lt _ (by omega)
      have q1 : IntKind.i64.wrap ((k : Int) + 1) = (k : Int) + 1 := by rw [IntKind.wrap_i64]; omega
      have q1b : xs.length ≤ 48 := hn
      have q2 : ((k : Int) + 1).tmod (xs.length : Int) = (r : Int) := by
        rw [Int.tmod_eq_emod_of_nonneg (by omega), ← hrr]; simp
      have q3 : IntKind.i64.wrap (r : Int) = (r : Int) := by rw [IntKind.wrap_i64]; omega
      have q4 : ¬ (xs.length : Int) = 0 := by omega
      have q4c : ¬ xs = [] := by rintro rfl; simp at hn1
      have q4b : ((xs.length : Int) == 0) = false := by simpa using q4c
      have q5 : (r : Int) < (xs.length : Int) := by omega
      have q6 : (0 : Int) ≤ (r : Int) := by omega
      have HNX := Lib.hid (stepsV_next xs k)
      rw [hrr] at HNX
      have hsl := stepsV_len xs k
      have HE1 := Lib.hid (cells_part encV_ok HR.out (at_get hrl))
      have HE2 := Lib.hid (cells_part encV_ok HR.out (at_get hlt))
      have S1 := HS.out r hrl
      have S2 := HS.out k hlt
      have M := fun w => specSum_any (at' xs r).up (at' xs k).up (-1) (by omega) (fun j hj => by have := S1 j hj; omega) (fun j hj => by have := S2 j hj; omega) w
      have hPE : pt (subV (at' xs r) (at' xs k)).up = pt (mul1 (at' xs r).up (-1) (at' xs k).up) := pt_subV _ _
      have hgz : g < wr.heap.size := by omega
      generalize hPd : subV (at' xs r) (at' xs k) = P at *
      rw [← hPE] at M
      clear hPE hPd S1 S2 hrr
      generalize at' xs r = c at *
      generalize at' xs k = d at *
      go_upto_region 5 with fail
      have hub : ∀ k, u3.ownBlock = some k → k < wr.heap.size := fun k h => (HO.out.lt k h).2
      refine wp_region_held_drew (S := fun w' => Below w.heap.size w w') (by kernel_rfl) HB.out.drew (fun hHeld => ?_)
      refine wpAnyH_take (i := 0) (oi := _) (v := u3) rfl (by kernel_rfl) (by kernel_rfl) (by kernel_rfl) (fun _ _ _ h => h) (Or.inl ⟨by rfl, fun w h => by go_simp⟩) hHeld ?_
      try simp only [Act.put, List.setIfInBounds_toArray, List.set_cons_zero, List.set_cons_succ, List.getElem_toArray, List.getElem_cons_succ, List.getElem_cons_zero]
      refine wpAnyH_take (i := 1) (oi := _) (v := .slice (some ⟨g, o, none⟩) xs.length cap) rfl (by kernel_rfl) (by kernel_rfl) (by kernel_rfl) (fun _ _ _ h => h) (Or.inl ⟨by rfl, fun w h => by go_simp⟩) hHeld ?_
      try simp only [Act.put, List.setIfInBounds_toArray, List.set_cons_zero, List.set_cons_succ, List.getElem_toArray, List.getElem_cons_succ, List.getElem_cons_zero]
      refine wpAnyH_take (i := 2) (oi := _) (v := .int .i64 k) rfl (by kernel_rfl) (by kernel_rfl) (by kernel_rfl) (fun _ _ _ h => h) (Or.inl ⟨by rfl, fun w h => by go_simp⟩) hHeld ?_
      try simp only [Act.put, List.setIfInBounds_toArray, List.set_cons_zero, List.set_cons_succ, List.getElem_toArray, List.getElem_cons_succ, List.getElem_cons_zero]
      refine wpAnyH_take (i := 3) (oi := _) (v := .int .i64 ((k : Int) + 1)) rfl (by kernel_rfl) (by kernel_rfl) (by kernel_rfl) (fun _ _ _ h => h) (Or.inl ⟨by rfl, fun w h => by go_simp⟩) hHeld ?_
      try simp only [Act.put, List.setIfInBounds_toArray, List.set_cons_zero, List.set_cons_succ, List.getElem_toArray, List.getElem_cons_succ, List.getElem_cons_zero]
      refine wpAnyH_take (i := 4) (oi := _) (v := .slice (some ⟨g, o, none⟩) xs.length cap) rfl (by kernel_rfl) (by kernel_rfl) (by kernel_rfl) (fun _ _ _ h => h) (Or.inl ⟨by rfl, fun w h => by go_simp⟩) hHeld ?_
      try simp only [Act.put, List.setIfInBounds_toArray, List.set_cons_zero, List.set_cons_succ, List.getElem_toArray, List.getElem_cons_succ, List.getElem_cons_zero]
      refine wpAnyH_take (i := 5) (oi := _) (v := .int .i64 xs.length) rfl (by kernel_rfl) (by kernel_rfl) (by kernel_rfl) (fun _ _ _ h => h) (Or.inl ⟨by rfl, fun w h => by go_simp⟩) hHeld ?_
      try simp only [Act.put, List.setIfInBounds_toArray, List.set_cons_zero, List.set_cons_succ, List.getElem_toArray, List.getElem_cons_succ, List.getElem_cons_zero]
      refine wpAnyH_take (i := 6) (oi := _) (v := .int .i64 r) rfl (by kernel_rfl) (by kernel_rfl) (by kernel_rfl) (fun _ _ _ h => h) (Or.inl ⟨by rfl, fun w h => by go_simp⟩) hHeld ?_
      try simp only [Act.put, List.setIfInBounds_toArray, List.set_cons_zero, List.set_cons_succ, List.getElem_toArray, List.getElem_cons_succ, List.getElem_cons_zero]
      refine wpAnyH_take (i := 7) (oi := _) (v := .pointer (some ⟨g, o + r * 8, none⟩)) rfl (by kernel_rfl) (by kernel_rfl) (by kernel_rfl) (fun _ _ _ h => h) (Or.inl ⟨by rfl, fun w h => by go_simp⟩) hHeld ?_
      try simp only [Act.put, List.setIfInBounds_toArray, List.set_cons_zero, List.set_cons_succ, List.getElem_toArray, List.getElem_cons_succ, List.getElem_cons_zero]
      refine wpAnyH_take (i := 8) (oi := _) (v := .agg (vec 8 c.up)) rfl (by kernel_rfl) (by kernel_rfl) (by kernel_rfl) (fun _ _ _ h => h) (yieldsIf_load_mid (by rfl) _ _ rfl _ _ rfl _ _ ((fun w h => range_kept8 HE1.out hg h)) Try.underlying32 rfl (size_cyc8 c.up)) hHeld ?_
      try simp only [Act.put, List.setIfInBounds_toArray, List.set_cons_zero, List.set_cons_succ, List.getElem_toArray, List.getElem_cons_succ, List.getElem_cons_zero]
      refine wpAnyH_take (i := 9) (oi := _) (v := .slice (some ⟨g, o, none⟩) xs.length cap) rfl (by kernel_rfl) (by kernel_rfl) (by kernel_rfl) (fun _ _ _ h => h) (Or.inl ⟨by rfl, fun w h => by go_simp⟩) hHeld ?_
      try simp only [Act.put, List.setIfInBounds_toArray, List.set_cons_zero, List.set_cons_succ, List.getElem_toArray, List.getElem_cons_succ, List.getElem_cons_zero]
      refine wpAnyH_take (i := 10) (oi := _) (v := .int .i64 k) rfl (by kernel_rfl) (by kernel_rfl) (by kernel_rfl) (fun _ _ _ h => h) (Or.inl ⟨by rfl, fun w h => by go_simp⟩) hHeld ?_
      try simp only [Act.put, List.setIfInBounds_toArray, List.set_cons_zero, List.set_cons_succ, List.getElem_toArray, List.getElem_cons_succ, List.getElem_cons_zero]
      refine wpAnyH_take (i := 11) (oi := _) (v := .pointer (some ⟨g, o + k * 8, none⟩)) rfl (by kernel_rfl) (by kernel_rfl) (by kernel_rfl) (fun _ _ _ h => h) (Or.inl ⟨by rfl, fun w h => by go_simp⟩) hHeld ?_
      try simp only [Act.put, List.setIfInBounds_toArray, List.set_cons_zero, List.set_cons_succ, List.getElem_toArray, List.getElem_cons_succ, List.getElem_cons_zero]
      refine wpAnyH_take (i := 12) (oi := _) (v := .agg (vec 8 d.up)) rfl (by kernel_rfl) (by kernel_rfl) (by kernel_rfl) (fun _ _ _ h => h) (yieldsIf_load_mid (by rfl) _ _ rfl _ _ rfl _ _ ((fun w h => range_kept8 HE2.out hg h)) Try.underlying32 rfl (size_cyc8 d.up)) hHeld ?_
      try simp only [Act.put, List.setIfInBounds_toArray, List.set_cons_zero, List.set_cons_succ, List.getElem_toArray, List.getElem_cons_succ, List.getElem_cons_zero]
      refine wpAnyH_ready (rs := [13]) (by kernel_rfl) (by simp) ?_
      refine AllReadyH.cons (o := _) rfl (fun K hK => ?_) AllReadyH.nil
      go_simp
      refine (M _).mono ?_; rintro e w5 ⟨rfl, hb5⟩
      go_wp2_with fail
      have hO5 : OwnL encV 8 w5 w.heap.size 32 u3 (stepsV xs k) := rows_below (show OwnL encV 8 wr.drew w.heap.size 32 u3 (stepsV xs k) from HO.out) hb5
      have hZ5 : w.heap.size ≤ w5.heap.size := (below_next hHeld hb5).size
      refine hK.out _ _ (below_next hHeld hb5) (fun hHeld => ?_)
      clear hK K
      try simp only [Act.put, List.setIfInBounds_toArray, List.set_cons_zero, List.set_cons_succ, List.getElem_toArray, List.getElem_cons_succ, List.getElem_cons_zero]
      clear hb5 M HO HB
      refine wpAnyH_ready (rs := [14]) (by kernel_rfl) (by simp) ?_
      refine AllReadyH.cons (o := _) rfl (fun K hK => ?_) AllReadyH.nil
      rw [if_pos (by rfl)]
      refine wp_one8 tyY rfl rfl ?_
      have hlit := lit8 w5 P 32
      have hO6 : OwnL encV 8 (w5.alloc (.cells (vec 8 P.up) 32)) w.heap.size 32 u3 (stepsV xs k) := (show World.ownsRow _ _ _ _ _ _ _ from World.ownsRow.alloc hO5 _)
      refine hK.out _ _ (hHeld.alloc hZ5 _) (fun hHeld => ?_)
      clear hK K
      try simp only [Act.put, List.setIfInBounds_toArray, List.set_cons_zero, List.set_cons_succ, List.getElem_toArray, List.getElem_cons_succ, List.getElem_cons_zero]
      clear hO5
      refine wpAnyH_ready (rs := [15]) (by kernel_rfl) (by simp) ?_
      refine AllReadyH.cons (o := _) rfl (fun K hK => ?_) AllReadyH.nil
      refine wp_appendL tyY encV_ok rfl rfl rfl (xs := stepsV xs k) hO6 hlit (by rw [hsl]; simp; omega) hHeld (by simp; omega) ?_; intro v2 w6 ho6 hb6 hB7 hgr
      refine hK.out _ _ hb6 (fun hHeld => ?_)
      clear hK K
      try simp only [Act.put, List.setIfInBounds_toArray, List.set_cons_zero, List.set_cons_succ, List.getElem_toArray, List.getElem_cons_succ, List.getElem_cons_zero]
      clear hlit hO6 hgr
      refine wpAnyH_take (i := 16) (oi := _) (v := v2) rfl (by kernel_rfl) (by kernel_rfl) (by kernel_rfl) (fun _ _ _ h => h) (Or.inl ⟨by rfl, fun w h => by go_simp⟩) hHeld ?_
      try simp only [Act.put, List.setIfInBounds_toArray, List.set_cons_zero, List.set_cons_succ, List.getElem_toArray, List.getElem_cons_succ, List.getElem_cons_zero]
      refine wpAnyH_done (by kernel_rfl) ?_ _
      have HO6 := Lib.hid ho6
      have HB6 := Lib.hid hb6
      have HZ6 := Lib.hid hB7
      clear ho6 hb6 hB7 hHeld
      go_wp2
      go_roundw
      case rel => exact ⟨k + 1, by omega, by go_num, by rw [HNX.out]; exact HO6.out, HB6.out, HZ6.out⟩
      case measure => simp [intOf]; omega
    · obtain rfl : k = xs.length := by omega
      go_wp2
      go_ret
      exact ⟨HB.out, _, rfl, HO.out⟩

set_option maxHeartbeats 2000000 in
theorem l8Upper_any (a : Nat → Int) (ha : ∀ j, j < 8 → -((200 : Nat) : Int) ≤ a j ∧ a j ≤ (200 : Nat)) (w : World) :
    Calls Try.prog 80 #[pt a] w fun e w' => e = .returned (.bool (hiB (qv a))) ∧ Below w.heap.size w w' := by
  have sa := vec_size 8 a
  have M1 := fun w => specIm_wide a (fun j hj => by have := ha j hj; omega) w
  have M2 := fun w => specRe_wide a (fun j hj => by have := ha j hj; omega) w
  have hi := ima_small ha
  have hr := rea_small ha
  have S1 : ∀ w, Calls Try.prog 75 #[.agg (vec 4 (ima a))] w fun e w' => e = .returned (.int .i64 (sgf (ima a))) ∧ Below w.heap.size w w' := fun w => l3Sign_any (ima a 0) (ima a 1) (ima a 2) (ima a 3) (by have := hi 0 (by omega); omega) (by have := hi 1 (by omega); omega) (by have := hi 2 (by omega); omega) (by have := hi 3 (by omega); omega) w
  have S2 : ∀ w, Calls Try.prog 75 #[.agg (vec 4 (rea a))] w fun e w' => e = .returned (.int .i64 (sgf (rea a))) ∧ Below w.heap.size w w' := fun w => l3Sign_any (rea a 0) (rea a 1) (rea a 2) (rea a 3) (by have := hr 0 (by omega); omega) (by have := hr 1 (by omega); omega) (by have := hr 2 (by omega); omega) (by have := hr 3 (by omega); omega) w
  have HE : hiB (qv a) = (decide (0 < sgf (ima a)) || (decide (sgf (ima a) = 0) && decide (0 < sgf (rea a)))) := rfl
  rw [HE]
  clear HE hi hr ha
  have h3 : sgf (ima a) = 1 ∨ sgf (ima a) = -1 ∨ sgf (ima a) = 0 := sg4_range _ _ _ _
  unfold pt
  generalize sgf (ima a) = s at *
  generalize sgf (rea a) = t at *
  generalize ima a = p at *
  generalize rea a = q at *
  rcases h3 with rfl | rfl | rfl
  · clear M2 S2
    go_enter Try.func80, Try.ntmps80
    go_upto_region 1 with fail
    show Code.wp _ _ _ _ (box0 w a 32)
    obtain ⟨hA, hL⟩ := box0_facts w a 32
    generalize box0 w a 32 = W at *
    go_wp2_with (refine load_row rfl rfl rfl hA Try.underlying32 rfl info_cyc ?_)
    refine (M1 _).mono ?_; rintro e w2 ⟨rfl, hb2⟩
    have hA2 := hA.below hb2
    have hL2 := below_next hL hb2
    clear hA hL hb2 M1
    go_wp2_with fail
    refine (S1 _).mono ?_; rintro e w3 ⟨rfl, hb3⟩
    have hA3 := hA2.below hb3
    have hL3 := below_next hL2 hb3
    clear hA2 hL2 hb3 S1
    go_wp2
    go_ret
    exact ⟨rfl, hL3⟩
  · clear M2 S2
    go_enter Try.func80, Try.ntmps80
    go_upto_region 1 with fail
    show Code.wp _ _ _ _ (box0 w a 32)
    obtain ⟨hA, hL⟩ := box0_facts w a 32
    generalize box0 w a 32 = W at *
    go_wp2_with (refine load_row rfl rfl rfl hA Try.underlying32 rfl info_cyc ?_)
    refine (M1 _).mono ?_; rintro e w2 ⟨rfl, hb2⟩
    have hA2 := hA.below hb2
    have hL2 := below_next hL hb2
    clear hA hL hb2 M1
    go_wp2_with fail
    refine (S1 _).mono ?_; rintro e w3 ⟨rfl, hb3⟩
    have hA3 := hA2.below hb3
    have hL3 := below_next hL2 hb3
    clear hA2 hL2 hb3 S1
    go_wp2
    go_ret
    exact ⟨rfl, hL3⟩
  · skip
    go_enter Try.func80, Try.ntmps80
    go_upto_region 1 with fail
    show Code.wp _ _ _ _ (box0 w a 32)
    obtain ⟨hA, hL⟩ := box0_facts w a 32
    generalize box0 w a 32 = W at *
    go_wp2_with (refine load_row rfl rfl rfl hA Try.underlying32 rfl info_cyc ?_)
    refine (M1 _).mono ?_; rintro e w2 ⟨rfl, hb2⟩
    have hA2 := hA.below hb2
    have hL2 := below_next hL hb2
    clear hA hL hb2 M1
    go_wp2_with fail
    refine (S1 _).mono ?_; rintro e w3 ⟨rfl, hb3⟩
    have hA3 := hA2.below hb3
    have hL3 := below_next hL2 hb3
    clear hA2 hL2 hb3 S1
    go_wp2_with (refine load_pt_on (by rfl) rfl rfl hA3.range Try.underlying32 rfl info_cyc ?_)
    refine (M2 _).mono ?_; rintro e w4 ⟨rfl, hb4⟩
    have hL4 := below_next hL3 hb4
    clear hA3 hL3 hb4 M2
    go_wp2_with fail
    refine (S2 _).mono ?_; rintro e w5 ⟨rfl, hb5⟩
    have hL5 := below_next hL4 hb5
    clear hL4 hb5 S2
    go_wp2
    go_ret
    exact ⟨ret_bool (by simp), hL5⟩

/-! The opposite order. -/
def backO (xs : List V) : Option (List V) := if polyOk xs then some xs.reverse else none
/-- The first k points in the opposite order. -/
def backV (xs : List V) (k : Nat) : List V := (List.range k).map fun i => at' xs (xs.length - 1 - i)
theorem backV_len (xs : List V) (k : Nat) : (backV xs k).length = k := by simp [backV]
theorem backV_next (xs : List V) (k : Nat) : backV xs (k + 1) = backV xs k ++ [at' xs (xs.length - 1 - k)] := by simp [backV, List.range_succ]
theorem backV_all (xs : List V) : backV xs xs.length = xs.reverse := by
  refine List.ext_getElem? fun i => ?_
  unfold backV
  by_cases h : i < xs.length
  · rw [List.getElem?_map, List.getElem?_range h, List.getElem?_reverse h]
    exact (at_get (by omega)).symm
  · rw [List.getElem?_eq_none (by simp; omega), List.getElem?_eq_none (by simp; omega)]
theorem polyOk_len {xs : List V} (h : polyOk xs = true) : 1 ≤ xs.length ∧ xs.length ≤ 48 := by
  unfold polyOk at h
  rw [Bool.and_eq_true, decide_eq_true_iff] at h
  exact h.2
theorem reads_ptr8 {w : World} {v : Value} {xs : List V} (h : ReadsL encV w v xs) (hn : ¬ xs = []) : ∃ g o cap, v = .slice (some ⟨g, o, none⟩) xs.length cap ∧ xs.length ≤ cap ∧ cap ≤ maxLen ∧ g < w.heap.size ∧ w.rangeAt g o (flt encV xs) := by
  obtain ⟨p, cap, h1, h2, h3, h4, h5⟩ := h
  have hp : p ≠ none := fun e => by
    have := h4 e
    exact hn (List.length_eq_zero_iff.1 (by omega))
  obtain ⟨g, o, rfl, hg, hr⟩ := h5 hp
  exact ⟨g, o, cap, h1, h2, h3, hg, hr⟩
set_option maxHeartbeats 2000000 in
theorem specPolyBack_any (v : Value) (xs : List V) (w : World) (hv : ReadsL encV w v xs) : Calls Try.prog 42 #[v] w (ToldL 32 w (backO xs)) := by
  have HB0 := Lib.hid ((Below.refl w.heap.size w).alloc (Nat.le_refl _) (.cells #[] 32))
  have HO0 := Lib.hid (show OwnL encV 8 (w.alloc (.cells #[] 32)) w.heap.size 32 (.slice (some ⟨w.heap.size, 0, none⟩) 0 0) [] from World.ownsRow_made w #[] 0 (Nat.le_refl _) (by simp [maxLen]) (by simp))
  have HV := Lib.hid hv
  have RV := specPolyValid_any v xs (w.alloc (.cells #[] 32)) (hv.below HB0.out)
  cases hr : polyOk xs
  · rw [hr] at RV
    have HF : Aside (backO xs = none) := (show _ = _ from by unfold backO; rw [hr]; rfl)
    have RV := Lib.hid RV
    clear hr hv
    go_enter Try.func42, Try.ntmps42
    go_wp2_with fail
    refine RV.out.mono ?_; rintro e w1 ⟨rfl, hb1⟩
    have HL1 := Lib.hid (below_next HB0.out hb1)
    have HO1 := Lib.hid (rows_below HO0.out hb1)
    clear RV hb1 HB0 HO0
    go_wp2
    go_ret2
    rw [HF.out]
    exact ⟨HL1.out, _, rfl, HO1.out⟩
  · rw [hr] at RV
    obtain ⟨hl1, hl48⟩ := polyOk_len hr
    have HF : Aside (backO xs = some (backV xs xs.length)) := (show _ = _ from by unfold backO; rw [hr, backV_all]; rfl)
    have hne : ¬ xs = [] := by rintro rfl; simp at hl1
    obtain ⟨g0, o0, c0, rfl, hc0, hm0, hg0, hrg0⟩ := reads_ptr8 HV.out hne
    have HR0 := Lib.hid hrg0
    simp only [maxLen] at hm0
    have RV := Lib.hid RV
    clear hr hv hrg0 HV
    go_enter Try.func42, Try.ntmps42
    go_wp2_with fail
    refine RV.out.mono ?_; rintro e w1 ⟨rfl, hb1⟩
    have HL1 := Lib.hid (below_next HB0.out hb1)
    have HO1 := Lib.hid (rows_below HO0.out hb1)
    clear RV hb1 HB0 HO0
    go_wp2
    go_loopw [4, 5] (fun s4 i wr => ∃ k : Nat, k ≤ xs.length ∧ i = .int .i64 ((xs.length : Int) - 1 - k) ∧ OwnL encV 8 wr w.heap.size 32 s4 (backV xs k) ∧ Below w.heap.size w wr ∧ w.heap.size ≤ wr.heap.size) (fun _ i _ => (intOf i + 1).toNat)
    case atStart => exact ⟨0, Nat.zero_le _, by go_num, HO1.out, HL1.out, HL1.out.size⟩
    case round =>
      clear HO1 HL1
      obtain ⟨k, hk, rfl, hO, hbel, hZ⟩ := hrel
      have HO := Lib.hid hO
      have HB := Lib.hid hbel
      clear hO hbel
      by_cases hlt : k < xs.length
      · obtain ⟨r, hr⟩ : ∃ r, xs.length - 1 - k = r := ⟨_, rfl⟩
        have er : (xs.length : Int) - 1 - k = (r : Int) := by omega
        have hrl : r < xs.length := by omega
        have q5 : (r : Int) < (xs.length : Int) := by omega
        have q6 : (0 : Int) ≤ (r : Int) := by omega
        have HNX := Lib.hid (backV_next xs k)
        rw [hr] at HNX
        have HK : Aside ((r : Int) - 1 = (xs.length : Int) - 1 - ((k + 1 : Nat) : Int)) := (show _ = _ from by omega)
        have hsl := backV_len xs k
        have HE := Lib.hid (cells_part encV_ok (cells_below HR0.out hg0 HB.out) (at_get hrl))
        rw [er]
        generalize at' xs r = c at *
        clear hr er
        go_wp2_with (first | (refine load_part (T := 32) (f := c.up) rfl rfl rfl HE.out Try.underlying32 rfl info_cyc ?_) | (refine one8 tyY rfl rfl rfl ?_) |
          (refine appendL tyY encV_ok rfl rfl rfl rfl (xs := backV xs k) (World.ownsRow.alloc HO.out _) (lit8 _ _ _) (by rw [hsl]; simp; omega) (HB.out.alloc hZ _) (by simp; omega) ?_; intro v2 w4 ho4 hb4 hB4 hgr4))
        go_roundw
        case rel => exact ⟨k + 1, by omega, by rw [← HK.out], by rw [HNX.out]; exact ho4, hb4, hB4⟩
        case measure => simp [intOf]
      · obtain rfl : k = xs.length := by omega
        have hneg : ¬ (0 : Int) ≤ (xs.length : Int) - 1 - (xs.length : Int) := by omega
        go_wp2
        go_ret2
        rw [HF.out]
        exact ⟨HB.out, _, rfl, HO.out⟩

end Go.Proofs.Ytdpakhggpgdgbaa
