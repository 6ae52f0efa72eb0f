/-
  What the draws of designs hand back.
  The draws of whole points and of points that are often real.
  What the walks of the laws of exact points share.
-/
import Derived.Test.YtdbokcbbpegilaaM28
import Derived.Test.YtdbokcbbpegilaaM05
/- What the draws of designs hand back. -/
namespace Go.Proofs.Ytdbokcbbpegilaa
set_option maxRecDepth 20000
open Go.ChangeShapes Go.WideShapes Go.ChangeAt Go.RowKit
set_option linter.unusedVariables false
set_option linter.unusedSimpArgs false

/-- A design; a design and a number; two designs. -/
def DrewD (w : World) (e : Ending) (w' : World) : Prop := ∃ (v : Value) (ws : List Wh), e = .returned v ∧ Reads w' v ws ∧ Below w.heap.size w w'
def DrewDInt (w : World) (e : Ending) (w' : World) : Prop := ∃ (v : Value) (ws : List Wh) (n : Int), e = .returned (.tuple #[v, .int .i64 n]) ∧ -1000 ≤ n ∧ n ≤ 1000 ∧ Reads w' v ws ∧ Below w.heap.size w w'
def DrewDs (w : World) (e : Ending) (w' : World) : Prop := ∃ (v v2 : Value) (ws ws2 : List Wh), e = .returned (.tuple #[v, v2]) ∧ Reads w' v ws ∧ Reads w' v2 ws2 ∧ Below w.heap.size w w'

end Go.Proofs.Ytdbokcbbpegilaa
/- The draws of whole points and of points that are often real. -/
namespace Go.Proofs.Ytdbokcbbpegilaa
set_option maxRecDepth 20000
open Go.ChangeShapes Go.WideShapes Go.ChangeAt Go.RowKit
set_option linter.unusedVariables false
set_option linter.unusedSimpArgs false

end Go.Proofs.Ytdbokcbbpegilaa
/- What the walks of the laws of exact points share. -/
namespace Go.Proofs.Ytdbokcbbpegilaa
set_option maxRecDepth 20000
open Go.ChangeShapes Go.WideShapes Go.ChangeAt Go.RowKit
set_option linter.unusedVariables false
set_option linter.unusedSimpArgs false

theorem code_length {w : World} {v : Value} (h : CodeAt w v) : ∃ a n c, v = .slice a n c ∧ n ≤ 9223372036854775807 := by
  rcases h with ⟨a, rfl⟩ | ⟨b, off, len, cap, zs, rfl, _, h1, h2, _⟩
  · exact ⟨a, 0, 0, rfl, by omega⟩
  · exact ⟨_, _, _, rfl, by unfold maxLen at h2; omega⟩
theorem ans_t {v : Bool} {c : Nat → Int} (h : (v && okc c) = true) : ans v c = .tuple #[.agg (vec 8 c), .bool true] := by simp [ans, h]
theorem ans_f {v : Bool} {c : Nat → Int} (h : (v && okc c) = false) : ans v c = .tuple #[.agg (vec 8 nul), .bool false] := by simp [ans, h]
theorem ans_is {v : Bool} {c d : Nat → Int} (h : Eight c d) (hv : (v && okc d) = true) : ans v c = .tuple #[.agg (vec 8 d), .bool true] := by rw [ans_same v h]; exact ans_t hv
theorem eq_cells (f : Nat → Int) (w : World) : (Op.equalIn 10000 41 (.agg #[.int .i64 (f 0), .int .i64 (f 1), .int .i64 (f 2), .int .i64 (f 3), .int .i64 (f 4), .int .i64 (f 5), .int .i64 (f 6), .int .i64 (f 7)]) (.agg #[.int .i64 (f 0), .int .i64 (f 1), .int .i64 (f 2), .int .i64 (f 3), .int .i64 (f 4), .int .i64 (f 5), .int .i64 (f 6), .int .i64 (f 7)])).run Try.prog w = .ok true w := by
  have h := equal_cyc f f w
  rw [eqv_true (fun _ _ => rfl)] at h
  exact h
theorem eq_nul (w : World) : (Op.equalIn 10000 41 (.agg #[.int .i64 (nul 0), .int .i64 (nul 1), .int .i64 (nul 2), .int .i64 (nul 3), .int .i64 (nul 4), .int .i64 (nul 5), .int .i64 (nul 6), .int .i64 (nul 7)]) (.agg #[.int .i64 0, .int .i64 0, .int .i64 0, .int .i64 0, .int .i64 0, .int .i64 0, .int .i64 0, .int .i64 0])).run Try.prog w = .ok true w := eq_cells nul w
theorem okc_nul : okc nul = true := by decide
theorem okc_scl {a : Nat → Int} (h : okc a = true) : okc (scl (-1) a) = true := inR_okc fun j hj => by have := okc_inR h j hj; simp only [scl]; omega
theorem okc_root {t : Nat} (ht : t ≤ 23) : okc (trn one t) = true := inR_okc fun j hj => by have := (root_facts t ht j hj).1; omega
theorem okc_mroot {t : Nat} (ht : t ≤ 23) : okc (mir (trn one t)) = true := inR_okc fun j hj => by have := (root_facts t ht j hj).2.1; omega
theorem okc_one : okc one = true := by decide
theorem rl_true {a : Nat → Int} (h : Eight (mir a) a) : rl a = true := eqv_true h
theorem rl_same {a : Nat → Int} (h : rl a = true) : Eight (mir a) a := eqv_same h
theorem mir_same {a b : Nat → Int} (h : Eight a b) : Eight (mir a) (mir b) := by
  have h0 := h 0 (by omega); have h1 := h 1 (by omega); have h2 := h 2 (by omega); have h3 := h 3 (by omega); have h4 := h 4 (by omega); have h5 := h 5 (by omega); have h6 := h 6 (by omega); have h7 := h 7 (by omega)
  refine eight_cases ?_ ?_ ?_ ?_ ?_ ?_ ?_ ?_ <;> simp [mir, *]
theorem prd_both {a : Nat → Int} (h : Eight (mir a) a) : Eight (mir (prd a a)) (prd a a) := fun j hj =>
  (mir_prd a a j hj).trans ((prd_same h j hj).trans ((prd_comm a (mir a) j hj).trans (prd_same h j hj)))
end Go.Proofs.Ytdbokcbbpegilaa
