/-
  The library's insertion sort lies in this program, at circles; what it is asked.
-/
import Derived.Test.YteicmnoafoekcaaWheelB
import Derived.Shelf.SlSortCmp.KitK
import Derived.Shelf.SlLaysF0
import Derived.Sort.WalkB2
import Derived.Sort.WalkB12
import Derived.Deep.LoopGhost
namespace Go.Proofs.Yteicmnoafoekcaa
set_option maxRecDepth 20000
open Go.Shelf Go.RowKit Go.Lib Go.Sort
set_option linter.unusedVariables false
set_option linter.unusedSimpArgs false

def renC : Ren := { f := fun _ => 126, t := fun n => if n = 22 then 56 else if n = 24 then 68 else if n = 25 then 99 else n, g := fun n => n }
theorem laysIns : SlLaysF0.n20 Try.prog renC where
  mixed := by kernel_rfl
  f20 := ⟨Try.f126.name, by kernel_rfl, by kernel_rfl⟩
  t0 := by kernel_rfl
  a0 := fun w => by rfl
  z0 := fun w => by rfl
  v0 := fun w => by rfl
  t3 := by kernel_rfl
  a3 := fun w => by rfl
  z3 := fun w => by rfl
  v3 := fun w => by rfl
  t4 := by kernel_rfl
  a4 := fun w => by rfl
  z4 := fun w => by rfl
  v4 := fun w => by rfl
  t22 := by kernel_rfl
  a22 := fun w => by rfl
  z22 := fun w => by rfl
  v22 := fun w => by rfl
  t25 := by kernel_rfl
  a25 := fun w => by rfl
  z25 := fun w => by rfl
  v25 := fun w => by rfl

theorem mixed_any : Try.prog.follows .mixedOrders = true := by kernel_rfl
theorem agg_circle : ∀ w, (isAgg 68).run Try.prog w = .ok true w := fun w => by rfl
theorem size_of_circle : ∀ w, (Go.sizeOf 68).run Try.prog w = .ok 9 w := fun w => by rfl
/-- bySpeed as an order. -/
def cfW (x y : Wh) : Int := cfS x.s y.s
theorem ltOf_cfW : ltOf cfW = ltW := by
  funext x y
  unfold ltOf cfW cfS ltW
  by_cases h : x.s < y.s
  · simp [h]
  · by_cases h2 : y.s < x.s
    · simp [h, h2]
    · simp [h, h2]
theorem cmpLays_any (kk blk off size : Nat) (w : World) : CmpLays Try.prog 94 #[] enc kk cfW blk off size w := by
  intro m os dk hdk x y
  refine (bySpeed_any x y _).mono ?_
  rintro e w' ⟨rfl, rfl⟩
  refine ⟨rfl, 0, #[.cells (vec 9 (wf x)) 68, .cells (vec 9 (wf y)) 68], ?_⟩
  rw [alloc_eq_grow, alloc_eq_grow, grow_grow]; rfl
theorem enters_bySpeed : ∀ args w, (callFunc 94 args).run Try.prog w = .ok (.enter 94 args) w := enters_of Try.func94 (by kernel_rfl) rfl
theorem cmp_step {kk blk off : Nat} {w0 W : World} {dk : Array Wh} (h : SWK enc kk w0 blk off dk W) (x y : Wh) (n : Nat) (os : Array Obj) :
    Calls Try.prog 94 #[.agg (enc x).toArray, .agg (enc y).toArray] (grow (W.drewN n) os) fun e w' => e = .returned (.int .i64 (cfW x y)) ∧ ∃ q os', w' = grow ((grow (W.drewN n) os).drewN q) os' := by
  have := h.cmp (cmpLays_any kk blk off dk.size w0) rfl x y n os
  rwa [Array.append_empty] at this
/-- The slice that is sorted, and the comparison. -/
abbrev rowV (blk off n cap : Nat) : Value := .slice (some ⟨blk, off, none⟩) n cap
abbrev byV : Value := .func (.func 94) #[] #[]

theorem insertion_any (blk off cap a b : Nat) (d0 d : Array Wh) (w0 w : World) (R : RowK enc 9 w0 blk off d0) (hs : d0.size = d.size) (S : SWK enc 9 w0 blk off d w) (hab : a ≤ b) (hb : b ≤ d.size) (hsz : d.size ≤ 1000000) :
    Calls Try.prog 126 #[rowV blk off d.size cap, .int .i64 a, .int .i64 b, byV] w fun e w' => e = .returned (.tuple #[]) ∧ ∃ d', Merged d d' a b ∧ SWK enc 9 w0 blk off d' w' := by
  have h := AnyQ.insertionSortCmpFunc laysIns 9 agg_circle size_of_circle enc R.hk R.h1 cfW 94 #[] blk off cap a b d w enters_bySpeed (cmpLays_any 9 blk off d.size w) (S.holds R.hblk R.hH hs.symm) (S.lt R.hblk) hab hb (by omega)
  rw [ltOf_cfW] at h
  refine h.mono ?_
  rintro e w' ⟨rfl, n, os, rfl⟩
  have hM := insertion_merged hab hb
  exact ⟨rfl, _, hM, S.on R.hblk n _ os hM.keeps.1⟩

set_option maxHeartbeats 4000000 in
theorem swapRange_any (kk : Nat) (zE : ∀ w, (Go.sizeOf 68).run Try.prog w = .ok kk w) (blk off cap a b n : Nat) (d0 d : Array Wh) (w0 w : World) (R : RowK enc kk w0 blk off d0) (hs : d0.size = d.size) (S : SWK enc kk w0 blk off d w) (hab : a + n ≤ b) (hb : b + n ≤ d.size) (hsz : d.size ≤ 1000000) :
    Calls Try.prog 129 #[rowV blk off d.size cap, .int .i64 a, .int .i64 b, .int .i64 n, byV] w fun e w' => e = .returned (.tuple #[]) ∧ ∃ d', SwapR d d' a b n ∧ SWK enc kk w0 blk off d' w' := by
  have mixed := mixed_any
  have aE := agg_circle
  have S0 : Aside (SWK enc kk w0 blk off d w) := S
  clear S
  go_enter Try.func129, Try.ntmps129
  go_wp2
  go_loopg [10] n (fun kx s10 wr => ∃ (k : Nat) (dk : Array Wh), s10 = .int .i64 k ∧ k ≤ n ∧ n - k ≤ kx ∧ dk.size = d.size ∧ Aside (SWK enc kk w0 blk off dk wr) ∧ Aside (SwapR d dk a b k))
  case atStart => exact ⟨0, d, rfl, by omega, by omega, rfl, S0, SwapR.none d a b⟩
  case round =>
    clear S0
    obtain ⟨k, dk, rfl, hk, hkx, hds, S1, H1⟩ := hrel
    by_cases hlt : k < n
    · have hltz : (k : Int) < (n : Int) := by omega
      have ea : ((a : Int) + (k : Int)).toNat = a + k := by omega
      have pa : (0 : Int) ≤ (a : Int) + (k : Int) := by omega
      have ba : (a : Int) + (k : Int) < (d.size : Int) := by omega
      have ra : IntKind.i64.wrap ((a : Int) + (k : Int)) = (a : Int) + (k : Int) := by rw [IntKind.wrap_i64]; omega
      have ec : ((b : Int) + (k : Int)).toNat = b + k := by omega
      have pc : (0 : Int) ≤ (b : Int) + (k : Int) := by omega
      have bc : (b : Int) + (k : Int) < (d.size : Int) := by omega
      have rc : IntKind.i64.wrap ((b : Int) + (k : Int)) = (b : Int) + (k : Int) := by rw [IntKind.wrap_i64]; omega
      have S2 : Aside (SWK enc kk w0 blk off (swp dk (a + k) (b + k)) ((wr.drew.setCells blk (off + (a + k) * kk) (enc dk[b + k]!)).setCells blk (off + (b + k) * kk) (enc dk[a + k]!))) := S1.out.swapped R (a + k) (b + k) (by omega) (by omega)
      have H2 : Aside (SwapR d (swp dk (a + k) (b + k)) a b (k + 1)) := H1.out.step hlt hab hb
      have la := S1.out.ld1 R (by omega) Try.prog (a + k) (by omega)
      have lb := S1.out.ld1 R (by omega) Try.prog (b + k) (by omega)
      have sa := S1.out.st1 R (by omega) Try.prog (a + k) (by omega) dk[b + k]!
      have sb := S1.out.st2 R (by omega) Try.prog (a + k) (b + k) (by omega) (by omega) dk[b + k]! dk[a + k]!
      have na : (enc dk[a + k]!).length = kk := R.hk _
      have nb : (enc dk[b + k]!).length = kk := R.hk _
      generalize enc dk[a + k]! = cI at S2 la sb na
      generalize enc dk[b + k]! = cJ at S2 lb sa sb nb
      clear S1 H1
      go_wp2_with fail
      go_big_region_o
      clear la lb sa sb
      generalize (wr.drew.setCells blk (off + (a + k) * kk) cJ).setCells blk (off + (b + k) * kk) cI = w2 at S2 ⊢
      go_wp2
      go_roundg (n - (k + 1))
      case measure => omega
      case rel => exact ⟨k + 1, swp dk (a + k) (b + k), by go_num, by omega, Nat.le_refl _, by rw [size_swp]; exact hds, S2, H2⟩
    · obtain rfl : k = n := by omega
      go_wp2
      go_end0
      exact ⟨rfl, dk, H1.out, S1.out⟩

end Go.Proofs.Yteicmnoafoekcaa
