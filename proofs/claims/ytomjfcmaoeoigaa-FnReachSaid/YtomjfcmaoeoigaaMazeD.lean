/- The draws of mazes: small parts: a drawn truth value, common divisors. -/
import Derived.Test.YtomjfcmaoeoigaaDrawG
namespace Go.Proofs.Ytomjfcmaoeoigaa.draw
open Go.ChangeShapes Go.WideShapes Go.ChangeAt Go.RowKit
set_option linter.unusedVariables false

/-- A draw answers a truth value. -/
def DrawnB (g : Nat) (w : World) (e : Ending) (w' : World) : Prop := ∃ t : Bool, e = .returned (.bool t) ∧ Cur w' g ∧ w.grownBy w' (some g)
theorem drawnB_mk {g : Nat} {w w' : World} {t : Bool} (hc : Cur w' g) (hg : w.grownBy w' (some g)) : DrawnB g w (.returned (.bool t)) w' := ⟨t, rfl, hc, hg⟩
theorem once_any (g : Nat) (n : Int) (w : World) (hc : Cur w g) (hn : 0 < n) (hn' : n ≤ 9223372036854775807) :
    Calls Try.prog 41 #[.pointer (some ⟨g, 0, none⟩), .int .i64 n] w (DrawnB g w) := by
  have HK := @Lib.hid _ (fun w' t h1 h2 => @drawnB_mk g w w' t h1 h2)
  go_enter Try.func41, Try.ntmps41
  go_wp2_with fail
  refine (below_any g _ _ hc hn hn').mono ?_
  rintro e w1 ⟨x, hx, rfl, hc1, hg1⟩
  go_wp2_with fail
  go_ret
  exact HK.out _ _ hc1 hg1

/-- Whether two numbers have a common divisor greater than 1. -/
def cmB (a b : Nat) : Bool := decide (1 < Nat.gcd a b)
/-- What l03Common leaves. -/
def CmPost (a b : Nat) (w : World) (e : Ending) (w' : World) : Prop := e = .returned (.bool (cmB a b)) ∧ ∃ d, w' = w.drewN d
/-- At the head of a round. -/
def CmRel (a b : Nat) (w : World) (u0 u1 : Value) (wr : World) : Prop := ∃ a' b' d : Nat, u0 = .int .i64 a' ∧ u1 = .int .i64 b' ∧ Nat.gcd a' b' = Nat.gcd a b ∧ a' ≤ 1000 ∧ b' ≤ 1000 ∧ wr = w.drewN d
theorem cm_step {a b a' b' d : Nat} {w : World} (h : Nat.gcd a' b' = Nat.gcd a b) (hb : 0 < b') (h1 : b' ≤ 1000) (k : Nat) : CmRel a b w (.int .i64 (b' : Int)) (.int .i64 ((a' : Int) % (b' : Int))) ((w.drewN d).drewN k) := by
  have hm : a' % b' < b' := Nat.mod_lt _ hb
  refine ⟨b', a' % b', d + k, rfl, by rw [show ((a' % b' : Nat) : Int) = (a' : Int) % (b' : Int) from by simp], ?_, h1, by omega, ?_⟩
  · rw [← h, Nat.gcd_comm a' b', Nat.gcd_rec b' a', Nat.gcd_comm]
  · simp [World.drewN, Nat.add_comm, Nat.add_left_comm]
theorem cm_end {a b a' d : Nat} {w : World} (h : Nat.gcd a' 0 = Nat.gcd a b) : CmPost a b w (.returned (.bool (decide ((1 : Int) < (a' : Int))))) (w.drewN d) := by
  refine ⟨?_, d, rfl⟩
  rw [Nat.gcd_zero_right] at h
  unfold cmB
  rw [← h, show decide ((1 : Int) < (a' : Int)) = decide (1 < a') from decide_eq_decide.2 (by omega)]

set_option maxRecDepth 100000 in
theorem common_any (a b : Nat) (w : World) (ha : a ≤ 1000) (hb : b ≤ 1000) :
    Calls Try.prog 51 #[.int .i64 a, .int .i64 b] w (CmPost a b w) := by
  have HE := @Lib.hid _ (fun a' d h => @cm_end a b a' d w h)
  have HS := @Lib.hid _ (fun a' b' d h h0 h1 k => @cm_step a b a' b' d w h h0 h1 k)
  go_enter Try.func51, Try.ntmps51
  go_wp2_with fail
  go_loopw [0, 1] (fun u0 u1 wr => CmRel a b w u0 u1 wr) (fun _ u1 _ => (intOf u1).toNat)
  case atStart => exact ⟨a, b, 0, rfl, rfl, rfl, ha, hb, rfl⟩
  case round =>
    obtain ⟨a', b', d, rfl, rfl, hg, ha', hb', rfl⟩ := hrel
    by_cases h0 : 0 < b'
    · have HR := Lib.hid (HS.out a' b' d hg h0 hb')
      have hnz : ((b' : Int) == 0) = false := by simp; omega
      have h0' : (0 : Int) < (b' : Int) := by omega
      have hmod : (a' : Int) % (b' : Int) < (b' : Int) := Int.emod_lt_of_pos _ h0'
      have hmod0 : 0 ≤ (a' : Int) % (b' : Int) := Int.emod_nonneg _ (by omega)
      clear hg h0
      go_wp2_with fail
      go_quiet (fail)
      go_wp2_with fail
      go_roundw
      case rel => exact HR.out _
      case measure => simp [intOf]; omega
    · obtain rfl : b' = 0 := by omega
      go_wp2_with fail
      go_ret
      exact HE.out _ _ hg
end Go.Proofs.Ytomjfcmaoeoigaa.draw
