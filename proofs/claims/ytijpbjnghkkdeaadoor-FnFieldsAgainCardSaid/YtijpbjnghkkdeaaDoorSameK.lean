/- The laws' own word for lists of texts: equal lists are the same. -/
import Derived.Test.YtijpbjnghkkdeaaDoorSplP
import Derived.WalkKit
import Derived.ProofKit
import Derived.OpenShut
import Derived.Below
import Derived.LoopTactic
import Derived.OwnWalk
import Derived.Laws.OwnMore
import Derived.Deep.RegionHeld3
import Derived.Deep.QuietTactic
import Derived.BigQuiet
import Derived.Lib.Hide
import Derived.Outline
namespace Go.Proofs.YtijpbjnghkkdeaaDoor.sameK
open Go.ChangeShapes Go.WideShapes Go.ChangeAt Go.RowKit
open hexP splP
set_option linter.unusedVariables false

/-- What is owned stays owned where only blocks from B on have changed. -/
theorem own_below {w w' : World} {B base : Nat} {e : TypeId} {size n : Nat} {v : Value} {xs : List Value} (h : w.ownsRow base e size v n xs) (hb : Below B w w') (hv : ∀ g, v.ownBlock = some g → g < B) : w'.ownsRow base e size v n xs := by
  refine ⟨h.1, ?_⟩
  rcases h.2 with h2 | ⟨g, cap, cur, rfl, hg, hh, r⟩
  · exact .inl h2
  · exact .inr ⟨g, cap, cur, rfl, hg, (hb.block g (hv g rfl)).trans hh, r⟩
theorem own_lt {w : World} {base : Nat} {e : TypeId} {size n : Nat} {v : Value} {xs : List Value} (h : w.ownsRow base e size v n xs) : ∀ g, v.ownBlock = some g → g < w.heap.size := fun g hg => (h.lt g hg).2
theorem own_base {w : World} {base base' : Nat} {e : TypeId} {size n : Nat} {v : Value} {xs : List Value} (h : w.ownsRow base e size v n xs) (hb : base' ≤ base) : w.ownsRow base' e size v n xs := by
  refine ⟨h.1, ?_⟩
  rcases h.2 with h2 | ⟨g, cap, cur, rfl, hg, r⟩
  · exact .inl h2
  · exact .inr ⟨g, cap, cur, rfl, by omega, r⟩
theorem own_some {w : World} {base : Nat} {e : TypeId} {size n : Nat} {v : Value} {xs : List Value} (h : w.ownsRow base e size v n xs) (hn : 0 < n) : ∃ g c, v = .slice (some ⟨g, 0, none⟩) n c ∧ base ≤ g ∧ g < w.heap.size := by
  rcases h.2 with ⟨_, h2⟩ | ⟨g, cap, cur, rfl, hg, hh, r⟩
  · omega
  · exact ⟨g, cap, rfl, hg, (Array.getElem?_eq_some_iff.1 hh).1⟩

set_option maxRecDepth 100000 in
/-- Two slices that hold the same texts are equal. -/
theorem same_texts (va vb : Value) (ba bb n : Nat) (xs : List ByteArray) (w : World) (hx : xs.length = n) (hn : n ≤ 65536)
    (ha : w.ownsRow ba 9 1 va n (xs.map Value.string)) (hb : w.ownsRow bb 9 1 vb n (xs.map Value.string)) :
    Calls Tryd.prog 18 #[va, vb] w fun e w' => e = .returned (.bool true) ∧ ∃ d, w' = w.drewN d := by
  obtain ⟨Aa, ca, rfl⟩ := own_form ha
  obtain ⟨Ab, cb, rfl⟩ := own_form hb
  by_cases h0 : n = 0
  · subst h0
    clear ha hb
    go_enter Tryd.func18, Tryd.ntmps18
    go_wp2_with fail
    go_loopw [5] (fun u5 wr => u5 = .int .i64 0 ∧ wr = w) (fun _ _ => 0)
    case atStart => exact ⟨rfl, rfl⟩
    case round =>
      obtain ⟨rfl, rfl⟩ := hrel
      go_wp2_with fail
      go_ret
      exact ⟨rfl, 0, rfl⟩
  · obtain ⟨ga, ca', ea, _, hga⟩ := own_some ha (by omega)
    obtain ⟨gb, cb', eb, _, hgb⟩ := own_some hb (by omega)
    injection ea with ea1 _ ea2
    injection eb with eb1 _ eb2
    subst ea1 ea2 eb1 eb2
    have HA := Lib.hid (fun k (hk : k < n) => ha.cellAt k (by omega))
    have HB := Lib.hid (fun k (hk : k < n) => hb.cellAt k (by omega))
    have hnn : ((n : Int) != (n : Int)) = false := by simp
    clear ha hb
    go_enter Tryd.func18, Tryd.ntmps18
    go_wp2_with fail
    go_loopw [5] (fun u5 wr => ∃ k d : Nat, k ≤ n ∧ u5 = .int .i64 k ∧ wr = w.drewN d) (fun u5 _ => n - (intOf u5).toNat)
    case atStart => exact ⟨0, 0, Nat.zero_le _, rfl, rfl⟩
    case round =>
      obtain ⟨k, d, hk, rfl, rfl⟩ := hrel
      by_cases hlt : k < n
      · have e : (xs.map Value.string)[k]? = some (.string (xs[k]'(by omega))) := by
          rw [List.getElem?_map, List.getElem?_eq_getElem (by omega)]; rfl
        have c1 : w.cell? ⟨ga, k, none⟩ = some (.string (xs[k]'(by omega))) := (HA.out k hlt).trans e
        have c2 : w.cell? ⟨gb, k, none⟩ = some (.string (xs[k]'(by omega))) := (HB.out k hlt).trans e
        have hk0 : (0 : Int) ≤ (k : Int) := Int.natCast_nonneg _
        have hk1 : (k : Int) < (n : Int) := by omega
        clear e
        generalize xs[k]'(by omega) = x at c1 c2
        go_wp2_with fail
        go_quiet (fail)
        go_wp2_with fail
        go_roundw
        case rel => exact ⟨k + 1, _, by omega, by go_num, rfl⟩
        case measure => simp [intOf]; omega
      · go_wp2_with fail
        go_ret
        exact ⟨rfl, d, rfl⟩

end Go.Proofs.YtijpbjnghkkdeaaDoor.sameK
