/- The draws of the laws: what the maker of the cursor answers and leaves behind. -/
import Derived.Test.YtomjfcmaoeoigaaRows
import Derived.WalkKit
import Derived.ProofKit
import Derived.OpenShut
import Derived.Below
import Derived.LoopTactic
import Derived.Laws.OwnMore
import Derived.Laws.Rows
import Derived.Deep.Draws
import Derived.Deep.QuietTactic
import Derived.BigQuiet
import Derived.Lib.Hide
import Derived.Outline
namespace Go.Proofs.Ytomjfcmaoeoigaa.draw
open Go.ChangeShapes Go.WideShapes Go.ChangeAt Go.RowKit
set_option linter.unusedVariables false

theorem ret_int {k : IntKind} {a b : Int} (h : a = b) : Ending.returned (.int k a) = .returned (.int k b) := by rw [h]

/-- The slice value '.slice A n c' lies below block B and its cells are bytes. -/
def BytesIn (w : World) (B : Nat) (A : Option Addr) (n : Nat) : Prop :=
  0 < n → ∃ ad, A = some ad ∧ ad.block < B ∧ ∀ j, j < n → ∃ b : Nat, b < 256 ∧ w.cell? (ad.add j) = some (.int .u8 b)

theorem block_of_add (a : Addr) (n : Nat) : (a.add n).block = a.block := by unfold Addr.add; split <;> rfl

theorem BytesIn.keep {w w' : World} {B : Nat} {A : Option Addr} {n : Nat} (h : BytesIn w B A n) (hk : ∀ p : Addr, p.block < B → w'.cell? p = w.cell? p) : BytesIn w' B A n := by
  intro hn
  obtain ⟨ad, e, hb, hc⟩ := h hn
  refine ⟨ad, e, hb, fun j hj => ?_⟩
  obtain ⟨b, hb1, hb2⟩ := hc j hj
  exact ⟨b, hb1, (hk _ (by rw [block_of_add]; exact hb)).trans hb2⟩

theorem BytesIn.more {w : World} {B B' : Nat} {A : Option Addr} {n : Nat} (h : BytesIn w B A n) (hB : B ≤ B') : BytesIn w B' A n := by
  intro hn
  obtain ⟨ad, e, hb, hc⟩ := h hn
  exact ⟨ad, e, by omega, hc⟩

/-- Block g holds a cursor over bytes that lie below block g. -/
def Cur (w : World) (g : Nat) : Prop :=
  ∃ (A : Option Addr) (n c i : Nat) (h : Int), w.heap[g]? = some (.cells #[.slice A n c, .int .i64 i, .int .i64 h] 58 (0, 0)) ∧ i ≤ n ∧ n ≤ maxLen ∧ BytesIn w g A n

theorem Cur.lt {w : World} {g : Nat} (h : Cur w g) : g < w.heap.size := by
  obtain ⟨A, n, c, i, hh, hb, _⟩ := h
  rcases Nat.lt_or_ge g w.heap.size with hlt | hge
  · exact hlt
  · rw [Array.getElem?_eq_none hge] at hb; cases hb

/-- What leaves all up to block g as it was leaves the cursor. -/
theorem Cur.kept {w w' : World} {g B : Nat} (h : Cur w g) (hb : Below B w w') (hg : g < B) : Cur w' g := by
  obtain ⟨A, n, c, i, hh, h1, h2, h3, h4⟩ := h
  exact ⟨A, n, c, i, hh, (hb.block g hg).trans h1, h2, h3, h4.keep fun p hp => hb.cell (by omega)⟩

/-- At the head of a round of l01New. -/
def NewRel (n : Nat) (u3 u4 : Value) : Prop := ∃ (k : Nat) (h : Int), k ≤ n ∧ u4 = .int .i64 k ∧ u3 = .int .i64 h

/-- What l01New leaves: a cursor in the next block. -/
def Made (w : World) (e : Ending) (w' : World) : Prop := e = .returned (.pointer (some ⟨w.heap.size, 0, none⟩)) ∧ Cur w' w.heap.size ∧ Below w.heap.size w w' ∧ w'.heap.size = w.heap.size + 1

theorem made_mk {w : World} {A : Option Addr} {n c : Nat} {h : Int} (hn : n ≤ maxLen) (hb : BytesIn w w.heap.size A n) :
    Made w (.returned (.pointer (some ⟨w.heap.size, 0, none⟩))) (w.alloc (.cells #[.slice A n c, .int .i64 0, .int .i64 h] 58)) := by
  refine ⟨rfl, ⟨A, n, c, 0, h, ?_, Nat.zero_le _, hn, ?_⟩, (Below.refl _ _).alloc (Nat.le_refl _) _, by simp⟩
  · exact heap_alloc_new w _
  · exact hb.keep fun p hp => World.cell?_alloc_lt w _ p hp

set_option maxRecDepth 100000 in
theorem new_any (A : Option Addr) (n c : Nat) (w : World) (hn : n ≤ maxLen) (hb : BytesIn w w.heap.size A n) :
    Calls Try.prog 27 #[.slice A n c] w (Made w) := by
  have HM := @Lib.hid _ (fun h => @made_mk w A n c h hn hb)
  unfold maxLen at hn
  go_enter Try.func27, Try.ntmps27
  go_wp2
  go_loop [3, 4] (fun u3 u4 => NewRel n u3 u4) (fun _ u4 => n - (intOf u4).toNat)
  case atStart => exact ⟨0, _, Nat.zero_le _, rfl, rfl⟩
  case round =>
    obtain ⟨k, h, hk, rfl, rfl⟩ := hrel
    by_cases hlt : k < n
    · by_cases h4 : k < 4000
      · obtain ⟨ad, rfl, hblk, hcell⟩ := hb (by omega)
        obtain ⟨b, hb1, hb2⟩ := hcell k hlt
        clear hcell
        go_wp2
        go_round
        case rel => exact ⟨k + 1, _, by omega, by go_num, rfl⟩
        case measure => simp [intOf]; omega
      · go_wp2
        go_ret
        exact HM.out _
    · go_wp2
      go_ret
      exact HM.out _
end Go.Proofs.Ytomjfcmaoeoigaa.draw
