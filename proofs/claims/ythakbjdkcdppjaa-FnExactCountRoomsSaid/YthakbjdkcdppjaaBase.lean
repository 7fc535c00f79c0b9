/- The draws of the laws: what the maker of the cursor answers and leaves behind. -/
import Derived.Test.YthakbjdkcdppjaaRows
import Derived.Test.YthakbjdkcdppjaaPlain
import Derived.WalkKit
import Derived.ProofKit
import Derived.OpenShut
import Derived.Below
import Derived.LoopTactic
import Derived.Laws.OwnMore
import Derived.Laws.Rows
import Derived.Deep.Draws
import Derived.Deep.QuietTactic
import Derived.BigQuiet
import Derived.Lib.Hide
import Derived.Outline
import Derived.WalkLawsBesides
import Derived.Deep.RegionHeld3
import Derived.Deep.DrawnRows
import Derived.IntWalk
import Derived.Laws.AppendOwn
import Derived.Laws.BytesArg
import Derived.Laws.MakeOwn
import Derived.Deep.AppendLies
import Derived.OwnWalk
import Derived.Carry
import Derived.ChangeMaps5
import Derived.ChangeSame
import Derived.SliceStrings
import Derived.Lib.SmallJoins

namespace Go.Proofs.Ythakbjdkcdppjaa.draw
open Go.ChangeShapes Go.WideShapes Go.ChangeAt Go.RowKit
set_option linter.unusedVariables false

theorem ret_int {k : IntKind} {a b : Int} (h : a = b) : Ending.returned (.int k a) = .returned (.int k b) := by rw [h]

/-- The slice value '.slice A n c' lies below block B and its cells are bytes. -/
def BytesIn (w : World) (B : Nat) (A : Option Addr) (n : Nat) : Prop :=
  0 < n → ∃ ad, A = some ad ∧ ad.block < B ∧ ∀ j, j < n → ∃ b : Nat, b < 256 ∧ w.cell? (ad.add j) = some (.int .u8 b)

theorem block_of_add (a : Addr) (n : Nat) : (a.add n).block = a.block := by unfold Addr.add; split <;> rfl

theorem BytesIn.keep {w w' : World} {B : Nat} {A : Option Addr} {n : Nat} (h : BytesIn w B A n) (hk : ∀ p : Addr, p.block < B → w'.cell? p = w.cell? p) : BytesIn w' B A n := by
  intro hn
  obtain ⟨ad, e, hb, hc⟩ := h hn
  refine ⟨ad, e, hb, fun j hj => ?_⟩
  obtain ⟨b, hb1, hb2⟩ := hc j hj
  exact ⟨b, hb1, (hk _ (by rw [block_of_add]; exact hb)).trans hb2⟩

theorem BytesIn.more {w : World} {B B' : Nat} {A : Option Addr} {n : Nat} (h : BytesIn w B A n) (hB : B ≤ B') : BytesIn w B' A n := by
  intro hn
  obtain ⟨ad, e, hb, hc⟩ := h hn
  exact ⟨ad, e, by omega, hc⟩

/-- Block g holds a cursor over bytes that lie below block g. -/
def Cur (w : World) (g : Nat) : Prop :=
  ∃ (A : Option Addr) (n c i : Nat) (h : Int), w.heap[g]? = some (.cells #[.slice A n c, .int .i64 i, .int .i64 h] 70 (0, 0)) ∧ i ≤ n ∧ n ≤ maxLen ∧ BytesIn w g A n

-- needs 70
theorem Cur.lt {w : World} {g : Nat} (h : Cur w g) : g < w.heap.size := by
  obtain ⟨A, n, c, i, hh, hb, _⟩ := h
  rcases Nat.lt_or_ge g w.heap.size with hlt | hge
  · exact hlt
  · rw [Array.getElem?_eq_none hge] at hb; cases hb

-- needs 70
/-- What leaves all up to block g as it was leaves the cursor. -/
theorem Cur.kept {w w' : World} {g B : Nat} (h : Cur w g) (hb : Below B w w') (hg : g < B) : Cur w' g := by
  obtain ⟨A, n, c, i, hh, h1, h2, h3, h4⟩ := h
  exact ⟨A, n, c, i, hh, (hb.block g hg).trans h1, h2, h3, h4.keep fun p hp => hb.cell (by omega)⟩

/-- At the head of a round of l01New. -/
def NewRel (n : Nat) (u3 u4 : Value) : Prop := ∃ (k : Nat) (h : Int), k ≤ n ∧ u4 = .int .i64 k ∧ u3 = .int .i64 h

-- needs 70
/-- What l01New leaves: a cursor in the next block. -/
def Made (w : World) (e : Ending) (w' : World) : Prop := e = .returned (.pointer (some ⟨w.heap.size, 0, none⟩)) ∧ Cur w' w.heap.size ∧ Below w.heap.size w w' ∧ w'.heap.size = w.heap.size + 1

theorem made_mk {w : World} {A : Option Addr} {n c : Nat} {h : Int} (hn : n ≤ maxLen) (hb : BytesIn w w.heap.size A n) :
    Made w (.returned (.pointer (some ⟨w.heap.size, 0, none⟩))) (w.alloc (.cells #[.slice A n c, .int .i64 0, .int .i64 h] 70)) := by
  refine ⟨rfl, ⟨A, n, c, 0, h, ?_, Nat.zero_le _, hn, ?_⟩, (Below.refl _ _).alloc (Nat.le_refl _) _, by simp⟩
  · exact heap_alloc_new w _
  · exact hb.keep fun p hp => World.cell?_alloc_lt w _ p hp

set_option maxRecDepth 100000 in
theorem new_any (A : Option Addr) (n c : Nat) (w : World) (hn : n ≤ maxLen) (hb : BytesIn w w.heap.size A n) :
    Calls Try.prog 20 #[.slice A n c] w (Made w) := by
  have HM := @Lib.hid _ (fun h => @made_mk w A n c h hn hb)
  unfold maxLen at hn
  go_enter Try.func20, Try.ntmps20
  go_wp2
  go_loop [3, 4] (fun u3 u4 => NewRel n u3 u4) (fun _ u4 => n - (intOf u4).toNat)
  case atStart => exact ⟨0, _, Nat.zero_le _, rfl, rfl⟩
  case round =>
    obtain ⟨k, h, hk, rfl, rfl⟩ := hrel
    by_cases hlt : k < n
    · by_cases h4 : k < 4000
      · obtain ⟨ad, rfl, hblk, hcell⟩ := hb (by omega)
        obtain ⟨b, hb1, hb2⟩ := hcell k hlt
        clear hcell
        go_wp2
        go_round
        case rel => exact ⟨k + 1, _, by omega, by go_num, rfl⟩
        case measure => simp [intOf]; omega
      · go_wp2
        go_ret
        exact HM.out _
    · go_wp2
      go_ret
      exact HM.out _
end Go.Proofs.Ythakbjdkcdppjaa.draw

/- The contracts of the program's functions on grids: each answers the plain number or truth value, and leaves all that was there as it was. -/
namespace Go.Proofs.Ythakbjdkcdppjaa.gridC
open Go.ChangeShapes Go.WideShapes Go.ChangeAt Go.RowKit
open draw gridP
set_option linter.unusedVariables false

/-- A call answers a truth value and leaves all that was there. -/
def Bl (b : Bool) (w : World) (e : Ending) (w' : World) : Prop := e = .returned (.bool b) ∧ Below w.heap.size w w'
/-- A call answers a number and leaves all that was there. -/
def Nm (v : Int) (w : World) (e : Ending) (w' : World) : Prop := e = .returned (.int .i64 v) ∧ Below w.heap.size w w'
theorem bl_mk {a b : Bool} {w w' : World} (h : a = b) (hb : Below w.heap.size w w') : Bl b w (.returned (.bool a)) w' := ⟨by rw [h], hb⟩
theorem nm_mk {a b : Int} {w w' : World} (h : a = b) (hb : Below w.heap.size w w') : Nm b w (.returned (.int .i64 a)) w' := ⟨by rw [h], hb⟩

theorem bcell {W w1 : World} (hb : Below W.heap.size W w1) : (∀ b o, b < W.heap.size → w1.cell? ⟨b, o, none⟩ = W.cell? ⟨b, o, none⟩) ∧ (∀ b o, b < W.heap.size → w1.frozen? ⟨b, o, none⟩ = W.frozen? ⟨b, o, none⟩) :=
  ⟨fun b o h => hb.cell (p := ⟨b, o, none⟩) h, fun b o h => hb.frozen (p := ⟨b, o, none⟩) h⟩

theorem ok_yes (w h : Int) (W : World) (h1 : 1 ≤ w) (h2 : w ≤ 4) (h3 : 1 ≤ h) (h4 : h ≤ 4) :
    Calls Try.prog 23 #[.agg #[.int .i64 w, .int .i64 h]] W (Bl true W) := by
  have HK := @Lib.hid _ (fun w' b => @bl_mk true true W w' rfl b)
  go_enter Try.func23, Try.ntmps23
  go_wp2
  go_ret
  exact HK.out _ ((Below.refl _ _).alloc (Nat.le_refl _) _)

theorem ok_no (w h : Int) (W : World) (hn : ¬ (1 ≤ w ∧ w ≤ 4 ∧ 1 ≤ h ∧ h ≤ 4)) :
    Calls Try.prog 23 #[.agg #[.int .i64 w, .int .i64 h]] W (Bl false W) := by
  have HK := @Lib.hid _ (fun w' b => @bl_mk false false W w' rfl b)
  by_cases h1 : 1 ≤ w
  · by_cases h2 : w ≤ 4
    · by_cases h3 : 1 ≤ h
      · have h4 : ¬ h ≤ 4 := by omega
        clear hn
        go_enter Try.func23, Try.ntmps23
        go_wp2
        go_ret
        exact HK.out _ ((Below.refl _ _).alloc (Nat.le_refl _) _)
      · clear hn
        go_enter Try.func23, Try.ntmps23
        go_wp2
        go_ret
        exact HK.out _ ((Below.refl _ _).alloc (Nat.le_refl _) _)
    · clear hn
      go_enter Try.func23, Try.ntmps23
      go_wp2
      go_ret
      exact HK.out _ ((Below.refl _ _).alloc (Nat.le_refl _) _)
  · clear hn
    go_enter Try.func23, Try.ntmps23
    go_wp2
    go_ret
    exact HK.out _ ((Below.refl _ _).alloc (Nat.le_refl _) _)

theorem below_call {W w1 w2 : World} (h : Below W.heap.size W w1) (hb : Below w1.heap.size w1 w2) : Below W.heap.size W w2 := h.trans (hb.mono h.size)
theorem below_draws {B : Nat} {a w : World} (h : Below B a w) (n : Nat) : Below B a (w.drewN n) := h.trans ⟨rfl, rfl, rfl, Nat.le_refl _, fun _ _ => rfl⟩
theorem below_box (W : World) (o : Obj) : Below W.heap.size W (W.alloc o) := (Below.refl _ _).alloc (Nat.le_refl _) _

/-- Block b holds a grid's two numbers. -/
def Box (b : Nat) (w h : Int) (X : World) : Prop := (X.cell? ⟨b, 0, none⟩ = some (.int .i64 w) ∧ X.cell? ⟨b, 1, none⟩ = some (.int .i64 h)) ∧ b < X.heap.size
theorem box_new (w h : Int) (W : World) (T : TypeId) : Box W.heap.size w h (W.alloc (.cells #[.int .i64 w, .int .i64 h] T)) :=
  ⟨⟨by rw [World.cell?_alloc_new]; rfl, by rw [World.cell?_alloc_new]; rfl⟩, by simp⟩
theorem Box.draws {b : Nat} {w h : Int} {X : World} (hx : Box b w h X) (n : Nat) : Box b w h (X.drewN n) := hx
theorem Box.call {b : Nat} {w h : Int} {X X' : World} (hx : Box b w h X) (hb : Below X.heap.size X X') : Box b w h X' :=
  ⟨⟨(hb.cell (p := ⟨b, 0, none⟩) hx.2).trans hx.1.1, (hb.cell (p := ⟨b, 1, none⟩) hx.2).trans hx.1.2⟩, Nat.lt_of_lt_of_le hx.2 hb.size⟩

theorem cells_any (w h : Int) (W : World) (h1 : 1 ≤ w) (h2 : w ≤ 4) (h3 : 1 ≤ h) (h4 : h ≤ 4) :
    Calls Try.prog 25 #[.agg #[.int .i64 w, .int .i64 h]] W (Nm (w * h) W) := by
  have HK := @Lib.hid _ (fun w' a (e : a = w * h) b => @nm_mk a (w * h) W w' e b)
  obtain rfl | rfl | rfl | rfl : w = 1 ∨ w = 2 ∨ w = 3 ∨ w = 4 := by omega
  all_goals
    go_enter Try.func25, Try.ntmps25
    go_wp2
    go_ret
    exact HK.out _ _ (by omega) (below_box _ _)

theorem eastGaps_any (w h : Int) (W : World) (h1 : 1 ≤ w) (h2 : w ≤ 4) (h3 : 1 ≤ h) (h4 : h ≤ 4) :
    Calls Try.prog 50 #[.agg #[.int .i64 w, .int .i64 h]] W (Nm ((w - 1) * h) W) := by
  have HK := @Lib.hid _ (fun w' a (e : a = (w - 1) * h) b => @nm_mk a ((w - 1) * h) W w' e b)
  obtain rfl | rfl | rfl | rfl : w = 1 ∨ w = 2 ∨ w = 3 ∨ w = 4 := by omega
  all_goals
    go_enter Try.func50, Try.ntmps50
    go_wp2
    go_ret
    exact HK.out _ _ (by omega) (below_box _ _)

theorem gaps_any (w h : Int) (W : World) (h1 : 1 ≤ w) (h2 : w ≤ 4) (h3 : 1 ≤ h) (h4 : h ≤ 4) :
    Calls Try.prog 46 #[.agg #[.int .i64 w, .int .i64 h]] W (Nm ((w - 1) * h + w * (h - 1)) W) := by
  have HK := @Lib.hid _ (fun w' a (e : a = (w - 1) * h + w * (h - 1)) b => @nm_mk a ((w - 1) * h + w * (h - 1)) W w' e b)
  have HB := Lib.hid below_box
  obtain ⟨-, ⟨p1, p2⟩, ⟨p3, p4⟩⟩ := mul_bd w h h1 h2 h3 h4
  go_enter Try.func46, Try.ntmps46
  go_wp2_with fail
  go_region_held3 (fun w' => w'.cell? ⟨W.heap.size, 0, none⟩ = some (.int .i64 w) ∧ w'.cell? ⟨W.heap.size, 1, none⟩ = some (.int .i64 h)) (go_keep)
    ((go_at_call 50; refine (eastGaps_any w h _ h1 h2 h3 h4).mono ?_; rintro e w1 ⟨rfl, hb⟩; obtain ⟨hc, hf⟩ := bcell hb))
  go_wp2_with fail
  go_ret
  exact HK.out _ _ (by rw [IntWalk.i64_in (h - 1) (by omega), IntWalk.i64_in (w * (h - 1)) (by omega), IntWalk.i64_in _ (by omega)]) (by refine below_call ?_ hb; repeat (first | exact Below.refl _ _ | refine Below.drew ?_ | refine Below.alloc ?_ (by simp) _))

theorem hasCell_yes (w h k : Int) (W : World) (h1 : 1 ≤ w) (h2 : w ≤ 4) (h3 : 1 ≤ h) (h4 : h ≤ 4) (k0 : 0 ≤ k) (k1 : k < w * h) :
    Calls Try.prog 76 #[.agg #[.int .i64 w, .int .i64 h], .int .i64 k] W (Bl true W) := by
  have HK := @Lib.hid _ (fun w' b => @bl_mk true true W w' rfl b)
  have HB := Lib.hid below_box
  go_enter Try.func76, Try.ntmps76
  go_wp2_with fail
  refine (cells_any w h _ (by omega) (by omega) h3 h4).mono ?_
  rintro e w1 ⟨rfl, hb⟩
  have hb1 := below_call (HB.out _ _) hb
  go_wp2_with fail
  go_ret
  exact HK.out _ hb1

theorem hasCell_no (w h k : Int) (W : World) (h1 : 1 ≤ w) (h2 : w ≤ 4) (h3 : 1 ≤ h) (h4 : h ≤ 4) (hn : ¬ (0 ≤ k ∧ k < w * h)) :
    Calls Try.prog 76 #[.agg #[.int .i64 w, .int .i64 h], .int .i64 k] W (Bl false W) := by
  have HK := @Lib.hid _ (fun w' b => @bl_mk false false W w' rfl b)
  have HB := Lib.hid below_box
  by_cases k0 : 0 ≤ k
  · have k1 : w * h ≤ k := Int.not_lt.1 fun hk => hn ⟨k0, hk⟩
    have k2 : decide (k < w * h) = false := by simpa using k1
    clear hn
    go_enter Try.func76, Try.ntmps76
    go_wp2_with fail
    refine (cells_any w h _ (by omega) (by omega) h3 h4).mono ?_
    rintro e w1 ⟨rfl, hb⟩
    have hb1 := below_call (HB.out _ _) hb
    go_wp2_with fail
    go_ret
    exact HK.out _ hb1
  · clear hn
    go_enter Try.func76, Try.ntmps76
    go_wp2_with fail
    go_ret
    exact HK.out _ (HB.out _ _)

theorem hasPlace_yes (w h c r : Int) (W : World) (c0 : 0 ≤ c) (c1 : c < w) (r0 : 0 ≤ r) (r1 : r < h) :
    Calls Try.prog 79 #[.agg #[.int .i64 w, .int .i64 h], .int .i64 c, .int .i64 r] W (Bl true W) := by
  have HK := @Lib.hid _ (fun w' b => @bl_mk true true W w' rfl b)
  have HB := Lib.hid below_box
  go_enter Try.func79, Try.ntmps79
  go_wp2_with fail
  go_ret
  exact HK.out _ (HB.out _ _)

theorem hasPlace_no (w h c r : Int) (W : World) (hn : ¬ (0 ≤ c ∧ c < w ∧ 0 ≤ r ∧ r < h)) :
    Calls Try.prog 79 #[.agg #[.int .i64 w, .int .i64 h], .int .i64 c, .int .i64 r] W (Bl false W) := by
  have HK := @Lib.hid _ (fun w' b => @bl_mk false false W w' rfl b)
  have HB := Lib.hid below_box
  by_cases h1 : 0 ≤ c
  · by_cases h2 : c < w
    · by_cases h3 : 0 ≤ r
      · have h4 : ¬ r < h := by omega
        clear hn
        go_enter Try.func79, Try.ntmps79
        go_wp2
        go_ret
        exact HK.out _ (HB.out _ _)
      · clear hn
        go_enter Try.func79, Try.ntmps79
        go_wp2
        go_ret
        exact HK.out _ (HB.out _ _)
    · clear hn
      go_enter Try.func79, Try.ntmps79
      go_wp2
      go_ret
      exact HK.out _ (HB.out _ _)
  · clear hn
    go_enter Try.func79, Try.ntmps79
    go_wp2
    go_ret
    exact HK.out _ (HB.out _ _)

/-- Whether there is such a place, both ways. -/
def Placed (w h c r : Int) (W : World) (e : Ending) (w' : World) : Prop := (Hid (0 ≤ c ∧ c < w ∧ 0 ≤ r ∧ r < h) ∧ e = .returned (.bool true) ∧ Below W.heap.size W w') ∨ (Hid (¬ (0 ≤ c ∧ c < w ∧ 0 ≤ r ∧ r < h)) ∧ e = .returned (.bool false) ∧ Below W.heap.size W w')
theorem hasPlace_any (w h c r : Int) (W : World) :
    Calls Try.prog 79 #[.agg #[.int .i64 w, .int .i64 h], .int .i64 c, .int .i64 r] W (Placed w h c r W) := by
  by_cases hp : 0 ≤ c ∧ c < w ∧ 0 ≤ r ∧ r < h
  · exact (hasPlace_yes w h c r W hp.1 hp.2.1 hp.2.2.1 hp.2.2.2).mono fun _ _ ⟨he, hw⟩ => .inl ⟨hp, he, hw⟩
  · exact (hasPlace_no w h c r W hp).mono fun _ _ ⟨he, hw⟩ => .inr ⟨hp, he, hw⟩

theorem eastGap_any (w h k : Int) (W : World) (h1 : 1 ≤ w) (h2 : w ≤ 4) (k0 : 0 ≤ k) (k1 : k < 16) :
    Calls Try.prog 74 #[.agg #[.int .i64 w, .int .i64 h], .int .i64 k] W (Nm (k - k / w) W) := by
  have HK := @Lib.hid _ (fun w' a (e : a = k - k / w) b => @nm_mk a (k - k / w) W w' e b)
  have HB := Lib.hid below_box
  obtain rfl | rfl | rfl | rfl : w = 1 ∨ w = 2 ∨ w = 3 ∨ w = 4 := by omega
  all_goals
    go_enter Try.func74, Try.ntmps74
    go_wp2
    go_ret
    exact HK.out _ _ (by omega) (HB.out _ _)

theorem southGap_any (w h k : Int) (W : World) (h1 : 1 ≤ w) (h2 : w ≤ 4) (h3 : 1 ≤ h) (h4 : h ≤ 4) (k0 : 0 ≤ k) (k1 : k < 16) :
    Calls Try.prog 75 #[.agg #[.int .i64 w, .int .i64 h], .int .i64 k] W (Nm ((w - 1) * h + k) W) := by
  have HK := @Lib.hid _ (fun w' a (e : a = (w - 1) * h + k) b => @nm_mk a ((w - 1) * h + k) W w' e b)
  have HB := Lib.hid below_box
  obtain rfl | rfl | rfl | rfl : w = 1 ∨ w = 2 ∨ w = 3 ∨ w = 4 := by omega
  all_goals
    go_enter Try.func75, Try.ntmps75
    go_wp2_with fail
    refine (eastGaps_any _ h _ (by omega) (by omega) h3 h4).mono ?_
    rintro e w1 ⟨rfl, hb⟩
    have hb1 := below_call (HB.out _ _) hb
    go_wp2_with fail
    go_ret
    exact HK.out _ _ (by omega) hb1
end Go.Proofs.Ythakbjdkcdppjaa.gridC

/- An answer of two numbers. -/
namespace Go.Proofs.Ythakbjdkcdppjaa.gridE
open Go.ChangeShapes Go.WideShapes Go.ChangeAt Go.RowKit

/-- A call answers two numbers and leaves all that was there. -/
def Nm2 (u v : Int) (w : World) (e : Ending) (w' : World) : Prop := e = .returned (.tuple #[.int .i64 u, .int .i64 v]) ∧ Below w.heap.size w w'
theorem nm2_mk {a b u v : Int} {w w' : World} (h : a = u) (h' : b = v) (hb : Below w.heap.size w w') : Nm2 u v w (.returned (.tuple #[.int .i64 a, .int .i64 b])) w' := ⟨by rw [h, h'], hb⟩
end Go.Proofs.Ythakbjdkcdppjaa.gridE

/- Slices of integers that a call owns: plain facts. -/
namespace Go.Proofs.Ythakbjdkcdppjaa.intsP
open Go.ChangeShapes Go.WideShapes Go.ChangeAt Go.RowKit
set_option linter.unusedVariables false

theorem info_int : (Try.prog.info? 3).map (fun i => (i.zero, i.size, i.bytes)) = some (some (.int .i64 0), 1, 8) := by kernel_rfl
/-- The cells that hold integers. -/
def icells (l : List Int) : List Value := l.map fun z => .int .i64 z
theorem icells_append (a b : List Int) : icells (a ++ b) = icells a ++ icells b := by simp [icells]
theorem icells_length (a : List Int) : (icells a).length = a.length := by simp [icells]
theorem icells_at (l : List Int) (j : Nat) (h : j < l.length) : (icells l)[j]? = some (.int .i64 (l[j])) := by simp [icells, h]
theorem oneCellI (l : List Int) : ∀ u ∈ icells l, u.oneCell' = true := by
  intro u hu
  simp [icells] at hu
  obtain ⟨b, _, rfl⟩ := hu
  rfl
theorem news_eqI {w : World} {B : Nat} {cs : Array Value} {l : List Value} {t : TypeId} {fr : Nat × Nat} (e : cs.toList = l) (hb : w.heap[B]? = some (.cells cs t fr)) : ∀ j u, l[j]? = some u → w.cell? ((⟨B, 0, none⟩ : Addr).add j) = some u := by
  subst e
  exact World.news_of_block hb
theorem own_form {w : World} {base : Nat} {e : TypeId} {size n : Nat} {v : Value} {xs : List Value} (h : w.ownsRow base e size v n xs) : ∃ A c, v = .slice A n c := by
  rcases h.2 with ⟨rfl, rfl⟩ | ⟨g, cap, cur, rfl, _⟩
  · exact ⟨none, 0, rfl⟩
  · exact ⟨_, _, rfl⟩
/-- What is owned stays owned where only blocks from B on have changed. -/
theorem own_below {w w' : World} {B base : Nat} {e : TypeId} {size n : Nat} {v : Value} {xs : List Value} (h : w.ownsRow base e size v n xs) (hb : Below B w w') (hv : ∀ g, v.ownBlock = some g → g < B) : w'.ownsRow base e size v n xs := by
  refine ⟨h.1, ?_⟩
  rcases h.2 with h2 | ⟨g, cap, cur, rfl, hg, hh, r⟩
  · exact .inl h2
  · exact .inr ⟨g, cap, cur, rfl, hg, (hb.block g (hv g rfl)).trans hh, r⟩
theorem own_lt {w : World} {base : Nat} {e : TypeId} {size n : Nat} {v : Value} {xs : List Value} (h : w.ownsRow base e size v n xs) : ∀ g, v.ownBlock = some g → g < w.heap.size := fun g hg => (h.lt g hg).2
theorem own_call {w w' : World} {base : Nat} {e : TypeId} {size n : Nat} {v : Value} {xs : List Value} (h : w.ownsRow base e size v n xs) (hb : Below w.heap.size w w') : w'.ownsRow base e size v n xs := own_below h hb (own_lt h)
theorem own_base {w : World} {base base' : Nat} {e : TypeId} {size n : Nat} {v : Value} {xs : List Value} (h : w.ownsRow base e size v n xs) (hb : base' ≤ base) : w.ownsRow base' e size v n xs := by
  refine ⟨h.1, ?_⟩
  rcases h.2 with h2 | ⟨g, cap, cur, rfl, hg, r⟩
  · exact .inl h2
  · exact .inr ⟨g, cap, cur, rfl, by omega, r⟩
theorem own_some {w : World} {base : Nat} {e : TypeId} {size n : Nat} {v : Value} {xs : List Value} (h : w.ownsRow base e size v n xs) (hn : 0 < n) : ∃ g c, v = .slice (some ⟨g, 0, none⟩) n c ∧ base ≤ g ∧ g < w.heap.size := by
  rcases h.2 with ⟨_, h2⟩ | ⟨g, cap, cur, rfl, hg, hh, r⟩
  · omega
  · exact ⟨g, cap, rfl, hg, (Array.getElem?_eq_some_iff.1 hh).1⟩
/-- An append of one: what was below its base is as it was. -/
theorem below_app {w wr w1 : World} {B base n : Nat} {e : TypeId} {size : Nat} {xs : List Value} {v : Value} {o : Obj} (hb : Below B w wr) (hB : B ≤ base) (hw : B ≤ w.heap.size) (hown : wr.ownsRow base e size v n xs) (hg : (wr.alloc o).grownBy w1 v.ownBlock) : Below B w w1 :=
  (hb.alloc (Nat.le_trans hw hb.size) o).grown hg (by have := hb.size; simp; omega) (fun b hk => Nat.le_trans hB (hown.lt b hk).1)

/-- A call answers a slice of its own that holds the integers l, and leaves all that was there. -/
def Ints (l : List Int) (w : World) (e : Ending) (w' : World) : Prop := ∃ v, e = .returned v ∧ w'.ownsRow w.heap.size 3 1 v l.length (icells l) ∧ Below w.heap.size w w'
theorem ints_mk {l : List Int} {w w' : World} {v : Value} {n base : Nat} (hn : n = l.length) (ho : w'.ownsRow base 3 1 v n (icells l)) (hB : w.heap.size ≤ base) (hb : Below w.heap.size w w') : Ints l w (.returned v) w' := by
  subst hn
  exact ⟨v, rfl, own_base ho hB, hb⟩
end Go.Proofs.Ythakbjdkcdppjaa.intsP

/- Slices of truth values that a call owns: plain facts. -/
namespace Go.Proofs.Ythakbjdkcdppjaa.boolP
open Go.ChangeShapes Go.WideShapes Go.ChangeAt Go.RowKit
open intsP
set_option linter.unusedVariables false

theorem info_bool : (Try.prog.info? 4).map (fun i => (i.zero, i.size, i.bytes)) = some (some (.bool false), 1, 1) := by kernel_rfl
/-- The cells that hold truth values. -/
def bcells (l : List Bool) : List Value := l.map fun z => .bool z
theorem bcells_append (a b : List Bool) : bcells (a ++ b) = bcells a ++ bcells b := by simp [bcells]
theorem bcells_length (a : List Bool) : (bcells a).length = a.length := by simp [bcells]
theorem bcells_at (l : List Bool) (j : Nat) (h : j < l.length) : (bcells l)[j]? = some (.bool (l[j])) := by simp [bcells, h]
theorem oneCellB (l : List Bool) : ∀ u ∈ bcells l, u.oneCell' = true := by
  intro u hu
  simp [bcells] at hu
  rcases hu with ⟨_, rfl⟩ | ⟨_, rfl⟩ <;> rfl
theorem made_false (n : Nat) : (madeCells (Value.bool false).cells n).toList = bcells (List.replicate n false) := by
  unfold madeCells bcells
  apply List.ext_getElem?
  intro i
  simp only [Array.toList_map, Array.toList_range, List.getElem?_map, Value.cells]
  by_cases hi : i < n
  · simp [hi, Nat.mod_one]
  · simp [hi]
/-- A row of truth values is made. -/
theorem bools_make (base N : Nat) (X : World) (hB : base ≤ X.heap.size) (hm : N ≤ maxLen) : (X.alloc (.cells (madeCells (Value.bool false).cells N) 4)).ownsRow base 4 1 (.slice (some ⟨X.heap.size, 0, none⟩) N N) N (bcells (List.replicate N false)) := by
  have := World.ownsRow_lit (base := base) (e := 4) (size := 1) X (madeCells (Value.bool false).cells N) N hB hm (by rw [size_madeCells]; omega)
  rwa [made_false] at this
theorem bools_cell {X : World} {base Q N c : Nat} {B : List Bool} (h : X.ownsRow base 4 1 (.slice (some ⟨Q, 0, none⟩) N c) N (bcells B)) (hl : B.length = N) (j : Nat) (hj : j < N) : X.cell? ⟨Q, j, none⟩ = some (.bool (B.getD j false)) ∧ X.frozen? ⟨Q, j, none⟩ = false := by
  refine ⟨(h.cellAt j (by omega)).trans ?_, h.frozenAt j⟩
  rw [bcells_at B j (by omega), List.getD_eq_getElem?_getD, List.getElem?_eq_getElem (by omega)]
  rfl
theorem bools_put {X : World} {base Q N c : Nat} {B : List Bool} (h : X.ownsRow base 4 1 (.slice (some ⟨Q, 0, none⟩) N c) N (bcells B)) (j : Nat) (u : Bool) : (X.setCell ⟨Q, j, none⟩ (.bool u)).ownsRow base 4 1 (.slice (some ⟨Q, 0, none⟩) N c) N (bcells (B.set j u)) := by
  have h1 := (h.stored j (.bool u)).1
  have e : (bcells B).set j (.bool u) = bcells (B.set j u) := by simp [bcells, List.map_set]
  rwa [e] at h1
theorem getB_set (B : List Bool) (i j : Nat) (x : Bool) (hi : i < B.length) : (B.set i x).getD j false = if i = j then x else B.getD j false := by
  simp only [List.getD_eq_getElem?_getD, List.getElem?_set]
  by_cases h : i = j
  · subst h; simp [hi]
  · simp [h]
end Go.Proofs.Ythakbjdkcdppjaa.boolP

/- The last steps of a law's row, for laws whose arguments are bytes, a string or numbers and whose call leaves all that was there as it was. -/
namespace Go.Proofs.Ythakbjdkcdppjaa.lawKit
open Go.ChangeShapes Go.WideShapes Go.ChangeAt Go.RowKit
open draw
set_option linter.unusedVariables false

theorem own : ownKnob Try.prog.godebug = none := by kernel_rfl
theorem laidOut : laidOutB Try.prog = true := by kernel_rfl
theorem cells_u8 : Try.prog.cellsOf 5 = 1 := by kernel_rfl

section
variable {H : Type} {enc : TypeId × Value → H} {P : Program}
/-- The row's end where the call left all that was there as it was. -/
theorem post_below {f : Func} {s : ChangeSpec} {apart fresh handsOn again : Bool} {W W' : World} {args : Array Value} {v : Value} {ds gs : List (DataW H)} {before pa pv : List MemPlace}
    (hW : DataW.Whole enc P f.params.toList s.vars apart W args.toList ds gs before)
    (hres : ∀ (b : Nat) (sp : Nat → Bool) (hd : Bool), DataW.TrodAll enc P W' b sp hd f.resultTypes.toList (v.resultList f.resultTypes.size) (s.fn H (ds ++ gs)).results [])
    (hargs : ∀ sp : Nat → Bool, (∀ p ∈ before, sp p.block = true) → DataW.TrodAll enc P W' 0 sp true f.params.toList args.toList (s.fn H (ds ++ gs)).args pa)
    (hvars : ∀ sp : Nat → Bool, (∀ p ∈ before, sp p.block = true) → DataW.TrodVars enc P W' sp s.vars (s.fn H (ds ++ gs)).vars pv)
    (hps : before = pa ++ pv) (hb : Below W.heap.size W W')
    (hok : ∀ (j : Nat) (t : TypeId) (r : Value), f.resultTypes[j]? = some t → (v.resultList f.resultTypes.size)[j]? = some r → Value.okWide P W' .any 0 t r) :
    s.post enc P f apart fresh handsOn again W args v W' := by
  have hlt : ∀ p ∈ before, p.block < W.heap.size := fun p hp => hW.lt p hp
  have hold : ∀ p ∈ before, (fun b => decide (b < W.heap.size)) p.block = true := fun p hp => by simpa using hlt p hp
  refine ⟨ds, gs, before, [], pa, pv, hW, hres _ _ _, hargs _ hold, hvars _ hold, World.keptBut_mono (fun p hp => ⟨hp, ?_⟩) (hb.frame (· ∈ before)), fun _ => ?_⟩
  · rw [hps, List.mem_append] at hp
    exact Or.inr hp
  · obtain ⟨_, _, _, _, _, hz, hn⟩ := hW
    refine ⟨hok, _, _, ([] ++ pa) ++ pv, ⟨[] ++ pa, pv, trodAll_append (hargs _ (fun _ _ => rfl)) (hres _ _ _), hvars _ (fun _ _ => rfl), rfl, ?_, ?_⟩, ?_⟩
    · intro b off hp
      have hin : MemPlace.cell b off ∈ before := by rw [hps]; simpa using hp
      rw [hb.frozen (hlt _ hin)]
      exact hz b off hin
    · intro ha
      have := hn ha
      rw [hps] at this
      simpa using this
    · intro p hp _
      rw [hps]
      simpa using hp

/-- Bytes that come in, in the words of the draws. -/
theorem open_bytes {t e : TypeId} (ht : P.underlying t = some (.slice e)) (he : P.underlying e = some (.int .u8)) (hc : P.cellsOf e = 1) {W : World} {base : Nat} {v : Value} {d : DataW H} {ps : List MemPlace}
    (hval : Value.okWide P W .any base t v) (h : DataW.Trod enc P W 0 (fun _ => true) true t v d ps) (hlt : ∀ x ∈ ps, x.block < W.heap.size) :
    ∃ A n c, v = .slice A n c ∧ n ≤ maxLen ∧ BytesIn W W.heap.size A n := by
  obtain ⟨A, n, c, rfl⟩ := okWide_slice ht hval
  obtain ⟨fuel, hf⟩ := h
  refine ⟨A, n, c, rfl, ?_⟩
  rcases open_ints ht he hc hf with ⟨hcs, _⟩ | ⟨a, len', cap', zs, hcs, _, hl, hm, hz, hx, hcell, hwz⟩
  · simp [Value.cells] at hcs
    obtain ⟨rfl, rfl, rfl⟩ := hcs
    exact ⟨Nat.zero_le _, fun h0 => absurd h0 (by omega)⟩
  · simp [Value.cells] at hcs
    obtain ⟨rfl, rfl, rfl⟩ := hcs
    simp only [if_true] at hz
    simp only [Prod.mk.injEq] at hx
    obtain ⟨-, rfl⟩ := hx
    refine ⟨by omega, fun h0 => ⟨a, rfl, ?_, fun j hj => ?_⟩⟩
    · obtain ⟨b, off, spot⟩ := a
      exact hlt (.cell b off) (MemPlace.mem_row.2 ⟨0, by omega, by simp⟩)
    · have hj' : j < zs.length := by omega
      have hw : (Lit.int .u8 (zs.getD j 0)).wf = true := hwz _ (by
        rw [List.getD_eq_getElem?_getD, List.getElem?_eq_getElem hj']
        exact List.getElem_mem hj')
      simp [Lit.wf, IntKind.min, IntKind.max, IntKind.signed, IntKind.bits] at hw
      refine ⟨(zs.getD j 0).toNat, by simp only [List.getD_eq_getElem?_getD]; omega, ?_⟩
      rw [hcell j hj', Int.toNat_of_nonneg (by simp only [List.getD_eq_getElem?_getD]; omega)]
end
end Go.Proofs.Ythakbjdkcdppjaa.lawKit

/- A grid that comes in as an argument, and the laws' own copy of it. -/
namespace Go.Proofs.Ythakbjdkcdppjaa.gridR
open Go.ChangeShapes Go.WideShapes Go.ChangeAt Go.RowKit Go.Joins
open draw lawKit gridC
set_option linter.unusedVariables false

set_option maxRecDepth 100000 in
theorem cellsGrid : Try.prog.cellsOf 34 = 2 := by kernel_rfl

section
variable {H : Type} {enc : TypeId × Value → H}
set_option maxRecDepth 100000 in
theorem open_grid {W : World} {base : Nat} {v : Value} {d : DataW H} {ps : List MemPlace}
    (hval : Value.okWide Try.prog W .any base 34 v) (h : DataW.Trod enc Try.prog W 0 (fun _ => true) true 34 v d ps) :
    ∃ x y : Int, v = .agg #[.int .i64 x, .int .i64 y] ∧ d = .agg [.lit (.int .i64 x), .lit (.int .i64 y)] ∧ ps = [] ∧ (Lit.int .i64 x).wf = true ∧ (Lit.int .i64 y).wf = true := by
  obtain ⟨c0, c1, y0, y1, m, rfl, rfl, rfl, hy0, hy1⟩ := open_agg2 Try.underlying34 (by kernel_rfl) cellsGrid hval h
  obtain ⟨a, e0, rfl, wa⟩ := DataW.trod_int Try.underlying3 hy0
  obtain ⟨b, e1, rfl, wb⟩ := DataW.trod_int Try.underlying3 hy1
  simp at e0 e1
  subst e0 e1
  exact ⟨a, b, rfl, rfl, rfl, wa, wb⟩
set_option maxRecDepth 100000 in
theorem shut_grid {W : World} {b : Nat} {sp : Nat → Bool} {hd : Bool} {x y : Int} (wx : (Lit.int .i64 x).wf = true) (wy : (Lit.int .i64 y).wf = true) :
    DataW.Trod enc Try.prog W b sp hd 34 (.agg #[.int .i64 x, .int .i64 y]) (.agg [.lit (.int .i64 x), .lit (.int .i64 y)]) [] :=
  shut_agg2 (y0 := (.lit (.int .i64 x), [])) (y1 := (.lit (.int .i64 y), [])) Try.underlying34 (by kernel_rfl) cellsGrid ⟨1, by simp [DataW.trod, Try.underlying3, wx]⟩ ⟨1, by simp [DataW.trod, Try.underlying3, wy]⟩
end

/-- A call answers a grid and leaves all that was there. -/
def Gr (x y : Int) (w : World) (e : Ending) (w' : World) : Prop := e = .returned (.agg #[.int .i64 x, .int .i64 y]) ∧ Below w.heap.size w w'
theorem gr_mk {x y : Int} {w w' : World} (hb : Below w.heap.size w w') : Gr x y w (.returned (.agg #[.int .i64 x, .int .i64 y])) w' := ⟨rfl, hb⟩

set_option maxRecDepth 100000 in
theorem toGrid_any (x y : Int) (W : World) :
    Calls Try.prog 14 #[.agg #[.int .i64 x, .int .i64 y]] W (Gr x y W) := by
  have HK := @Lib.hid _ (fun w' b => @gr_mk x y W w' b)
  go_enter Try.func14, Try.ntmps14
  go_wp2
  refine bodyPost_ret (v := .agg #[.int .i64 x, .int .i64 y]) (by simp [results, Try.results14, go_sem]) rfl (HK.out _ ?_)
  repeat (first | exact Below.refl _ _ | refine Below.alloc ?_ (by simp; try omega) _ | refine Below.setCell ?_ (by simp; try omega) _)
end Go.Proofs.Ythakbjdkcdppjaa.gridR

/- The laws' own words for lists of integers: equal lists are equal, marks are laid, and are found again. -/
namespace Go.Proofs.Ythakbjdkcdppjaa.intK
open Go.ChangeShapes Go.WideShapes Go.ChangeAt Go.RowKit
open intsP
set_option linter.unusedVariables false

/-- The cells with the marks from m on. -/
def marks (m n : Nat) : List Value := (List.range n).map fun j => .int .i64 ((m + j : Nat) : Int)
theorem marks_length (m n : Nat) : (marks m n).length = n := by simp [marks]
theorem marks_at (m n j : Nat) (h : j < n) : (marks m n)[j]? = some (.int .i64 ((m + j : Nat) : Int)) := by simp [marks, h]
/-- The first j cells are marked. -/
def part (m j : Nat) (xs : List Value) : List Value := marks m j ++ xs.drop j
theorem part_zero (m : Nat) (xs : List Value) : part m 0 xs = xs := by simp [part, marks]
theorem part_all (m n : Nat) (xs : List Value) (h : xs.length = n) : part m n xs = marks m n := by simp [part, List.drop_of_length_le (Nat.le_of_eq h)]
theorem part_set (m j : Nat) (xs : List Value) (h : j < xs.length) : (part m j xs).set j (.int .i64 ((m + j : Nat) : Int)) = part m (j + 1) xs := by
  apply List.ext_getElem?
  intro i
  unfold part
  rw [List.getElem?_set, List.getElem?_append, List.getElem?_append, List.length_append, marks_length, marks_length, List.length_drop]
  by_cases hij : j = i
  · subst hij
    rw [if_pos rfl, if_pos (by omega), if_pos (by omega), marks_at _ _ _ (by omega)]
  · rw [if_neg hij]
    by_cases hlt : i < j
    · rw [if_pos hlt, if_pos (by omega), marks_at _ _ _ hlt, marks_at _ _ _ (by omega)]
    · rw [if_neg hlt, if_neg (by omega), List.getElem?_drop, List.getElem?_drop]
      congr 1; omega

set_option maxRecDepth 100000 in
/-- Two slices that hold the same integers are equal. -/
theorem eq_same (va vb : Value) (ba bb n : Nat) (xs : List Int) (w : World) (hx : xs.length = n) (hn : n ≤ 2000000)
    (ha : w.ownsRow ba 3 1 va n (icells xs)) (hb : w.ownsRow bb 3 1 vb n (icells xs)) :
    Calls Try.prog 17 #[va, vb] w fun e w' => e = .returned (.bool true) ∧ ∃ d, w' = w.drewN d := by
  obtain ⟨Aa, ca, rfl⟩ := own_form ha
  obtain ⟨Ab, cb, rfl⟩ := own_form hb
  by_cases h0 : n = 0
  · subst h0
    clear ha hb
    go_enter Try.func17, Try.ntmps17
    go_wp2_with fail
    go_loopw [5] (fun u5 wr => u5 = .int .i64 0 ∧ wr = w) (fun _ _ => 0)
    case atStart => exact ⟨rfl, rfl⟩
    case round =>
      obtain ⟨rfl, rfl⟩ := hrel
      go_wp2_with fail
      go_ret
      exact ⟨rfl, 0, rfl⟩
  · obtain ⟨ga, ca', ea, _, hga⟩ := own_some ha (by omega)
    obtain ⟨gb, cb', eb, _, hgb⟩ := own_some hb (by omega)
    injection ea with ea1 _ ea2
    injection eb with eb1 _ eb2
    subst ea1 ea2 eb1 eb2
    have HA := Lib.hid (fun k (hk : k < n) => ha.cellAt k (by omega))
    have HB := Lib.hid (fun k (hk : k < n) => hb.cellAt k (by omega))
    have hnn : ((n : Int) != (n : Int)) = false := by simp
    clear ha hb
    go_enter Try.func17, Try.ntmps17
    go_wp2_with fail
    go_loopw [5] (fun u5 wr => ∃ k d : Nat, k ≤ n ∧ u5 = .int .i64 k ∧ wr = w.drewN d) (fun u5 _ => n - (intOf u5).toNat)
    case atStart => exact ⟨0, 0, Nat.zero_le _, rfl, rfl⟩
    case round =>
      obtain ⟨k, d, hk, rfl, rfl⟩ := hrel
      by_cases hlt : k < n
      · have e : (icells xs)[k]? = some (.int .i64 (xs[k]'(by omega))) := icells_at xs k (by omega)
        have c1 : w.cell? ⟨ga, k, none⟩ = some (.int .i64 (xs[k]'(by omega))) := (HA.out k hlt).trans e
        have c2 : w.cell? ⟨gb, k, none⟩ = some (.int .i64 (xs[k]'(by omega))) := (HB.out k hlt).trans e
        have hk0 : (0 : Int) ≤ (k : Int) := Int.natCast_nonneg _
        have hk1 : (k : Int) < (n : Int) := by omega
        clear e
        generalize xs[k]'(by omega) = x at c1 c2
        have hxx : (x != x) = false := by simp
        go_wp2_with fail
        go_quiet (fail)
        go_wp2_with fail
        go_roundw
        case rel => exact ⟨k + 1, _, by omega, by go_num, rfl⟩
        case measure => simp [intOf]; omega
      · go_wp2_with fail
        go_ret
        exact ⟨rfl, d, rfl⟩

/-- At the head of a round of marking. -/
def MkRel (base m n : Nat) (v : Value) (xs : List Value) (w : World) (u1 u5 : Value) (wr : World) : Prop :=
  ∃ j : Nat, j ≤ n ∧ u5 = .int .i64 j ∧ u1 = .int .i64 ((m + j : Nat) : Int) ∧ wr.ownsRow base 3 1 v n (part m j xs) ∧ Below base w wr
theorem mk_step {base m n j g c : Nat} {xs : List Value} {w wr : World} (hlt : j < n) (hx : xs.length = n) (hown : wr.ownsRow base 3 1 (.slice (some ⟨g, 0, none⟩) n c) n (part m j xs)) (hg : base ≤ g) (hb : Below base w wr) :
    MkRel base m n (.slice (some ⟨g, 0, none⟩) n c) xs w (.int .i64 ((m : Int) + (j : Int) + 1)) (.int .i64 ((j : Int) + 1)) (wr.setCell ⟨g, j, none⟩ (.int .i64 ((m : Int) + (j : Int)))) := by
  have h1 := hown.stored j (.int .i64 ((m + j : Nat) : Int))
  have e : (.int .i64 ((m : Int) + (j : Int)) : Value) = .int .i64 ((m + j : Nat) : Int) := by rw [show ((m + j : Nat) : Int) = (m : Int) + (j : Int) from by omega]
  rw [e]
  refine ⟨j + 1, hlt, by go_num, by rw [show ((m + (j + 1) : Nat) : Int) = (m : Int) + (j : Int) + 1 from by omega], ?_, hb.setCell hg _⟩
  rw [part_set m j xs (by omega)] at h1
  exact h1.1

theorem eq_b (va vb : Value) (ba bb n : Nat) (xs : List Int) (w : World) (hx : xs.length = n) (hn : n ≤ 2000000)
    (ha : w.ownsRow ba 3 1 va n (icells xs)) (hb : w.ownsRow bb 3 1 vb n (icells xs)) :
    Calls Try.prog 17 #[va, vb] w fun e w' => e = .returned (.bool true) ∧ Below w.heap.size w w' :=
  (eq_same va vb ba bb n xs w hx hn ha hb).mono fun e w' ⟨he, d, hw⟩ => ⟨he, by rw [hw]; exact ⟨rfl, rfl, rfl, Nat.le_refl _, fun _ _ => rfl⟩⟩
end Go.Proofs.Ythakbjdkcdppjaa.intK

/- The laws' own small functions: whether a code is long, and a byte of it. -/
namespace Go.Proofs.Ythakbjdkcdppjaa.bigK
open Go.ChangeShapes Go.WideShapes Go.ChangeAt Go.RowKit
open draw
set_option linter.unusedVariables false

theorem ret_bool {a b : Bool} (h : a = b) : Ending.returned (.bool a) = .returned (.bool b) := by rw [h]

theorem big_yes (A : Option Addr) (n c : Nat) (w : World) (hn : n ≤ maxLen) (h : 1048576 < n) :
    Calls Try.prog 7 #[.slice A n c] w fun e w' => e = .returned (.bool true) ∧ w = w' := by
  unfold maxLen at hn
  go_enter Try.func7, Try.ntmps7
  go_wp2
  go_ret
  exact ⟨ret_bool (by simp; omega), rfl⟩
theorem big_no (A : Option Addr) (n c : Nat) (w : World) (hn : n ≤ maxLen) (h : n ≤ 1048576) :
    Calls Try.prog 7 #[.slice A n c] w fun e w' => e = .returned (.bool false) ∧ w = w' := by
  unfold maxLen at hn
  go_enter Try.func7, Try.ntmps7
  go_wp2
  go_ret
  exact ⟨ret_bool (by simp; omega), rfl⟩


/-- A byte of the code, 0 where it has none. -/
def AtByte (w : World) (e : Ending) (w' : World) : Prop := ∃ a : Nat, a < 256 ∧ e = .returned (.int .i64 a) ∧ w = w'
theorem atByte_mk {w : World} {a : Nat} (h : a < 256) : AtByte w (.returned (.int .i64 a)) w := ⟨a, h, rfl, rfl⟩

end Go.Proofs.Ythakbjdkcdppjaa.bigK
