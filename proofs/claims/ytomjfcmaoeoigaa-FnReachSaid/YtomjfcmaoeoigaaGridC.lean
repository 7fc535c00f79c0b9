/- The contracts of the program's functions on grids: each answers the plain number or truth value, and leaves all that was there as it was. -/
import Derived.Test.YtomjfcmaoeoigaaDrawA
import Derived.Test.YtomjfcmaoeoigaaGridP
import Derived.WalkLawsBesides
import Derived.Deep.RegionHeld3
import Derived.Deep.DrawnRows
import Derived.IntWalk
import Derived.Lib.Hide
namespace Go.Proofs.Ytomjfcmaoeoigaa.gridC
open Go.ChangeShapes Go.WideShapes Go.ChangeAt Go.RowKit
open draw gridP
set_option linter.unusedVariables false

/-- A call answers a truth value and leaves all that was there. -/
def Bl (b : Bool) (w : World) (e : Ending) (w' : World) : Prop := e = .returned (.bool b) ∧ Below w.heap.size w w'
/-- A call answers a number and leaves all that was there. -/
def Nm (v : Int) (w : World) (e : Ending) (w' : World) : Prop := e = .returned (.int .i64 v) ∧ Below w.heap.size w w'
theorem bl_mk {a b : Bool} {w w' : World} (h : a = b) (hb : Below w.heap.size w w') : Bl b w (.returned (.bool a)) w' := ⟨by rw [h], hb⟩
theorem nm_mk {a b : Int} {w w' : World} (h : a = b) (hb : Below w.heap.size w w') : Nm b w (.returned (.int .i64 a)) w' := ⟨by rw [h], hb⟩

theorem bcell {W w1 : World} (hb : Below W.heap.size W w1) : (∀ b o, b < W.heap.size → w1.cell? ⟨b, o, none⟩ = W.cell? ⟨b, o, none⟩) ∧ (∀ b o, b < W.heap.size → w1.frozen? ⟨b, o, none⟩ = W.frozen? ⟨b, o, none⟩) :=
  ⟨fun b o h => hb.cell (p := ⟨b, o, none⟩) h, fun b o h => hb.frozen (p := ⟨b, o, none⟩) h⟩

theorem ok_yes (w h : Int) (W : World) (h1 : 1 ≤ w) (h2 : w ≤ 4) (h3 : 1 ≤ h) (h4 : h ≤ 4) :
    Calls Try.prog 46 #[.agg #[.int .i64 w, .int .i64 h]] W (Bl true W) := by
  have HK := @Lib.hid _ (fun w' b => @bl_mk true true W w' rfl b)
  go_enter Try.func46, Try.ntmps46
  go_wp2
  go_ret
  exact HK.out _ ((Below.refl _ _).alloc (Nat.le_refl _) _)

theorem ok_no (w h : Int) (W : World) (hn : ¬ (1 ≤ w ∧ w ≤ 4 ∧ 1 ≤ h ∧ h ≤ 4)) :
    Calls Try.prog 46 #[.agg #[.int .i64 w, .int .i64 h]] W (Bl false W) := by
  have HK := @Lib.hid _ (fun w' b => @bl_mk false false W w' rfl b)
  by_cases h1 : 1 ≤ w
  · by_cases h2 : w ≤ 4
    · by_cases h3 : 1 ≤ h
      · have h4 : ¬ h ≤ 4 := by omega
        clear hn
        go_enter Try.func46, Try.ntmps46
        go_wp2
        go_ret
        exact HK.out _ ((Below.refl _ _).alloc (Nat.le_refl _) _)
      · clear hn
        go_enter Try.func46, Try.ntmps46
        go_wp2
        go_ret
        exact HK.out _ ((Below.refl _ _).alloc (Nat.le_refl _) _)
    · clear hn
      go_enter Try.func46, Try.ntmps46
      go_wp2
      go_ret
      exact HK.out _ ((Below.refl _ _).alloc (Nat.le_refl _) _)
  · clear hn
    go_enter Try.func46, Try.ntmps46
    go_wp2
    go_ret
    exact HK.out _ ((Below.refl _ _).alloc (Nat.le_refl _) _)

theorem below_call {W w1 w2 : World} (h : Below W.heap.size W w1) (hb : Below w1.heap.size w1 w2) : Below W.heap.size W w2 := h.trans (hb.mono h.size)
theorem below_draws {B : Nat} {a w : World} (h : Below B a w) (n : Nat) : Below B a (w.drewN n) := h.trans ⟨rfl, rfl, rfl, Nat.le_refl _, fun _ _ => rfl⟩
theorem below_box (W : World) (o : Obj) : Below W.heap.size W (W.alloc o) := (Below.refl _ _).alloc (Nat.le_refl _) _

/-- Block b holds a grid's two numbers. -/
def Box (b : Nat) (w h : Int) (X : World) : Prop := (X.cell? ⟨b, 0, none⟩ = some (.int .i64 w) ∧ X.cell? ⟨b, 1, none⟩ = some (.int .i64 h)) ∧ b < X.heap.size
theorem box_new (w h : Int) (W : World) (T : TypeId) : Box W.heap.size w h (W.alloc (.cells #[.int .i64 w, .int .i64 h] T)) :=
  ⟨⟨by rw [World.cell?_alloc_new]; rfl, by rw [World.cell?_alloc_new]; rfl⟩, by simp⟩
theorem Box.draws {b : Nat} {w h : Int} {X : World} (hx : Box b w h X) (n : Nat) : Box b w h (X.drewN n) := hx
theorem Box.call {b : Nat} {w h : Int} {X X' : World} (hx : Box b w h X) (hb : Below X.heap.size X X') : Box b w h X' :=
  ⟨⟨(hb.cell (p := ⟨b, 0, none⟩) hx.2).trans hx.1.1, (hb.cell (p := ⟨b, 1, none⟩) hx.2).trans hx.1.2⟩, Nat.lt_of_lt_of_le hx.2 hb.size⟩

theorem cells_any (w h : Int) (W : World) (h1 : 1 ≤ w) (h2 : w ≤ 4) (h3 : 1 ≤ h) (h4 : h ≤ 4) :
    Calls Try.prog 32 #[.agg #[.int .i64 w, .int .i64 h]] W (Nm (w * h) W) := by
  have HK := @Lib.hid _ (fun w' a (e : a = w * h) b => @nm_mk a (w * h) W w' e b)
  obtain rfl | rfl | rfl | rfl : w = 1 ∨ w = 2 ∨ w = 3 ∨ w = 4 := by omega
  all_goals
    go_enter Try.func32, Try.ntmps32
    go_wp2
    go_ret
    exact HK.out _ _ (by omega) (below_box _ _)

theorem eastGaps_any (w h : Int) (W : World) (h1 : 1 ≤ w) (h2 : w ≤ 4) (h3 : 1 ≤ h) (h4 : h ≤ 4) :
    Calls Try.prog 65 #[.agg #[.int .i64 w, .int .i64 h]] W (Nm ((w - 1) * h) W) := by
  have HK := @Lib.hid _ (fun w' a (e : a = (w - 1) * h) b => @nm_mk a ((w - 1) * h) W w' e b)
  obtain rfl | rfl | rfl | rfl : w = 1 ∨ w = 2 ∨ w = 3 ∨ w = 4 := by omega
  all_goals
    go_enter Try.func65, Try.ntmps65
    go_wp2
    go_ret
    exact HK.out _ _ (by omega) (below_box _ _)

theorem gaps_any (w h : Int) (W : World) (h1 : 1 ≤ w) (h2 : w ≤ 4) (h3 : 1 ≤ h) (h4 : h ≤ 4) :
    Calls Try.prog 57 #[.agg #[.int .i64 w, .int .i64 h]] W (Nm ((w - 1) * h + w * (h - 1)) W) := by
  have HK := @Lib.hid _ (fun w' a (e : a = (w - 1) * h + w * (h - 1)) b => @nm_mk a ((w - 1) * h + w * (h - 1)) W w' e b)
  have HB := Lib.hid below_box
  obtain ⟨-, ⟨p1, p2⟩, ⟨p3, p4⟩⟩ := mul_bd w h h1 h2 h3 h4
  go_enter Try.func57, Try.ntmps57
  go_wp2_with fail
  go_region_held3 (fun w' => w'.cell? ⟨W.heap.size, 0, none⟩ = some (.int .i64 w) ∧ w'.cell? ⟨W.heap.size, 1, none⟩ = some (.int .i64 h)) (go_keep)
    ((go_at_call 65; refine (eastGaps_any w h _ h1 h2 h3 h4).mono ?_; rintro e w1 ⟨rfl, hb⟩; obtain ⟨hc, hf⟩ := bcell hb))
  go_wp2_with fail
  go_ret
  exact HK.out _ _ (by rw [IntWalk.i64_in (h - 1) (by omega), IntWalk.i64_in (w * (h - 1)) (by omega), IntWalk.i64_in _ (by omega)]) (by refine below_call ?_ hb; repeat (first | exact Below.refl _ _ | refine Below.drew ?_ | refine Below.alloc ?_ (by simp) _))

theorem hasCell_yes (w h k : Int) (W : World) (h1 : 1 ≤ w) (h2 : w ≤ 4) (h3 : 1 ≤ h) (h4 : h ≤ 4) (k0 : 0 ≤ k) (k1 : k < w * h) :
    Calls Try.prog 43 #[.agg #[.int .i64 w, .int .i64 h], .int .i64 k] W (Bl true W) := by
  have HK := @Lib.hid _ (fun w' b => @bl_mk true true W w' rfl b)
  have HB := Lib.hid below_box
  go_enter Try.func43, Try.ntmps43
  go_wp2_with fail
  refine (cells_any w h _ (by omega) (by omega) h3 h4).mono ?_
  rintro e w1 ⟨rfl, hb⟩
  have hb1 := below_call (HB.out _ _) hb
  go_wp2_with fail
  go_ret
  exact HK.out _ hb1

theorem hasCell_no (w h k : Int) (W : World) (h1 : 1 ≤ w) (h2 : w ≤ 4) (h3 : 1 ≤ h) (h4 : h ≤ 4) (hn : ¬ (0 ≤ k ∧ k < w * h)) :
    Calls Try.prog 43 #[.agg #[.int .i64 w, .int .i64 h], .int .i64 k] W (Bl false W) := by
  have HK := @Lib.hid _ (fun w' b => @bl_mk false false W w' rfl b)
  have HB := Lib.hid below_box
  by_cases k0 : 0 ≤ k
  · have k1 : w * h ≤ k := Int.not_lt.1 fun hk => hn ⟨k0, hk⟩
    have k2 : decide (k < w * h) = false := by simpa using k1
    clear hn
    go_enter Try.func43, Try.ntmps43
    go_wp2_with fail
    refine (cells_any w h _ (by omega) (by omega) h3 h4).mono ?_
    rintro e w1 ⟨rfl, hb⟩
    have hb1 := below_call (HB.out _ _) hb
    go_wp2_with fail
    go_ret
    exact HK.out _ hb1
  · clear hn
    go_enter Try.func43, Try.ntmps43
    go_wp2_with fail
    go_ret
    exact HK.out _ (HB.out _ _)

theorem hasPlace_yes (w h c r : Int) (W : World) (c0 : 0 ≤ c) (c1 : c < w) (r0 : 0 ≤ r) (r1 : r < h) :
    Calls Try.prog 64 #[.agg #[.int .i64 w, .int .i64 h], .int .i64 c, .int .i64 r] W (Bl true W) := by
  have HK := @Lib.hid _ (fun w' b => @bl_mk true true W w' rfl b)
  have HB := Lib.hid below_box
  go_enter Try.func64, Try.ntmps64
  go_wp2_with fail
  go_ret
  exact HK.out _ (HB.out _ _)

theorem hasPlace_no (w h c r : Int) (W : World) (hn : ¬ (0 ≤ c ∧ c < w ∧ 0 ≤ r ∧ r < h)) :
    Calls Try.prog 64 #[.agg #[.int .i64 w, .int .i64 h], .int .i64 c, .int .i64 r] W (Bl false W) := by
  have HK := @Lib.hid _ (fun w' b => @bl_mk false false W w' rfl b)
  have HB := Lib.hid below_box
  by_cases h1 : 0 ≤ c
  · by_cases h2 : c < w
    · by_cases h3 : 0 ≤ r
      · have h4 : ¬ r < h := by omega
        clear hn
        go_enter Try.func64, Try.ntmps64
        go_wp2
        go_ret
        exact HK.out _ (HB.out _ _)
      · clear hn
        go_enter Try.func64, Try.ntmps64
        go_wp2
        go_ret
        exact HK.out _ (HB.out _ _)
    · clear hn
      go_enter Try.func64, Try.ntmps64
      go_wp2
      go_ret
      exact HK.out _ (HB.out _ _)
  · clear hn
    go_enter Try.func64, Try.ntmps64
    go_wp2
    go_ret
    exact HK.out _ (HB.out _ _)

/-- Whether there is such a place, both ways. -/
def Placed (w h c r : Int) (W : World) (e : Ending) (w' : World) : Prop := (Hid (0 ≤ c ∧ c < w ∧ 0 ≤ r ∧ r < h) ∧ e = .returned (.bool true) ∧ Below W.heap.size W w') ∨ (Hid (¬ (0 ≤ c ∧ c < w ∧ 0 ≤ r ∧ r < h)) ∧ e = .returned (.bool false) ∧ Below W.heap.size W w')
theorem hasPlace_any (w h c r : Int) (W : World) :
    Calls Try.prog 64 #[.agg #[.int .i64 w, .int .i64 h], .int .i64 c, .int .i64 r] W (Placed w h c r W) := by
  by_cases hp : 0 ≤ c ∧ c < w ∧ 0 ≤ r ∧ r < h
  · exact (hasPlace_yes w h c r W hp.1 hp.2.1 hp.2.2.1 hp.2.2.2).mono fun _ _ ⟨he, hw⟩ => .inl ⟨hp, he, hw⟩
  · exact (hasPlace_no w h c r W hp).mono fun _ _ ⟨he, hw⟩ => .inr ⟨hp, he, hw⟩

theorem eastGap_any (w h k : Int) (W : World) (h1 : 1 ≤ w) (h2 : w ≤ 4) (k0 : 0 ≤ k) (k1 : k < 16) :
    Calls Try.prog 62 #[.agg #[.int .i64 w, .int .i64 h], .int .i64 k] W (Nm (k - k / w) W) := by
  have HK := @Lib.hid _ (fun w' a (e : a = k - k / w) b => @nm_mk a (k - k / w) W w' e b)
  have HB := Lib.hid below_box
  obtain rfl | rfl | rfl | rfl : w = 1 ∨ w = 2 ∨ w = 3 ∨ w = 4 := by omega
  all_goals
    go_enter Try.func62, Try.ntmps62
    go_wp2
    go_ret
    exact HK.out _ _ (by omega) (HB.out _ _)

theorem southGap_any (w h k : Int) (W : World) (h1 : 1 ≤ w) (h2 : w ≤ 4) (h3 : 1 ≤ h) (h4 : h ≤ 4) (k0 : 0 ≤ k) (k1 : k < 16) :
    Calls Try.prog 63 #[.agg #[.int .i64 w, .int .i64 h], .int .i64 k] W (Nm ((w - 1) * h + k) W) := by
  have HK := @Lib.hid _ (fun w' a (e : a = (w - 1) * h + k) b => @nm_mk a ((w - 1) * h + k) W w' e b)
  have HB := Lib.hid below_box
  obtain rfl | rfl | rfl | rfl : w = 1 ∨ w = 2 ∨ w = 3 ∨ w = 4 := by omega
  all_goals
    go_enter Try.func63, Try.ntmps63
    go_wp2_with fail
    refine (eastGaps_any _ h _ (by omega) (by omega) h3 h4).mono ?_
    rintro e w1 ⟨rfl, hb⟩
    have hb1 := below_call (HB.out _ _) hb
    go_wp2_with fail
    go_ret
    exact HK.out _ _ (by omega) hb1
end Go.Proofs.Ytomjfcmaoeoigaa.gridC
