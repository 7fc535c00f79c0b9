/- The contracts of the model's functions on mazes that answer a number or a truth value. -/
import Derived.Test.YtmmdngfhfceefaaDoorMzB
import Derived.Test.YtmmdngfhfceefaaDoorModG

namespace Go.Proofs.YtmmdngfhfceefaaDoor.mazeS
open Go.ChangeShapes Go.WideShapes Go.ChangeAt Go.RowKit
open draw gridP gridC bitP mazeP mazeC
set_option linter.unusedVariables false

/-- Whether a number is in a range. -/
def inB (x a b : Int) : Bool := decide (a ≤ x ∧ x ≤ b)
theorem in_b (x a b : Int) (W : World) :
    Calls Tryd.prog 53 #[.int .i64 x, .int .i64 a, .int .i64 b] W fun e w' => e = .returned (.bool (inB x a b)) ∧ W = w' := by
  by_cases h : a ≤ x ∧ x ≤ b
  · rw [show inB x a b = true from decide_eq_true h]; exact gridS.in_yes x a b W h.1 h.2
  · rw [show inB x a b = false from decide_eq_false h]; exact gridS.in_no x a b W h

/-- Whether a place is 1. -/
def btB (o g : Int) : Bool := decide (bitZ o g = 1)

set_option maxHeartbeats 1000000 in
theorem ok_bad (w h o : Int) (W : World) (hn : ¬ (1 ≤ w ∧ w ≤ 4 ∧ 1 ≤ h ∧ h ≤ 4)) :
    Calls Tryd.prog 33 #[.agg #[.int .i64 w, .int .i64 h, .int .i64 o]] W (Bl false W) := by
  have HK := @Lib.hid _ (fun w' b => @bl_mk false false W w' rfl b)
  have HO := Lib.hid (fun X => gridS.gridOk_no w h X hn)
  have hx := Lib.hid (mbox_new w h o W 27)
  clear hn
  go_enter Tryd.func33, Tryd.ntmps33
  go_wp2_with fail
  first
    | go_region_with ((go_at_call 31; refine (HO.out _).mono ?_; rintro e w1 ⟨rfl, hb⟩; obtain ⟨c0, c1, c2⟩ := (mbox_after hb hx.out).1))
    | fail
  all_goals
    go_wp2_with fail
    go_ret
    exact HK.out _ (by refine below_call ?_ hb; repeat (first | exact Below.refl _ _ | refine Below.drew ?_ | refine Below.alloc ?_ (by simp) _))

theorem ok_good (w h o : Int) (W : World) (h1 : 1 ≤ w) (h2 : w ≤ 4) (h3 : 1 ≤ h) (h4 : h ≤ 4) :
    Calls Tryd.prog 33 #[.agg #[.int .i64 w, .int .i64 h, .int .i64 o]] W (Bl (okB w h o) W) := by
  have HK := @Lib.hid _ (fun w' a (e : a = okB w h o) b => @bl_mk a _ W w' e b)
  have HO := Lib.hid (fun X => gridS.gridOk_yes w h X h1 h2 h3 h4)
  have HG : Hid (∀ X, Calls Tryd.prog 41 #[.agg #[.int .i64 w, .int .i64 h]] X (Nm (gpsZ w h) X)) := fun X => gridS.countGaps_yes w h X h1 h2 h3 h4
  have hx := Lib.hid (mbox_new w h o W 27)
  obtain ⟨g0, g1⟩ := gps_bd h1 h2 h3 h4
  have HT : Hid (∀ z, z = 2 ^ (gpsZ w h).toNat - 1 → inB o 0 z = okB w h o) := fun z hz => by
    subst hz; unfold inB okB OkM topZ; simp [h1, h2, h3, h4]
  have HP := Lib.hid (pow_bd _ g1)
  generalize gpsZ w h = G at *
  generalize okB w h o = v at *
  go_enter Tryd.func33, Tryd.ntmps33
  go_wp2_with fail
  go_region_held3 (fun w' => w'.cell? ⟨W.heap.size, 0, none⟩ = some (.int .i64 w) ∧ w'.cell? ⟨W.heap.size, 1, none⟩ = some (.int .i64 h) ∧ w'.cell? ⟨W.heap.size, 2, none⟩ = some (.int .i64 o)) (go_keep)
    (first | (go_at_call 31; refine (HO.out _).mono ?_; rintro e w1 ⟨rfl, hb⟩; have hx1 := Lib.hid (mbox_after hb hx.out); obtain ⟨c0, c1, c2⟩ := hx1.out.1) | (go_at_call 41; refine (HG.out _).mono ?_; rintro e w2 ⟨rfl, hb2⟩; obtain ⟨c0', c1', c2'⟩ := (mbox_after hb2 hx1.out).1) | (go_at_call 53; refine (in_b _ _ _ _).mono ?_; rintro e w3 ⟨rfl, rfl⟩))
  all_goals
    go_wp2_with fail
    go_ret
    exact HK.out _ _ (HT.out _ (by have := HP.out; rw [IntWalk.i64_in (2 ^ G.toNat) (by omega), IntWalk.i64_in _ (by omega)])) (by repeat (first | exact Below.refl _ _ | refine below_call ?_ hb2 | refine below_call ?_ hb | refine Below.drew ?_ | refine Below.alloc ?_ (by simp) _))

theorem ok_any (w h o : Int) (W : World) :
    Calls Tryd.prog 33 #[.agg #[.int .i64 w, .int .i64 h, .int .i64 o]] W (Bl (okB w h o) W) := by
  by_cases hn : 1 ≤ w ∧ w ≤ 4 ∧ 1 ≤ h ∧ h ≤ 4
  · obtain ⟨h1, h2, h3, h4⟩ := hn
    exact ok_good w h o W h1 h2 h3 h4
  · have : okB w h o = false := by unfold okB OkM; simp only [hn, false_and, decide_false]
    rw [this]; exact ok_bad w h o W hn

end Go.Proofs.YtmmdngfhfceefaaDoor.mazeS

/- The contracts of the model's step and count of passages. -/
namespace Go.Proofs.YtmmdngfhfceefaaDoor.mazeS
open Go.ChangeShapes Go.WideShapes Go.ChangeAt Go.RowKit
open draw gridP gridC bitP mazeP mazeC
set_option linter.unusedVariables false

/-- At the head of a round: k gaps are counted. -/
def CpRel (W : World) (b : Nat) (w h o : Int) (u3 u4 : Value) (wr : World) : Prop :=
  ∃ k : Nat, (k : Int) ≤ gpsZ w h ∧ u4 = .int .i64 k ∧ u3 = .int .i64 ((pcN o.toNat k : Nat) : Int) ∧ Below W.heap.size W wr ∧ MBox b w h o wr
theorem cp_next {W wr : World} {b : Nat} {w h o : Int} {k : Nat} {c : Int} (hk : (k : Int) < gpsZ w h) (hc : c = ((pcN o.toNat (k + 1) : Nat) : Int)) (hb : Below W.heap.size W wr) (hx : MBox b w h o wr) : CpRel W b w h o (.int .i64 c) (.int .i64 ((k : Int) + 1)) wr :=
  ⟨k + 1, by omega, by go_num, by rw [hc], hb, hx⟩
theorem bt_pc {o : Int} (o0 : 0 ≤ o) (k : Nat) : (btB o k = true → ((pcN o.toNat k : Nat) : Int) + 1 = ((pcN o.toNat (k + 1) : Nat) : Int)) ∧ (btB o k = false → ((pcN o.toNat k : Nat) : Int) = ((pcN o.toNat (k + 1) : Nat) : Int)) := by
  obtain ⟨n, rfl⟩ := Int.eq_ofNat_of_zero_le o0
  have hz : bitZ (n : Int) (k : Int) = ((n / 2 ^ k % 2 : Nat) : Int) := by unfold bitZ; simp
  have hm : n / 2 ^ k % 2 < 2 := Nat.mod_lt _ (by decide)
  have hs : pcN n (k + 1) = pcN n k + n / 2 ^ k % 2 := rfl
  simp only [Int.toNat_natCast]
  unfold btB
  rw [hz, hs]
  refine ⟨fun h => ?_, fun h => ?_⟩
  · have := of_decide_eq_true h; omega
  · have := of_decide_eq_false h; omega

end Go.Proofs.YtmmdngfhfceefaaDoor.mazeS

/- The contract of the model's directions in which a passage leads on. -/
namespace Go.Proofs.YtmmdngfhfceefaaDoor.mazeS
open Go.ChangeShapes Go.WideShapes Go.ChangeAt Go.RowKit
open draw gridP gridC bitP mazeP mazeC mazeM intsP mazeV
set_option linter.unusedVariables false

theorem own_zero (W : World) (o : Obj) : ((W.alloc o).alloc (.cells #[] 3)).ownsRow (W.heap.size + 1) 3 1 (.slice (some ⟨W.heap.size + 1, 0, none⟩) 0 0) 0 [] := by
  have := World.ownsRow_lit (base := W.heap.size + 1) (e := 3) (size := 1) (W.alloc o) #[] 0 (by simp) (by decide) rfl
  simpa using this

end Go.Proofs.YtmmdngfhfceefaaDoor.mazeS

/- The contracts of the model's functions that answer a maze. -/
namespace Go.Proofs.YtmmdngfhfceefaaDoor.mazeS
open Go.ChangeShapes Go.WideShapes Go.ChangeAt Go.RowKit
open draw gridP gridC bitP mazeP mazeC mazeM
set_option linter.unusedVariables false

end Go.Proofs.YtmmdngfhfceefaaDoor.mazeS
