/- The contracts of the program's methods on mazes. -/
import Derived.Test.YtomjfcmaoeoigaaGridC
import Derived.Test.YtomjfcmaoeoigaaMazeP
import Derived.Outline
namespace Go.Proofs.Ytomjfcmaoeoigaa.mazeC
open Go.ChangeShapes Go.WideShapes Go.ChangeAt Go.RowKit
open draw gridP gridC bitP mazeP
set_option linter.unusedVariables false

/-- Block b holds a maze's three numbers. -/
def MBox (b : Nat) (w h o : Int) (X : World) : Prop := (X.cell? ⟨b, 0, none⟩ = some (.int .i64 w) ∧ X.cell? ⟨b, 1, none⟩ = some (.int .i64 h) ∧ X.cell? ⟨b, 2, none⟩ = some (.int .i64 o)) ∧ b < X.heap.size
theorem mbox_new (w h o : Int) (W : World) (T : TypeId) : MBox W.heap.size w h o (W.alloc (.cells #[.int .i64 w, .int .i64 h, .int .i64 o] T)) :=
  ⟨⟨by rw [World.cell?_alloc_new]; rfl, by rw [World.cell?_alloc_new]; rfl, by rw [World.cell?_alloc_new]; rfl⟩, by simp⟩
theorem MBox.draws {b : Nat} {w h o : Int} {X : World} (hx : MBox b w h o X) (n : Nat) : MBox b w h o (X.drewN n) := hx
theorem MBox.call {b : Nat} {w h o : Int} {X X' : World} (hx : MBox b w h o X) (hb : Below X.heap.size X X') : MBox b w h o X' :=
  ⟨⟨(hb.cell (p := ⟨b, 0, none⟩) hx.2).trans hx.1.1, (hb.cell (p := ⟨b, 1, none⟩) hx.2).trans hx.1.2.1, (hb.cell (p := ⟨b, 2, none⟩) hx.2).trans hx.1.2.2⟩, Nat.lt_of_lt_of_le hx.2 hb.size⟩
theorem mbox_after {b : Nat} {w h o : Int} {X X' : World} (hb : Below X.heap.size X X') (hx : MBox b w h o X) : MBox b w h o X' := hx.call hb

theorem allOpen_any (w h : Int) (W : World) (h1 : 1 ≤ w) (h2 : w ≤ 4) (h3 : 1 ≤ h) (h4 : h ≤ 4) :
    Calls Try.prog 47 #[.agg #[.int .i64 w, .int .i64 h]] W (Nm (topZ w h) W) := by
  have HK := @Lib.hid _ (fun w' a (e : a = topZ w h) b => @nm_mk a (topZ w h) W w' e b)
  have HB := Lib.hid below_box
  have HG : Hid (∀ X, Calls Try.prog 57 #[.agg #[.int .i64 w, .int .i64 h]] X (Nm (gpsZ w h) X)) := fun X => gaps_any w h X h1 h2 h3 h4
  obtain ⟨g0, g1⟩ := gps_bd h1 h2 h3 h4
  have HP := Lib.hid (pow_bd _ g1)
  have HT := Lib.hid (show topZ w h = 2 ^ (gpsZ w h).toNat - 1 from rfl)
  generalize gpsZ w h = G at *
  generalize topZ w h = T at *
  go_enter Try.func47, Try.ntmps47
  go_wp2_with fail
  refine (HG.out _).mono ?_
  rintro e w1 ⟨rfl, hb⟩
  have hbl1 := Lib.hid (below_call (HB.out _ _) hb)
  clear hb
  go_wp2_with fail
  go_ret
  exact HK.out _ _ (by have := HP.out; have := HT.out; rw [IntWalk.wrap64_in (2 ^ G.toNat) (by omega), IntWalk.wrap64_in _ (by omega)]; omega) hbl1.out

theorem hasGap_yes (w h g : Int) (W : World) (h1 : 1 ≤ w) (h2 : w ≤ 4) (h3 : 1 ≤ h) (h4 : h ≤ 4) (g0 : 0 ≤ g) (g1 : g < gpsZ w h) :
    Calls Try.prog 61 #[.agg #[.int .i64 w, .int .i64 h], .int .i64 g] W (Bl true W) := by
  have HK := @Lib.hid _ (fun w' b => @bl_mk true true W w' rfl b)
  have HB := Lib.hid below_box
  have HG : Hid (∀ X, Calls Try.prog 57 #[.agg #[.int .i64 w, .int .i64 h]] X (Nm (gpsZ w h) X)) := fun X => gaps_any w h X h1 h2 h3 h4
  go_enter Try.func61, Try.ntmps61
  go_wp2_with fail
  refine (HG.out _).mono ?_
  rintro e w1 ⟨rfl, hb⟩
  have hbl1 := Lib.hid (below_call (HB.out _ _) hb)
  clear hb
  go_wp2_with fail
  go_ret
  exact HK.out _ hbl1.out

theorem hasGap_no (w h g : Int) (W : World) (h1 : 1 ≤ w) (h2 : w ≤ 4) (h3 : 1 ≤ h) (h4 : h ≤ 4) (hn : ¬ (0 ≤ g ∧ g < gpsZ w h)) :
    Calls Try.prog 61 #[.agg #[.int .i64 w, .int .i64 h], .int .i64 g] W (Bl false W) := by
  have HK := @Lib.hid _ (fun w' b => @bl_mk false false W w' rfl b)
  have HB := Lib.hid below_box
  have HG : Hid (∀ X, Calls Try.prog 57 #[.agg #[.int .i64 w, .int .i64 h]] X (Nm (gpsZ w h) X)) := fun X => gaps_any w h X h1 h2 h3 h4
  by_cases k0 : 0 ≤ g
  · have k1 : decide (g < gpsZ w h) = false := by simp; omega
    clear hn
    go_enter Try.func61, Try.ntmps61
    go_wp2_with fail
    refine (HG.out _).mono ?_
    rintro e w1 ⟨rfl, hb⟩
    have hbl1 := Lib.hid (below_call (HB.out _ _) hb)
    clear hb
    go_wp2_with fail
    go_ret
    exact HK.out _ hbl1.out
  · clear hn
    go_enter Try.func61, Try.ntmps61
    go_wp2_with fail
    go_ret
    exact HK.out _ (HB.out _ _)

theorem mok_bad (w h o : Int) (W : World) (hn : ¬ (1 ≤ w ∧ w ≤ 4 ∧ 1 ≤ h ∧ h ≤ 4)) :
    Calls Try.prog 31 #[.agg #[.int .i64 w, .int .i64 h, .int .i64 o]] W (Bl false W) := by
  have HK := @Lib.hid _ (fun w' b => @bl_mk false false W w' rfl b)
  have HO : Hid (∀ X, Calls Try.prog 46 #[.agg #[.int .i64 w, .int .i64 h]] X (Bl false X)) := fun X => ok_no w h X hn
  have hx := Lib.hid (mbox_new w h o W 27)
  clear hn
  go_enter Try.func31, Try.ntmps31
  go_wp2_with fail
  first | go_region_with
    ((go_at_call 46; refine (HO.out _).mono ?_; rintro e w1 ⟨rfl, hb⟩; obtain ⟨c0, c1, c2⟩ := (mbox_after hb hx.out).1)) | fail
  all_goals
    go_wp2_with fail
    go_ret
    exact HK.out _ (by refine below_call ?_ hb; repeat (first | exact Below.refl _ _ | refine Below.drew ?_ | refine Below.alloc ?_ (by simp) _))

set_option maxHeartbeats 1000000 in
theorem mok_any (w h o : Int) (W : World) (h1 : 1 ≤ w) (h2 : w ≤ 4) (h3 : 1 ≤ h) (h4 : h ≤ 4) (v : Bool) (hv : decide (0 ≤ o ∧ o ≤ topZ w h) = v) :
    Calls Try.prog 31 #[.agg #[.int .i64 w, .int .i64 h, .int .i64 o]] W (Bl v W) := by
  have HK := @Lib.hid _ (fun w' a (e : a = v) b => @bl_mk a v W w' e b)
  have HO : Hid (∀ X, Calls Try.prog 46 #[.agg #[.int .i64 w, .int .i64 h]] X (Bl true X)) := fun X => ok_yes w h X h1 h2 h3 h4
  have HA : Hid (∀ X, Calls Try.prog 47 #[.agg #[.int .i64 w, .int .i64 h]] X (Nm (topZ w h) X)) := fun X => allOpen_any w h X h1 h2 h3 h4
  have hx := Lib.hid (mbox_new w h o W 27)
  generalize topZ w h = T at *
  by_cases o0 : 0 ≤ o
  · have HV : Hid (decide (o ≤ T) = v) := by rw [← hv]; simp only [o0, true_and]; trivial
    clear hv
    go_enter Try.func31, Try.ntmps31
    go_wp2_with fail
    go_region_held3 (fun w' => w'.cell? ⟨W.heap.size, 0, none⟩ = some (.int .i64 w) ∧ w'.cell? ⟨W.heap.size, 1, none⟩ = some (.int .i64 h) ∧ w'.cell? ⟨W.heap.size, 2, none⟩ = some (.int .i64 o)) (go_keep)
      (first | (go_at_call 46; refine (HO.out _).mono ?_; rintro e w1 ⟨rfl, hb⟩; have hx1 := Lib.hid (mbox_after hb hx.out); obtain ⟨c0, c1, c2⟩ := hx1.out.1) | (go_at_call 47; refine (HA.out _).mono ?_; rintro e w2 ⟨rfl, hb2⟩; obtain ⟨c0', c1', c2'⟩ := (mbox_after hb2 hx1.out).1))
    go_wp2_with fail
    go_ret
    exact HK.out _ _ HV.out (by refine below_call ?_ hb2; repeat (first | exact Below.refl _ _ | refine below_call ?_ hb | refine Below.drew ?_ | refine Below.alloc ?_ (by simp) _))
  · have hv' : v = false := by rw [← hv]; simp [o0]
    have HV : Hid (false = v) := hv'.symm
    clear hv hv'
    go_enter Try.func31, Try.ntmps31
    go_wp2_with fail
    first | go_region_with
      ((go_at_call 46; refine (HO.out _).mono ?_; rintro e w1 ⟨rfl, hb⟩; obtain ⟨c0, c1, c2⟩ := (mbox_after hb hx.out).1)) | fail
    all_goals
      go_wp2_with fail
      go_ret
      exact HK.out _ _ HV.out (by refine below_call ?_ hb; repeat (first | exact Below.refl _ _ | refine Below.drew ?_ | refine Below.alloc ?_ (by simp) _))
end Go.Proofs.Ytomjfcmaoeoigaa.mazeC
