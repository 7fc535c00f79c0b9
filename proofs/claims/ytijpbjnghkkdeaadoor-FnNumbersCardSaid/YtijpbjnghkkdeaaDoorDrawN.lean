/- The draws of the laws: a drawn number lies in the range of int; and the number that a decimal text is tried at. -/
import Derived.Test.YtijpbjnghkkdeaaDoorDrawD
namespace Go.Proofs.YtijpbjnghkkdeaaDoor.draw
open Go.ChangeShapes Go.WideShapes Go.ChangeAt Go.RowKit
set_option linter.unusedVariables false

/-- A draw answers some number in the range of int. -/
def DrawnR (g : Nat) (w : World) (e : Ending) (w' : World) : Prop := ∃ z : Int, (-9223372036854775808 ≤ z ∧ z ≤ 9223372036854775807) ∧ e = .returned (.int .i64 z) ∧ Cur w' g ∧ w.grownBy w' (some g)
theorem drawnR_mk {g : Nat} {w w' : World} (z : Int) (h : -9223372036854775808 ≤ z ∧ z ≤ 9223372036854775807) (hc : Cur w' g) (hg : w.grownBy w' (some g)) : DrawnR g w (.returned (.int .i64 z)) w' := ⟨z, h, rfl, hc, hg⟩

theorem pickInt_in (g s n : Nat) (zs : List Int) (w : World) (hc : Cur w g) (hn : 0 < n) (hn' : n ≤ 65536) (hs : s ≠ g) (hlt : s < w.heap.size) (hz : ∀ k, k < n → w.cell? ⟨s, k, none⟩ = some (.int .i64 (zs.getD k 0)))
    (hr : ∀ k, k < n → -9223372036854775808 ≤ zs.getD k 0 ∧ zs.getD k 0 ≤ 9223372036854775807) :
    Calls Tryd.prog 35 #[.pointer (some ⟨g, 0, none⟩), .slice (some ⟨s, 0, none⟩) n n] w (DrawnR g w) := by
  have HK := @Lib.hid _ (fun w' b h (h1 : Cur w' g) (h2 : w.grownBy w' (some g)) => @drawnR_mk g w w' b h h1 h2)
  have HZ := Lib.hid hz
  have HR := Lib.hid hr
  clear hz hr
  go_enter Tryd.func35, Tryd.ntmps35
  go_wp2_with fail
  refine (below_any g _ _ hc (by omega) (by omega)).mono ?_
  rintro e w1 ⟨x, hx, rfl, hc1, hg1⟩
  have hx' : x < n := by omega
  clear hx
  have hcell : w1.cell? ⟨s, x, none⟩ = some (.int .i64 (zs.getD x 0)) := hg1.cell (HZ.out x hx') (by simp; omega)
  go_wp2_with fail
  go_ret
  exact HK.out _ _ (HR.out x hx') hc1 hg1

theorem number_in (g : Nat) (w : World) (hc : Cur w g) :
    Calls Tryd.prog 28 #[.pointer (some ⟨g, 0, none⟩)] w (DrawnR g w) := by
  have HK := @Lib.hid _ (fun w' b h (h1 : Cur w' g) (h2 : w.grownBy w' (some g)) => @drawnR_mk g w w' b h h1 h2)
  go_enter Tryd.func28, Tryd.ntmps28
  go_wp2_with fail
  refine (below_any g _ _ hc (by omega) (by omega)).mono ?_
  rintro e w1 ⟨x, hx, rfl, hc1, hg1⟩
  clear hx
  have hlt := hc1.lt
  by_cases h0 : x = 0
  · subst h0
    go_wp2_with fail
    refine (pickInt_in g w1.heap.size 10 [-1, 0, 127, 128, 16383, 16384, 1000000000, 1000000001, 9223372036854775807, -9223372036854775808] _ (hc1.alloc _) (by omega) (by omega) (by omega) (by simp) ?_ ?_).mono ?_
    · intro k hk
      rw [World.cell?_alloc_new]
      match k, hk with
      | 0, _ => rfl
      | 1, _ => rfl
      | 2, _ => rfl
      | 3, _ => rfl
      | 4, _ => rfl
      | 5, _ => rfl
      | 6, _ => rfl
      | 7, _ => rfl
      | 8, _ => rfl
      | 9, _ => rfl
    · intro k hk
      match k, hk with
      | 0, _ => exact ⟨by decide, by decide⟩
      | 1, _ => exact ⟨by decide, by decide⟩
      | 2, _ => exact ⟨by decide, by decide⟩
      | 3, _ => exact ⟨by decide, by decide⟩
      | 4, _ => exact ⟨by decide, by decide⟩
      | 5, _ => exact ⟨by decide, by decide⟩
      | 6, _ => exact ⟨by decide, by decide⟩
      | 7, _ => exact ⟨by decide, by decide⟩
      | 8, _ => exact ⟨by decide, by decide⟩
      | 9, _ => exact ⟨by decide, by decide⟩
    · rintro e w2 ⟨z, hz, rfl, hc2, hg2⟩
      go_wp2_with fail
      go_ret
      exact HK.out _ _ hz hc2 (only_trans (only_alloc hg1 _) hg2)
  · by_cases h1 : x = 1
    · subst h1
      go_wp2_with fail
      refine (below_any g _ _ hc1 (by omega) (by omega)).mono ?_
      rintro e w2 ⟨x, hx, rfl, hc2, hg2⟩
      have hx2 : (x : Int) ≤ 1000000000 := by omega
      clear hx
      go_wp2_with fail
      go_ret
      exact HK.out _ _ (by omega) hc2 (only_trans hg1 hg2)
    · have h0' : ((x : Int) == 0) = false := by simp; omega
      have h1' : ((x : Int) == 1) = false := by simp; omega
      go_wp2_with fail
      refine (below_any g _ _ hc1 (by omega) (by omega)).mono ?_
      rintro e w2 ⟨x, hx, rfl, hc2, hg2⟩
      have hx2 : (x : Int) ≤ 1000000000 := by omega
      clear hx
      go_wp2_with fail
      go_ret
      exact HK.out _ _ (by omega) hc2 (only_trans hg1 hg2)

/-- A draw of one number in the range of int leaves all that was there. -/
def One (w : World) (e : Ending) (w' : World) : Prop := ∃ a : Int, (-9223372036854775808 ≤ a ∧ a ≤ 9223372036854775807) ∧ e = .returned (.int .i64 a) ∧ Below w.heap.size w w'
theorem one_mk {w w' : World} (a : Int) (hr : -9223372036854775808 ≤ a ∧ a ≤ 9223372036854775807) (h : Below w.heap.size w w') : One w (.returned (.int .i64 a)) w' := ⟨a, hr, rfl, h⟩
theorem below_cur {B g : Nat} {a w w' : World} (h : Below B a w) (hg : w.grownBy w' (some g)) (hB : B ≤ g) (hw : B ≤ w.heap.size) : Below B a w' :=
  h.grown hg hw (fun k hk => by cases hk; exact hB)

theorem drawFormatInt_any (A : Option Addr) (n c : Nat) (w : World) (hn : n ≤ maxLen) (hb : BytesIn w w.heap.size A n) :
    Calls Tryd.prog 13 #[.slice A n c] w (One w) := by
  have HK := @Lib.hid _ (fun w' a hr (h : Below w.heap.size w w') => @one_mk w w' a hr h)
  go_enter Tryd.func13, Tryd.ntmps13
  go_wp2_with fail
  refine (new_any A n c w hn hb).mono ?_
  rintro e w1 ⟨rfl, hc1, hb1, hs1⟩
  have hz1 : w.heap.size ≤ w1.heap.size := by omega
  clear hs1
  go_wp2_with fail
  refine (once_any _ _ _ hc1 (by omega) (by omega)).mono ?_
  rintro e w2 ⟨o, rfl, hc2, hg2⟩
  have hb2 := below_cur hb1 hg2 (Nat.le_refl _) hz1
  have hz2 := hb2.size
  clear hc1 hb1 hg2
  cases o
  · go_wp2_with fail
    refine (number_in _ _ hc2).mono ?_
    rintro e w3 ⟨x, hx, rfl, hc3, hg3⟩
    have hb3 := below_cur hb2 hg3 (Nat.le_refl _) hz2
    clear hc2 hb2 hg3
    go_wp2_with fail
    go_ret
    exact HK.out _ _ hx hb3
  · go_wp2_with fail
    refine (below_any _ _ _ hc2 (by omega) (by omega)).mono ?_
    rintro e w3 ⟨x, hx, rfl, hc3, hg3⟩
    have hb3 := below_cur hb2 hg3 (Nat.le_refl _) hz2
    have hz3 := hb3.size
    have hx3 : (x : Int) ≤ 999999 := by omega
    clear hc2 hb2 hg3 hx
    go_wp2_with fail
    refine (below_any _ _ _ hc3 (by omega) (by omega)).mono ?_
    rintro e w4 ⟨y, hy, rfl, hc4, hg4⟩
    have hb4 := below_cur hb3 hg4 (Nat.le_refl _) hz3
    have hy3 : (y : Int) ≤ 1999999 := by omega
    clear hc3 hb3 hg4 hy
    have hm1 : -1000000000000 ≤ (x : Int) * ((y : Int) - 1000000) := by
      have h1 := Int.mul_le_mul_of_nonneg_left (show (-1000000 : Int) ≤ (y : Int) - 1000000 by omega) (show (0 : Int) ≤ (x : Int) by omega)
      omega
    have hm2 : (x : Int) * ((y : Int) - 1000000) ≤ 1000000000000 := by
      have h1 := Int.mul_le_mul_of_nonneg_left (show (y : Int) - 1000000 ≤ 1000000 by omega) (show (0 : Int) ≤ (x : Int) by omega)
      omega
    have HM := Lib.hid (show -9223372036854775808 ≤ (x : Int) * ((y : Int) - 1000000) ∧ (x : Int) * ((y : Int) - 1000000) ≤ 9223372036854775807 from ⟨by omega, by omega⟩)
    go_wp2_with fail
    go_ret
    exact HK.out _ _ HM.out hb4
end Go.Proofs.YtijpbjnghkkdeaaDoor.draw
