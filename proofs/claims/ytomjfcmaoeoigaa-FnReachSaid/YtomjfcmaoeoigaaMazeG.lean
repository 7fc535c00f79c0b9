/- The draw of a maze: it is valid, and the draw changes the cursor alone. -/
import Derived.Test.YtomjfcmaoeoigaaMazeF
namespace Go.Proofs.Ytomjfcmaoeoigaa.mazeE
open Go.ChangeShapes Go.WideShapes Go.ChangeAt Go.RowKit
open draw gridP gridC gridE bitP mazeP mazeC mazeM mazeR intsP
set_option linter.unusedVariables false

/-- A draw answers a valid maze. -/
def DrawnMz (g : Nat) (w : World) (e : Ending) (w' : World) : Prop := ∃ x y z : Int, OkM x y z ∧ e = .returned (.agg #[.int .i64 x, .int .i64 y, .int .i64 z]) ∧ Cur w' g ∧ w.grownBy w' (some g)

/-- What stands at a step: the cursor, the answer's block, the grid's, the maze's. -/
def MS (w : World) (g b1 b2 : Nat) (x y : Int) (X : World) : Prop :=
  Cur X g ∧ w.grownBy X (some g) ∧ (Row3 w.heap.size 0 0 0 X ∧ Box b1 x y X ∧ ∃ z, (0 ≤ z ∧ z ≤ topZ x y) ∧ Row3 b2 x y z X)
theorem MS.below {w X X' : World} {g b1 b2 : Nat} {x y : Int} (h : MS w g b1 b2 x y X) (hb : Below X.heap.size X X') : MS w g b1 b2 x y X' := by
  obtain ⟨hc, hg, hr, hx, z, hz, hm⟩ := h
  exact ⟨hc.kept hb hc.lt, grown_below hg hb, hr.call hb, hx.call hb, z, hz, hm.call hb⟩
theorem MS.draw {w X X' : World} {g b1 b2 : Nat} {x y : Int} (h : MS w g b1 b2 x y X) (hlt : g < w.heap.size) (h1 : w.heap.size < b1) (h2 : w.heap.size < b2) (hc' : Cur X' g) (hg' : X.grownBy X' (some g)) : MS w g b1 b2 x y X' := by
  obtain ⟨hc, hg, hr, hx, z, hz, hm⟩ := h
  exact ⟨hc', only_trans hg hg', row3_grown hr hg' (by omega), box_grown hx hg' (by omega), z, hz, row3_grown hm hg' (by omega)⟩
theorem MS.dr {w X : World} {g b1 b2 : Nat} {x y : Int} (h : MS w g b1 b2 x y X) : MS w g b1 b2 x y X.drew := h.below ⟨rfl, rfl, rfl, Nat.le_refl _, fun _ _ => rfl⟩
theorem MS.open {w X : World} {g b1 b2 : Nat} {x y : Int} (h : MS w g b1 b2 x y X) (hlt : g < w.heap.size) (h1 : b1 < b2) (h2 : w.heap.size < b2) {z' : Int} (hz : 0 ≤ z' ∧ z' ≤ topZ x y) : MS w g b1 b2 x y (X.setCell ⟨b2, 2, none⟩ (.int .i64 z')) := by
  obtain ⟨hc, hg, hr, hx, z, _, hm⟩ := h
  exact ⟨cur_set hc (by simp; omega) _, grown_put hg (by simp; omega) _, row3_set hr (by simp; omega) _, box_set hx (by simp; omega) _, z', hz, row3_put hm⟩
theorem MS.parts {w X : World} {g b1 b2 : Nat} {x y : Int} (h : MS w g b1 b2 x y X) :
    (X.cell? ⟨b1, 0, none⟩ = some (.int .i64 x) ∧ X.cell? ⟨b1, 1, none⟩ = some (.int .i64 y)) ∧
    (X.cell? ⟨w.heap.size, 0, none⟩ = some (.int .i64 0) ∧ X.cell? ⟨w.heap.size, 1, none⟩ = some (.int .i64 0) ∧ X.cell? ⟨w.heap.size, 2, none⟩ = some (.int .i64 0)) ∧ (X.frozen? ⟨w.heap.size, 0, none⟩ = false ∧ X.frozen? ⟨w.heap.size, 1, none⟩ = false ∧ X.frozen? ⟨w.heap.size, 2, none⟩ = false) ∧
    ∃ z, (0 ≤ z ∧ z ≤ topZ x y) ∧ (X.cell? ⟨b2, 0, none⟩ = some (.int .i64 x) ∧ X.cell? ⟨b2, 1, none⟩ = some (.int .i64 y) ∧ X.cell? ⟨b2, 2, none⟩ = some (.int .i64 z)) ∧ X.frozen? ⟨b2, 0, none⟩ = false ∧ X.frozen? ⟨b2, 1, none⟩ = false ∧ X.frozen? ⟨b2, 2, none⟩ = false := by
  obtain ⟨_, _, hr, hx, z, hz, hm⟩ := h
  exact ⟨hx.1, (row3_cells hr).1, (row3_cells hr).2, z, hz, row3_cells hm⟩
theorem MS.done {w X Y : World} {g b1 b2 : Nat} {x y z : Int} (h : MS w g b1 b2 x y X) (hlt : g < w.heap.size) (hv : 1 ≤ x ∧ x ≤ 4 ∧ 1 ≤ y ∧ y ≤ 4) (hz : 0 ≤ z ∧ z ≤ topZ x y)
    (hY : Y = ((X.setCell ⟨w.heap.size, 0, none⟩ (.int .i64 x)).setCell ⟨w.heap.size, 1, none⟩ (.int .i64 y)).setCell ⟨w.heap.size, 2, none⟩ (.int .i64 z)) :
    DrawnMz g w (.returned (.agg #[.int .i64 x, .int .i64 y, .int .i64 z])) Y := by
  subst hY
  exact ⟨x, y, z, ⟨hv, hz⟩, rfl, cur_set (cur_set (cur_set h.1 hlt _) hlt _) hlt _, grown_put (grown_put (grown_put h.2.1 (Nat.le_refl _) _) (Nat.le_refl _) _) (Nat.le_refl _) _⟩
theorem xor_top {z G T : Int} (t : Nat) (hT : T = 2 ^ G.toNat - 1) (h0 : 0 ≤ z) (h1 : z ≤ T) (t1 : (t : Int) < G) (hG : G ≤ 24) : 0 ≤ bits .xor .i64 z (wrap64 (2 ^ t)) ∧ bits .xor .i64 z (wrap64 (2 ^ t)) ≤ T := by
  have hb := pow_bd t (by omega)
  have hg := pow_bd G hG
  have hp := put_bd h0 (Int.natCast_nonneg t) t1 hG (hT ▸ h1)
  have e := xor_is (o := z) (g := t) h0 (by omega) (by omega) (by omega)
  rw [Int.toNat_natCast] at hb hp e
  rw [IntWalk.wrap64_in _ (by omega), e]
  subst hT
  split
  · rename_i he
    exact ⟨hp.1 he, by omega⟩
  · rename_i hne
    exact ⟨by omega, hp.2 hne⟩
theorem zero_cells {w w' : World} {g : Nat} {T : TypeId} (hg : (w.alloc (.cells #[.int .i64 0, .int .i64 0, .int .i64 0] T)).grownBy w' (some g)) (hlt : g < w.heap.size) : Row3 w.heap.size 0 0 0 w' := row3_grown (row3_new 0 0 0 w T) hg (by omega)

set_option maxRecDepth 100000 in
set_option maxHeartbeats 2000000 in
theorem maze_any (g : Nat) (w : World) (hc : Cur w g) :
    Calls Try.prog 28 #[.pointer (some ⟨g, 0, none⟩)] w (DrawnMz g w) := by
  have hlt := hc.lt
  go_enter Try.func28, Try.ntmps28
  go_wp2_with fail
  refine (grid_any g _ (hc.alloc1 _)).mono ?_
  rintro e w1 ⟨x, y, hxy0, rfl, hc1, hg1⟩
  obtain ⟨h1, h2, h3, h4⟩ := hxy0
  have HR1 := Lib.hid (zero_cells hg1 hlt)
  have hz1 := row3_lt HR1.out
  have HG1 := Lib.hid (only_trans (only_alloc1 (World.grownBy.refl w (some g)) _) hg1)
  clear hg1
  obtain ⟨q0, q1⟩ := gps_bd h1 h2 h3 h4
  have HG : Hid (∀ X, Calls Try.prog 40 #[.agg #[.int .i64 x, .int .i64 y]] X (Nm (gpsZ x y) X)) := fun X => gridS.countGaps_yes x y X h1 h2 h3 h4
  go_wp2_with fail
  refine (tree_any g x y _ (hc1.alloc1 _) h1 h2 h3 h4).mono ?_
  rintro e w2 ⟨z, hz, rfl, hc2, hg2⟩
  have hglt : g < w1.heap.size := by omega
  have HB2 := Lib.hid (box_grown (box_new x y w1 _) hg2 (by omega))
  have hz2 := HB2.out.2
  have ms3 := @Lib.hid _ (fun T => (show MS w g w1.heap.size w2.heap.size x y (w2.alloc (.cells #[.int .i64 x, .int .i64 y, .int .i64 z] T)) from
    ⟨hc2.alloc1 _, only_alloc1 (only_trans (only_alloc1 HG1.out _) hg2) _, (row3_grown (HR1.out.call (below_box _ _)) hg2 (by omega)).call (below_box _ _), HB2.out.call (below_box _ _), z, hz, row3_new x y z w2 T⟩))
  obtain ⟨c0, c1⟩ := HB2.out.1
  clear hc2 hg2 hc1 HG1 HR1 HB2 hz
  go_wp2_with fail
  refine (HG.out _).mono ?_
  rintro e w3 ⟨rfl, hb⟩
  have ms4 := Lib.hid ((ms3.out _).below hb)
  clear hb ms3 c0 c1
  have HX := @Lib.hid _ (fun z t a b c => @xor_top z (gpsZ x y) (topZ x y) t rfl a b c q1)
  have hfin := @Lib.hid _ (fun X Y z a b c => @MS.done w X Y g w1.heap.size w2.heap.size x y z a hlt ⟨h1, h2, h3, h4⟩ b c)
  clear HG h1 h2 h3 h4
  obtain ⟨G, hG⟩ := Int.eq_ofNat_of_zero_le q0
  rw [hG] at HX q1 ⊢
  clear hG q0
  by_cases hG0 : G = 0
  · subst hG0
    obtain ⟨-, ⟨b0, b1, b2⟩, ⟨fb0, fb1, fb2⟩, z', hz', ⟨d0, d1, d2⟩, fd0, fd1, fd2⟩ := ms4.out.parts
    have HZ := Lib.hid hz'
    clear hz'
    go_wp2_with fail
    refine ret_set3 b0 b1 b2 fun Y e0 e1 e2 hY => ?_
    exact bodyPost_ret (v := .agg #[.int .i64 x, .int .i64 y, .int .i64 z']) (by simp [results, Try.results28, go_sem, e0, e1, e2]) rfl (hfin.out _ _ _ ms4.out HZ.out hY)
  · have hG1 : 0 < (G : Int) := by omega
    clear hG0
    go_wp2_with fail
    refine (once_any g 2 _ ms4.out.1 (by omega) (by omega)).mono ?_
    rintro e w4 ⟨t, rfl, hc4, hg4⟩
    have ms5 := Lib.hid (ms4.out.draw hlt hz1 (by omega) hc4 hg4)
    clear hc4 hg4 ms4
    cases t
    · obtain ⟨-, ⟨b0, b1, b2⟩, ⟨fb0, fb1, fb2⟩, z', hz', ⟨d0, d1, d2⟩, fd0, fd1, fd2⟩ := ms5.out.parts
      have HZ := Lib.hid hz'
      clear hz'
      go_wp2_with fail
      refine ret_set3 b0 b1 b2 fun Y e0 e1 e2 hY => ?_
      exact bodyPost_ret (v := .agg #[.int .i64 x, .int .i64 y, .int .i64 z']) (by simp [results, Try.results28, go_sem, e0, e1, e2]) rfl (hfin.out _ _ _ ms5.out HZ.out hY)
    · go_wp2_with fail
      refine (below_any g _ _ ms5.out.1 (by omega) (by omega)).mono ?_
      rintro e w5 ⟨k0, hk0, rfl, hc5, hg5⟩
      have ms6 := Lib.hid (ms5.out.draw hlt hz1 (by omega) hc5 hg5)
      clear hc5 hg5 ms5
      go_wp2_with fail
      go_loopw [6] (fun u6 wr => ∃ k : Int, (-1 ≤ k ∧ k ≤ 3) ∧ u6 = .int .i64 k ∧ MS w g w1.heap.size w2.heap.size x y wr) (fun u6 _ => (intOf u6 + 1).toNat)
      case atStart => exact ⟨k0, by omega, rfl, ms6.out⟩
      case round =>
        obtain ⟨k, hk, rfl, hms⟩ := hrel
        have ms := Lib.hid hms
        clear hms ms6
        by_cases hkk : 0 ≤ k
        · obtain ⟨-, -, -, z', hz', ⟨d0, d1, d2⟩, fd0, fd1, fd2⟩ := ms.out.parts
          have HZ := Lib.hid hz'
          clear hz'
          have HBw := Lib.hid (fun (X : World) (h : Cur X g) => below_any g (G : Int) X h (by omega) (by omega))
          go_wp2_with fail
          first
            | go_region_with ((go_at_call 29; refine (HBw.out _ ms.out.dr.1).mono ?_; rintro e w6 ⟨t, ht, rfl, hc6, hg6⟩; have ms7 := Lib.hid (ms.out.dr.draw hlt hz1 (by omega) hc6 hg6); obtain ⟨-, -, -, z7, hz7, ⟨k0', k1', k2'⟩, fk0, fk1, fk2⟩ := ms7.out.parts))
            | fail
          all_goals
            have HZ7 := Lib.hid hz7
            clear hz7
            go_wp2_with fail
            go_roundw
            case rel => exact ⟨k - 1, by omega, rfl, ms7.out.open hlt (by omega) (by omega) (by first | exact HX.out z' t HZ.out.1 HZ.out.2 ht | exact HX.out z7 t HZ7.out.1 HZ7.out.2 ht)⟩
            case measure => simp [intOf]; omega
        · obtain ⟨-, ⟨b0, b1, b2⟩, ⟨fb0, fb1, fb2⟩, z', hz', ⟨d0, d1, d2⟩, fd0, fd1, fd2⟩ := ms.out.parts
          have HZ := Lib.hid hz'
          clear hz'
          go_wp2_with fail
          refine ret_set3 b0 b1 b2 fun Y e0 e1 e2 hY => ?_
          exact bodyPost_ret (v := .agg #[.int .i64 x, .int .i64 y, .int .i64 z']) (by simp [results, Try.results28, go_sem, e0, e1, e2]) rfl (hfin.out _ _ _ ms.out HZ.out hY)

/-- A draw of a maze from a code. -/
def MazeDrawn (w : World) (e : Ending) (w' : World) : Prop := ∃ x y z : Int, OkM x y z ∧ e = .returned (.agg #[.int .i64 x, .int .i64 y, .int .i64 z]) ∧ Below w.heap.size w w'
theorem mazeDrawn_mk {w X Y : World} {x y z : Int} (h : OkM x y z) (hb : Below w.heap.size w X) (hY : Y = ((X.setCell ⟨w.heap.size, 0, none⟩ (.int .i64 x)).setCell ⟨w.heap.size, 1, none⟩ (.int .i64 y)).setCell ⟨w.heap.size, 2, none⟩ (.int .i64 z)) : MazeDrawn w (.returned (.agg #[.int .i64 x, .int .i64 y, .int .i64 z])) Y := by
  subst hY
  exact ⟨x, y, z, h, rfl, ((hb.setCell (Nat.le_refl _) _).setCell (Nat.le_refl _) _).setCell (Nat.le_refl _) _⟩

end Go.Proofs.Ytomjfcmaoeoigaa.mazeE
