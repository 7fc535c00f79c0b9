/- The draw of a maze with many passages. -/
import Derived.Test.YthgnhamokikhkaaDrwA
import Derived.Test.YthgnhamokikhkaaModM
import Derived.Test.YthgnhamokikhkaaPerfP
namespace Go.Proofs.Ythgnhamokikhkaa.cntD
open Go.ChangeShapes Go.WideShapes Go.ChangeAt Go.RowKit
open draw gridP gridC gridE bitP mazeP mazeC mazeM mazeR mazeS mazeE reachM forest
set_option linter.unusedVariables false

theorem row3_all {b : Nat} {x y z x' y' z' : Int} {X : World} (h : Row3 b x y z X) : Row3 b x' y' z' (((X.setCell ⟨b, 0, none⟩ (.int .i64 x')).setCell ⟨b, 1, none⟩ (.int .i64 y')).setCell ⟨b, 2, none⟩ (.int .i64 z')) := by
  obtain ⟨T, h⟩ := h
  exact ⟨T, by simp [World.setCell, Array.getElem?_modify, h]⟩
/-- What stands at a step: the cursor, the answer's block, the maze's. -/
def KS (w : World) (g b : Nat) (x y z : Int) (X : World) : Prop := Cur X g ∧ w.grownBy X (some g) ∧ Row3 w.heap.size 0 0 0 X ∧ OkM x y z ∧ Row3 b x y z X ∧ g < w.heap.size ∧ w.heap.size < b
theorem KS.below {w X X' : World} {g b : Nat} {x y z : Int} (h : KS w g b x y z X) (hb : Below X.heap.size X X') : KS w g b x y z X' := by
  obtain ⟨hc, hg, hr, hz, hm, hs⟩ := h
  exact ⟨hc.kept hb hc.lt, grown_below hg hb, hr.call hb, hz, hm.call hb, hs⟩
theorem KS.draw {w X X' : World} {g b : Nat} {x y z : Int} (h : KS w g b x y z X) (hc' : Cur X' g) (hg' : X.grownBy X' (some g)) : KS w g b x y z X' := by
  obtain ⟨hc, hg, hr, hz, hm, h1, h2⟩ := h
  exact ⟨hc', only_trans hg hg', row3_grown hr hg' (by omega), hz, row3_grown hm hg' (by omega), h1, h2⟩
theorem KS.dr {w X : World} {g b : Nat} {x y z : Int} (h : KS w g b x y z X) : KS w g b x y z X.drew := h.below ⟨rfl, rfl, rfl, Nat.le_refl _, fun _ _ => rfl⟩
theorem KS.put {w X : World} {g b : Nat} {x y z : Int} (h : KS w g b x y z X) {z' : Int} (hz : OkM x y z') :
    KS w g b x y z' (((X.setCell ⟨b, 0, none⟩ (.int .i64 x)).setCell ⟨b, 1, none⟩ (.int .i64 y)).setCell ⟨b, 2, none⟩ (.int .i64 z')) := by
  obtain ⟨hc, hg, hr, _, hm, h1, h2⟩ := h
  have c : ∀ {Y : World} (i : Nat) (u : Value), Cur Y g → Cur (Y.setCell ⟨b, i, none⟩ u) g := fun i u hY => cur_set hY (by simp; omega) u
  have gp : ∀ {Y : World} (i : Nat) (u : Value), w.grownBy Y (some g) → w.grownBy (Y.setCell ⟨b, i, none⟩ u) (some g) := fun i u hY => grown_put hY (by simp; omega) u
  have r : ∀ {Y : World} (i : Nat) (u : Value), Row3 w.heap.size 0 0 0 Y → Row3 w.heap.size 0 0 0 (Y.setCell ⟨b, i, none⟩ u) := fun i u hY => mazeE.row3_set hY (by simp; omega) u
  exact ⟨c _ _ (c _ _ (c _ _ hc)), gp _ _ (gp _ _ (gp _ _ hg)), r _ _ (r _ _ (r _ _ hr)), hz, row3_all hm, h1, h2⟩
theorem KS.parts {w X : World} {g b : Nat} {x y z : Int} (h : KS w g b x y z X) :
    (X.cell? ⟨w.heap.size, 0, none⟩ = some (.int .i64 0) ∧ X.cell? ⟨w.heap.size, 1, none⟩ = some (.int .i64 0) ∧ X.cell? ⟨w.heap.size, 2, none⟩ = some (.int .i64 0)) ∧ (X.frozen? ⟨w.heap.size, 0, none⟩ = false ∧ X.frozen? ⟨w.heap.size, 1, none⟩ = false ∧ X.frozen? ⟨w.heap.size, 2, none⟩ = false) ∧
    (X.cell? ⟨b, 0, none⟩ = some (.int .i64 x) ∧ X.cell? ⟨b, 1, none⟩ = some (.int .i64 y) ∧ X.cell? ⟨b, 2, none⟩ = some (.int .i64 z)) ∧ X.frozen? ⟨b, 0, none⟩ = false ∧ X.frozen? ⟨b, 1, none⟩ = false ∧ X.frozen? ⟨b, 2, none⟩ = false :=
  ⟨(row3_cells h.2.2.1).1, (row3_cells h.2.2.1).2, row3_cells h.2.2.2.2.1⟩
theorem KS.done {w X Y : World} {g b : Nat} {x y z : Int} (h : KS w g b x y z X)
    (hY : Y = ((X.setCell ⟨w.heap.size, 0, none⟩ (.int .i64 x)).setCell ⟨w.heap.size, 1, none⟩ (.int .i64 y)).setCell ⟨w.heap.size, 2, none⟩ (.int .i64 z)) :
    DrawnMz g w (.returned (.agg #[.int .i64 x, .int .i64 y, .int .i64 z])) Y := by
  subst hY
  have hlt := h.2.2.2.2.2.1
  exact ⟨x, y, z, h.2.2.2.1, rfl, cur_set (cur_set (cur_set h.1 hlt _) hlt _) hlt _, grown_put (grown_put (grown_put h.2.1 (Nat.le_refl _) _) (Nat.le_refl _) _) (Nat.le_refl _) _⟩
theorem ks_start {w X : World} {g : Nat} {x y z : Int} (hc : Cur X g) (hg : w.grownBy X (some g)) (hr : Row3 w.heap.size 0 0 0 X) (hz : OkM x y z) (hlt : g < w.heap.size) (T : TypeId) :
    KS w g X.heap.size x y z (X.alloc (.cells #[.int .i64 x, .int .i64 y, .int .i64 z] T)) :=
  ⟨hc.alloc1 _, only_alloc1 hg _, hr.call (below_box _ _), hz, row3_new x y z X T, hlt, row3_lt hr⟩
theorem sg_ok {x y z t : Int} {b : Bool} (h : OkM x y z) : OkM x y (sgZ x y z t b) := by
  by_cases hs : 0 ≤ t ∧ t < gpsZ x y
  · have hq := pow_bd t (by have := (gps_bd h.1.1 h.1.2.1 h.1.2.2.1 h.1.2.2.2).2; omega)
    have hp := put_bd h.2.1 hs.1 hs.2 (gps_bd h.1.1 h.1.2.1 h.1.2.2.1 h.1.2.2.2).2 (show z ≤ 2 ^ (gpsZ x y).toNat - 1 from h.2.2)
    unfold sgZ
    rw [show sgB x y z t = true from decide_eq_true ⟨h, hs.1, hs.2⟩, if_pos rfl]
    split
    · rename_i he
      split
      · exact h
      · exact ⟨h.1, hp.1 he, by have := h.2.2; omega⟩
    · rename_i he
      split
      · exact ⟨h.1, by have := h.2.1; omega, hp.2 he⟩
      · exact h
  · unfold sgZ
    rw [if_neg]
    · exact h
    · intro e
      have := of_decide_eq_true e
      exact hs ⟨this.2.1, this.2.2⟩

set_option maxRecDepth 100000 in
set_option maxHeartbeats 4000000 in
theorem openMaze_any (g : Nat) (w : World) (hc : Cur w g) : Calls Try.prog 97 #[.pointer (some ⟨g, 0, none⟩)] w (DrawnMz g w) := by
  have hlt := hc.lt
  go_enter Try.func97, Try.ntmps97
  go_wp2_with fail
  refine (grid_any g _ (hc.alloc1 _)).mono ?_
  rintro e w1 ⟨x, y, hxy0, rfl, hc1, hg1⟩
  obtain ⟨h1, h2, h3, h4⟩ := id hxy0
  have HR1 := Lib.hid (zero_cells hg1 hlt)
  have HG1 := Lib.hid (only_trans (only_alloc1 (World.grownBy.refl w (some g)) _) hg1)
  have HC1 := Lib.hid hc1
  clear hg1 hc1
  obtain ⟨q0, q1⟩ := gps_bd h1 h2 h3 h4
  have HG : Hid (∀ X, Calls Try.prog 20 #[.agg #[.int .i64 x, .int .i64 y]] X (Nm (gpsZ x y) X)) := fun X => gridS.countGaps_yes x y X h1 h2 h3 h4
  have htop : Hid (OkM x y (topZ x y)) := Lib.hid ⟨hxy0, by have := pow_bd (gpsZ x y) q1; unfold topZ; omega, Int.le_refl _⟩
  go_wp2_with fail
  refine (fullMaze_yes x y _ h1 h2 h3 h4).mono ?_
  rintro e w2 ⟨rfl, hb⟩
  have ks0 := Lib.hid (ks_start (HC1.out.kept hb HC1.out.lt) (grown_below HG1.out hb) (HR1.out.call hb) htop.out hlt 27)
  clear hb HR1 HG1 HC1
  generalize topZ x y = z0 at *
  obtain ⟨-, -, ⟨b0, b1, b2⟩, -⟩ := ks0.out.parts
  go_wp2_with fail
  generalize w2.alloc (.cells #[.int .i64 x, .int .i64 y, .int .i64 z0] 27) = w3 at *
  generalize w2.heap.size = b at *
  clear b0 b1 b2
  refine (HG.out _).mono ?_
  rintro e w4 ⟨rfl, hb⟩
  have ks1 := Lib.hid (ks0.out.below hb)
  clear hb ks0
  go_wp2_with fail
  refine (below_any g 5 _ ks1.out.1 (by decide) (by decide)).mono ?_
  rintro e w5 ⟨k0, hk0, rfl, hc5, hg5⟩
  have ks2 := Lib.hid (ks1.out.draw hc5 hg5)
  have hk5 : k0 ≤ 5 := by omega
  clear hc5 hg5 ks1 hk0
  generalize hG : gpsZ x y = G at *
  have HSg := Lib.hid (fun z t X => setGap_any x y z t false X)
  go_wp2_with fail
  go_loopw [5] (fun u5 wr => ∃ k : Nat, k ≤ 5 ∧ u5 = .int .i64 k ∧ ∃ z, KS w g b x y z wr) (fun u5 _ => (intOf u5).toNat)
  case atStart => exact ⟨k0, hk5, rfl, z0, ks2.out⟩
  case round =>
    clear ks2
    obtain ⟨k, hk, rfl, z, ks0⟩ := hrel
    have ks := Lib.hid ks0
    clear ks0
    have hfin : Hid (∀ Y, Y = ((wr.setCell ⟨w.heap.size, 0, none⟩ (.int .i64 x)).setCell ⟨w.heap.size, 1, none⟩ (.int .i64 y)).setCell ⟨w.heap.size, 2, none⟩ (.int .i64 z) → DrawnMz g w (.returned (.agg #[.int .i64 x, .int .i64 y, .int .i64 z])) Y) := Lib.hid fun Y hY => ks.out.done hY
    by_cases hk1 : 0 < k
    · have hd1 : decide ((0 : Int) < (k : Int)) = true := decide_eq_true (by omega)
      have hw1 : IntKind.i64.wrap ((k : Int) - 1) = ((k - 1 : Nat) : Int) := by rw [show (k : Int) - 1 = ((k - 1 : Nat) : Int) by omega]; exact IntWalk.i64_in _ (by omega)
      by_cases hG0 : 0 < G
      · have hd2 : decide (0 < G) = true := decide_eq_true hG0
        have HBw := Lib.hid (fun X h => below_any g G X h hG0 (by omega))
        obtain ⟨-, -, ⟨b0, b1, b2⟩, fb0, fb1, fb2⟩ := ks.out.parts
        go_wp2_with fail
        try simp only [List.cons_append, List.nil_append, List.append_eq]
        refine wp_region_held_drew (S := (fun w' => w'.cell? ⟨b, 0, none⟩ = some (.int .i64 x))) (by kernel_rfl) ?_ (fun hHeld0 => ?_)
        · (try dsimp only); first | go_keep | exact ks.out.parts.2.2.1.1 | exact ks3.out.parts.2.2.1.1 | exact ks4.out.parts.2.2.1.1
        refine wpAnyH_take (i := 1) (oi := { dst := some 24, op := Go.Op.move (Go.Operand.tmp 0), type := 68, pos := "l12_count.go:112", after := #[], guard := none }) (v := ?_) rfl (by kernel_rfl) (by kernel_rfl) (by kernel_rfl) (fun _ _ _ h => h) (Or.inl ⟨by rfl, ?_⟩) (by assumption) ?_
        rotate_left
        · (intro w hSw; (try dsimp only at hSw); go_simp; try with_reducible rfl)
        try simp only [Act.put, List.setIfInBounds_toArray, List.set_cons_zero, List.set_cons_succ]
        refine wpAnyH_take (i := 2) (oi := { dst := some 25, op := Go.Op.move (Go.Operand.tmp 4), type := 3, pos := "l12_count.go:112", after := #[], guard := none }) (v := ?_) rfl (by kernel_rfl) (by kernel_rfl) (by kernel_rfl) (fun _ _ _ h => h) (Or.inl ⟨by rfl, ?_⟩) (by assumption) ?_
        rotate_left
        · (intro w hSw; (try dsimp only at hSw); go_simp; try with_reducible rfl)
        try simp only [Act.put, List.setIfInBounds_toArray, List.set_cons_zero, List.set_cons_succ]
        refine wpAnyH_ready (rs := [0, 3]) (by kernel_rfl) (by simp) ?_
        refine (AllReadyH.cons (o := { dst := some 23, op := Go.Op.load 27 (Go.Operand.tmp 3), type := 27, pos := "l12_count.go:112", after := #[], guard := none }) rfl (fun K0 hK0 => ?_) (AllReadyH.cons (o := { dst := some 26, op := Go.Op.call { callee := Go.Callee.value (Go.Operand.func 126), args := #[Go.Operand.tmp 24, Go.Operand.tmp 25], argTypes := #[68, 3] }, type := 3, pos := "l12_count.go:112", after := #[{ on := 1, ground := Go.Ground.data }, { on := 2, ground := Go.Ground.data }], guard := none }) rfl (fun K3 hK3 => ?_) AllReadyH.nil))
        go_simp
        refine hK0.out _ _ ?_ (fun hHeld1 => ?_)
        · (try dsimp only); first | go_keep | exact ks.out.parts.2.2.1.1 | exact ks3.out.parts.2.2.1.1 | exact ks4.out.parts.2.2.1.1
        clear hK0 K0 hHeld0
        try simp only [Act.put, List.setIfInBounds_toArray, List.set_cons_zero, List.set_cons_succ]
        refine wpAnyH_ready (rs := [3]) (by kernel_rfl) (by simp) ?_
        refine AllReadyH.cons (o := { dst := some 26, op := Go.Op.call { callee := Go.Callee.value (Go.Operand.func 126), args := #[Go.Operand.tmp 24, Go.Operand.tmp 25], argTypes := #[68, 3] }, type := 3, pos := "l12_count.go:112", after := #[{ on := 1, ground := Go.Ground.data }, { on := 2, ground := Go.Ground.data }], guard := none }) rfl (fun K3 hK3 => ?_) AllReadyH.nil
        go_simp
        (refine (HBw.out _ ks.out.dr.1).mono ?_; rintro e v2 ⟨t, ht, rfl, hc2, hg2⟩; have ks3 := Lib.hid (ks.out.dr.draw hc2 hg2); clear hc2 hg2; obtain ⟨-, -, ⟨d0, d1, d2⟩, fd0, fd1, fd2⟩ := ks3.out.parts)
        go_wp2_with fail
        refine hK3.out _ _ ?_ (fun hHeld2 => ?_)
        · (try dsimp only); first | go_keep | exact ks.out.parts.2.2.1.1 | exact ks3.out.parts.2.2.1.1 | exact ks4.out.parts.2.2.1.1
        clear hK3 K3 hHeld1
        try simp only [Act.put, List.setIfInBounds_toArray, List.set_cons_zero, List.set_cons_succ]
        refine wpAnyH_ready (rs := [4]) (by kernel_rfl) (by simp) ?_
        refine AllReadyH.cons (o := { dst := some 27, op := Go.Op.call { callee := Go.Callee.value (Go.Operand.func 109), args := #[Go.Operand.tmp 23, Go.Operand.tmp 26, Go.Operand.const (Go.Value.bool false)], argTypes := #[27, 3, 4] }, type := 36, pos := "l12_count.go:112", after := #[{ on := 0, ground := Go.Ground.data }, { on := 3, ground := Go.Ground.data }, { on := 3, ground := Go.Ground.chain }], guard := none }) rfl (fun K4 hK4 => ?_) AllReadyH.nil
        go_simp
        (refine (HSg.out z t _).mono ?_; rintro e v3 ⟨rfl, hb3⟩; have ks4 := Lib.hid (ks3.out.below hb3); clear hb3; obtain ⟨-, -, ⟨e0, e1, e2⟩, fe0, fe1, fe2⟩ := ks4.out.parts)
        go_wp2_with fail
        refine hK4.out _ _ ?_ (fun hHeld3 => ?_)
        · (try dsimp only); first | go_keep | exact ks.out.parts.2.2.1.1 | exact ks3.out.parts.2.2.1.1 | exact ks4.out.parts.2.2.1.1
        clear hK4 K4 hHeld2
        try simp only [Act.put, List.setIfInBounds_toArray, List.set_cons_zero, List.set_cons_succ]
        refine wpAnyH_take (i := 5) (oi := { dst := some 22, op := Go.Op.move (Go.Operand.tmp 27), type := 36, pos := "l12_count.go:112", after := #[{ on := 4, ground := Go.Ground.data }], guard := none }) (v := ?_) rfl (by kernel_rfl) (by kernel_rfl) (by kernel_rfl) (fun _ _ _ h => h) (Or.inl ⟨by rfl, ?_⟩) (by assumption) ?_
        rotate_left
        · (intro w hSw; (try dsimp only at hSw); go_simp; try with_reducible rfl)
        try simp only [Act.put, List.setIfInBounds_toArray, List.set_cons_zero, List.set_cons_succ]
        refine wpAnyH_take (i := 6) (oi := { dst := some 28, op := Go.Op.extract (Go.Operand.tmp 22) 0, type := 27, pos := "l12_count.go:112", after := #[{ on := 5, ground := Go.Ground.data }], guard := none }) (v := ?_) rfl (by kernel_rfl) (by kernel_rfl) (by kernel_rfl) (fun _ _ _ h => h) (Or.inl ⟨by rfl, ?_⟩) (by assumption) ?_
        rotate_left
        · (intro w hSw; (try dsimp only at hSw); go_simp; try with_reducible rfl)
        try simp only [Act.put, List.setIfInBounds_toArray, List.set_cons_zero, List.set_cons_succ]
        refine wpAnyH_take (i := 7) (oi := { dst := some 29, op := Go.Op.extract (Go.Operand.tmp 22) 1, type := 4, pos := "l12_count.go:112", after := #[{ on := 5, ground := Go.Ground.data }, { on := 8, ground := Go.Ground.gcOnly Go.Departure.lateStores }], guard := none }) (v := ?_) rfl (by kernel_rfl) (by kernel_rfl) (by kernel_rfl) (fun _ _ _ h => h) (Or.inl ⟨by rfl, ?_⟩) (by assumption) ?_
        rotate_left
        · (intro w hSw; (try dsimp only at hSw); go_simp; try with_reducible rfl)
        try simp only [Act.put, List.setIfInBounds_toArray, List.set_cons_zero, List.set_cons_succ]
        refine wpAnyH_ready (rs := [8]) (by kernel_rfl) (by simp) ?_
        refine AllReadyH.cons (o := { dst := none, op := Go.Op.store 27 (Go.Operand.tmp 3) (Go.Operand.tmp 28), type := 0, pos := "l12_count.go:112", after := #[{ on := 6, ground := Go.Ground.data }, { on := 4, ground := Go.Ground.chain }, { on := 0, ground := Go.Ground.phase }, { on := 1, ground := Go.Ground.phase }, { on := 2, ground := Go.Ground.phase }, { on := 3, ground := Go.Ground.phase }, { on := 4, ground := Go.Ground.phase }, { on := 5, ground := Go.Ground.phase }, { on := 6, ground := Go.Ground.phase }, { on := 7, ground := Go.Ground.textOnly Go.Departure.lateStores }], guard := none }) rfl (fun K8 hK8 => ?_) AllReadyH.nil
        go_simp
        refine hK8.out _ _ ?_ (fun hHeld4 => ?_)
        · (try dsimp only); exact (ks4.out.put (sg_ok ks4.out.2.2.2.1)).parts.2.2.1.1
        clear hK8 K8 hHeld3
        try simp only [Act.put, List.setIfInBounds_toArray, List.set_cons_zero, List.set_cons_succ]
        refine wpAnyH_done (by kernel_rfl) ?_ _
        rotate_left
        go_simp
        (refine (HBw.out _ ks.out.dr.1).mono ?_; rintro e v2 ⟨t, ht, rfl, hc2, hg2⟩; have ks3 := Lib.hid (ks.out.dr.draw hc2 hg2); clear hc2 hg2; obtain ⟨-, -, ⟨d0, d1, d2⟩, fd0, fd1, fd2⟩ := ks3.out.parts)
        go_wp2_with fail
        refine hK3.out _ _ ?_ (fun hHeld1 => ?_)
        · (try dsimp only); first | go_keep | exact ks.out.parts.2.2.1.1 | exact ks3.out.parts.2.2.1.1 | exact ks4.out.parts.2.2.1.1
        clear hK3 K3 hHeld0
        try simp only [Act.put, List.setIfInBounds_toArray, List.set_cons_zero, List.set_cons_succ]
        refine wpAnyH_ready (rs := [0]) (by kernel_rfl) (by simp) ?_
        refine AllReadyH.cons (o := { dst := some 23, op := Go.Op.load 27 (Go.Operand.tmp 3), type := 27, pos := "l12_count.go:112", after := #[], guard := none }) rfl (fun K0 hK0 => ?_) AllReadyH.nil
        go_simp
        refine hK0.out _ _ ?_ (fun hHeld2 => ?_)
        · (try dsimp only); first | go_keep | exact ks.out.parts.2.2.1.1 | exact ks3.out.parts.2.2.1.1 | exact ks4.out.parts.2.2.1.1
        clear hK0 K0 hHeld1
        try simp only [Act.put, List.setIfInBounds_toArray, List.set_cons_zero, List.set_cons_succ]
        refine wpAnyH_ready (rs := [4]) (by kernel_rfl) (by simp) ?_
        refine AllReadyH.cons (o := { dst := some 27, op := Go.Op.call { callee := Go.Callee.value (Go.Operand.func 109), args := #[Go.Operand.tmp 23, Go.Operand.tmp 26, Go.Operand.const (Go.Value.bool false)], argTypes := #[27, 3, 4] }, type := 36, pos := "l12_count.go:112", after := #[{ on := 0, ground := Go.Ground.data }, { on := 3, ground := Go.Ground.data }, { on := 3, ground := Go.Ground.chain }], guard := none }) rfl (fun K4 hK4 => ?_) AllReadyH.nil
        go_simp
        (refine (HSg.out z t _).mono ?_; rintro e v3 ⟨rfl, hb3⟩; have ks4 := Lib.hid (ks3.out.below hb3); clear hb3; obtain ⟨-, -, ⟨e0, e1, e2⟩, fe0, fe1, fe2⟩ := ks4.out.parts)
        go_wp2_with fail
        refine hK4.out _ _ ?_ (fun hHeld3 => ?_)
        · (try dsimp only); first | go_keep | exact ks.out.parts.2.2.1.1 | exact ks3.out.parts.2.2.1.1 | exact ks4.out.parts.2.2.1.1
        clear hK4 K4 hHeld2
        try simp only [Act.put, List.setIfInBounds_toArray, List.set_cons_zero, List.set_cons_succ]
        refine wpAnyH_take (i := 5) (oi := { dst := some 22, op := Go.Op.move (Go.Operand.tmp 27), type := 36, pos := "l12_count.go:112", after := #[{ on := 4, ground := Go.Ground.data }], guard := none }) (v := ?_) rfl (by kernel_rfl) (by kernel_rfl) (by kernel_rfl) (fun _ _ _ h => h) (Or.inl ⟨by rfl, ?_⟩) (by assumption) ?_
        rotate_left
        · (intro w hSw; (try dsimp only at hSw); go_simp; try with_reducible rfl)
        try simp only [Act.put, List.setIfInBounds_toArray, List.set_cons_zero, List.set_cons_succ]
        refine wpAnyH_take (i := 6) (oi := { dst := some 28, op := Go.Op.extract (Go.Operand.tmp 22) 0, type := 27, pos := "l12_count.go:112", after := #[{ on := 5, ground := Go.Ground.data }], guard := none }) (v := ?_) rfl (by kernel_rfl) (by kernel_rfl) (by kernel_rfl) (fun _ _ _ h => h) (Or.inl ⟨by rfl, ?_⟩) (by assumption) ?_
        rotate_left
        · (intro w hSw; (try dsimp only at hSw); go_simp; try with_reducible rfl)
        try simp only [Act.put, List.setIfInBounds_toArray, List.set_cons_zero, List.set_cons_succ]
        refine wpAnyH_take (i := 7) (oi := { dst := some 29, op := Go.Op.extract (Go.Operand.tmp 22) 1, type := 4, pos := "l12_count.go:112", after := #[{ on := 5, ground := Go.Ground.data }, { on := 8, ground := Go.Ground.gcOnly Go.Departure.lateStores }], guard := none }) (v := ?_) rfl (by kernel_rfl) (by kernel_rfl) (by kernel_rfl) (fun _ _ _ h => h) (Or.inl ⟨by rfl, ?_⟩) (by assumption) ?_
        rotate_left
        · (intro w hSw; (try dsimp only at hSw); go_simp; try with_reducible rfl)
        try simp only [Act.put, List.setIfInBounds_toArray, List.set_cons_zero, List.set_cons_succ]
        refine wpAnyH_ready (rs := [8]) (by kernel_rfl) (by simp) ?_
        refine AllReadyH.cons (o := { dst := none, op := Go.Op.store 27 (Go.Operand.tmp 3) (Go.Operand.tmp 28), type := 0, pos := "l12_count.go:112", after := #[{ on := 6, ground := Go.Ground.data }, { on := 4, ground := Go.Ground.chain }, { on := 0, ground := Go.Ground.phase }, { on := 1, ground := Go.Ground.phase }, { on := 2, ground := Go.Ground.phase }, { on := 3, ground := Go.Ground.phase }, { on := 4, ground := Go.Ground.phase }, { on := 5, ground := Go.Ground.phase }, { on := 6, ground := Go.Ground.phase }, { on := 7, ground := Go.Ground.textOnly Go.Departure.lateStores }], guard := none }) rfl (fun K8 hK8 => ?_) AllReadyH.nil
        go_simp
        refine hK8.out _ _ ?_ (fun hHeld4 => ?_)
        · (try dsimp only); exact (ks4.out.put (sg_ok ks4.out.2.2.2.1)).parts.2.2.1.1
        clear hK8 K8 hHeld3
        try simp only [Act.put, List.setIfInBounds_toArray, List.set_cons_zero, List.set_cons_succ]
        refine wpAnyH_done (by kernel_rfl) ?_ _
        rotate_left
        all_goals go_wp2_with fail
        all_goals go_roundw
        all_goals first | exact ⟨k - 1, by omega, rfl, _, ks4.out.put (sg_ok ks4.out.2.2.2.1)⟩ | (simp [intOf]; omega)
      · have hd2 : decide (0 < G) = false := decide_eq_false hG0
        obtain ⟨⟨c0, c1, c2⟩, ⟨fc0, fc1, fc2⟩, ⟨b0, b1, b2⟩, fb0, fb1, fb2⟩ := ks.out.parts
        go_wp2_with fail
        refine ret_set3 c0 c1 c2 fun Y e0 e1 e2 hY => ?_
        exact bodyPost_ret (v := .agg #[.int .i64 x, .int .i64 y, .int .i64 z]) (by simp [results, Try.results97, go_sem, e0, e1, e2]) rfl (hfin.out Y hY)
    · obtain rfl : k = 0 := by omega
      obtain ⟨⟨c0, c1, c2⟩, ⟨fc0, fc1, fc2⟩, ⟨b0, b1, b2⟩, fb0, fb1, fb2⟩ := ks.out.parts
      go_wp2_with fail
      refine ret_set3 c0 c1 c2 fun Y e0 e1 e2 hY => ?_
      exact bodyPost_ret (v := .agg #[.int .i64 x, .int .i64 y, .int .i64 z]) (by simp [results, Try.results97, go_sem, e0, e1, e2]) rfl (hfin.out Y hY)

theorem drawOpenMaze_any (A : Option Addr) (n c : Nat) (w : World) (hn : n ≤ maxLen) (hb : BytesIn w w.heap.size A n) :
    Calls Try.prog 37 #[.slice A n c] w (MazeDrawn w) := by
  have HK := @Lib.hid _ (fun X Y x y z a b d => @mazeDrawn_mk w X Y x y z a b d)
  have HB := Lib.hid ((Below.refl w.heap.size w).alloc (Nat.le_refl _) (.cells #[.int .i64 0, .int .i64 0, .int .i64 0] 27))
  have HY := Lib.hid ((hb.keep (w' := w.alloc (.cells #[.int .i64 0, .int .i64 0, .int .i64 0] 27)) fun p hp => HB.out.cell hp).more (B' := w.heap.size + 1) (by omega))
  clear hb
  go_enter Try.func37, Try.ntmps37
  go_wp2_with fail
  refine (new_any A n c _ hn (by simpa using HY.out)).mono ?_
  rintro e w1 ⟨rfl, hc1, hb1, hs1⟩
  have HR1 := Lib.hid (Row3.call (row3_new 0 0 0 w _) hb1)
  have HB1 := Lib.hid (HB.out.trans (hb1.mono (by simp)))
  have hz : w1.heap.size = w.heap.size + 2 := by simp at hs1; omega
  have hz1 : w.heap.size + 2 ≤ w1.heap.size := by omega
  clear hs1 hb1 hz
  go_wp2_with fail
  refine (openMaze_any _ _ (by simpa using hc1)).mono ?_
  rintro e w2 ⟨x, y, z, hv, rfl, hc2, hg2⟩
  have HV := Lib.hid hv
  have HR2 := Lib.hid (row3_grown HR1.out hg2 (by omega))
  have HB2 := Lib.hid (HB1.out.grown hg2 (by omega) (fun k hk => by cases hk; omega))
  obtain ⟨⟨c0, c1, c2⟩, f0, f1, f2⟩ := row3_cells HR2.out
  clear hg2 hc1 hc2 hv
  go_wp2_with fail
  refine ret_set3 c0 c1 c2 fun Y e0 e1 e2 hY => ?_
  exact bodyPost_ret (v := .agg #[.int .i64 x, .int .i64 y, .int .i64 z]) (by simp [results, Try.results37, go_sem, e0, e1, e2]) rfl (HK.out _ _ _ _ _ HV.out HB2.out hY)

end Go.Proofs.Ythgnhamokikhkaa.cntD
