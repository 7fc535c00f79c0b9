/- The contract of the model's dividing of a grid. -/
import Derived.Test.YthakbjdkcdppjaaGrwN
import Derived.Deep.CutRange
namespace Go.Proofs.Ythakbjdkcdppjaa.grwD
open Go.ChangeShapes Go.WideShapes Go.ChangeAt Go.RowKit
open draw gridP gridC gridE bitP mazeP mazeC mazeM mazeR mazeS intsP boolP reachP reachM reachN reachD forest intA listK wayP ersP ersO entO grwP grwQ grwO grwM grwN
set_option linter.unusedVariables false

/-- The box, the answer's block, the choices; the variable that is made. -/
def DL (W : World) (x y : Int) (A : Option Addr) (cs : List Int) (oP : Option Nat) (X : World) : Prop :=
  GW W x y A cs X ∧ ∀ P, oP = some P → Row3 P 0 0 0 X ∧ W.heap.size + 1 < P
section
variable {W X X' : World} {x y : Int} {A : Option Addr} {cs : List Int} {oP : Option Nat} {P : Nat}
theorem DL.call (h : DL W x y A cs oP X) (hb : Below X.heap.size X X') : DL W x y A cs oP X' := ⟨h.1.call hb, fun P e => ⟨(h.2 P e).1.call hb, (h.2 P e).2⟩⟩
theorem DL.dr (h : DL W x y A cs oP X) : DL W x y A cs oP X.drew := h.call ⟨rfl, rfl, rfl, Nat.le_refl _, fun _ _ => rfl⟩
theorem DL.ints (h : DL W x y A cs oP X) : IntsIn X X.heap.size A cs := h.1.2.2.2.more h.1.1.size
theorem DL.cells (h : DL W x y A cs oP X) : X.cell? ⟨W.heap.size, 0, none⟩ = some (.int .i64 x) ∧ X.cell? ⟨W.heap.size, 1, none⟩ = some (.int .i64 y) := h.1.2.1.1
theorem DL.zero (h : DL W x y A cs none X) (T : TypeId) : DL W x y A cs (some X.heap.size) (X.alloc (.cells #[.int .i64 0, .int .i64 0, .int .i64 0] T)) := by
  obtain ⟨h1, -⟩ := h.call (below_box X (.cells #[.int .i64 0, .int .i64 0, .int .i64 0] T))
  refine ⟨h1, fun P e => ?_⟩
  cases e
  exact ⟨row3_new 0 0 0 X T, h.1.size⟩
/-- The variable at hand. -/
def DV (W : World) (x y : Int) (A : Option Addr) (cs : List Int) (P : Nat) (o : Int) (X : World) : Prop := GW W x y A cs X ∧ Row3 P x y o X
theorem DL.put (h : DL W x y A cs (some P) X) (a b c : Int) :
    GW W x y A cs (((X.setCell ⟨P, 0, none⟩ (.int .i64 a)).setCell ⟨P, 1, none⟩ (.int .i64 b)).setCell ⟨P, 2, none⟩ (.int .i64 c)) ∧ Row3 P a b c (((X.setCell ⟨P, 0, none⟩ (.int .i64 a)).setCell ⟨P, 1, none⟩ (.int .i64 b)).setCell ⟨P, 2, none⟩ (.int .i64 c)) := by
  obtain ⟨⟨h1, h2, h3, h4⟩, h5⟩ := h
  obtain ⟨g1, g2⟩ := h5 P rfl
  have hb : Below W.heap.size X (((X.setCell ⟨P, 0, none⟩ (.int .i64 a)).setCell ⟨P, 1, none⟩ (.int .i64 b)).setCell ⟨P, 2, none⟩ (.int .i64 c)) :=
    (((Below.refl _ _).setCell (by simp; omega) _).setCell (by simp; omega) _).setCell (by simp; omega) _
  exact ⟨⟨h1.trans hb, box_far (box_far (box_far h2 (by simp; omega) _) (by simp; omega) _) (by simp; omega) _, row3_far (row3_far (row3_far h3 (by simp; omega) _) (by simp; omega) _) (by simp; omega) _, h4.below hb⟩, row3_set g1⟩
theorem dl_new (h : GW W x y A cs X) : DL W x y A cs none X := ⟨h, fun _ e => (by cases e)⟩

theorem st_mz {ops : Array Oper} {a : Act} {w : World} {K : Act → World → Prop} {Q : Exit → Act → World → Prop} {E : Prop} {d : Tmp} {t : TypeId} {p : String} {af : Array Edge} (hL : Hid (DL W x y A cs none w))
    (hK : ∀ g X, Hid (DL W x y A cs (some g) X) → K (a.put (some d) (.pointer (some ⟨g, 0, none⟩))) X) :
    if Region.wanted { dst := some d, op := Op.alloc 30, type := t, pos := p, after := af, guard := none } (yielded ops a.tmps) = true then Oper.wp Try.prog { dst := some d, op := Op.alloc 30, type := t, pos := p, after := af, guard := none } a w K Q else E := by
  have q := hK _ _ (Lib.hid (DL.zero hL.out 30))
  go_simp
  exact q
theorem st_put {ops : Array Oper} {a : Act} {w : World} {K : Act → World → Prop} {Q : Exit → Act → World → Prop} {E : Prop} {t : TypeId} {p : String} {af : Array Edge} {i j : Nat} {b0 b1 b2 : Int} (hL : Hid (DL W x y A cs (some P) w))
    (hi : a.eval (.tmp i) = .pointer (some ⟨P, 0, none⟩)) (hj : a.eval (.tmp j) = .agg #[.int .i64 b0, .int .i64 b1, .int .i64 b2])
    (hK : ∀ Y, GW W x y A cs Y ∧ Row3 P b0 b1 b2 Y → K a Y) :
    if Region.wanted { dst := none, op := Op.store 30 (.tmp i) (.tmp j), type := t, pos := p, after := af, guard := none } (yielded ops a.tmps) = true then Oper.wp Try.prog { dst := none, op := Op.store 30 (.tmp i) (.tmp j), type := t, pos := p, after := af, guard := none } a w K Q else E := by
  have q := hK _ (DL.put hL.out b0 b1 b2)
  obtain ⟨⟨y0, y1, y2⟩, f0, f1, f2⟩ := row3_cells (hL.out.2 P rfl).1
  simp [Act.eval] at hi hj
  go_simp
  exact q
end

set_option maxRecDepth 100000 in
set_option maxHeartbeats 2000000 in
theorem divideMaze_any (x y : Int) (A : Option Addr) (n c : Nat) (cs : List Int) (W : World) (hn : cs.length = n) (hm : n ≤ 1048576) (hi : IntsIn W W.heap.size A cs) :
    Calls Try.prog 18 #[.agg #[.int .i64 x, .int .i64 y], .slice A n c] W (Mz (fmX x y) (fmY x y) (dmO x y cs) W) := by
  have HW := Lib.hid (fun T1 T2 => @gw_new W x y A cs hi T1 T2)
  by_cases hk : 1 ≤ x ∧ x ≤ 4 ∧ 1 ≤ y ∧ y ≤ 4
  · have HG : Hid (∀ X, Calls Try.prog 34 #[.agg #[.int .i64 x, .int .i64 y]] X (Bl true X)) := Lib.hid fun X => gridS.gridOk_yes x y X hk.1 hk.2.1 hk.2.2.1 hk.2.2.2
    have HF : Hid (∀ X, Calls Try.prog 42 #[.agg #[.int .i64 x, .int .i64 y]] X (Mz x y (topZ x y) X)) := Lib.hid fun X => by
      have := mazeS.fullMaze_any x y X
      unfold fmX fmY fmO at this
      rwa [if_pos hk, if_pos hk, if_pos hk] at this
    have hxy : x.toNat * y.toNat ≤ 4 * 4 := Nat.mul_le_mul (by omega) (by omega)
    have HD : Hid (∀ X, IntsIn X X.heap.size A cs → Calls Try.prog 41 #[.agg #[.int .i64 x, .int .i64 y, .int .i64 (topZ x y)], .int .i64 0, .int .i64 0, .int .i64 x, .int .i64 y, .slice A n c, .int .i64 0] X (MzI x y (dmS x y cs) X)) := Lib.hid fun X h =>
      divide_any x y hk A n c cs hn hm 8 (topZ x y) 0 0 0 x.toNat y.toNat 0 0 x y 0 X rfl rfl (by omega) (by omega) rfl h (by omega) (by omega) (by omega) (by omega) (by omega) (by omega)
    have HE : Hid (Mz x y (dmS x y cs).1 W = Mz (fmX x y) (fmY x y) (dmO x y cs) W) := Lib.hid (by
      unfold dmO fmX fmY; rw [if_pos hk, if_pos hk, if_pos hk])
    rw [← HE.out]
    clear HE hi hn hxy hk
    generalize dmS x y cs = s at *
    obtain ⟨o2, k2⟩ := s
    generalize topZ x y = tp at *
    go_enter Try.func18, Try.ntmps18
    go_wp2_with fail
    have hgw0 := Lib.hid (HW.out 25 30)
    refine (HG.out _).mono ?_
    rintro e w1 ⟨rfl, hb⟩
    have hgw1 := Lib.hid (hgw0.out.call hb)
    clear hb HW hgw0 HG
    go_wp2_with fail
    go_cut [5, 6] from 11 to 21 (fun u5 u6 wx => ∃ P : Nat, u5 = .pointer (some ⟨P, 0, none⟩) ∧ u6 = .int .i64 (k2 : Int) ∧ GW W x y A cs wx ∧ Row3 P x y o2 wx)
    case first =>
      have hL := Lib.hid (dl_new hgw1.out)
      clear hgw1
      try simp only [List.cons_append, List.nil_append, List.append_eq]
      refine wp_region_held_drew (S := (fun w' => w'.cell? ⟨W.heap.size, 0, none⟩ = some (.int .i64 x) ∧ w'.cell? ⟨W.heap.size, 1, none⟩ = some (.int .i64 y))) (by kernel_rfl) ?_ (fun hHeld0 => ?_)
      · (try dsimp only); (first | exact DL.cells hL.out | exact DL.cells (DL.dr hL.out))
      refine wpAnyH_take (i := 0) (oi := { dst := some 12, op := Go.Op.load 25 (Go.Operand.tmp 2), type := 25, pos := "l17_grow.go:65", after := #[], guard := none }) (v := ?_) rfl (by kernel_rfl) (by kernel_rfl) (by kernel_rfl) (fun _ _ _ h => h) (Or.inl ⟨by rfl, ?_⟩) (by assumption) ?_
      rotate_left
      · (intro w hSw; (try dsimp only at hSw); go_simp; try with_reducible rfl)
      try simp only [Act.put, List.setIfInBounds_toArray, List.set_cons_zero, List.set_cons_succ]
      refine wpAnyH_take (i := 2) (oi := { dst := some 14, op := Go.Op.fieldAddr 25 (Go.Operand.tmp 2) 0, type := 0, pos := "l17_grow.go:65", after := #[], guard := none }) (v := ?_) rfl (by kernel_rfl) (by kernel_rfl) (by kernel_rfl) (fun _ _ _ h => h) (Or.inl ⟨by rfl, ?_⟩) (by assumption) ?_
      rotate_left
      · (intro w hSw; (try dsimp only at hSw); go_simp; try with_reducible rfl)
      try simp only [Act.put, List.setIfInBounds_toArray, List.set_cons_zero, List.set_cons_succ]
      refine wpAnyH_take (i := 3) (oi := { dst := some 15, op := Go.Op.load 3 (Go.Operand.tmp 14), type := 3, pos := "l17_grow.go:65", after := #[{ on := 2, ground := Go.Ground.data }], guard := none }) (v := ?_) rfl (by kernel_rfl) (by kernel_rfl) (by kernel_rfl) (fun _ _ _ h => h) (Or.inl ⟨by rfl, ?_⟩) (by assumption) ?_
      rotate_left
      · (intro w hSw; (try dsimp only at hSw); go_simp; try with_reducible rfl)
      try simp only [Act.put, List.setIfInBounds_toArray, List.set_cons_zero, List.set_cons_succ]
      refine wpAnyH_take (i := 4) (oi := { dst := some 16, op := Go.Op.fieldAddr 25 (Go.Operand.tmp 2) 1, type := 0, pos := "l17_grow.go:65", after := #[], guard := none }) (v := ?_) rfl (by kernel_rfl) (by kernel_rfl) (by kernel_rfl) (fun _ _ _ h => h) (Or.inl ⟨by rfl, ?_⟩) (by assumption) ?_
      rotate_left
      · (intro w hSw; (try dsimp only at hSw); go_simp; try with_reducible rfl)
      try simp only [Act.put, List.setIfInBounds_toArray, List.set_cons_zero, List.set_cons_succ]
      refine wpAnyH_take (i := 5) (oi := { dst := some 17, op := Go.Op.load 3 (Go.Operand.tmp 16), type := 3, pos := "l17_grow.go:65", after := #[{ on := 4, ground := Go.Ground.data }], guard := none }) (v := ?_) rfl (by kernel_rfl) (by kernel_rfl) (by kernel_rfl) (fun _ _ _ h => h) (Or.inl ⟨by rfl, ?_⟩) (by assumption) ?_
      rotate_left
      · (intro w hSw; (try dsimp only at hSw); go_simp; try with_reducible rfl)
      try simp only [Act.put, List.setIfInBounds_toArray, List.set_cons_zero, List.set_cons_succ]
      refine wpAnyH_take (i := 6) (oi := { dst := some 18, op := Go.Op.move (Go.Operand.tmp 1), type := 26, pos := "l17_grow.go:65", after := #[], guard := none }) (v := ?_) rfl (by kernel_rfl) (by kernel_rfl) (by kernel_rfl) (fun _ _ _ h => h) (Or.inl ⟨by rfl, ?_⟩) (by assumption) ?_
      rotate_left
      · (intro w hSw; (try dsimp only at hSw); go_simp; try with_reducible rfl)
      try simp only [Act.put, List.setIfInBounds_toArray, List.set_cons_zero, List.set_cons_succ]
      refine wpAnyH_ready (rs := [1, 11]) (by kernel_rfl) (by simp) ?_
      refine (AllReadyH.cons (o := { dst := some 13, op := Go.Op.call { callee := Go.Callee.value (Go.Operand.func 42), args := #[Go.Operand.tmp 12], argTypes := #[25] }, type := 30, pos := "l17_grow.go:65", after := #[{ on := 0, ground := Go.Ground.data }], guard := none }) rfl (fun K1 hK1 => ?_) (AllReadyH.cons (o := { dst := some 5, op := Go.Op.alloc 30, type := 0, pos := "l17_grow.go:65", after := #[], guard := none }) rfl (fun K11 hK11 => ?_) AllReadyH.nil))
      · as_aux_lemma =>
          go_simp
          (first | (refine (HF.out _).mono ?_; rintro e v1 ⟨rfl, hb⟩; have q := DL.call hL.out hb) | (have hL' := DL.dr hL.out; refine (HF.out _).mono ?_; rintro e v1 ⟨rfl, hb⟩; have q := DL.call hL' hb; clear hL')); replace hL := Lib.hid q; clear q hb
          go_wp2_with fail
          refine hK1.out _ _ ?_ (fun hHeld1 => ?_)
          · (try dsimp only); (first | exact DL.cells hL.out | exact DL.cells (DL.dr hL.out))
          clear hK1 K1 hHeld0
          try simp only [Act.put, List.setIfInBounds_toArray, List.set_cons_zero, List.set_cons_succ]
          refine wpAnyH_ready (rs := [7, 11]) (by kernel_rfl) (by simp) ?_
          refine (AllReadyH.cons (o := { dst := some 19, op := Go.Op.call { callee := Go.Callee.value (Go.Operand.func 41), args := #[Go.Operand.tmp 13, Go.Operand.const (Go.Value.int Go.IntKind.i64 0), Go.Operand.const (Go.Value.int Go.IntKind.i64 0), Go.Operand.tmp 15, Go.Operand.tmp 17, Go.Operand.tmp 18, Go.Operand.const (Go.Value.int Go.IntKind.i64 0)], argTypes := #[30, 3, 3, 3, 3, 26, 3] }, type := 66, pos := "l17_grow.go:65", after := #[{ on := 1, ground := Go.Ground.data }, { on := 3, ground := Go.Ground.data }, { on := 5, ground := Go.Ground.data }, { on := 6, ground := Go.Ground.data }, { on := 1, ground := Go.Ground.chain }], guard := none }) rfl (fun K7 hK7 => ?_) (AllReadyH.cons (o := { dst := some 5, op := Go.Op.alloc 30, type := 0, pos := "l17_grow.go:65", after := #[], guard := none }) rfl (fun K11 hK11 => ?_) AllReadyH.nil))
          · as_aux_lemma =>
              go_simp
              (first | (refine (HD.out _ hL.out.ints).mono ?_; rintro e v2 ⟨rfl, hb⟩; have q := DL.call hL.out hb) | (have hL' := DL.dr hL.out; refine (HD.out _ hL'.ints).mono ?_; rintro e v2 ⟨rfl, hb⟩; have q := DL.call hL' hb; clear hL')); replace hL := Lib.hid q; clear q hb
              go_wp2_with fail
              refine hK7.out _ _ ?_ (fun hHeld2 => ?_)
              · (try dsimp only); (first | exact DL.cells hL.out | exact DL.cells (DL.dr hL.out))
              clear hK7 K7 hHeld1
              try simp only [Act.put, List.setIfInBounds_toArray, List.set_cons_zero, List.set_cons_succ]
              refine wpAnyH_take (i := 8) (oi := { dst := some 11, op := Go.Op.move (Go.Operand.tmp 19), type := 66, pos := "l17_grow.go:65", after := #[{ on := 7, ground := Go.Ground.data }], guard := none }) (v := ?_) rfl (by kernel_rfl) (by kernel_rfl) (by kernel_rfl) (fun _ _ _ h => h) (Or.inl ⟨by rfl, ?_⟩) (by assumption) ?_
              rotate_left
              · (intro w hSw; (try dsimp only at hSw); go_simp; try with_reducible rfl)
              try simp only [Act.put, List.setIfInBounds_toArray, List.set_cons_zero, List.set_cons_succ]
              refine wpAnyH_take (i := 9) (oi := { dst := some 20, op := Go.Op.extract (Go.Operand.tmp 11) 0, type := 30, pos := "l17_grow.go:65", after := #[{ on := 8, ground := Go.Ground.data }], guard := none }) (v := ?_) rfl (by kernel_rfl) (by kernel_rfl) (by kernel_rfl) (fun _ _ _ h => h) (Or.inl ⟨by rfl, ?_⟩) (by assumption) ?_
              rotate_left
              · (intro w hSw; (try dsimp only at hSw); go_simp; try with_reducible rfl)
              try simp only [Act.put, List.setIfInBounds_toArray, List.set_cons_zero, List.set_cons_succ]
              refine wpAnyH_take (i := 10) (oi := { dst := some 21, op := Go.Op.extract (Go.Operand.tmp 11) 1, type := 3, pos := "l17_grow.go:65", after := #[{ on := 8, ground := Go.Ground.data }, { on := 12, ground := Go.Ground.gcOnly Go.Departure.lateStores }], guard := none }) (v := ?_) rfl (by kernel_rfl) (by kernel_rfl) (by kernel_rfl) (fun _ _ _ h => h) (Or.inl ⟨by rfl, ?_⟩) (by assumption) ?_
              rotate_left
              · (intro w hSw; (try dsimp only at hSw); go_simp; try with_reducible rfl)
              try simp only [Act.put, List.setIfInBounds_toArray, List.set_cons_zero, List.set_cons_succ]
              refine wpAnyH_ready (rs := [11]) (by kernel_rfl) (by simp) ?_
              refine AllReadyH.cons (o := { dst := some 5, op := Go.Op.alloc 30, type := 0, pos := "l17_grow.go:65", after := #[], guard := none }) rfl (fun K11 hK11 => ?_) AllReadyH.nil
              (first | refine st_mz hL (fun g X hL => ?_) | refine st_mz (Lib.hid (DL.dr hL.out)) (fun g X hL => ?_))
              refine hK11.out _ _ ?_ (fun hHeld3 => ?_)
              · (try dsimp only); (first | exact DL.cells hL.out | exact DL.cells (DL.dr hL.out))
              clear hK11 K11 hHeld2
              try simp only [Act.put, List.setIfInBounds_toArray, List.set_cons_zero, List.set_cons_succ]
              refine wpAnyH_ready (rs := [12]) (by kernel_rfl) (by simp) ?_
              refine AllReadyH.cons (o := { dst := none, op := Go.Op.store 30 (Go.Operand.tmp 5) (Go.Operand.tmp 20), type := 0, pos := "l17_grow.go:65", after := #[{ on := 11, ground := Go.Ground.data }, { on := 9, ground := Go.Ground.data }, { on := 7, ground := Go.Ground.chain }, { on := 0, ground := Go.Ground.phase }, { on := 1, ground := Go.Ground.phase }, { on := 2, ground := Go.Ground.phase }, { on := 3, ground := Go.Ground.phase }, { on := 4, ground := Go.Ground.phase }, { on := 5, ground := Go.Ground.phase }, { on := 6, ground := Go.Ground.phase }, { on := 7, ground := Go.Ground.phase }, { on := 8, ground := Go.Ground.phase }, { on := 9, ground := Go.Ground.phase }, { on := 10, ground := Go.Ground.textOnly Go.Departure.lateStores }, { on := 11, ground := Go.Ground.phase }], guard := none }) rfl (fun K12 hK12 => ?_) AllReadyH.nil
              (first | refine st_put (b0 := x) (b1 := y) (b2 := o2) hL rfl rfl (fun Y hY => ?_) | refine st_put (b0 := x) (b1 := y) (b2 := o2) (Lib.hid (DL.dr hL.out)) rfl rfl (fun Y hY => ?_))
              refine hK12.out _ _ ?_ (fun hHeld4 => ?_)
              · (try dsimp only); exact hY.1.2.1.1
              clear hK12 K12 hHeld3
              try simp only [Act.put]
              refine wpAnyH_take (i := 13) (oi := { dst := some 6, op := Go.Op.assign (Go.Operand.tmp 21), type := 3, pos := "l17_grow.go:65", after := #[{ on := 10, ground := Go.Ground.data }, { on := 12, ground := Go.Ground.chain }, { on := 0, ground := Go.Ground.phase }, { on := 1, ground := Go.Ground.phase }, { on := 2, ground := Go.Ground.phase }, { on := 3, ground := Go.Ground.phase }, { on := 4, ground := Go.Ground.phase }, { on := 5, ground := Go.Ground.phase }, { on := 6, ground := Go.Ground.phase }, { on := 7, ground := Go.Ground.phase }, { on := 8, ground := Go.Ground.phase }, { on := 9, ground := Go.Ground.phase }, { on := 10, ground := Go.Ground.phase }, { on := 11, ground := Go.Ground.phase }, { on := 12, ground := Go.Ground.phase }], guard := none }) (v := ?_) rfl (by kernel_rfl) (by kernel_rfl) (by kernel_rfl) (fun _ _ _ h => h) (Or.inl ⟨by rfl, ?_⟩) (by assumption) ?_
              rotate_left
              · (intro w hSw; (try dsimp only at hSw); go_simp; try with_reducible rfl)
              try simp only [Act.put, List.setIfInBounds_toArray, List.set_cons_zero, List.set_cons_succ]
              refine wpAnyH_done (by kernel_rfl) ?_ _
              (go_wp2_with fail; go_meet; exact ⟨_, rfl, rfl, hY⟩)
          · as_aux_lemma =>
              (first | refine st_mz hL (fun g X hL => ?_) | refine st_mz (Lib.hid (DL.dr hL.out)) (fun g X hL => ?_))
              refine hK11.out _ _ ?_ (fun hHeld2 => ?_)
              · (try dsimp only); (first | exact DL.cells hL.out | exact DL.cells (DL.dr hL.out))
              clear hK11 K11 hHeld1
              try simp only [Act.put, List.setIfInBounds_toArray, List.set_cons_zero, List.set_cons_succ]
              refine wpAnyH_ready (rs := [7]) (by kernel_rfl) (by simp) ?_
              refine AllReadyH.cons (o := { dst := some 19, op := Go.Op.call { callee := Go.Callee.value (Go.Operand.func 41), args := #[Go.Operand.tmp 13, Go.Operand.const (Go.Value.int Go.IntKind.i64 0), Go.Operand.const (Go.Value.int Go.IntKind.i64 0), Go.Operand.tmp 15, Go.Operand.tmp 17, Go.Operand.tmp 18, Go.Operand.const (Go.Value.int Go.IntKind.i64 0)], argTypes := #[30, 3, 3, 3, 3, 26, 3] }, type := 66, pos := "l17_grow.go:65", after := #[{ on := 1, ground := Go.Ground.data }, { on := 3, ground := Go.Ground.data }, { on := 5, ground := Go.Ground.data }, { on := 6, ground := Go.Ground.data }, { on := 1, ground := Go.Ground.chain }], guard := none }) rfl (fun K7 hK7 => ?_) AllReadyH.nil
              go_simp
              (first | (refine (HD.out _ hL.out.ints).mono ?_; rintro e v2 ⟨rfl, hb⟩; have q := DL.call hL.out hb) | (have hL' := DL.dr hL.out; refine (HD.out _ hL'.ints).mono ?_; rintro e v2 ⟨rfl, hb⟩; have q := DL.call hL' hb; clear hL')); replace hL := Lib.hid q; clear q hb
              go_wp2_with fail
              refine hK7.out _ _ ?_ (fun hHeld3 => ?_)
              · (try dsimp only); (first | exact DL.cells hL.out | exact DL.cells (DL.dr hL.out))
              clear hK7 K7 hHeld2
              try simp only [Act.put, List.setIfInBounds_toArray, List.set_cons_zero, List.set_cons_succ]
              refine wpAnyH_take (i := 8) (oi := { dst := some 11, op := Go.Op.move (Go.Operand.tmp 19), type := 66, pos := "l17_grow.go:65", after := #[{ on := 7, ground := Go.Ground.data }], guard := none }) (v := ?_) rfl (by kernel_rfl) (by kernel_rfl) (by kernel_rfl) (fun _ _ _ h => h) (Or.inl ⟨by rfl, ?_⟩) (by assumption) ?_
              rotate_left
              · (intro w hSw; (try dsimp only at hSw); go_simp; try with_reducible rfl)
              try simp only [Act.put, List.setIfInBounds_toArray, List.set_cons_zero, List.set_cons_succ]
              refine wpAnyH_take (i := 9) (oi := { dst := some 20, op := Go.Op.extract (Go.Operand.tmp 11) 0, type := 30, pos := "l17_grow.go:65", after := #[{ on := 8, ground := Go.Ground.data }], guard := none }) (v := ?_) rfl (by kernel_rfl) (by kernel_rfl) (by kernel_rfl) (fun _ _ _ h => h) (Or.inl ⟨by rfl, ?_⟩) (by assumption) ?_
              rotate_left
              · (intro w hSw; (try dsimp only at hSw); go_simp; try with_reducible rfl)
              try simp only [Act.put, List.setIfInBounds_toArray, List.set_cons_zero, List.set_cons_succ]
              refine wpAnyH_take (i := 10) (oi := { dst := some 21, op := Go.Op.extract (Go.Operand.tmp 11) 1, type := 3, pos := "l17_grow.go:65", after := #[{ on := 8, ground := Go.Ground.data }, { on := 12, ground := Go.Ground.gcOnly Go.Departure.lateStores }], guard := none }) (v := ?_) rfl (by kernel_rfl) (by kernel_rfl) (by kernel_rfl) (fun _ _ _ h => h) (Or.inl ⟨by rfl, ?_⟩) (by assumption) ?_
              rotate_left
              · (intro w hSw; (try dsimp only at hSw); go_simp; try with_reducible rfl)
              try simp only [Act.put, List.setIfInBounds_toArray, List.set_cons_zero, List.set_cons_succ]
              refine wpAnyH_ready (rs := [12]) (by kernel_rfl) (by simp) ?_
              refine AllReadyH.cons (o := { dst := none, op := Go.Op.store 30 (Go.Operand.tmp 5) (Go.Operand.tmp 20), type := 0, pos := "l17_grow.go:65", after := #[{ on := 11, ground := Go.Ground.data }, { on := 9, ground := Go.Ground.data }, { on := 7, ground := Go.Ground.chain }, { on := 0, ground := Go.Ground.phase }, { on := 1, ground := Go.Ground.phase }, { on := 2, ground := Go.Ground.phase }, { on := 3, ground := Go.Ground.phase }, { on := 4, ground := Go.Ground.phase }, { on := 5, ground := Go.Ground.phase }, { on := 6, ground := Go.Ground.phase }, { on := 7, ground := Go.Ground.phase }, { on := 8, ground := Go.Ground.phase }, { on := 9, ground := Go.Ground.phase }, { on := 10, ground := Go.Ground.textOnly Go.Departure.lateStores }, { on := 11, ground := Go.Ground.phase }], guard := none }) rfl (fun K12 hK12 => ?_) AllReadyH.nil
              (first | refine st_put (b0 := x) (b1 := y) (b2 := o2) hL rfl rfl (fun Y hY => ?_) | refine st_put (b0 := x) (b1 := y) (b2 := o2) (Lib.hid (DL.dr hL.out)) rfl rfl (fun Y hY => ?_))
              refine hK12.out _ _ ?_ (fun hHeld4 => ?_)
              · (try dsimp only); exact hY.1.2.1.1
              clear hK12 K12 hHeld3
              try simp only [Act.put]
              refine wpAnyH_take (i := 13) (oi := { dst := some 6, op := Go.Op.assign (Go.Operand.tmp 21), type := 3, pos := "l17_grow.go:65", after := #[{ on := 10, ground := Go.Ground.data }, { on := 12, ground := Go.Ground.chain }, { on := 0, ground := Go.Ground.phase }, { on := 1, ground := Go.Ground.phase }, { on := 2, ground := Go.Ground.phase }, { on := 3, ground := Go.Ground.phase }, { on := 4, ground := Go.Ground.phase }, { on := 5, ground := Go.Ground.phase }, { on := 6, ground := Go.Ground.phase }, { on := 7, ground := Go.Ground.phase }, { on := 8, ground := Go.Ground.phase }, { on := 9, ground := Go.Ground.phase }, { on := 10, ground := Go.Ground.phase }, { on := 11, ground := Go.Ground.phase }, { on := 12, ground := Go.Ground.phase }], guard := none }) (v := ?_) rfl (by kernel_rfl) (by kernel_rfl) (by kernel_rfl) (fun _ _ _ h => h) (Or.inl ⟨by rfl, ?_⟩) (by assumption) ?_
              rotate_left
              · (intro w hSw; (try dsimp only at hSw); go_simp; try with_reducible rfl)
              try simp only [Act.put, List.setIfInBounds_toArray, List.set_cons_zero, List.set_cons_succ]
              refine wpAnyH_done (by kernel_rfl) ?_ _
              (go_wp2_with fail; go_meet; exact ⟨_, rfl, rfl, hY⟩)
      · as_aux_lemma =>
          (first | refine st_mz hL (fun g X hL => ?_) | refine st_mz (Lib.hid (DL.dr hL.out)) (fun g X hL => ?_))
          refine hK11.out _ _ ?_ (fun hHeld1 => ?_)
          · (try dsimp only); (first | exact DL.cells hL.out | exact DL.cells (DL.dr hL.out))
          clear hK11 K11 hHeld0
          try simp only [Act.put, List.setIfInBounds_toArray, List.set_cons_zero, List.set_cons_succ]
          refine wpAnyH_ready (rs := [1]) (by kernel_rfl) (by simp) ?_
          refine AllReadyH.cons (o := { dst := some 13, op := Go.Op.call { callee := Go.Callee.value (Go.Operand.func 42), args := #[Go.Operand.tmp 12], argTypes := #[25] }, type := 30, pos := "l17_grow.go:65", after := #[{ on := 0, ground := Go.Ground.data }], guard := none }) rfl (fun K1 hK1 => ?_) AllReadyH.nil
          go_simp
          (first | (refine (HF.out _).mono ?_; rintro e v1 ⟨rfl, hb⟩; have q := DL.call hL.out hb) | (have hL' := DL.dr hL.out; refine (HF.out _).mono ?_; rintro e v1 ⟨rfl, hb⟩; have q := DL.call hL' hb; clear hL')); replace hL := Lib.hid q; clear q hb
          go_wp2_with fail
          refine hK1.out _ _ ?_ (fun hHeld2 => ?_)
          · (try dsimp only); (first | exact DL.cells hL.out | exact DL.cells (DL.dr hL.out))
          clear hK1 K1 hHeld1
          try simp only [Act.put, List.setIfInBounds_toArray, List.set_cons_zero, List.set_cons_succ]
          refine wpAnyH_ready (rs := [7]) (by kernel_rfl) (by simp) ?_
          refine AllReadyH.cons (o := { dst := some 19, op := Go.Op.call { callee := Go.Callee.value (Go.Operand.func 41), args := #[Go.Operand.tmp 13, Go.Operand.const (Go.Value.int Go.IntKind.i64 0), Go.Operand.const (Go.Value.int Go.IntKind.i64 0), Go.Operand.tmp 15, Go.Operand.tmp 17, Go.Operand.tmp 18, Go.Operand.const (Go.Value.int Go.IntKind.i64 0)], argTypes := #[30, 3, 3, 3, 3, 26, 3] }, type := 66, pos := "l17_grow.go:65", after := #[{ on := 1, ground := Go.Ground.data }, { on := 3, ground := Go.Ground.data }, { on := 5, ground := Go.Ground.data }, { on := 6, ground := Go.Ground.data }, { on := 1, ground := Go.Ground.chain }], guard := none }) rfl (fun K7 hK7 => ?_) AllReadyH.nil
          go_simp
          (first | (refine (HD.out _ hL.out.ints).mono ?_; rintro e v2 ⟨rfl, hb⟩; have q := DL.call hL.out hb) | (have hL' := DL.dr hL.out; refine (HD.out _ hL'.ints).mono ?_; rintro e v2 ⟨rfl, hb⟩; have q := DL.call hL' hb; clear hL')); replace hL := Lib.hid q; clear q hb
          go_wp2_with fail
          refine hK7.out _ _ ?_ (fun hHeld3 => ?_)
          · (try dsimp only); (first | exact DL.cells hL.out | exact DL.cells (DL.dr hL.out))
          clear hK7 K7 hHeld2
          try simp only [Act.put, List.setIfInBounds_toArray, List.set_cons_zero, List.set_cons_succ]
          refine wpAnyH_take (i := 8) (oi := { dst := some 11, op := Go.Op.move (Go.Operand.tmp 19), type := 66, pos := "l17_grow.go:65", after := #[{ on := 7, ground := Go.Ground.data }], guard := none }) (v := ?_) rfl (by kernel_rfl) (by kernel_rfl) (by kernel_rfl) (fun _ _ _ h => h) (Or.inl ⟨by rfl, ?_⟩) (by assumption) ?_
          rotate_left
          · (intro w hSw; (try dsimp only at hSw); go_simp; try with_reducible rfl)
          try simp only [Act.put, List.setIfInBounds_toArray, List.set_cons_zero, List.set_cons_succ]
          refine wpAnyH_take (i := 9) (oi := { dst := some 20, op := Go.Op.extract (Go.Operand.tmp 11) 0, type := 30, pos := "l17_grow.go:65", after := #[{ on := 8, ground := Go.Ground.data }], guard := none }) (v := ?_) rfl (by kernel_rfl) (by kernel_rfl) (by kernel_rfl) (fun _ _ _ h => h) (Or.inl ⟨by rfl, ?_⟩) (by assumption) ?_
          rotate_left
          · (intro w hSw; (try dsimp only at hSw); go_simp; try with_reducible rfl)
          try simp only [Act.put, List.setIfInBounds_toArray, List.set_cons_zero, List.set_cons_succ]
          refine wpAnyH_take (i := 10) (oi := { dst := some 21, op := Go.Op.extract (Go.Operand.tmp 11) 1, type := 3, pos := "l17_grow.go:65", after := #[{ on := 8, ground := Go.Ground.data }, { on := 12, ground := Go.Ground.gcOnly Go.Departure.lateStores }], guard := none }) (v := ?_) rfl (by kernel_rfl) (by kernel_rfl) (by kernel_rfl) (fun _ _ _ h => h) (Or.inl ⟨by rfl, ?_⟩) (by assumption) ?_
          rotate_left
          · (intro w hSw; (try dsimp only at hSw); go_simp; try with_reducible rfl)
          try simp only [Act.put, List.setIfInBounds_toArray, List.set_cons_zero, List.set_cons_succ]
          refine wpAnyH_ready (rs := [12]) (by kernel_rfl) (by simp) ?_
          refine AllReadyH.cons (o := { dst := none, op := Go.Op.store 30 (Go.Operand.tmp 5) (Go.Operand.tmp 20), type := 0, pos := "l17_grow.go:65", after := #[{ on := 11, ground := Go.Ground.data }, { on := 9, ground := Go.Ground.data }, { on := 7, ground := Go.Ground.chain }, { on := 0, ground := Go.Ground.phase }, { on := 1, ground := Go.Ground.phase }, { on := 2, ground := Go.Ground.phase }, { on := 3, ground := Go.Ground.phase }, { on := 4, ground := Go.Ground.phase }, { on := 5, ground := Go.Ground.phase }, { on := 6, ground := Go.Ground.phase }, { on := 7, ground := Go.Ground.phase }, { on := 8, ground := Go.Ground.phase }, { on := 9, ground := Go.Ground.phase }, { on := 10, ground := Go.Ground.textOnly Go.Departure.lateStores }, { on := 11, ground := Go.Ground.phase }], guard := none }) rfl (fun K12 hK12 => ?_) AllReadyH.nil
          (first | refine st_put (b0 := x) (b1 := y) (b2 := o2) hL rfl rfl (fun Y hY => ?_) | refine st_put (b0 := x) (b1 := y) (b2 := o2) (Lib.hid (DL.dr hL.out)) rfl rfl (fun Y hY => ?_))
          refine hK12.out _ _ ?_ (fun hHeld4 => ?_)
          · (try dsimp only); exact hY.1.2.1.1
          clear hK12 K12 hHeld3
          try simp only [Act.put]
          refine wpAnyH_take (i := 13) (oi := { dst := some 6, op := Go.Op.assign (Go.Operand.tmp 21), type := 3, pos := "l17_grow.go:65", after := #[{ on := 10, ground := Go.Ground.data }, { on := 12, ground := Go.Ground.chain }, { on := 0, ground := Go.Ground.phase }, { on := 1, ground := Go.Ground.phase }, { on := 2, ground := Go.Ground.phase }, { on := 3, ground := Go.Ground.phase }, { on := 4, ground := Go.Ground.phase }, { on := 5, ground := Go.Ground.phase }, { on := 6, ground := Go.Ground.phase }, { on := 7, ground := Go.Ground.phase }, { on := 8, ground := Go.Ground.phase }, { on := 9, ground := Go.Ground.phase }, { on := 10, ground := Go.Ground.phase }, { on := 11, ground := Go.Ground.phase }, { on := 12, ground := Go.Ground.phase }], guard := none }) (v := ?_) rfl (by kernel_rfl) (by kernel_rfl) (by kernel_rfl) (fun _ _ _ h => h) (Or.inl ⟨by rfl, ?_⟩) (by assumption) ?_
          rotate_left
          · (intro w hSw; (try dsimp only at hSw); go_simp; try with_reducible rfl)
          try simp only [Act.put, List.setIfInBounds_toArray, List.set_cons_zero, List.set_cons_succ]
          refine wpAnyH_done (by kernel_rfl) ?_ _
          (go_wp2_with fail; go_meet; exact ⟨_, rfl, rfl, hY⟩)
    case rest =>
    obtain ⟨P, rfl, rfl, hgw, hr⟩ := hcut
    have HGW := Lib.hid hgw
    obtain ⟨⟨m0, m1, m2⟩, -⟩ := row3_cells hr
    obtain ⟨⟨e0, e1, e2⟩, f0, f1, f2⟩ := row3_cells hgw.2.2.1
    clear hgw hr
    go_wp2_with fail
    refine ret_set3 e0 e1 e2 fun Y g0 g1 g2 hY => ?_
    refine bodyPost_ret (v := .agg #[.int .i64 x, .int .i64 y, .int .i64 o2]) (by simp [results, Try.results18, go_sem, g0, g1, g2]) rfl ?_
    subst hY
    exact ⟨rfl, HGW.out.ending _ _ _⟩
  · have HG : Hid (∀ X, Calls Try.prog 34 #[.agg #[.int .i64 x, .int .i64 y]] X (Bl false X)) := Lib.hid fun X => gridS.gridOk_no x y X hk
    have HE : Hid (Mz 0 0 0 W = Mz (fmX x y) (fmY x y) (dmO x y cs) W) := Lib.hid (by
      unfold dmO fmX fmY; rw [if_neg hk, if_neg hk, if_neg hk])
    rw [← HE.out]
    clear hk HE hi hn
    go_enter Try.func18, Try.ntmps18
    go_wp2_with fail
    have hgw0 := Lib.hid (HW.out 25 30)
    refine (HG.out _).mono ?_
    rintro e w1 ⟨rfl, hb⟩
    have hgw1 := Lib.hid (hgw0.out.call hb)
    clear hb HW hgw0 HG
    obtain ⟨⟨e0, e1, e2⟩, f0, f1, f2⟩ := row3_cells hgw1.out.2.2.1
    go_wp2_with fail
    refine bodyPost_ret (v := .agg #[.int .i64 0, .int .i64 0, .int .i64 0]) (by simp [results, Try.results18, go_sem, e0, e1, e2]) rfl ?_
    exact ⟨rfl, hgw1.out.ending _ _ _⟩
end Go.Proofs.Ythakbjdkcdppjaa.grwD
