/- The contract of the model's count of rooms. -/
import Derived.Test.YthakbjdkcdppjaaGrwN
import Derived.Deep.CutRange
namespace Go.Proofs.Ythakbjdkcdppjaa.grwC
open Go.ChangeShapes Go.WideShapes Go.ChangeAt Go.RowKit
open draw gridP gridC gridE bitP mazeP mazeC mazeM mazeR mazeS intsP boolP reachP reachM reachN reachD forest intA listK wayP ersP ersO entO grwP grwQ grwO grwM grwN
set_option linter.unusedVariables false

/-- The box; the variable that is made. -/
def CL (W : World) (x y : Int) (oP : Option Nat) (X : World) : Prop :=
  Below W.heap.size W X ∧ Box W.heap.size x y X ∧ ∀ P, oP = some P → Row3 P 0 0 0 X ∧ W.heap.size < P
section
variable {W X X' : World} {x y : Int} {oP : Option Nat} {P : Nat}
theorem CL.call (h : CL W x y oP X) (hb : Below X.heap.size X X') : CL W x y oP X' := ⟨below_call h.1 hb, h.2.1.call hb, fun P e => ⟨(h.2.2 P e).1.call hb, (h.2.2 P e).2⟩⟩
theorem CL.dr (h : CL W x y oP X) : CL W x y oP X.drew := h.call ⟨rfl, rfl, rfl, Nat.le_refl _, fun _ _ => rfl⟩
theorem CL.cells (h : CL W x y oP X) : X.cell? ⟨W.heap.size, 0, none⟩ = some (.int .i64 x) ∧ X.cell? ⟨W.heap.size, 1, none⟩ = some (.int .i64 y) := h.2.1.1
theorem CL.zero (h : CL W x y none X) (T : TypeId) : CL W x y (some X.heap.size) (X.alloc (.cells #[.int .i64 0, .int .i64 0, .int .i64 0] T)) := by
  obtain ⟨h1, h2, -⟩ := h.call (below_box X (.cells #[.int .i64 0, .int .i64 0, .int .i64 0] T))
  refine ⟨h1, h2, fun P e => ?_⟩
  cases e
  exact ⟨row3_new 0 0 0 X T, h.2.1.2⟩
theorem CL.put (h : CL W x y (some P) X) (a b c : Int) : Below W.heap.size W (((X.setCell ⟨P, 0, none⟩ (.int .i64 a)).setCell ⟨P, 1, none⟩ (.int .i64 b)).setCell ⟨P, 2, none⟩ (.int .i64 c)) ∧
    Box W.heap.size x y (((X.setCell ⟨P, 0, none⟩ (.int .i64 a)).setCell ⟨P, 1, none⟩ (.int .i64 b)).setCell ⟨P, 2, none⟩ (.int .i64 c)) := by
  obtain ⟨h1, h2, h5⟩ := h
  obtain ⟨g1, g2⟩ := h5 P rfl
  exact ⟨((h1.setCell (by simp; omega) _).setCell (by simp; omega) _).setCell (by simp; omega) _, box_far (box_far (box_far h2 (by simp; omega) _) (by simp; omega) _) (by simp; omega) _⟩
theorem cl_new (x y : Int) (W : World) (T : TypeId) : CL W x y none (W.alloc (.cells #[.int .i64 x, .int .i64 y] T)) := ⟨below_box _ _, box_new x y W T, fun _ e => (by cases e)⟩

theorem st_mz {ops : Array Oper} {a : Act} {w : World} {K : Act → World → Prop} {Q : Exit → Act → World → Prop} {E : Prop} {d : Tmp} {t : TypeId} {p : String} {af : Array Edge} (hL : Hid (CL W x y none w))
    (hK : ∀ g X, Hid (CL W x y (some g) X) → K (a.put (some d) (.pointer (some ⟨g, 0, none⟩))) X) :
    if Region.wanted { dst := some d, op := Op.alloc 30, type := t, pos := p, after := af, guard := none } (yielded ops a.tmps) = true then Oper.wp Try.prog { dst := some d, op := Op.alloc 30, type := t, pos := p, after := af, guard := none } a w K Q else E := by
  have q := hK _ _ (Lib.hid (CL.zero hL.out 30))
  go_simp
  exact q
theorem st_put {ops : Array Oper} {a : Act} {w : World} {K : Act → World → Prop} {Q : Exit → Act → World → Prop} {E : Prop} {t : TypeId} {p : String} {af : Array Edge} {i j : Nat} {b0 b1 b2 : Int} (hL : Hid (CL W x y (some P) w))
    (hi : a.eval (.tmp i) = .pointer (some ⟨P, 0, none⟩)) (hj : a.eval (.tmp j) = .agg #[.int .i64 b0, .int .i64 b1, .int .i64 b2])
    (hK : ∀ Y, Below W.heap.size W Y ∧ Box W.heap.size x y Y → K a Y) :
    if Region.wanted { dst := none, op := Op.store 30 (.tmp i) (.tmp j), type := t, pos := p, after := af, guard := none } (yielded ops a.tmps) = true then Oper.wp Try.prog { dst := none, op := Op.store 30 (.tmp i) (.tmp j), type := t, pos := p, after := af, guard := none } a w K Q else E := by
  have q := hK _ (CL.put hL.out b0 b1 b2)
  obtain ⟨⟨y0, y1, y2⟩, f0, f1, f2⟩ := row3_cells (hL.out.2.2 P rfl).1
  simp [Act.eval] at hi hj
  go_simp
  exact q
theorem st_sl {ops : Array Oper} {a : Act} {w : World} {K : Act → World → Prop} {Q : Exit → Act → World → Prop} {E : Prop} {d : Tmp} {t : TypeId} {p : String} {af : Array Edge} (hL : Hid (CL W x y oP w))
    (hK : ∀ g X, Hid (CL W x y oP X) → K (a.put (some d) (.slice (some ⟨g, 0, none⟩) 0 0)) X) :
    if Region.wanted { dst := some d, op := Op.buildSlice 26 0 #[], type := t, pos := p, after := af, guard := none } (yielded ops a.tmps) = true then Oper.wp Try.prog { dst := some d, op := Op.buildSlice 26 0 #[], type := t, pos := p, after := af, guard := none } a w K Q else E := by
  have q := hK w.heap.size _ (Lib.hid (CL.call hL.out (below_box w (.cells #[] 3))))
  go_simp
  exact q
end

set_option maxRecDepth 100000 in
set_option maxHeartbeats 2000000 in
theorem countRooms_any (x y : Int) (W : World) :
    Calls Try.prog 19 #[.agg #[.int .i64 x, .int .i64 y]] W (Nm (crZ x y) W) := by
  have HW := Lib.hid (fun T => cl_new x y W T)
  by_cases hk : 1 ≤ x ∧ x ≤ 4 ∧ 1 ≤ y ∧ y ≤ 4
  · have HG : Hid (∀ X, Calls Try.prog 34 #[.agg #[.int .i64 x, .int .i64 y]] X (Bl true X)) := Lib.hid fun X => gridS.gridOk_yes x y X hk.1 hk.2.1 hk.2.2.1 hk.2.2.2
    have HF : Hid (∀ X, Calls Try.prog 42 #[.agg #[.int .i64 x, .int .i64 y]] X (Mz x y (topZ x y) X)) := Lib.hid fun X => by
      have := mazeS.fullMaze_any x y X
      unfold fmX fmY fmO at this
      rwa [if_pos hk, if_pos hk, if_pos hk] at this
    have hxy : x.toNat * y.toNat ≤ 4 * 4 := Nat.mul_le_mul (by omega) (by omega)
    have HD : Hid (∀ g X, Calls Try.prog 41 #[.agg #[.int .i64 x, .int .i64 y, .int .i64 (topZ x y)], .int .i64 0, .int .i64 0, .int .i64 x, .int .i64 y, .slice (some ⟨g, 0, none⟩) 0 0, .int .i64 0] X (MzI x y (dmS x y []) X)) := Lib.hid fun g X =>
      divide_any x y hk (some ⟨g, 0, none⟩) 0 0 [] rfl (by omega) 8 (topZ x y) 0 0 0 x.toNat y.toNat 0 0 x y 0 X rfl rfl (by omega) (by omega) rfl (fun hne => absurd rfl hne) (by omega) (by omega) (by omega) (by omega) (by omega) (by omega)
    have hus := dv_used (x := x) (y := y) (cs := []) 8 (topZ x y) 0 0 0 x.toNat y.toNat (by omega) (by omega)
    have HE : Hid (((dmS x y []).2 / 2 : Nat) = crZ x y) := Lib.hid (by unfold crZ; rw [if_pos hk])
    rw [← HE.out]
    change (dmS x y []).2 + 2 ≤ _ at hus
    have hk2 : (dmS x y []).2 ≤ 40 := by omega
    clear HE hus hxy hk
    generalize dmS x y [] = s at *
    obtain ⟨o2, k2⟩ := s
    simp only at hk2 ⊢
    have hq : (k2 : Int).tdiv 2 = ((k2 / 2 : Nat) : Int) := by simp
    have hq1 : IntKind.i64.wrap ((k2 : Int).tdiv 2) = ((k2 / 2 : Nat) : Int) := by rw [hq]; exact IntWalk.i64_in _ (by omega)
    have hq2 : IntKind.i64.wrap ((k2 : Int) / 2) = ((k2 / 2 : Nat) : Int) := by rw [IntWalk.i64_in _ (by omega)]; omega
    have hh2 : k2 / 2 ≤ 40 := by omega
    generalize k2 / 2 = h2 at *
    generalize topZ x y = tp at *
    go_enter Try.func19, Try.ntmps19
    go_wp2_with fail
    have hcl0 := Lib.hid (HW.out 25)
    refine (HG.out _).mono ?_
    rintro e w1 ⟨rfl, hb⟩
    have hcl1 := Lib.hid (hcl0.out.call hb)
    clear hb HW hcl0 HG
    go_wp2_with fail
    go_cut [3, 4] from 8 to 18 (fun u3 u4 wx => ∃ P : Nat, u3 = .pointer (some ⟨P, 0, none⟩) ∧ u4 = .int .i64 (k2 : Int) ∧ Below W.heap.size W wx)
    case first =>
      have hL := Lib.hid hcl1.out
      clear hcl1
      try simp only [List.cons_append, List.nil_append, List.append_eq]
      refine wp_region_held_drew (S := (fun w' => w'.cell? ⟨W.heap.size, 0, none⟩ = some (.int .i64 x) ∧ w'.cell? ⟨W.heap.size, 1, none⟩ = some (.int .i64 y))) (by kernel_rfl) ?_ (fun hHeld0 => ?_)
      · (try dsimp only); (first | exact CL.cells hL.out | exact CL.cells (CL.dr hL.out))
      refine wpAnyH_take (i := 0) (oi := { dst := some 9, op := Go.Op.load 25 (Go.Operand.tmp 1), type := 25, pos := "l17_grow.go:73", after := #[], guard := none }) (v := ?_) rfl (by kernel_rfl) (by kernel_rfl) (by kernel_rfl) (fun _ _ _ h => h) (Or.inl ⟨by rfl, ?_⟩) (by assumption) ?_
      rotate_left
      · (intro w hSw; (try dsimp only at hSw); go_simp; try with_reducible rfl)
      try simp only [Act.put, List.setIfInBounds_toArray, List.set_cons_zero, List.set_cons_succ]
      refine wpAnyH_take (i := 2) (oi := { dst := some 11, op := Go.Op.fieldAddr 25 (Go.Operand.tmp 1) 0, type := 0, pos := "l17_grow.go:73", after := #[], guard := none }) (v := ?_) rfl (by kernel_rfl) (by kernel_rfl) (by kernel_rfl) (fun _ _ _ h => h) (Or.inl ⟨by rfl, ?_⟩) (by assumption) ?_
      rotate_left
      · (intro w hSw; (try dsimp only at hSw); go_simp; try with_reducible rfl)
      try simp only [Act.put, List.setIfInBounds_toArray, List.set_cons_zero, List.set_cons_succ]
      refine wpAnyH_take (i := 3) (oi := { dst := some 12, op := Go.Op.load 3 (Go.Operand.tmp 11), type := 3, pos := "l17_grow.go:73", after := #[{ on := 2, ground := Go.Ground.data }], guard := none }) (v := ?_) rfl (by kernel_rfl) (by kernel_rfl) (by kernel_rfl) (fun _ _ _ h => h) (Or.inl ⟨by rfl, ?_⟩) (by assumption) ?_
      rotate_left
      · (intro w hSw; (try dsimp only at hSw); go_simp; try with_reducible rfl)
      try simp only [Act.put, List.setIfInBounds_toArray, List.set_cons_zero, List.set_cons_succ]
      refine wpAnyH_take (i := 4) (oi := { dst := some 13, op := Go.Op.fieldAddr 25 (Go.Operand.tmp 1) 1, type := 0, pos := "l17_grow.go:73", after := #[], guard := none }) (v := ?_) rfl (by kernel_rfl) (by kernel_rfl) (by kernel_rfl) (fun _ _ _ h => h) (Or.inl ⟨by rfl, ?_⟩) (by assumption) ?_
      rotate_left
      · (intro w hSw; (try dsimp only at hSw); go_simp; try with_reducible rfl)
      try simp only [Act.put, List.setIfInBounds_toArray, List.set_cons_zero, List.set_cons_succ]
      refine wpAnyH_take (i := 5) (oi := { dst := some 14, op := Go.Op.load 3 (Go.Operand.tmp 13), type := 3, pos := "l17_grow.go:73", after := #[{ on := 4, ground := Go.Ground.data }], guard := none }) (v := ?_) rfl (by kernel_rfl) (by kernel_rfl) (by kernel_rfl) (fun _ _ _ h => h) (Or.inl ⟨by rfl, ?_⟩) (by assumption) ?_
      rotate_left
      · (intro w hSw; (try dsimp only at hSw); go_simp; try with_reducible rfl)
      try simp only [Act.put, List.setIfInBounds_toArray, List.set_cons_zero, List.set_cons_succ]
      refine wpAnyH_ready (rs := [1, 6, 11]) (by kernel_rfl) (by simp) ?_
      refine (AllReadyH.cons (o := { dst := some 10, op := Go.Op.call { callee := Go.Callee.value (Go.Operand.func 42), args := #[Go.Operand.tmp 9], argTypes := #[25] }, type := 30, pos := "l17_grow.go:73", after := #[{ on := 0, ground := Go.Ground.data }], guard := none }) rfl (fun K1 hK1 => ?_) (AllReadyH.cons (o := { dst := some 15, op := Go.Op.buildSlice 26 0 #[], type := 26, pos := "l17_grow.go:73", after := #[], guard := none }) rfl (fun K6 hK6 => ?_) (AllReadyH.cons (o := { dst := some 3, op := Go.Op.alloc 30, type := 0, pos := "l17_grow.go:73", after := #[], guard := none }) rfl (fun K11 hK11 => ?_) AllReadyH.nil)))
      · as_aux_lemma =>
          go_simp
          (first | (refine (HF.out _).mono ?_; rintro e v1 ⟨rfl, hb⟩; have q := CL.call hL.out hb) | (have hL' := CL.dr hL.out; refine (HF.out _).mono ?_; rintro e v1 ⟨rfl, hb⟩; have q := CL.call hL' hb; clear hL')); replace hL := Lib.hid q; clear q hb
          go_wp2_with fail
          refine hK1.out _ _ ?_ (fun hHeld1 => ?_)
          · (try dsimp only); (first | exact CL.cells hL.out | exact CL.cells (CL.dr hL.out))
          clear hK1 K1 hHeld0
          try simp only [Act.put, List.setIfInBounds_toArray, List.set_cons_zero, List.set_cons_succ]
          refine wpAnyH_ready (rs := [6, 11]) (by kernel_rfl) (by simp) ?_
          refine (AllReadyH.cons (o := { dst := some 15, op := Go.Op.buildSlice 26 0 #[], type := 26, pos := "l17_grow.go:73", after := #[], guard := none }) rfl (fun K6 hK6 => ?_) (AllReadyH.cons (o := { dst := some 3, op := Go.Op.alloc 30, type := 0, pos := "l17_grow.go:73", after := #[], guard := none }) rfl (fun K11 hK11 => ?_) AllReadyH.nil))
          · as_aux_lemma =>
              (first | refine st_sl hL (fun g X hL => ?_) | refine st_sl (Lib.hid (CL.dr hL.out)) (fun g X hL => ?_))
              refine hK6.out _ _ ?_ (fun hHeld2 => ?_)
              · (try dsimp only); (first | exact CL.cells hL.out | exact CL.cells (CL.dr hL.out))
              clear hK6 K6 hHeld1
              try simp only [Act.put, List.setIfInBounds_toArray, List.set_cons_zero, List.set_cons_succ]
              refine wpAnyH_ready (rs := [7, 11]) (by kernel_rfl) (by simp) ?_
              refine (AllReadyH.cons (o := { dst := some 16, op := Go.Op.call { callee := Go.Callee.value (Go.Operand.func 41), args := #[Go.Operand.tmp 10, Go.Operand.const (Go.Value.int Go.IntKind.i64 0), Go.Operand.const (Go.Value.int Go.IntKind.i64 0), Go.Operand.tmp 12, Go.Operand.tmp 14, Go.Operand.tmp 15, Go.Operand.const (Go.Value.int Go.IntKind.i64 0)], argTypes := #[30, 3, 3, 3, 3, 26, 3] }, type := 66, pos := "l17_grow.go:73", after := #[{ on := 1, ground := Go.Ground.data }, { on := 3, ground := Go.Ground.data }, { on := 5, ground := Go.Ground.data }, { on := 6, ground := Go.Ground.data }, { on := 1, ground := Go.Ground.chain }], guard := none }) rfl (fun K7 hK7 => ?_) (AllReadyH.cons (o := { dst := some 3, op := Go.Op.alloc 30, type := 0, pos := "l17_grow.go:73", after := #[], guard := none }) rfl (fun K11 hK11 => ?_) AllReadyH.nil))
              · as_aux_lemma =>
                  go_simp
                  (first | (refine (HD.out _ _).mono ?_; rintro e v2 ⟨rfl, hb⟩; have q := CL.call hL.out hb) | (have hL' := CL.dr hL.out; refine (HD.out _ _).mono ?_; rintro e v2 ⟨rfl, hb⟩; have q := CL.call hL' hb; clear hL')); replace hL := Lib.hid q; clear q hb
                  go_wp2_with fail
                  refine hK7.out _ _ ?_ (fun hHeld3 => ?_)
                  · (try dsimp only); (first | exact CL.cells hL.out | exact CL.cells (CL.dr hL.out))
                  clear hK7 K7 hHeld2
                  try simp only [Act.put, List.setIfInBounds_toArray, List.set_cons_zero, List.set_cons_succ]
                  refine wpAnyH_take (i := 8) (oi := { dst := some 8, op := Go.Op.move (Go.Operand.tmp 16), type := 66, pos := "l17_grow.go:73", after := #[{ on := 7, ground := Go.Ground.data }], guard := none }) (v := ?_) rfl (by kernel_rfl) (by kernel_rfl) (by kernel_rfl) (fun _ _ _ h => h) (Or.inl ⟨by rfl, ?_⟩) (by assumption) ?_
                  rotate_left
                  · (intro w hSw; (try dsimp only at hSw); go_simp; try with_reducible rfl)
                  try simp only [Act.put, List.setIfInBounds_toArray, List.set_cons_zero, List.set_cons_succ]
                  refine wpAnyH_take (i := 9) (oi := { dst := some 17, op := Go.Op.extract (Go.Operand.tmp 8) 0, type := 30, pos := "l17_grow.go:73", after := #[{ on := 8, ground := Go.Ground.data }], guard := none }) (v := ?_) rfl (by kernel_rfl) (by kernel_rfl) (by kernel_rfl) (fun _ _ _ h => h) (Or.inl ⟨by rfl, ?_⟩) (by assumption) ?_
                  rotate_left
                  · (intro w hSw; (try dsimp only at hSw); go_simp; try with_reducible rfl)
                  try simp only [Act.put, List.setIfInBounds_toArray, List.set_cons_zero, List.set_cons_succ]
                  refine wpAnyH_take (i := 10) (oi := { dst := some 18, op := Go.Op.extract (Go.Operand.tmp 8) 1, type := 3, pos := "l17_grow.go:73", after := #[{ on := 8, ground := Go.Ground.data }, { on := 12, ground := Go.Ground.gcOnly Go.Departure.lateStores }], guard := none }) (v := ?_) rfl (by kernel_rfl) (by kernel_rfl) (by kernel_rfl) (fun _ _ _ h => h) (Or.inl ⟨by rfl, ?_⟩) (by assumption) ?_
                  rotate_left
                  · (intro w hSw; (try dsimp only at hSw); go_simp; try with_reducible rfl)
                  try simp only [Act.put, List.setIfInBounds_toArray, List.set_cons_zero, List.set_cons_succ]
                  refine wpAnyH_ready (rs := [11]) (by kernel_rfl) (by simp) ?_
                  refine AllReadyH.cons (o := { dst := some 3, op := Go.Op.alloc 30, type := 0, pos := "l17_grow.go:73", after := #[], guard := none }) rfl (fun K11 hK11 => ?_) AllReadyH.nil
                  (first | refine st_mz hL (fun g X hL => ?_) | refine st_mz (Lib.hid (CL.dr hL.out)) (fun g X hL => ?_))
                  refine hK11.out _ _ ?_ (fun hHeld4 => ?_)
                  · (try dsimp only); (first | exact CL.cells hL.out | exact CL.cells (CL.dr hL.out))
                  clear hK11 K11 hHeld3
                  try simp only [Act.put, List.setIfInBounds_toArray, List.set_cons_zero, List.set_cons_succ]
                  refine wpAnyH_ready (rs := [12]) (by kernel_rfl) (by simp) ?_
                  refine AllReadyH.cons (o := { dst := none, op := Go.Op.store 30 (Go.Operand.tmp 3) (Go.Operand.tmp 17), type := 0, pos := "l17_grow.go:73", after := #[{ on := 11, ground := Go.Ground.data }, { on := 9, ground := Go.Ground.data }, { on := 7, ground := Go.Ground.chain }, { on := 0, ground := Go.Ground.phase }, { on := 1, ground := Go.Ground.phase }, { on := 2, ground := Go.Ground.phase }, { on := 3, ground := Go.Ground.phase }, { on := 4, ground := Go.Ground.phase }, { on := 5, ground := Go.Ground.phase }, { on := 6, ground := Go.Ground.phase }, { on := 7, ground := Go.Ground.phase }, { on := 8, ground := Go.Ground.phase }, { on := 9, ground := Go.Ground.phase }, { on := 10, ground := Go.Ground.textOnly Go.Departure.lateStores }, { on := 11, ground := Go.Ground.phase }], guard := none }) rfl (fun K12 hK12 => ?_) AllReadyH.nil
                  (first | refine st_put (b0 := x) (b1 := y) (b2 := o2) hL rfl rfl (fun Y hY => ?_) | refine st_put (b0 := x) (b1 := y) (b2 := o2) (Lib.hid (CL.dr hL.out)) rfl rfl (fun Y hY => ?_))
                  refine hK12.out _ _ ?_ (fun hHeld5 => ?_)
                  · (try dsimp only); exact hY.2.1
                  clear hK12 K12 hHeld4
                  try simp only [Act.put]
                  refine wpAnyH_take (i := 13) (oi := { dst := some 4, op := Go.Op.assign (Go.Operand.tmp 18), type := 3, pos := "l17_grow.go:73", after := #[{ on := 10, ground := Go.Ground.data }, { on := 12, ground := Go.Ground.chain }, { on := 0, ground := Go.Ground.phase }, { on := 1, ground := Go.Ground.phase }, { on := 2, ground := Go.Ground.phase }, { on := 3, ground := Go.Ground.phase }, { on := 4, ground := Go.Ground.phase }, { on := 5, ground := Go.Ground.phase }, { on := 6, ground := Go.Ground.phase }, { on := 7, ground := Go.Ground.phase }, { on := 8, ground := Go.Ground.phase }, { on := 9, ground := Go.Ground.phase }, { on := 10, ground := Go.Ground.phase }, { on := 11, ground := Go.Ground.phase }, { on := 12, ground := Go.Ground.phase }], guard := none }) (v := ?_) rfl (by kernel_rfl) (by kernel_rfl) (by kernel_rfl) (fun _ _ _ h => h) (Or.inl ⟨by rfl, ?_⟩) (by assumption) ?_
                  rotate_left
                  · (intro w hSw; (try dsimp only at hSw); go_simp; try with_reducible rfl)
                  try simp only [Act.put, List.setIfInBounds_toArray, List.set_cons_zero, List.set_cons_succ]
                  refine wpAnyH_done (by kernel_rfl) ?_ _
                  (go_wp2_with fail; go_meet; exact ⟨_, rfl, rfl, hY.1⟩)
              · as_aux_lemma =>
                  (first | refine st_mz hL (fun g X hL => ?_) | refine st_mz (Lib.hid (CL.dr hL.out)) (fun g X hL => ?_))
                  refine hK11.out _ _ ?_ (fun hHeld3 => ?_)
                  · (try dsimp only); (first | exact CL.cells hL.out | exact CL.cells (CL.dr hL.out))
                  clear hK11 K11 hHeld2
                  try simp only [Act.put, List.setIfInBounds_toArray, List.set_cons_zero, List.set_cons_succ]
                  refine wpAnyH_ready (rs := [7]) (by kernel_rfl) (by simp) ?_
                  refine AllReadyH.cons (o := { dst := some 16, op := Go.Op.call { callee := Go.Callee.value (Go.Operand.func 41), args := #[Go.Operand.tmp 10, Go.Operand.const (Go.Value.int Go.IntKind.i64 0), Go.Operand.const (Go.Value.int Go.IntKind.i64 0), Go.Operand.tmp 12, Go.Operand.tmp 14, Go.Operand.tmp 15, Go.Operand.const (Go.Value.int Go.IntKind.i64 0)], argTypes := #[30, 3, 3, 3, 3, 26, 3] }, type := 66, pos := "l17_grow.go:73", after := #[{ on := 1, ground := Go.Ground.data }, { on := 3, ground := Go.Ground.data }, { on := 5, ground := Go.Ground.data }, { on := 6, ground := Go.Ground.data }, { on := 1, ground := Go.Ground.chain }], guard := none }) rfl (fun K7 hK7 => ?_) AllReadyH.nil
                  go_simp
                  (first | (refine (HD.out _ _).mono ?_; rintro e v2 ⟨rfl, hb⟩; have q := CL.call hL.out hb) | (have hL' := CL.dr hL.out; refine (HD.out _ _).mono ?_; rintro e v2 ⟨rfl, hb⟩; have q := CL.call hL' hb; clear hL')); replace hL := Lib.hid q; clear q hb
                  go_wp2_with fail
                  refine hK7.out _ _ ?_ (fun hHeld4 => ?_)
                  · (try dsimp only); (first | exact CL.cells hL.out | exact CL.cells (CL.dr hL.out))
                  clear hK7 K7 hHeld3
                  try simp only [Act.put, List.setIfInBounds_toArray, List.set_cons_zero, List.set_cons_succ]
                  refine wpAnyH_take (i := 8) (oi := { dst := some 8, op := Go.Op.move (Go.Operand.tmp 16), type := 66, pos := "l17_grow.go:73", after := #[{ on := 7, ground := Go.Ground.data }], guard := none }) (v := ?_) rfl (by kernel_rfl) (by kernel_rfl) (by kernel_rfl) (fun _ _ _ h => h) (Or.inl ⟨by rfl, ?_⟩) (by assumption) ?_
                  rotate_left
                  · (intro w hSw; (try dsimp only at hSw); go_simp; try with_reducible rfl)
                  try simp only [Act.put, List.setIfInBounds_toArray, List.set_cons_zero, List.set_cons_succ]
                  refine wpAnyH_take (i := 9) (oi := { dst := some 17, op := Go.Op.extract (Go.Operand.tmp 8) 0, type := 30, pos := "l17_grow.go:73", after := #[{ on := 8, ground := Go.Ground.data }], guard := none }) (v := ?_) rfl (by kernel_rfl) (by kernel_rfl) (by kernel_rfl) (fun _ _ _ h => h) (Or.inl ⟨by rfl, ?_⟩) (by assumption) ?_
                  rotate_left
                  · (intro w hSw; (try dsimp only at hSw); go_simp; try with_reducible rfl)
                  try simp only [Act.put, List.setIfInBounds_toArray, List.set_cons_zero, List.set_cons_succ]
                  refine wpAnyH_take (i := 10) (oi := { dst := some 18, op := Go.Op.extract (Go.Operand.tmp 8) 1, type := 3, pos := "l17_grow.go:73", after := #[{ on := 8, ground := Go.Ground.data }, { on := 12, ground := Go.Ground.gcOnly Go.Departure.lateStores }], guard := none }) (v := ?_) rfl (by kernel_rfl) (by kernel_rfl) (by kernel_rfl) (fun _ _ _ h => h) (Or.inl ⟨by rfl, ?_⟩) (by assumption) ?_
                  rotate_left
                  · (intro w hSw; (try dsimp only at hSw); go_simp; try with_reducible rfl)
                  try simp only [Act.put, List.setIfInBounds_toArray, List.set_cons_zero, List.set_cons_succ]
                  refine wpAnyH_ready (rs := [12]) (by kernel_rfl) (by simp) ?_
                  refine AllReadyH.cons (o := { dst := none, op := Go.Op.store 30 (Go.Operand.tmp 3) (Go.Operand.tmp 17), type := 0, pos := "l17_grow.go:73", after := #[{ on := 11, ground := Go.Ground.data }, { on := 9, ground := Go.Ground.data }, { on := 7, ground := Go.Ground.chain }, { on := 0, ground := Go.Ground.phase }, { on := 1, ground := Go.Ground.phase }, { on := 2, ground := Go.Ground.phase }, { on := 3, ground := Go.Ground.phase }, { on := 4, ground := Go.Ground.phase }, { on := 5, ground := Go.Ground.phase }, { on := 6, ground := Go.Ground.phase }, { on := 7, ground := Go.Ground.phase }, { on := 8, ground := Go.Ground.phase }, { on := 9, ground := Go.Ground.phase }, { on := 10, ground := Go.Ground.textOnly Go.Departure.lateStores }, { on := 11, ground := Go.Ground.phase }], guard := none }) rfl (fun K12 hK12 => ?_) AllReadyH.nil
                  (first | refine st_put (b0 := x) (b1 := y) (b2 := o2) hL rfl rfl (fun Y hY => ?_) | refine st_put (b0 := x) (b1 := y) (b2 := o2) (Lib.hid (CL.dr hL.out)) rfl rfl (fun Y hY => ?_))
                  refine hK12.out _ _ ?_ (fun hHeld5 => ?_)
                  · (try dsimp only); exact hY.2.1
                  clear hK12 K12 hHeld4
                  try simp only [Act.put]
                  refine wpAnyH_take (i := 13) (oi := { dst := some 4, op := Go.Op.assign (Go.Operand.tmp 18), type := 3, pos := "l17_grow.go:73", after := #[{ on := 10, ground := Go.Ground.data }, { on := 12, ground := Go.Ground.chain }, { on := 0, ground := Go.Ground.phase }, { on := 1, ground := Go.Ground.phase }, { on := 2, ground := Go.Ground.phase }, { on := 3, ground := Go.Ground.phase }, { on := 4, ground := Go.Ground.phase }, { on := 5, ground := Go.Ground.phase }, { on := 6, ground := Go.Ground.phase }, { on := 7, ground := Go.Ground.phase }, { on := 8, ground := Go.Ground.phase }, { on := 9, ground := Go.Ground.phase }, { on := 10, ground := Go.Ground.phase }, { on := 11, ground := Go.Ground.phase }, { on := 12, ground := Go.Ground.phase }], guard := none }) (v := ?_) rfl (by kernel_rfl) (by kernel_rfl) (by kernel_rfl) (fun _ _ _ h => h) (Or.inl ⟨by rfl, ?_⟩) (by assumption) ?_
                  rotate_left
                  · (intro w hSw; (try dsimp only at hSw); go_simp; try with_reducible rfl)
                  try simp only [Act.put, List.setIfInBounds_toArray, List.set_cons_zero, List.set_cons_succ]
                  refine wpAnyH_done (by kernel_rfl) ?_ _
                  (go_wp2_with fail; go_meet; exact ⟨_, rfl, rfl, hY.1⟩)
          · as_aux_lemma =>
              (first | refine st_mz hL (fun g X hL => ?_) | refine st_mz (Lib.hid (CL.dr hL.out)) (fun g X hL => ?_))
              refine hK11.out _ _ ?_ (fun hHeld2 => ?_)
              · (try dsimp only); (first | exact CL.cells hL.out | exact CL.cells (CL.dr hL.out))
              clear hK11 K11 hHeld1
              try simp only [Act.put, List.setIfInBounds_toArray, List.set_cons_zero, List.set_cons_succ]
              refine wpAnyH_ready (rs := [6]) (by kernel_rfl) (by simp) ?_
              refine AllReadyH.cons (o := { dst := some 15, op := Go.Op.buildSlice 26 0 #[], type := 26, pos := "l17_grow.go:73", after := #[], guard := none }) rfl (fun K6 hK6 => ?_) AllReadyH.nil
              (first | refine st_sl hL (fun g X hL => ?_) | refine st_sl (Lib.hid (CL.dr hL.out)) (fun g X hL => ?_))
              refine hK6.out _ _ ?_ (fun hHeld3 => ?_)
              · (try dsimp only); (first | exact CL.cells hL.out | exact CL.cells (CL.dr hL.out))
              clear hK6 K6 hHeld2
              try simp only [Act.put, List.setIfInBounds_toArray, List.set_cons_zero, List.set_cons_succ]
              refine wpAnyH_ready (rs := [7]) (by kernel_rfl) (by simp) ?_
              refine AllReadyH.cons (o := { dst := some 16, op := Go.Op.call { callee := Go.Callee.value (Go.Operand.func 41), args := #[Go.Operand.tmp 10, Go.Operand.const (Go.Value.int Go.IntKind.i64 0), Go.Operand.const (Go.Value.int Go.IntKind.i64 0), Go.Operand.tmp 12, Go.Operand.tmp 14, Go.Operand.tmp 15, Go.Operand.const (Go.Value.int Go.IntKind.i64 0)], argTypes := #[30, 3, 3, 3, 3, 26, 3] }, type := 66, pos := "l17_grow.go:73", after := #[{ on := 1, ground := Go.Ground.data }, { on := 3, ground := Go.Ground.data }, { on := 5, ground := Go.Ground.data }, { on := 6, ground := Go.Ground.data }, { on := 1, ground := Go.Ground.chain }], guard := none }) rfl (fun K7 hK7 => ?_) AllReadyH.nil
              go_simp
              (first | (refine (HD.out _ _).mono ?_; rintro e v2 ⟨rfl, hb⟩; have q := CL.call hL.out hb) | (have hL' := CL.dr hL.out; refine (HD.out _ _).mono ?_; rintro e v2 ⟨rfl, hb⟩; have q := CL.call hL' hb; clear hL')); replace hL := Lib.hid q; clear q hb
              go_wp2_with fail
              refine hK7.out _ _ ?_ (fun hHeld4 => ?_)
              · (try dsimp only); (first | exact CL.cells hL.out | exact CL.cells (CL.dr hL.out))
              clear hK7 K7 hHeld3
              try simp only [Act.put, List.setIfInBounds_toArray, List.set_cons_zero, List.set_cons_succ]
              refine wpAnyH_take (i := 8) (oi := { dst := some 8, op := Go.Op.move (Go.Operand.tmp 16), type := 66, pos := "l17_grow.go:73", after := #[{ on := 7, ground := Go.Ground.data }], guard := none }) (v := ?_) rfl (by kernel_rfl) (by kernel_rfl) (by kernel_rfl) (fun _ _ _ h => h) (Or.inl ⟨by rfl, ?_⟩) (by assumption) ?_
              rotate_left
              · (intro w hSw; (try dsimp only at hSw); go_simp; try with_reducible rfl)
              try simp only [Act.put, List.setIfInBounds_toArray, List.set_cons_zero, List.set_cons_succ]
              refine wpAnyH_take (i := 9) (oi := { dst := some 17, op := Go.Op.extract (Go.Operand.tmp 8) 0, type := 30, pos := "l17_grow.go:73", after := #[{ on := 8, ground := Go.Ground.data }], guard := none }) (v := ?_) rfl (by kernel_rfl) (by kernel_rfl) (by kernel_rfl) (fun _ _ _ h => h) (Or.inl ⟨by rfl, ?_⟩) (by assumption) ?_
              rotate_left
              · (intro w hSw; (try dsimp only at hSw); go_simp; try with_reducible rfl)
              try simp only [Act.put, List.setIfInBounds_toArray, List.set_cons_zero, List.set_cons_succ]
              refine wpAnyH_take (i := 10) (oi := { dst := some 18, op := Go.Op.extract (Go.Operand.tmp 8) 1, type := 3, pos := "l17_grow.go:73", after := #[{ on := 8, ground := Go.Ground.data }, { on := 12, ground := Go.Ground.gcOnly Go.Departure.lateStores }], guard := none }) (v := ?_) rfl (by kernel_rfl) (by kernel_rfl) (by kernel_rfl) (fun _ _ _ h => h) (Or.inl ⟨by rfl, ?_⟩) (by assumption) ?_
              rotate_left
              · (intro w hSw; (try dsimp only at hSw); go_simp; try with_reducible rfl)
              try simp only [Act.put, List.setIfInBounds_toArray, List.set_cons_zero, List.set_cons_succ]
              refine wpAnyH_ready (rs := [12]) (by kernel_rfl) (by simp) ?_
              refine AllReadyH.cons (o := { dst := none, op := Go.Op.store 30 (Go.Operand.tmp 3) (Go.Operand.tmp 17), type := 0, pos := "l17_grow.go:73", after := #[{ on := 11, ground := Go.Ground.data }, { on := 9, ground := Go.Ground.data }, { on := 7, ground := Go.Ground.chain }, { on := 0, ground := Go.Ground.phase }, { on := 1, ground := Go.Ground.phase }, { on := 2, ground := Go.Ground.phase }, { on := 3, ground := Go.Ground.phase }, { on := 4, ground := Go.Ground.phase }, { on := 5, ground := Go.Ground.phase }, { on := 6, ground := Go.Ground.phase }, { on := 7, ground := Go.Ground.phase }, { on := 8, ground := Go.Ground.phase }, { on := 9, ground := Go.Ground.phase }, { on := 10, ground := Go.Ground.textOnly Go.Departure.lateStores }, { on := 11, ground := Go.Ground.phase }], guard := none }) rfl (fun K12 hK12 => ?_) AllReadyH.nil
              (first | refine st_put (b0 := x) (b1 := y) (b2 := o2) hL rfl rfl (fun Y hY => ?_) | refine st_put (b0 := x) (b1 := y) (b2 := o2) (Lib.hid (CL.dr hL.out)) rfl rfl (fun Y hY => ?_))
              refine hK12.out _ _ ?_ (fun hHeld5 => ?_)
              · (try dsimp only); exact hY.2.1
              clear hK12 K12 hHeld4
              try simp only [Act.put]
              refine wpAnyH_take (i := 13) (oi := { dst := some 4, op := Go.Op.assign (Go.Operand.tmp 18), type := 3, pos := "l17_grow.go:73", after := #[{ on := 10, ground := Go.Ground.data }, { on := 12, ground := Go.Ground.chain }, { on := 0, ground := Go.Ground.phase }, { on := 1, ground := Go.Ground.phase }, { on := 2, ground := Go.Ground.phase }, { on := 3, ground := Go.Ground.phase }, { on := 4, ground := Go.Ground.phase }, { on := 5, ground := Go.Ground.phase }, { on := 6, ground := Go.Ground.phase }, { on := 7, ground := Go.Ground.phase }, { on := 8, ground := Go.Ground.phase }, { on := 9, ground := Go.Ground.phase }, { on := 10, ground := Go.Ground.phase }, { on := 11, ground := Go.Ground.phase }, { on := 12, ground := Go.Ground.phase }], guard := none }) (v := ?_) rfl (by kernel_rfl) (by kernel_rfl) (by kernel_rfl) (fun _ _ _ h => h) (Or.inl ⟨by rfl, ?_⟩) (by assumption) ?_
              rotate_left
              · (intro w hSw; (try dsimp only at hSw); go_simp; try with_reducible rfl)
              try simp only [Act.put, List.setIfInBounds_toArray, List.set_cons_zero, List.set_cons_succ]
              refine wpAnyH_done (by kernel_rfl) ?_ _
              (go_wp2_with fail; go_meet; exact ⟨_, rfl, rfl, hY.1⟩)
      · as_aux_lemma =>
          (first | refine st_sl hL (fun g X hL => ?_) | refine st_sl (Lib.hid (CL.dr hL.out)) (fun g X hL => ?_))
          refine hK6.out _ _ ?_ (fun hHeld1 => ?_)
          · (try dsimp only); (first | exact CL.cells hL.out | exact CL.cells (CL.dr hL.out))
          clear hK6 K6 hHeld0
          try simp only [Act.put, List.setIfInBounds_toArray, List.set_cons_zero, List.set_cons_succ]
          refine wpAnyH_ready (rs := [1, 11]) (by kernel_rfl) (by simp) ?_
          refine (AllReadyH.cons (o := { dst := some 10, op := Go.Op.call { callee := Go.Callee.value (Go.Operand.func 42), args := #[Go.Operand.tmp 9], argTypes := #[25] }, type := 30, pos := "l17_grow.go:73", after := #[{ on := 0, ground := Go.Ground.data }], guard := none }) rfl (fun K1 hK1 => ?_) (AllReadyH.cons (o := { dst := some 3, op := Go.Op.alloc 30, type := 0, pos := "l17_grow.go:73", after := #[], guard := none }) rfl (fun K11 hK11 => ?_) AllReadyH.nil))
          · as_aux_lemma =>
              go_simp
              (first | (refine (HF.out _).mono ?_; rintro e v1 ⟨rfl, hb⟩; have q := CL.call hL.out hb) | (have hL' := CL.dr hL.out; refine (HF.out _).mono ?_; rintro e v1 ⟨rfl, hb⟩; have q := CL.call hL' hb; clear hL')); replace hL := Lib.hid q; clear q hb
              go_wp2_with fail
              refine hK1.out _ _ ?_ (fun hHeld2 => ?_)
              · (try dsimp only); (first | exact CL.cells hL.out | exact CL.cells (CL.dr hL.out))
              clear hK1 K1 hHeld1
              try simp only [Act.put, List.setIfInBounds_toArray, List.set_cons_zero, List.set_cons_succ]
              refine wpAnyH_ready (rs := [7, 11]) (by kernel_rfl) (by simp) ?_
              refine (AllReadyH.cons (o := { dst := some 16, op := Go.Op.call { callee := Go.Callee.value (Go.Operand.func 41), args := #[Go.Operand.tmp 10, Go.Operand.const (Go.Value.int Go.IntKind.i64 0), Go.Operand.const (Go.Value.int Go.IntKind.i64 0), Go.Operand.tmp 12, Go.Operand.tmp 14, Go.Operand.tmp 15, Go.Operand.const (Go.Value.int Go.IntKind.i64 0)], argTypes := #[30, 3, 3, 3, 3, 26, 3] }, type := 66, pos := "l17_grow.go:73", after := #[{ on := 1, ground := Go.Ground.data }, { on := 3, ground := Go.Ground.data }, { on := 5, ground := Go.Ground.data }, { on := 6, ground := Go.Ground.data }, { on := 1, ground := Go.Ground.chain }], guard := none }) rfl (fun K7 hK7 => ?_) (AllReadyH.cons (o := { dst := some 3, op := Go.Op.alloc 30, type := 0, pos := "l17_grow.go:73", after := #[], guard := none }) rfl (fun K11 hK11 => ?_) AllReadyH.nil))
              · as_aux_lemma =>
                  go_simp
                  (first | (refine (HD.out _ _).mono ?_; rintro e v2 ⟨rfl, hb⟩; have q := CL.call hL.out hb) | (have hL' := CL.dr hL.out; refine (HD.out _ _).mono ?_; rintro e v2 ⟨rfl, hb⟩; have q := CL.call hL' hb; clear hL')); replace hL := Lib.hid q; clear q hb
                  go_wp2_with fail
                  refine hK7.out _ _ ?_ (fun hHeld3 => ?_)
                  · (try dsimp only); (first | exact CL.cells hL.out | exact CL.cells (CL.dr hL.out))
                  clear hK7 K7 hHeld2
                  try simp only [Act.put, List.setIfInBounds_toArray, List.set_cons_zero, List.set_cons_succ]
                  refine wpAnyH_take (i := 8) (oi := { dst := some 8, op := Go.Op.move (Go.Operand.tmp 16), type := 66, pos := "l17_grow.go:73", after := #[{ on := 7, ground := Go.Ground.data }], guard := none }) (v := ?_) rfl (by kernel_rfl) (by kernel_rfl) (by kernel_rfl) (fun _ _ _ h => h) (Or.inl ⟨by rfl, ?_⟩) (by assumption) ?_
                  rotate_left
                  · (intro w hSw; (try dsimp only at hSw); go_simp; try with_reducible rfl)
                  try simp only [Act.put, List.setIfInBounds_toArray, List.set_cons_zero, List.set_cons_succ]
                  refine wpAnyH_take (i := 9) (oi := { dst := some 17, op := Go.Op.extract (Go.Operand.tmp 8) 0, type := 30, pos := "l17_grow.go:73", after := #[{ on := 8, ground := Go.Ground.data }], guard := none }) (v := ?_) rfl (by kernel_rfl) (by kernel_rfl) (by kernel_rfl) (fun _ _ _ h => h) (Or.inl ⟨by rfl, ?_⟩) (by assumption) ?_
                  rotate_left
                  · (intro w hSw; (try dsimp only at hSw); go_simp; try with_reducible rfl)
                  try simp only [Act.put, List.setIfInBounds_toArray, List.set_cons_zero, List.set_cons_succ]
                  refine wpAnyH_take (i := 10) (oi := { dst := some 18, op := Go.Op.extract (Go.Operand.tmp 8) 1, type := 3, pos := "l17_grow.go:73", after := #[{ on := 8, ground := Go.Ground.data }, { on := 12, ground := Go.Ground.gcOnly Go.Departure.lateStores }], guard := none }) (v := ?_) rfl (by kernel_rfl) (by kernel_rfl) (by kernel_rfl) (fun _ _ _ h => h) (Or.inl ⟨by rfl, ?_⟩) (by assumption) ?_
                  rotate_left
                  · (intro w hSw; (try dsimp only at hSw); go_simp; try with_reducible rfl)
                  try simp only [Act.put, List.setIfInBounds_toArray, List.set_cons_zero, List.set_cons_succ]
                  refine wpAnyH_ready (rs := [11]) (by kernel_rfl) (by simp) ?_
                  refine AllReadyH.cons (o := { dst := some 3, op := Go.Op.alloc 30, type := 0, pos := "l17_grow.go:73", after := #[], guard := none }) rfl (fun K11 hK11 => ?_) AllReadyH.nil
                  (first | refine st_mz hL (fun g X hL => ?_) | refine st_mz (Lib.hid (CL.dr hL.out)) (fun g X hL => ?_))
                  refine hK11.out _ _ ?_ (fun hHeld4 => ?_)
                  · (try dsimp only); (first | exact CL.cells hL.out | exact CL.cells (CL.dr hL.out))
                  clear hK11 K11 hHeld3
                  try simp only [Act.put, List.setIfInBounds_toArray, List.set_cons_zero, List.set_cons_succ]
                  refine wpAnyH_ready (rs := [12]) (by kernel_rfl) (by simp) ?_
                  refine AllReadyH.cons (o := { dst := none, op := Go.Op.store 30 (Go.Operand.tmp 3) (Go.Operand.tmp 17), type := 0, pos := "l17_grow.go:73", after := #[{ on := 11, ground := Go.Ground.data }, { on := 9, ground := Go.Ground.data }, { on := 7, ground := Go.Ground.chain }, { on := 0, ground := Go.Ground.phase }, { on := 1, ground := Go.Ground.phase }, { on := 2, ground := Go.Ground.phase }, { on := 3, ground := Go.Ground.phase }, { on := 4, ground := Go.Ground.phase }, { on := 5, ground := Go.Ground.phase }, { on := 6, ground := Go.Ground.phase }, { on := 7, ground := Go.Ground.phase }, { on := 8, ground := Go.Ground.phase }, { on := 9, ground := Go.Ground.phase }, { on := 10, ground := Go.Ground.textOnly Go.Departure.lateStores }, { on := 11, ground := Go.Ground.phase }], guard := none }) rfl (fun K12 hK12 => ?_) AllReadyH.nil
                  (first | refine st_put (b0 := x) (b1 := y) (b2 := o2) hL rfl rfl (fun Y hY => ?_) | refine st_put (b0 := x) (b1 := y) (b2 := o2) (Lib.hid (CL.dr hL.out)) rfl rfl (fun Y hY => ?_))
                  refine hK12.out _ _ ?_ (fun hHeld5 => ?_)
                  · (try dsimp only); exact hY.2.1
                  clear hK12 K12 hHeld4
                  try simp only [Act.put]
                  refine wpAnyH_take (i := 13) (oi := { dst := some 4, op := Go.Op.assign (Go.Operand.tmp 18), type := 3, pos := "l17_grow.go:73", after := #[{ on := 10, ground := Go.Ground.data }, { on := 12, ground := Go.Ground.chain }, { on := 0, ground := Go.Ground.phase }, { on := 1, ground := Go.Ground.phase }, { on := 2, ground := Go.Ground.phase }, { on := 3, ground := Go.Ground.phase }, { on := 4, ground := Go.Ground.phase }, { on := 5, ground := Go.Ground.phase }, { on := 6, ground := Go.Ground.phase }, { on := 7, ground := Go.Ground.phase }, { on := 8, ground := Go.Ground.phase }, { on := 9, ground := Go.Ground.phase }, { on := 10, ground := Go.Ground.phase }, { on := 11, ground := Go.Ground.phase }, { on := 12, ground := Go.Ground.phase }], guard := none }) (v := ?_) rfl (by kernel_rfl) (by kernel_rfl) (by kernel_rfl) (fun _ _ _ h => h) (Or.inl ⟨by rfl, ?_⟩) (by assumption) ?_
                  rotate_left
                  · (intro w hSw; (try dsimp only at hSw); go_simp; try with_reducible rfl)
                  try simp only [Act.put, List.setIfInBounds_toArray, List.set_cons_zero, List.set_cons_succ]
                  refine wpAnyH_done (by kernel_rfl) ?_ _
                  (go_wp2_with fail; go_meet; exact ⟨_, rfl, rfl, hY.1⟩)
              · as_aux_lemma =>
                  (first | refine st_mz hL (fun g X hL => ?_) | refine st_mz (Lib.hid (CL.dr hL.out)) (fun g X hL => ?_))
                  refine hK11.out _ _ ?_ (fun hHeld3 => ?_)
                  · (try dsimp only); (first | exact CL.cells hL.out | exact CL.cells (CL.dr hL.out))
                  clear hK11 K11 hHeld2
                  try simp only [Act.put, List.setIfInBounds_toArray, List.set_cons_zero, List.set_cons_succ]
                  refine wpAnyH_ready (rs := [7]) (by kernel_rfl) (by simp) ?_
                  refine AllReadyH.cons (o := { dst := some 16, op := Go.Op.call { callee := Go.Callee.value (Go.Operand.func 41), args := #[Go.Operand.tmp 10, Go.Operand.const (Go.Value.int Go.IntKind.i64 0), Go.Operand.const (Go.Value.int Go.IntKind.i64 0), Go.Operand.tmp 12, Go.Operand.tmp 14, Go.Operand.tmp 15, Go.Operand.const (Go.Value.int Go.IntKind.i64 0)], argTypes := #[30, 3, 3, 3, 3, 26, 3] }, type := 66, pos := "l17_grow.go:73", after := #[{ on := 1, ground := Go.Ground.data }, { on := 3, ground := Go.Ground.data }, { on := 5, ground := Go.Ground.data }, { on := 6, ground := Go.Ground.data }, { on := 1, ground := Go.Ground.chain }], guard := none }) rfl (fun K7 hK7 => ?_) AllReadyH.nil
                  go_simp
                  (first | (refine (HD.out _ _).mono ?_; rintro e v2 ⟨rfl, hb⟩; have q := CL.call hL.out hb) | (have hL' := CL.dr hL.out; refine (HD.out _ _).mono ?_; rintro e v2 ⟨rfl, hb⟩; have q := CL.call hL' hb; clear hL')); replace hL := Lib.hid q; clear q hb
                  go_wp2_with fail
                  refine hK7.out _ _ ?_ (fun hHeld4 => ?_)
                  · (try dsimp only); (first | exact CL.cells hL.out | exact CL.cells (CL.dr hL.out))
                  clear hK7 K7 hHeld3
                  try simp only [Act.put, List.setIfInBounds_toArray, List.set_cons_zero, List.set_cons_succ]
                  refine wpAnyH_take (i := 8) (oi := { dst := some 8, op := Go.Op.move (Go.Operand.tmp 16), type := 66, pos := "l17_grow.go:73", after := #[{ on := 7, ground := Go.Ground.data }], guard := none }) (v := ?_) rfl (by kernel_rfl) (by kernel_rfl) (by kernel_rfl) (fun _ _ _ h => h) (Or.inl ⟨by rfl, ?_⟩) (by assumption) ?_
                  rotate_left
                  · (intro w hSw; (try dsimp only at hSw); go_simp; try with_reducible rfl)
                  try simp only [Act.put, List.setIfInBounds_toArray, List.set_cons_zero, List.set_cons_succ]
                  refine wpAnyH_take (i := 9) (oi := { dst := some 17, op := Go.Op.extract (Go.Operand.tmp 8) 0, type := 30, pos := "l17_grow.go:73", after := #[{ on := 8, ground := Go.Ground.data }], guard := none }) (v := ?_) rfl (by kernel_rfl) (by kernel_rfl) (by kernel_rfl) (fun _ _ _ h => h) (Or.inl ⟨by rfl, ?_⟩) (by assumption) ?_
                  rotate_left
                  · (intro w hSw; (try dsimp only at hSw); go_simp; try with_reducible rfl)
                  try simp only [Act.put, List.setIfInBounds_toArray, List.set_cons_zero, List.set_cons_succ]
                  refine wpAnyH_take (i := 10) (oi := { dst := some 18, op := Go.Op.extract (Go.Operand.tmp 8) 1, type := 3, pos := "l17_grow.go:73", after := #[{ on := 8, ground := Go.Ground.data }, { on := 12, ground := Go.Ground.gcOnly Go.Departure.lateStores }], guard := none }) (v := ?_) rfl (by kernel_rfl) (by kernel_rfl) (by kernel_rfl) (fun _ _ _ h => h) (Or.inl ⟨by rfl, ?_⟩) (by assumption) ?_
                  rotate_left
                  · (intro w hSw; (try dsimp only at hSw); go_simp; try with_reducible rfl)
                  try simp only [Act.put, List.setIfInBounds_toArray, List.set_cons_zero, List.set_cons_succ]
                  refine wpAnyH_ready (rs := [12]) (by kernel_rfl) (by simp) ?_
                  refine AllReadyH.cons (o := { dst := none, op := Go.Op.store 30 (Go.Operand.tmp 3) (Go.Operand.tmp 17), type := 0, pos := "l17_grow.go:73", after := #[{ on := 11, ground := Go.Ground.data }, { on := 9, ground := Go.Ground.data }, { on := 7, ground := Go.Ground.chain }, { on := 0, ground := Go.Ground.phase }, { on := 1, ground := Go.Ground.phase }, { on := 2, ground := Go.Ground.phase }, { on := 3, ground := Go.Ground.phase }, { on := 4, ground := Go.Ground.phase }, { on := 5, ground := Go.Ground.phase }, { on := 6, ground := Go.Ground.phase }, { on := 7, ground := Go.Ground.phase }, { on := 8, ground := Go.Ground.phase }, { on := 9, ground := Go.Ground.phase }, { on := 10, ground := Go.Ground.textOnly Go.Departure.lateStores }, { on := 11, ground := Go.Ground.phase }], guard := none }) rfl (fun K12 hK12 => ?_) AllReadyH.nil
                  (first | refine st_put (b0 := x) (b1 := y) (b2 := o2) hL rfl rfl (fun Y hY => ?_) | refine st_put (b0 := x) (b1 := y) (b2 := o2) (Lib.hid (CL.dr hL.out)) rfl rfl (fun Y hY => ?_))
                  refine hK12.out _ _ ?_ (fun hHeld5 => ?_)
                  · (try dsimp only); exact hY.2.1
                  clear hK12 K12 hHeld4
                  try simp only [Act.put]
                  refine wpAnyH_take (i := 13) (oi := { dst := some 4, op := Go.Op.assign (Go.Operand.tmp 18), type := 3, pos := "l17_grow.go:73", after := #[{ on := 10, ground := Go.Ground.data }, { on := 12, ground := Go.Ground.chain }, { on := 0, ground := Go.Ground.phase }, { on := 1, ground := Go.Ground.phase }, { on := 2, ground := Go.Ground.phase }, { on := 3, ground := Go.Ground.phase }, { on := 4, ground := Go.Ground.phase }, { on := 5, ground := Go.Ground.phase }, { on := 6, ground := Go.Ground.phase }, { on := 7, ground := Go.Ground.phase }, { on := 8, ground := Go.Ground.phase }, { on := 9, ground := Go.Ground.phase }, { on := 10, ground := Go.Ground.phase }, { on := 11, ground := Go.Ground.phase }, { on := 12, ground := Go.Ground.phase }], guard := none }) (v := ?_) rfl (by kernel_rfl) (by kernel_rfl) (by kernel_rfl) (fun _ _ _ h => h) (Or.inl ⟨by rfl, ?_⟩) (by assumption) ?_
                  rotate_left
                  · (intro w hSw; (try dsimp only at hSw); go_simp; try with_reducible rfl)
                  try simp only [Act.put, List.setIfInBounds_toArray, List.set_cons_zero, List.set_cons_succ]
                  refine wpAnyH_done (by kernel_rfl) ?_ _
                  (go_wp2_with fail; go_meet; exact ⟨_, rfl, rfl, hY.1⟩)
          · as_aux_lemma =>
              (first | refine st_mz hL (fun g X hL => ?_) | refine st_mz (Lib.hid (CL.dr hL.out)) (fun g X hL => ?_))
              refine hK11.out _ _ ?_ (fun hHeld2 => ?_)
              · (try dsimp only); (first | exact CL.cells hL.out | exact CL.cells (CL.dr hL.out))
              clear hK11 K11 hHeld1
              try simp only [Act.put, List.setIfInBounds_toArray, List.set_cons_zero, List.set_cons_succ]
              refine wpAnyH_ready (rs := [1]) (by kernel_rfl) (by simp) ?_
              refine AllReadyH.cons (o := { dst := some 10, op := Go.Op.call { callee := Go.Callee.value (Go.Operand.func 42), args := #[Go.Operand.tmp 9], argTypes := #[25] }, type := 30, pos := "l17_grow.go:73", after := #[{ on := 0, ground := Go.Ground.data }], guard := none }) rfl (fun K1 hK1 => ?_) AllReadyH.nil
              go_simp
              (first | (refine (HF.out _).mono ?_; rintro e v1 ⟨rfl, hb⟩; have q := CL.call hL.out hb) | (have hL' := CL.dr hL.out; refine (HF.out _).mono ?_; rintro e v1 ⟨rfl, hb⟩; have q := CL.call hL' hb; clear hL')); replace hL := Lib.hid q; clear q hb
              go_wp2_with fail
              refine hK1.out _ _ ?_ (fun hHeld3 => ?_)
              · (try dsimp only); (first | exact CL.cells hL.out | exact CL.cells (CL.dr hL.out))
              clear hK1 K1 hHeld2
              try simp only [Act.put, List.setIfInBounds_toArray, List.set_cons_zero, List.set_cons_succ]
              refine wpAnyH_ready (rs := [7]) (by kernel_rfl) (by simp) ?_
              refine AllReadyH.cons (o := { dst := some 16, op := Go.Op.call { callee := Go.Callee.value (Go.Operand.func 41), args := #[Go.Operand.tmp 10, Go.Operand.const (Go.Value.int Go.IntKind.i64 0), Go.Operand.const (Go.Value.int Go.IntKind.i64 0), Go.Operand.tmp 12, Go.Operand.tmp 14, Go.Operand.tmp 15, Go.Operand.const (Go.Value.int Go.IntKind.i64 0)], argTypes := #[30, 3, 3, 3, 3, 26, 3] }, type := 66, pos := "l17_grow.go:73", after := #[{ on := 1, ground := Go.Ground.data }, { on := 3, ground := Go.Ground.data }, { on := 5, ground := Go.Ground.data }, { on := 6, ground := Go.Ground.data }, { on := 1, ground := Go.Ground.chain }], guard := none }) rfl (fun K7 hK7 => ?_) AllReadyH.nil
              go_simp
              (first | (refine (HD.out _ _).mono ?_; rintro e v2 ⟨rfl, hb⟩; have q := CL.call hL.out hb) | (have hL' := CL.dr hL.out; refine (HD.out _ _).mono ?_; rintro e v2 ⟨rfl, hb⟩; have q := CL.call hL' hb; clear hL')); replace hL := Lib.hid q; clear q hb
              go_wp2_with fail
              refine hK7.out _ _ ?_ (fun hHeld4 => ?_)
              · (try dsimp only); (first | exact CL.cells hL.out | exact CL.cells (CL.dr hL.out))
              clear hK7 K7 hHeld3
              try simp only [Act.put, List.setIfInBounds_toArray, List.set_cons_zero, List.set_cons_succ]
              refine wpAnyH_take (i := 8) (oi := { dst := some 8, op := Go.Op.move (Go.Operand.tmp 16), type := 66, pos := "l17_grow.go:73", after := #[{ on := 7, ground := Go.Ground.data }], guard := none }) (v := ?_) rfl (by kernel_rfl) (by kernel_rfl) (by kernel_rfl) (fun _ _ _ h => h) (Or.inl ⟨by rfl, ?_⟩) (by assumption) ?_
              rotate_left
              · (intro w hSw; (try dsimp only at hSw); go_simp; try with_reducible rfl)
              try simp only [Act.put, List.setIfInBounds_toArray, List.set_cons_zero, List.set_cons_succ]
              refine wpAnyH_take (i := 9) (oi := { dst := some 17, op := Go.Op.extract (Go.Operand.tmp 8) 0, type := 30, pos := "l17_grow.go:73", after := #[{ on := 8, ground := Go.Ground.data }], guard := none }) (v := ?_) rfl (by kernel_rfl) (by kernel_rfl) (by kernel_rfl) (fun _ _ _ h => h) (Or.inl ⟨by rfl, ?_⟩) (by assumption) ?_
              rotate_left
              · (intro w hSw; (try dsimp only at hSw); go_simp; try with_reducible rfl)
              try simp only [Act.put, List.setIfInBounds_toArray, List.set_cons_zero, List.set_cons_succ]
              refine wpAnyH_take (i := 10) (oi := { dst := some 18, op := Go.Op.extract (Go.Operand.tmp 8) 1, type := 3, pos := "l17_grow.go:73", after := #[{ on := 8, ground := Go.Ground.data }, { on := 12, ground := Go.Ground.gcOnly Go.Departure.lateStores }], guard := none }) (v := ?_) rfl (by kernel_rfl) (by kernel_rfl) (by kernel_rfl) (fun _ _ _ h => h) (Or.inl ⟨by rfl, ?_⟩) (by assumption) ?_
              rotate_left
              · (intro w hSw; (try dsimp only at hSw); go_simp; try with_reducible rfl)
              try simp only [Act.put, List.setIfInBounds_toArray, List.set_cons_zero, List.set_cons_succ]
              refine wpAnyH_ready (rs := [12]) (by kernel_rfl) (by simp) ?_
              refine AllReadyH.cons (o := { dst := none, op := Go.Op.store 30 (Go.Operand.tmp 3) (Go.Operand.tmp 17), type := 0, pos := "l17_grow.go:73", after := #[{ on := 11, ground := Go.Ground.data }, { on := 9, ground := Go.Ground.data }, { on := 7, ground := Go.Ground.chain }, { on := 0, ground := Go.Ground.phase }, { on := 1, ground := Go.Ground.phase }, { on := 2, ground := Go.Ground.phase }, { on := 3, ground := Go.Ground.phase }, { on := 4, ground := Go.Ground.phase }, { on := 5, ground := Go.Ground.phase }, { on := 6, ground := Go.Ground.phase }, { on := 7, ground := Go.Ground.phase }, { on := 8, ground := Go.Ground.phase }, { on := 9, ground := Go.Ground.phase }, { on := 10, ground := Go.Ground.textOnly Go.Departure.lateStores }, { on := 11, ground := Go.Ground.phase }], guard := none }) rfl (fun K12 hK12 => ?_) AllReadyH.nil
              (first | refine st_put (b0 := x) (b1 := y) (b2 := o2) hL rfl rfl (fun Y hY => ?_) | refine st_put (b0 := x) (b1 := y) (b2 := o2) (Lib.hid (CL.dr hL.out)) rfl rfl (fun Y hY => ?_))
              refine hK12.out _ _ ?_ (fun hHeld5 => ?_)
              · (try dsimp only); exact hY.2.1
              clear hK12 K12 hHeld4
              try simp only [Act.put]
              refine wpAnyH_take (i := 13) (oi := { dst := some 4, op := Go.Op.assign (Go.Operand.tmp 18), type := 3, pos := "l17_grow.go:73", after := #[{ on := 10, ground := Go.Ground.data }, { on := 12, ground := Go.Ground.chain }, { on := 0, ground := Go.Ground.phase }, { on := 1, ground := Go.Ground.phase }, { on := 2, ground := Go.Ground.phase }, { on := 3, ground := Go.Ground.phase }, { on := 4, ground := Go.Ground.phase }, { on := 5, ground := Go.Ground.phase }, { on := 6, ground := Go.Ground.phase }, { on := 7, ground := Go.Ground.phase }, { on := 8, ground := Go.Ground.phase }, { on := 9, ground := Go.Ground.phase }, { on := 10, ground := Go.Ground.phase }, { on := 11, ground := Go.Ground.phase }, { on := 12, ground := Go.Ground.phase }], guard := none }) (v := ?_) rfl (by kernel_rfl) (by kernel_rfl) (by kernel_rfl) (fun _ _ _ h => h) (Or.inl ⟨by rfl, ?_⟩) (by assumption) ?_
              rotate_left
              · (intro w hSw; (try dsimp only at hSw); go_simp; try with_reducible rfl)
              try simp only [Act.put, List.setIfInBounds_toArray, List.set_cons_zero, List.set_cons_succ]
              refine wpAnyH_done (by kernel_rfl) ?_ _
              (go_wp2_with fail; go_meet; exact ⟨_, rfl, rfl, hY.1⟩)
      · as_aux_lemma =>
          (first | refine st_mz hL (fun g X hL => ?_) | refine st_mz (Lib.hid (CL.dr hL.out)) (fun g X hL => ?_))
          refine hK11.out _ _ ?_ (fun hHeld1 => ?_)
          · (try dsimp only); (first | exact CL.cells hL.out | exact CL.cells (CL.dr hL.out))
          clear hK11 K11 hHeld0
          try simp only [Act.put, List.setIfInBounds_toArray, List.set_cons_zero, List.set_cons_succ]
          refine wpAnyH_ready (rs := [1, 6]) (by kernel_rfl) (by simp) ?_
          refine (AllReadyH.cons (o := { dst := some 10, op := Go.Op.call { callee := Go.Callee.value (Go.Operand.func 42), args := #[Go.Operand.tmp 9], argTypes := #[25] }, type := 30, pos := "l17_grow.go:73", after := #[{ on := 0, ground := Go.Ground.data }], guard := none }) rfl (fun K1 hK1 => ?_) (AllReadyH.cons (o := { dst := some 15, op := Go.Op.buildSlice 26 0 #[], type := 26, pos := "l17_grow.go:73", after := #[], guard := none }) rfl (fun K6 hK6 => ?_) AllReadyH.nil))
          · as_aux_lemma =>
              go_simp
              (first | (refine (HF.out _).mono ?_; rintro e v1 ⟨rfl, hb⟩; have q := CL.call hL.out hb) | (have hL' := CL.dr hL.out; refine (HF.out _).mono ?_; rintro e v1 ⟨rfl, hb⟩; have q := CL.call hL' hb; clear hL')); replace hL := Lib.hid q; clear q hb
              go_wp2_with fail
              refine hK1.out _ _ ?_ (fun hHeld2 => ?_)
              · (try dsimp only); (first | exact CL.cells hL.out | exact CL.cells (CL.dr hL.out))
              clear hK1 K1 hHeld1
              try simp only [Act.put, List.setIfInBounds_toArray, List.set_cons_zero, List.set_cons_succ]
              refine wpAnyH_ready (rs := [6]) (by kernel_rfl) (by simp) ?_
              refine AllReadyH.cons (o := { dst := some 15, op := Go.Op.buildSlice 26 0 #[], type := 26, pos := "l17_grow.go:73", after := #[], guard := none }) rfl (fun K6 hK6 => ?_) AllReadyH.nil
              (first | refine st_sl hL (fun g X hL => ?_) | refine st_sl (Lib.hid (CL.dr hL.out)) (fun g X hL => ?_))
              refine hK6.out _ _ ?_ (fun hHeld3 => ?_)
              · (try dsimp only); (first | exact CL.cells hL.out | exact CL.cells (CL.dr hL.out))
              clear hK6 K6 hHeld2
              try simp only [Act.put, List.setIfInBounds_toArray, List.set_cons_zero, List.set_cons_succ]
              refine wpAnyH_ready (rs := [7]) (by kernel_rfl) (by simp) ?_
              refine AllReadyH.cons (o := { dst := some 16, op := Go.Op.call { callee := Go.Callee.value (Go.Operand.func 41), args := #[Go.Operand.tmp 10, Go.Operand.const (Go.Value.int Go.IntKind.i64 0), Go.Operand.const (Go.Value.int Go.IntKind.i64 0), Go.Operand.tmp 12, Go.Operand.tmp 14, Go.Operand.tmp 15, Go.Operand.const (Go.Value.int Go.IntKind.i64 0)], argTypes := #[30, 3, 3, 3, 3, 26, 3] }, type := 66, pos := "l17_grow.go:73", after := #[{ on := 1, ground := Go.Ground.data }, { on := 3, ground := Go.Ground.data }, { on := 5, ground := Go.Ground.data }, { on := 6, ground := Go.Ground.data }, { on := 1, ground := Go.Ground.chain }], guard := none }) rfl (fun K7 hK7 => ?_) AllReadyH.nil
              go_simp
              (first | (refine (HD.out _ _).mono ?_; rintro e v2 ⟨rfl, hb⟩; have q := CL.call hL.out hb) | (have hL' := CL.dr hL.out; refine (HD.out _ _).mono ?_; rintro e v2 ⟨rfl, hb⟩; have q := CL.call hL' hb; clear hL')); replace hL := Lib.hid q; clear q hb
              go_wp2_with fail
              refine hK7.out _ _ ?_ (fun hHeld4 => ?_)
              · (try dsimp only); (first | exact CL.cells hL.out | exact CL.cells (CL.dr hL.out))
              clear hK7 K7 hHeld3
              try simp only [Act.put, List.setIfInBounds_toArray, List.set_cons_zero, List.set_cons_succ]
              refine wpAnyH_take (i := 8) (oi := { dst := some 8, op := Go.Op.move (Go.Operand.tmp 16), type := 66, pos := "l17_grow.go:73", after := #[{ on := 7, ground := Go.Ground.data }], guard := none }) (v := ?_) rfl (by kernel_rfl) (by kernel_rfl) (by kernel_rfl) (fun _ _ _ h => h) (Or.inl ⟨by rfl, ?_⟩) (by assumption) ?_
              rotate_left
              · (intro w hSw; (try dsimp only at hSw); go_simp; try with_reducible rfl)
              try simp only [Act.put, List.setIfInBounds_toArray, List.set_cons_zero, List.set_cons_succ]
              refine wpAnyH_take (i := 9) (oi := { dst := some 17, op := Go.Op.extract (Go.Operand.tmp 8) 0, type := 30, pos := "l17_grow.go:73", after := #[{ on := 8, ground := Go.Ground.data }], guard := none }) (v := ?_) rfl (by kernel_rfl) (by kernel_rfl) (by kernel_rfl) (fun _ _ _ h => h) (Or.inl ⟨by rfl, ?_⟩) (by assumption) ?_
              rotate_left
              · (intro w hSw; (try dsimp only at hSw); go_simp; try with_reducible rfl)
              try simp only [Act.put, List.setIfInBounds_toArray, List.set_cons_zero, List.set_cons_succ]
              refine wpAnyH_take (i := 10) (oi := { dst := some 18, op := Go.Op.extract (Go.Operand.tmp 8) 1, type := 3, pos := "l17_grow.go:73", after := #[{ on := 8, ground := Go.Ground.data }, { on := 12, ground := Go.Ground.gcOnly Go.Departure.lateStores }], guard := none }) (v := ?_) rfl (by kernel_rfl) (by kernel_rfl) (by kernel_rfl) (fun _ _ _ h => h) (Or.inl ⟨by rfl, ?_⟩) (by assumption) ?_
              rotate_left
              · (intro w hSw; (try dsimp only at hSw); go_simp; try with_reducible rfl)
              try simp only [Act.put, List.setIfInBounds_toArray, List.set_cons_zero, List.set_cons_succ]
              refine wpAnyH_ready (rs := [12]) (by kernel_rfl) (by simp) ?_
              refine AllReadyH.cons (o := { dst := none, op := Go.Op.store 30 (Go.Operand.tmp 3) (Go.Operand.tmp 17), type := 0, pos := "l17_grow.go:73", after := #[{ on := 11, ground := Go.Ground.data }, { on := 9, ground := Go.Ground.data }, { on := 7, ground := Go.Ground.chain }, { on := 0, ground := Go.Ground.phase }, { on := 1, ground := Go.Ground.phase }, { on := 2, ground := Go.Ground.phase }, { on := 3, ground := Go.Ground.phase }, { on := 4, ground := Go.Ground.phase }, { on := 5, ground := Go.Ground.phase }, { on := 6, ground := Go.Ground.phase }, { on := 7, ground := Go.Ground.phase }, { on := 8, ground := Go.Ground.phase }, { on := 9, ground := Go.Ground.phase }, { on := 10, ground := Go.Ground.textOnly Go.Departure.lateStores }, { on := 11, ground := Go.Ground.phase }], guard := none }) rfl (fun K12 hK12 => ?_) AllReadyH.nil
              (first | refine st_put (b0 := x) (b1 := y) (b2 := o2) hL rfl rfl (fun Y hY => ?_) | refine st_put (b0 := x) (b1 := y) (b2 := o2) (Lib.hid (CL.dr hL.out)) rfl rfl (fun Y hY => ?_))
              refine hK12.out _ _ ?_ (fun hHeld5 => ?_)
              · (try dsimp only); exact hY.2.1
              clear hK12 K12 hHeld4
              try simp only [Act.put]
              refine wpAnyH_take (i := 13) (oi := { dst := some 4, op := Go.Op.assign (Go.Operand.tmp 18), type := 3, pos := "l17_grow.go:73", after := #[{ on := 10, ground := Go.Ground.data }, { on := 12, ground := Go.Ground.chain }, { on := 0, ground := Go.Ground.phase }, { on := 1, ground := Go.Ground.phase }, { on := 2, ground := Go.Ground.phase }, { on := 3, ground := Go.Ground.phase }, { on := 4, ground := Go.Ground.phase }, { on := 5, ground := Go.Ground.phase }, { on := 6, ground := Go.Ground.phase }, { on := 7, ground := Go.Ground.phase }, { on := 8, ground := Go.Ground.phase }, { on := 9, ground := Go.Ground.phase }, { on := 10, ground := Go.Ground.phase }, { on := 11, ground := Go.Ground.phase }, { on := 12, ground := Go.Ground.phase }], guard := none }) (v := ?_) rfl (by kernel_rfl) (by kernel_rfl) (by kernel_rfl) (fun _ _ _ h => h) (Or.inl ⟨by rfl, ?_⟩) (by assumption) ?_
              rotate_left
              · (intro w hSw; (try dsimp only at hSw); go_simp; try with_reducible rfl)
              try simp only [Act.put, List.setIfInBounds_toArray, List.set_cons_zero, List.set_cons_succ]
              refine wpAnyH_done (by kernel_rfl) ?_ _
              (go_wp2_with fail; go_meet; exact ⟨_, rfl, rfl, hY.1⟩)
          · as_aux_lemma =>
              (first | refine st_sl hL (fun g X hL => ?_) | refine st_sl (Lib.hid (CL.dr hL.out)) (fun g X hL => ?_))
              refine hK6.out _ _ ?_ (fun hHeld2 => ?_)
              · (try dsimp only); (first | exact CL.cells hL.out | exact CL.cells (CL.dr hL.out))
              clear hK6 K6 hHeld1
              try simp only [Act.put, List.setIfInBounds_toArray, List.set_cons_zero, List.set_cons_succ]
              refine wpAnyH_ready (rs := [1]) (by kernel_rfl) (by simp) ?_
              refine AllReadyH.cons (o := { dst := some 10, op := Go.Op.call { callee := Go.Callee.value (Go.Operand.func 42), args := #[Go.Operand.tmp 9], argTypes := #[25] }, type := 30, pos := "l17_grow.go:73", after := #[{ on := 0, ground := Go.Ground.data }], guard := none }) rfl (fun K1 hK1 => ?_) AllReadyH.nil
              go_simp
              (first | (refine (HF.out _).mono ?_; rintro e v1 ⟨rfl, hb⟩; have q := CL.call hL.out hb) | (have hL' := CL.dr hL.out; refine (HF.out _).mono ?_; rintro e v1 ⟨rfl, hb⟩; have q := CL.call hL' hb; clear hL')); replace hL := Lib.hid q; clear q hb
              go_wp2_with fail
              refine hK1.out _ _ ?_ (fun hHeld3 => ?_)
              · (try dsimp only); (first | exact CL.cells hL.out | exact CL.cells (CL.dr hL.out))
              clear hK1 K1 hHeld2
              try simp only [Act.put, List.setIfInBounds_toArray, List.set_cons_zero, List.set_cons_succ]
              refine wpAnyH_ready (rs := [7]) (by kernel_rfl) (by simp) ?_
              refine AllReadyH.cons (o := { dst := some 16, op := Go.Op.call { callee := Go.Callee.value (Go.Operand.func 41), args := #[Go.Operand.tmp 10, Go.Operand.const (Go.Value.int Go.IntKind.i64 0), Go.Operand.const (Go.Value.int Go.IntKind.i64 0), Go.Operand.tmp 12, Go.Operand.tmp 14, Go.Operand.tmp 15, Go.Operand.const (Go.Value.int Go.IntKind.i64 0)], argTypes := #[30, 3, 3, 3, 3, 26, 3] }, type := 66, pos := "l17_grow.go:73", after := #[{ on := 1, ground := Go.Ground.data }, { on := 3, ground := Go.Ground.data }, { on := 5, ground := Go.Ground.data }, { on := 6, ground := Go.Ground.data }, { on := 1, ground := Go.Ground.chain }], guard := none }) rfl (fun K7 hK7 => ?_) AllReadyH.nil
              go_simp
              (first | (refine (HD.out _ _).mono ?_; rintro e v2 ⟨rfl, hb⟩; have q := CL.call hL.out hb) | (have hL' := CL.dr hL.out; refine (HD.out _ _).mono ?_; rintro e v2 ⟨rfl, hb⟩; have q := CL.call hL' hb; clear hL')); replace hL := Lib.hid q; clear q hb
              go_wp2_with fail
              refine hK7.out _ _ ?_ (fun hHeld4 => ?_)
              · (try dsimp only); (first | exact CL.cells hL.out | exact CL.cells (CL.dr hL.out))
              clear hK7 K7 hHeld3
              try simp only [Act.put, List.setIfInBounds_toArray, List.set_cons_zero, List.set_cons_succ]
              refine wpAnyH_take (i := 8) (oi := { dst := some 8, op := Go.Op.move (Go.Operand.tmp 16), type := 66, pos := "l17_grow.go:73", after := #[{ on := 7, ground := Go.Ground.data }], guard := none }) (v := ?_) rfl (by kernel_rfl) (by kernel_rfl) (by kernel_rfl) (fun _ _ _ h => h) (Or.inl ⟨by rfl, ?_⟩) (by assumption) ?_
              rotate_left
              · (intro w hSw; (try dsimp only at hSw); go_simp; try with_reducible rfl)
              try simp only [Act.put, List.setIfInBounds_toArray, List.set_cons_zero, List.set_cons_succ]
              refine wpAnyH_take (i := 9) (oi := { dst := some 17, op := Go.Op.extract (Go.Operand.tmp 8) 0, type := 30, pos := "l17_grow.go:73", after := #[{ on := 8, ground := Go.Ground.data }], guard := none }) (v := ?_) rfl (by kernel_rfl) (by kernel_rfl) (by kernel_rfl) (fun _ _ _ h => h) (Or.inl ⟨by rfl, ?_⟩) (by assumption) ?_
              rotate_left
              · (intro w hSw; (try dsimp only at hSw); go_simp; try with_reducible rfl)
              try simp only [Act.put, List.setIfInBounds_toArray, List.set_cons_zero, List.set_cons_succ]
              refine wpAnyH_take (i := 10) (oi := { dst := some 18, op := Go.Op.extract (Go.Operand.tmp 8) 1, type := 3, pos := "l17_grow.go:73", after := #[{ on := 8, ground := Go.Ground.data }, { on := 12, ground := Go.Ground.gcOnly Go.Departure.lateStores }], guard := none }) (v := ?_) rfl (by kernel_rfl) (by kernel_rfl) (by kernel_rfl) (fun _ _ _ h => h) (Or.inl ⟨by rfl, ?_⟩) (by assumption) ?_
              rotate_left
              · (intro w hSw; (try dsimp only at hSw); go_simp; try with_reducible rfl)
              try simp only [Act.put, List.setIfInBounds_toArray, List.set_cons_zero, List.set_cons_succ]
              refine wpAnyH_ready (rs := [12]) (by kernel_rfl) (by simp) ?_
              refine AllReadyH.cons (o := { dst := none, op := Go.Op.store 30 (Go.Operand.tmp 3) (Go.Operand.tmp 17), type := 0, pos := "l17_grow.go:73", after := #[{ on := 11, ground := Go.Ground.data }, { on := 9, ground := Go.Ground.data }, { on := 7, ground := Go.Ground.chain }, { on := 0, ground := Go.Ground.phase }, { on := 1, ground := Go.Ground.phase }, { on := 2, ground := Go.Ground.phase }, { on := 3, ground := Go.Ground.phase }, { on := 4, ground := Go.Ground.phase }, { on := 5, ground := Go.Ground.phase }, { on := 6, ground := Go.Ground.phase }, { on := 7, ground := Go.Ground.phase }, { on := 8, ground := Go.Ground.phase }, { on := 9, ground := Go.Ground.phase }, { on := 10, ground := Go.Ground.textOnly Go.Departure.lateStores }, { on := 11, ground := Go.Ground.phase }], guard := none }) rfl (fun K12 hK12 => ?_) AllReadyH.nil
              (first | refine st_put (b0 := x) (b1 := y) (b2 := o2) hL rfl rfl (fun Y hY => ?_) | refine st_put (b0 := x) (b1 := y) (b2 := o2) (Lib.hid (CL.dr hL.out)) rfl rfl (fun Y hY => ?_))
              refine hK12.out _ _ ?_ (fun hHeld5 => ?_)
              · (try dsimp only); exact hY.2.1
              clear hK12 K12 hHeld4
              try simp only [Act.put]
              refine wpAnyH_take (i := 13) (oi := { dst := some 4, op := Go.Op.assign (Go.Operand.tmp 18), type := 3, pos := "l17_grow.go:73", after := #[{ on := 10, ground := Go.Ground.data }, { on := 12, ground := Go.Ground.chain }, { on := 0, ground := Go.Ground.phase }, { on := 1, ground := Go.Ground.phase }, { on := 2, ground := Go.Ground.phase }, { on := 3, ground := Go.Ground.phase }, { on := 4, ground := Go.Ground.phase }, { on := 5, ground := Go.Ground.phase }, { on := 6, ground := Go.Ground.phase }, { on := 7, ground := Go.Ground.phase }, { on := 8, ground := Go.Ground.phase }, { on := 9, ground := Go.Ground.phase }, { on := 10, ground := Go.Ground.phase }, { on := 11, ground := Go.Ground.phase }, { on := 12, ground := Go.Ground.phase }], guard := none }) (v := ?_) rfl (by kernel_rfl) (by kernel_rfl) (by kernel_rfl) (fun _ _ _ h => h) (Or.inl ⟨by rfl, ?_⟩) (by assumption) ?_
              rotate_left
              · (intro w hSw; (try dsimp only at hSw); go_simp; try with_reducible rfl)
              try simp only [Act.put, List.setIfInBounds_toArray, List.set_cons_zero, List.set_cons_succ]
              refine wpAnyH_done (by kernel_rfl) ?_ _
              (go_wp2_with fail; go_meet; exact ⟨_, rfl, rfl, hY.1⟩)
    case rest =>
    obtain ⟨P, rfl, rfl, hbw⟩ := hcut
    go_wp2_with fail
    refine bodyPost_ret (v := .int .i64 (h2 : Int)) (by simp [results, Try.results19, go_sem]) rfl ?_
    exact ⟨rfl, hbw⟩
  · have HG : Hid (∀ X, Calls Try.prog 34 #[.agg #[.int .i64 x, .int .i64 y]] X (Bl false X)) := Lib.hid fun X => gridS.gridOk_no x y X hk
    have HE : Hid ((0 : Int) = crZ x y) := Lib.hid (by unfold crZ; rw [if_neg hk])
    rw [← HE.out]
    clear hk HE
    go_enter Try.func19, Try.ntmps19
    go_wp2_with fail
    have hcl0 := Lib.hid (HW.out 25)
    refine (HG.out _).mono ?_
    rintro e w1 ⟨rfl, hb⟩
    have hcl1 := Lib.hid (hcl0.out.call hb)
    clear hb HW hcl0 HG
    go_wp2_with fail
    refine bodyPost_ret (v := .int .i64 0) (by simp [results, Try.results19, go_sem]) rfl ?_
    exact ⟨rfl, hcl1.out.1⟩
end Go.Proofs.Ythakbjdkcdppjaa.grwC
