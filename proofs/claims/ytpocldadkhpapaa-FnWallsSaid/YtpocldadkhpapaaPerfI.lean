/- The contracts of the program's functions on perfect mazes. -/
import Derived.Test.YtpocldadkhpapaaPerfN
import Derived.Test.YtpocldadkhpapaaRchI
import Derived.Test.YtpocldadkhpapaaSetI
import Derived.Test.YtpocldadkhpapaaGridN
namespace Go.Proofs.Ytpocldadkhpapaa.perfI
open Go.ChangeShapes Go.WideShapes Go.ChangeAt Go.RowKit
open draw gridP gridC gridE bitP mazeP mazeC mazeM mazeR mazeI reachI reachP reachM reachN intsP reachD forest perfP perfN intA setI
set_option linter.unusedVariables false

theorem isPerfect_any (x y z : Int) (W : World) :
    Calls Try.prog 13 #[.agg #[.int .i64 x, .int .i64 y, .int .i64 z]] W (Bl (ipB x y z) W) := by
  have HC := Lib.hid (fun X => isConnected_any x y z X)
  have HP := Lib.hid (fun X => countPassages_any x y z X)
  have HB0 := Lib.hid (below_box W (.cells #[.int .i64 x, .int .i64 y, .int .i64 z] 27))
  have HX0 := Lib.hid (mbox_new x y z W 27)
  cases hc : cnB x y z with
  | true =>
    have hv : OkM x y z := by
      apply Classical.byContradiction
      intro h
      unfold cnB ptZ at hc; rw [if_neg h] at hc; cases hc
    obtain ⟨⟨h1, h2, h3, h4⟩, -, -⟩ := id hv
    have hcc := (mul_bd x y h1 h2 h3 h4).1
    have HN : Hid (∀ X, Calls Try.prog 37 #[.agg #[.int .i64 x, .int .i64 y]] X (Nm (x * y) X)) := fun X => gridI.countCells_yes x y X h1 h2 h3 h4
    have he : (cpZ x y z == x * y - 1) = ipB x y z := by unfold ipB; rw [hc]; rfl
    have HK := @Lib.hid _ (fun w' b => @bl_mk (cpZ x y z == x * y - 1) (ipB x y z) W w' he b)
    rw [hc] at HC
    obtain ⟨n1, n2⟩ := hcc
    have hw1 : IntKind.i64.wrap (x * y - 1) = x * y - 1 := IntWalk.i64_in _ (by omega)
    clear he hc hv h1 h2 h3 h4
    generalize cpZ x y z = c at *
    generalize x * y = N at *
    go_enter Try.func13, Try.ntmps13
    go_wp2_with fail
    generalize W.alloc (.cells #[.int .i64 x, .int .i64 y, .int .i64 z] 27) = w0 at *
    obtain ⟨m0, m1, m2⟩ := HX0.out.1
    try simp only [List.cons_append, List.nil_append, List.append_eq]
    refine wp_region_held_drew (S := (fun w' => w'.cell? ⟨W.heap.size, 0, none⟩ = some (.int .i64 x) ∧ w'.cell? ⟨W.heap.size, 1, none⟩ = some (.int .i64 y) ∧ w'.cell? ⟨W.heap.size, 2, none⟩ = some (.int .i64 z))) (by kernel_rfl) ?_ (fun hHeld0 => ?_)
    · (try dsimp only); go_keep
    refine wpAnyH_take (i := 0) (oi := { dst := some 3, op := Go.Op.load 27 (Go.Operand.tmp 1), type := 27, pos := "l05_perfect.go:22", after := #[], guard := none }) (v := ?_) rfl (by kernel_rfl) (by kernel_rfl) (by kernel_rfl) (fun _ _ _ h => h) (Or.inl ⟨by rfl, ?_⟩) (by assumption) ?_
    rotate_left
    · (intro w hSw; (try dsimp only at hSw); go_simp; try with_reducible rfl)
    try simp only [Act.put, List.setIfInBounds_toArray, List.set_cons_zero, List.set_cons_succ]
    refine wpAnyH_ready (rs := [1]) (by kernel_rfl) (by simp) ?_
    refine AllReadyH.cons (o := { dst := some 4, op := Go.Op.call { callee := Go.Callee.value (Go.Operand.func 35), args := #[Go.Operand.tmp 3], argTypes := #[27] }, type := 4, pos := "l05_perfect.go:22", after := #[{ on := 0, ground := Go.Ground.data }], guard := none }) rfl (fun K1 hK1 => ?_) AllReadyH.nil
    go_simp
    (refine (HC.out _).mono ?_; rintro e v1 ⟨rfl, hb1⟩; have hM1 := Lib.hid (mbox_after hb1 HX0.out); obtain ⟨p1, q1, r1⟩ := hM1.out.1)
    go_wp2_with fail
    refine hK1.out _ _ ?_ (fun hHeld1 => ?_)
    · (try dsimp only); go_keep
    clear hK1 K1 hHeld0
    try simp only [Act.put, List.setIfInBounds_toArray, List.set_cons_zero, List.set_cons_succ]
    refine wpAnyH_take (i := 2) (oi := { dst := some 5, op := Go.Op.move (Go.Operand.tmp 4), type := 4, pos := "l05_perfect.go:22", after := #[{ on := 1, ground := Go.Ground.data }, { on := 1, ground := Go.Ground.chain }], guard := none }) (v := ?_) rfl (by kernel_rfl) (by kernel_rfl) (by kernel_rfl) (fun _ _ _ h => h) (Or.inl ⟨by rfl, ?_⟩) (by assumption) ?_
    rotate_left
    · (intro w hSw; (try dsimp only at hSw); go_simp; try with_reducible rfl)
    try simp only [Act.put, List.setIfInBounds_toArray, List.set_cons_zero, List.set_cons_succ]
    refine wpAnyH_take (i := 3) (oi := { dst := some 6, op := Go.Op.load 27 (Go.Operand.tmp 1), type := 27, pos := "l05_perfect.go:22", after := #[{ on := 2, ground := Go.Ground.guard }], guard := some (2, true) }) (v := ?_) rfl (by kernel_rfl) (by kernel_rfl) (by kernel_rfl) (fun _ _ _ h => h) (Or.inl ⟨by rfl, ?_⟩) (by assumption) ?_
    rotate_left
    · (intro w hSw; (try dsimp only at hSw); go_simp; try with_reducible rfl)
    try simp only [Act.put, List.setIfInBounds_toArray, List.set_cons_zero, List.set_cons_succ]
    refine wpAnyH_take (i := 5) (oi := { dst := some 8, op := Go.Op.fieldAddr 27 (Go.Operand.tmp 1) 0, type := 0, pos := "l05_perfect.go:22", after := #[{ on := 2, ground := Go.Ground.guard }], guard := some (2, true) }) (v := ?_) rfl (by kernel_rfl) (by kernel_rfl) (by kernel_rfl) (fun _ _ _ h => h) (Or.inl ⟨by rfl, ?_⟩) (by assumption) ?_
    rotate_left
    · (intro w hSw; (try dsimp only at hSw); go_simp; try with_reducible rfl)
    try simp only [Act.put, List.setIfInBounds_toArray, List.set_cons_zero, List.set_cons_succ]
    refine wpAnyH_take (i := 6) (oi := { dst := some 9, op := Go.Op.load 25 (Go.Operand.tmp 8), type := 25, pos := "l05_perfect.go:22", after := #[{ on := 5, ground := Go.Ground.data }, { on := 2, ground := Go.Ground.guard }], guard := some (2, true) }) (v := ?_) rfl (by kernel_rfl) (by kernel_rfl) (by kernel_rfl) (fun _ _ _ h => h) (Or.inl ⟨by rfl, ?_⟩) (by assumption) ?_
    rotate_left
    · (intro w hSw; (try dsimp only at hSw); go_simp; try with_reducible rfl)
    try simp only [Act.put, List.setIfInBounds_toArray, List.set_cons_zero, List.set_cons_succ]
    refine wpAnyH_ready (rs := [4]) (by kernel_rfl) (by simp) ?_
    refine AllReadyH.cons (o := { dst := some 7, op := Go.Op.call { callee := Go.Callee.value (Go.Operand.func 36), args := #[Go.Operand.tmp 6], argTypes := #[27] }, type := 3, pos := "l05_perfect.go:22", after := #[{ on := 3, ground := Go.Ground.data }, { on := 2, ground := Go.Ground.chain }, { on := 2, ground := Go.Ground.guard }], guard := some (2, true) }) rfl (fun K4 hK4 => ?_) AllReadyH.nil
    go_simp
    (refine (HP.out _).mono ?_; rintro e v2 ⟨rfl, hb2⟩; have hM2 := Lib.hid (mbox_after hb2 hM1.out); obtain ⟨p2, q2, r2⟩ := hM2.out.1)
    go_wp2_with fail
    refine hK4.out _ _ ?_ (fun hHeld2 => ?_)
    · (try dsimp only); go_keep
    clear hK4 K4 hHeld1
    try simp only [Act.put, List.setIfInBounds_toArray, List.set_cons_zero, List.set_cons_succ]
    refine wpAnyH_ready (rs := [7]) (by kernel_rfl) (by simp) ?_
    refine AllReadyH.cons (o := { dst := some 10, op := Go.Op.call { callee := Go.Callee.value (Go.Operand.func 37), args := #[Go.Operand.tmp 9], argTypes := #[25] }, type := 3, pos := "l05_perfect.go:22", after := #[{ on := 6, ground := Go.Ground.data }, { on := 4, ground := Go.Ground.chain }, { on := 2, ground := Go.Ground.guard }], guard := some (2, true) }) rfl (fun K7 hK7 => ?_) AllReadyH.nil
    go_simp
    (refine (HN.out _).mono ?_; rintro e v3 ⟨rfl, hb3⟩; have hM3 := Lib.hid (mbox_after hb3 hM2.out); obtain ⟨p3, q3, r3⟩ := hM3.out.1)
    go_wp2_with fail
    refine hK7.out _ _ ?_ (fun hHeld3 => ?_)
    · (try dsimp only); go_keep
    clear hK7 K7 hHeld2
    try simp only [Act.put, List.setIfInBounds_toArray, List.set_cons_zero, List.set_cons_succ]
    refine wpAnyH_take (i := 8) (oi := { dst := some 11, op := Go.Op.binOp Go.BinOp.sub 3 (Go.Operand.tmp 10) (Go.Operand.const (Go.Value.int Go.IntKind.i64 1)) 3, type := 3, pos := "l05_perfect.go:22", after := #[{ on := 7, ground := Go.Ground.data }, { on := 2, ground := Go.Ground.guard }], guard := some (2, true) }) (v := ?_) rfl (by kernel_rfl) (by kernel_rfl) (by kernel_rfl) (fun _ _ _ h => h) (Or.inl ⟨by rfl, ?_⟩) (by assumption) ?_
    rotate_left
    · (intro w hSw; (try dsimp only at hSw); go_simp; try with_reducible rfl)
    try simp only [Act.put, List.setIfInBounds_toArray, List.set_cons_zero, List.set_cons_succ]
    refine wpAnyH_take (i := 9) (oi := { dst := some 12, op := Go.Op.binOp Go.BinOp.eql 3 (Go.Operand.tmp 7) (Go.Operand.tmp 11) 3, type := 4, pos := "l05_perfect.go:22", after := #[{ on := 4, ground := Go.Ground.data }, { on := 8, ground := Go.Ground.data }, { on := 2, ground := Go.Ground.guard }], guard := some (2, true) }) (v := ?_) rfl (by kernel_rfl) (by kernel_rfl) (by kernel_rfl) (fun _ _ _ h => h) (Or.inl ⟨by rfl, ?_⟩) (by assumption) ?_
    rotate_left
    · (intro w hSw; (try dsimp only at hSw); go_simp; try with_reducible rfl)
    try simp only [Act.put, List.setIfInBounds_toArray, List.set_cons_zero, List.set_cons_succ]
    refine wpAnyH_take (i := 10) (oi := { dst := some 13, op := Go.Op.pick (Go.Operand.tmp 5) (Go.Operand.tmp 12) (Go.Operand.const (Go.Value.bool false)), type := 4, pos := "l05_perfect.go:22", after := #[{ on := 2, ground := Go.Ground.data }, { on := 9, ground := Go.Ground.data }], guard := none }) (v := ?_) rfl (by kernel_rfl) (by kernel_rfl) (by kernel_rfl) (fun _ _ _ h => h) (Or.inl ⟨by rfl, ?_⟩) (by assumption) ?_
    rotate_left
    · (intro w hSw; (try dsimp only at hSw); go_simp; try with_reducible rfl)
    try simp only [Act.put, List.setIfInBounds_toArray, List.set_cons_zero, List.set_cons_succ]
    refine wpAnyH_take (i := 11) (oi := { dst := some 2, op := Go.Op.assign (Go.Operand.tmp 13), type := 4, pos := "l05_perfect.go:22", after := #[{ on := 10, ground := Go.Ground.data }, { on := 7, ground := Go.Ground.chain }, { on := 0, ground := Go.Ground.phase }, { on := 1, ground := Go.Ground.phase }, { on := 2, ground := Go.Ground.phase }, { on := 3, ground := Go.Ground.phase }, { on := 4, ground := Go.Ground.phase }, { on := 5, ground := Go.Ground.phase }, { on := 6, ground := Go.Ground.phase }, { on := 7, ground := Go.Ground.phase }, { on := 8, ground := Go.Ground.phase }, { on := 9, ground := Go.Ground.phase }, { on := 10, ground := Go.Ground.phase }], guard := none }) (v := ?_) rfl (by kernel_rfl) (by kernel_rfl) (by kernel_rfl) (fun _ _ _ h => h) (Or.inl ⟨by rfl, ?_⟩) (by assumption) ?_
    rotate_left
    · (intro w hSw; (try dsimp only at hSw); go_simp; try with_reducible rfl)
    try simp only [Act.put, List.setIfInBounds_toArray, List.set_cons_zero, List.set_cons_succ]
    refine wpAnyH_done (by kernel_rfl) ?_ _
    go_wp2_with fail
    go_ret
    exact HK.out _ (below_call (below_call (below_call (below_dr HB0.out) hb1) hb2) hb3)
  | false =>
    have he : false = ipB x y z := by unfold ipB; rw [hc]; rfl
    have HK := @Lib.hid _ (fun w' b => @bl_mk false (ipB x y z) W w' he b)
    rw [hc] at HC
    clear he hc
    go_enter Try.func13, Try.ntmps13
    go_wp2_with fail
    generalize W.alloc (.cells #[.int .i64 x, .int .i64 y, .int .i64 z] 27) = w0 at *
    obtain ⟨m0, m1, m2⟩ := HX0.out.1
    try simp only [List.cons_append, List.nil_append, List.append_eq]
    refine wp_region_held_drew (S := (fun w' => w'.cell? ⟨W.heap.size, 0, none⟩ = some (.int .i64 x) ∧ w'.cell? ⟨W.heap.size, 1, none⟩ = some (.int .i64 y) ∧ w'.cell? ⟨W.heap.size, 2, none⟩ = some (.int .i64 z))) (by kernel_rfl) ?_ (fun hHeld0 => ?_)
    · (try dsimp only); go_keep
    refine wpAnyH_take (i := 0) (oi := { dst := some 3, op := Go.Op.load 27 (Go.Operand.tmp 1), type := 27, pos := "l05_perfect.go:22", after := #[], guard := none }) (v := ?_) rfl (by kernel_rfl) (by kernel_rfl) (by kernel_rfl) (fun _ _ _ h => h) (Or.inl ⟨by rfl, ?_⟩) (by assumption) ?_
    rotate_left
    · (intro w hSw; (try dsimp only at hSw); go_simp; try with_reducible rfl)
    try simp only [Act.put, List.setIfInBounds_toArray, List.set_cons_zero, List.set_cons_succ]
    refine wpAnyH_ready (rs := [1]) (by kernel_rfl) (by simp) ?_
    refine AllReadyH.cons (o := { dst := some 4, op := Go.Op.call { callee := Go.Callee.value (Go.Operand.func 35), args := #[Go.Operand.tmp 3], argTypes := #[27] }, type := 4, pos := "l05_perfect.go:22", after := #[{ on := 0, ground := Go.Ground.data }], guard := none }) rfl (fun K1 hK1 => ?_) AllReadyH.nil
    go_simp
    (refine (HC.out _).mono ?_; rintro e v1 ⟨rfl, hb1⟩; have hM1 := Lib.hid (mbox_after hb1 HX0.out); obtain ⟨p1, q1, r1⟩ := hM1.out.1)
    go_wp2_with fail
    refine hK1.out _ _ ?_ (fun hHeld1 => ?_)
    · (try dsimp only); go_keep
    clear hK1 K1 hHeld0
    try simp only [Act.put, List.setIfInBounds_toArray, List.set_cons_zero, List.set_cons_succ]
    refine wpAnyH_take (i := 2) (oi := { dst := some 5, op := Go.Op.move (Go.Operand.tmp 4), type := 4, pos := "l05_perfect.go:22", after := #[{ on := 1, ground := Go.Ground.data }, { on := 1, ground := Go.Ground.chain }], guard := none }) (v := ?_) rfl (by kernel_rfl) (by kernel_rfl) (by kernel_rfl) (fun _ _ _ h => h) (Or.inl ⟨by rfl, ?_⟩) (by assumption) ?_
    rotate_left
    · (intro w hSw; (try dsimp only at hSw); go_simp; try with_reducible rfl)
    try simp only [Act.put, List.setIfInBounds_toArray, List.set_cons_zero, List.set_cons_succ]
    refine wpAnyH_take (i := 3) (oi := { dst := some 6, op := Go.Op.load 27 (Go.Operand.tmp 1), type := 27, pos := "l05_perfect.go:22", after := #[{ on := 2, ground := Go.Ground.guard }], guard := some (2, true) }) (v := undef) rfl (by kernel_rfl) (by kernel_rfl) (by kernel_rfl) (fun _ _ _ h => h) (Or.inr ⟨by rfl, rfl⟩) (by assumption) ?_
    try simp only [Act.put, List.setIfInBounds_toArray, List.set_cons_zero, List.set_cons_succ]
    refine wpAnyH_take (i := 4) (oi := { dst := some 7, op := Go.Op.call { callee := Go.Callee.value (Go.Operand.func 36), args := #[Go.Operand.tmp 6], argTypes := #[27] }, type := 3, pos := "l05_perfect.go:22", after := #[{ on := 3, ground := Go.Ground.data }, { on := 2, ground := Go.Ground.chain }, { on := 2, ground := Go.Ground.guard }], guard := some (2, true) }) (v := undef) rfl (by kernel_rfl) (by kernel_rfl) (by kernel_rfl) (fun _ _ _ h => h) (Or.inr ⟨by rfl, rfl⟩) (by assumption) ?_
    try simp only [Act.put, List.setIfInBounds_toArray, List.set_cons_zero, List.set_cons_succ]
    refine wpAnyH_take (i := 5) (oi := { dst := some 8, op := Go.Op.fieldAddr 27 (Go.Operand.tmp 1) 0, type := 0, pos := "l05_perfect.go:22", after := #[{ on := 2, ground := Go.Ground.guard }], guard := some (2, true) }) (v := undef) rfl (by kernel_rfl) (by kernel_rfl) (by kernel_rfl) (fun _ _ _ h => h) (Or.inr ⟨by rfl, rfl⟩) (by assumption) ?_
    try simp only [Act.put, List.setIfInBounds_toArray, List.set_cons_zero, List.set_cons_succ]
    refine wpAnyH_take (i := 6) (oi := { dst := some 9, op := Go.Op.load 25 (Go.Operand.tmp 8), type := 25, pos := "l05_perfect.go:22", after := #[{ on := 5, ground := Go.Ground.data }, { on := 2, ground := Go.Ground.guard }], guard := some (2, true) }) (v := undef) rfl (by kernel_rfl) (by kernel_rfl) (by kernel_rfl) (fun _ _ _ h => h) (Or.inr ⟨by rfl, rfl⟩) (by assumption) ?_
    try simp only [Act.put, List.setIfInBounds_toArray, List.set_cons_zero, List.set_cons_succ]
    refine wpAnyH_take (i := 7) (oi := { dst := some 10, op := Go.Op.call { callee := Go.Callee.value (Go.Operand.func 37), args := #[Go.Operand.tmp 9], argTypes := #[25] }, type := 3, pos := "l05_perfect.go:22", after := #[{ on := 6, ground := Go.Ground.data }, { on := 4, ground := Go.Ground.chain }, { on := 2, ground := Go.Ground.guard }], guard := some (2, true) }) (v := undef) rfl (by kernel_rfl) (by kernel_rfl) (by kernel_rfl) (fun _ _ _ h => h) (Or.inr ⟨by rfl, rfl⟩) (by assumption) ?_
    try simp only [Act.put, List.setIfInBounds_toArray, List.set_cons_zero, List.set_cons_succ]
    refine wpAnyH_take (i := 8) (oi := { dst := some 11, op := Go.Op.binOp Go.BinOp.sub 3 (Go.Operand.tmp 10) (Go.Operand.const (Go.Value.int Go.IntKind.i64 1)) 3, type := 3, pos := "l05_perfect.go:22", after := #[{ on := 7, ground := Go.Ground.data }, { on := 2, ground := Go.Ground.guard }], guard := some (2, true) }) (v := undef) rfl (by kernel_rfl) (by kernel_rfl) (by kernel_rfl) (fun _ _ _ h => h) (Or.inr ⟨by rfl, rfl⟩) (by assumption) ?_
    try simp only [Act.put, List.setIfInBounds_toArray, List.set_cons_zero, List.set_cons_succ]
    refine wpAnyH_take (i := 9) (oi := { dst := some 12, op := Go.Op.binOp Go.BinOp.eql 3 (Go.Operand.tmp 7) (Go.Operand.tmp 11) 3, type := 4, pos := "l05_perfect.go:22", after := #[{ on := 4, ground := Go.Ground.data }, { on := 8, ground := Go.Ground.data }, { on := 2, ground := Go.Ground.guard }], guard := some (2, true) }) (v := undef) rfl (by kernel_rfl) (by kernel_rfl) (by kernel_rfl) (fun _ _ _ h => h) (Or.inr ⟨by rfl, rfl⟩) (by assumption) ?_
    try simp only [Act.put, List.setIfInBounds_toArray, List.set_cons_zero, List.set_cons_succ]
    refine wpAnyH_take (i := 10) (oi := { dst := some 13, op := Go.Op.pick (Go.Operand.tmp 5) (Go.Operand.tmp 12) (Go.Operand.const (Go.Value.bool false)), type := 4, pos := "l05_perfect.go:22", after := #[{ on := 2, ground := Go.Ground.data }, { on := 9, ground := Go.Ground.data }], guard := none }) (v := ?_) rfl (by kernel_rfl) (by kernel_rfl) (by kernel_rfl) (fun _ _ _ h => h) (Or.inl ⟨by rfl, ?_⟩) (by assumption) ?_
    rotate_left
    · (intro w hSw; (try dsimp only at hSw); go_simp; try with_reducible rfl)
    try simp only [Act.put, List.setIfInBounds_toArray, List.set_cons_zero, List.set_cons_succ]
    refine wpAnyH_take (i := 11) (oi := { dst := some 2, op := Go.Op.assign (Go.Operand.tmp 13), type := 4, pos := "l05_perfect.go:22", after := #[{ on := 10, ground := Go.Ground.data }, { on := 7, ground := Go.Ground.chain }, { on := 0, ground := Go.Ground.phase }, { on := 1, ground := Go.Ground.phase }, { on := 2, ground := Go.Ground.phase }, { on := 3, ground := Go.Ground.phase }, { on := 4, ground := Go.Ground.phase }, { on := 5, ground := Go.Ground.phase }, { on := 6, ground := Go.Ground.phase }, { on := 7, ground := Go.Ground.phase }, { on := 8, ground := Go.Ground.phase }, { on := 9, ground := Go.Ground.phase }, { on := 10, ground := Go.Ground.phase }], guard := none }) (v := ?_) rfl (by kernel_rfl) (by kernel_rfl) (by kernel_rfl) (fun _ _ _ h => h) (Or.inl ⟨by rfl, ?_⟩) (by assumption) ?_
    rotate_left
    · (intro w hSw; (try dsimp only at hSw); go_simp; try with_reducible rfl)
    try simp only [Act.put, List.setIfInBounds_toArray, List.set_cons_zero, List.set_cons_succ]
    refine wpAnyH_done (by kernel_rfl) ?_ _
    go_wp2_with fail
    go_ret
    exact HK.out _ (below_call (below_dr HB0.out) hb1)

theorem countLoops_any (x y z : Int) (W : World) :
    Calls Try.prog 16 #[.agg #[.int .i64 x, .int .i64 y, .int .i64 z]] W (Nm (clZ x y z) W) := by
  have HO := Lib.hid (fun X => ok_any x y z X)
  have HP := Lib.hid (fun X => countPassages_any x y z X)
  have HT := Lib.hid (fun X => countParts_any x y z X)
  have HB := Lib.hid below_box
  by_cases hv : OkM x y z
  · rw [show okB x y z = true from decide_eq_true hv] at HO
    obtain ⟨⟨h1, h2, h3, h4⟩, -, -⟩ := id hv
    have hcc := (mul_bd x y h1 h2 h3 h4).1
    have HN : Hid (∀ X, Calls Try.prog 44 #[.agg #[.int .i64 x, .int .i64 y]] X (Nm (x * y) X)) := fun X => cells_any x y X h1 h2 h3 h4
    have he : cpZ x y z - x * y + ptZ x y z = clZ x y z := by unfold clZ; rw [if_pos hv]
    have HK := @Lib.hid _ (fun w' b => @nm_mk (cpZ x y z - x * y + ptZ x y z) (clZ x y z) W w' he b)
    obtain ⟨c1, c2⟩ := cp_bd x y z
    obtain ⟨p1, p2⟩ := pt_bd x y z
    obtain ⟨n1, n2⟩ := hcc
    clear he hv h1 h2 h3 h4
    generalize cpZ x y z = c at *
    generalize ptZ x y z = p at *
    generalize x * y = N at *
    have hw1 : IntKind.i64.wrap (c - N) = c - N := IntWalk.i64_in _ (by omega)
    have hw2 : IntKind.i64.wrap (c - N + p) = c - N + p := IntWalk.i64_in _ (by omega)
    go_enter Try.func16, Try.ntmps16
    go_wp2_with fail
    refine (HO.out _).mono ?_
    rintro e w1 ⟨rfl, hb⟩
    have hbl1 := Lib.hid (below_call (HB.out _ _) hb)
    have hxc1 := Lib.hid ((mbox_new x y z W _).call hb)
    clear hb
    obtain ⟨c0, c1, c2⟩ := hxc1.out.1
    go_wp2_with fail
    try simp only [List.cons_append, List.nil_append, List.append_eq]
    refine wp_region_held_drew (S := (fun w' => w'.cell? ⟨W.heap.size, 0, none⟩ = some (.int .i64 x) ∧ w'.cell? ⟨W.heap.size, 1, none⟩ = some (.int .i64 y) ∧ w'.cell? ⟨W.heap.size, 2, none⟩ = some (.int .i64 z))) (by kernel_rfl) ?_ (fun hHeld0 => ?_)
    · (try dsimp only); go_keep
    refine wpAnyH_take (i := 0) (oi := { dst := some 6, op := Go.Op.load 27 (Go.Operand.tmp 1), type := 27, pos := "l05_perfect.go:29", after := #[], guard := none }) (v := ?_) rfl (by kernel_rfl) (by kernel_rfl) (by kernel_rfl) (fun _ _ _ h => h) (Or.inl ⟨by rfl, ?_⟩) (by assumption) ?_
    rotate_left
    · (intro w hSw; (try dsimp only at hSw); go_simp; try with_reducible rfl)
    try simp only [Act.put, List.setIfInBounds_toArray, List.set_cons_zero, List.set_cons_succ]
    refine wpAnyH_take (i := 2) (oi := { dst := some 8, op := Go.Op.fieldAddr 27 (Go.Operand.tmp 1) 0, type := 0, pos := "l05_perfect.go:29", after := #[], guard := none }) (v := ?_) rfl (by kernel_rfl) (by kernel_rfl) (by kernel_rfl) (fun _ _ _ h => h) (Or.inl ⟨by rfl, ?_⟩) (by assumption) ?_
    rotate_left
    · (intro w hSw; (try dsimp only at hSw); go_simp; try with_reducible rfl)
    try simp only [Act.put, List.setIfInBounds_toArray, List.set_cons_zero, List.set_cons_succ]
    refine wpAnyH_take (i := 3) (oi := { dst := some 9, op := Go.Op.load 25 (Go.Operand.tmp 8), type := 25, pos := "l05_perfect.go:29", after := #[{ on := 2, ground := Go.Ground.data }], guard := none }) (v := ?_) rfl (by kernel_rfl) (by kernel_rfl) (by kernel_rfl) (fun _ _ _ h => h) (Or.inl ⟨by rfl, ?_⟩) (by assumption) ?_
    rotate_left
    · (intro w hSw; (try dsimp only at hSw); go_simp; try with_reducible rfl)
    try simp only [Act.put, List.setIfInBounds_toArray, List.set_cons_zero, List.set_cons_succ]
    refine wpAnyH_take (i := 6) (oi := { dst := some 12, op := Go.Op.load 27 (Go.Operand.tmp 1), type := 27, pos := "l05_perfect.go:29", after := #[], guard := none }) (v := ?_) rfl (by kernel_rfl) (by kernel_rfl) (by kernel_rfl) (fun _ _ _ h => h) (Or.inl ⟨by rfl, ?_⟩) (by assumption) ?_
    rotate_left
    · (intro w hSw; (try dsimp only at hSw); go_simp; try with_reducible rfl)
    try simp only [Act.put, List.setIfInBounds_toArray, List.set_cons_zero, List.set_cons_succ]
    refine wpAnyH_ready (rs := [1]) (by kernel_rfl) (by simp) ?_
    refine AllReadyH.cons (o := { dst := some 7, op := Go.Op.call { callee := Go.Callee.value (Go.Operand.func 36), args := #[Go.Operand.tmp 6], argTypes := #[27] }, type := 3, pos := "l05_perfect.go:29", after := #[{ on := 0, ground := Go.Ground.data }], guard := none }) rfl (fun K1 hK1 => ?_) AllReadyH.nil
    go_simp
    (refine (HP.out _).mono ?_; rintro e v1 ⟨rfl, hb1⟩; have hM1 := Lib.hid (mbox_after hb1 hxc1.out); obtain ⟨p1, q1, r1⟩ := hM1.out.1)
    go_wp2_with fail
    refine hK1.out _ _ ?_ (fun hHeld1 => ?_)
    · (try dsimp only); go_keep
    clear hK1 K1 hHeld0
    try simp only [Act.put, List.setIfInBounds_toArray, List.set_cons_zero, List.set_cons_succ]
    refine wpAnyH_ready (rs := [4]) (by kernel_rfl) (by simp) ?_
    refine AllReadyH.cons (o := { dst := some 10, op := Go.Op.call { callee := Go.Callee.value (Go.Operand.func 44), args := #[Go.Operand.tmp 9], argTypes := #[25] }, type := 3, pos := "l05_perfect.go:29", after := #[{ on := 3, ground := Go.Ground.data }, { on := 1, ground := Go.Ground.chain }], guard := none }) rfl (fun K4 hK4 => ?_) AllReadyH.nil
    go_simp
    (refine (HN.out _).mono ?_; rintro e v2 ⟨rfl, hb2⟩; have hM2 := Lib.hid (mbox_after hb2 hM1.out); obtain ⟨p2, q2, r2⟩ := hM2.out.1)
    go_wp2_with fail
    refine hK4.out _ _ ?_ (fun hHeld2 => ?_)
    · (try dsimp only); go_keep
    clear hK4 K4 hHeld1
    try simp only [Act.put, List.setIfInBounds_toArray, List.set_cons_zero, List.set_cons_succ]
    refine wpAnyH_take (i := 5) (oi := { dst := some 11, op := Go.Op.binOp Go.BinOp.sub 3 (Go.Operand.tmp 7) (Go.Operand.tmp 10) 3, type := 3, pos := "l05_perfect.go:29", after := #[{ on := 1, ground := Go.Ground.data }, { on := 4, ground := Go.Ground.data }], guard := none }) (v := ?_) rfl (by kernel_rfl) (by kernel_rfl) (by kernel_rfl) (fun _ _ _ h => h) (Or.inl ⟨by rfl, ?_⟩) (by assumption) ?_
    rotate_left
    · (intro w hSw; (try dsimp only at hSw); go_simp; try with_reducible rfl)
    try simp only [Act.put, List.setIfInBounds_toArray, List.set_cons_zero, List.set_cons_succ]
    refine wpAnyH_ready (rs := [7]) (by kernel_rfl) (by simp) ?_
    refine AllReadyH.cons (o := { dst := some 13, op := Go.Op.call { callee := Go.Callee.value (Go.Operand.func 18), args := #[Go.Operand.tmp 12], argTypes := #[27] }, type := 3, pos := "l05_perfect.go:29", after := #[{ on := 6, ground := Go.Ground.data }, { on := 4, ground := Go.Ground.chain }], guard := none }) rfl (fun K7 hK7 => ?_) AllReadyH.nil
    go_simp
    (refine (HT.out _).mono ?_; rintro e v3 ⟨rfl, hb3⟩; have hM3 := Lib.hid (mbox_after hb3 hM2.out); obtain ⟨p3, q3, r3⟩ := hM3.out.1)
    go_wp2_with fail
    refine hK7.out _ _ ?_ (fun hHeld3 => ?_)
    · (try dsimp only); go_keep
    clear hK7 K7 hHeld2
    try simp only [Act.put, List.setIfInBounds_toArray, List.set_cons_zero, List.set_cons_succ]
    refine wpAnyH_take (i := 8) (oi := { dst := some 14, op := Go.Op.binOp Go.BinOp.add 3 (Go.Operand.tmp 11) (Go.Operand.tmp 13) 3, type := 3, pos := "l05_perfect.go:29", after := #[{ on := 5, ground := Go.Ground.data }, { on := 7, ground := Go.Ground.data }], guard := none }) (v := ?_) rfl (by kernel_rfl) (by kernel_rfl) (by kernel_rfl) (fun _ _ _ h => h) (Or.inl ⟨by rfl, ?_⟩) (by assumption) ?_
    rotate_left
    · (intro w hSw; (try dsimp only at hSw); go_simp; try with_reducible rfl)
    try simp only [Act.put, List.setIfInBounds_toArray, List.set_cons_zero, List.set_cons_succ]
    refine wpAnyH_take (i := 9) (oi := { dst := some 2, op := Go.Op.assign (Go.Operand.tmp 14), type := 3, pos := "l05_perfect.go:29", after := #[{ on := 8, ground := Go.Ground.data }, { on := 7, ground := Go.Ground.chain }, { on := 0, ground := Go.Ground.phase }, { on := 1, ground := Go.Ground.phase }, { on := 2, ground := Go.Ground.phase }, { on := 3, ground := Go.Ground.phase }, { on := 4, ground := Go.Ground.phase }, { on := 5, ground := Go.Ground.phase }, { on := 6, ground := Go.Ground.phase }, { on := 7, ground := Go.Ground.phase }, { on := 8, ground := Go.Ground.phase }], guard := none }) (v := ?_) rfl (by kernel_rfl) (by kernel_rfl) (by kernel_rfl) (fun _ _ _ h => h) (Or.inl ⟨by rfl, ?_⟩) (by assumption) ?_
    rotate_left
    · (intro w hSw; (try dsimp only at hSw); go_simp; try with_reducible rfl)
    try simp only [Act.put, List.setIfInBounds_toArray, List.set_cons_zero, List.set_cons_succ]
    refine wpAnyH_done (by kernel_rfl) ?_ _
    go_wp2_with fail
    go_ret
    exact HK.out _ (below_call (below_call (below_call (below_dr hbl1.out) hb1) hb2) hb3)
  · rw [show okB x y z = false from decide_eq_false hv] at HO
    have he : 0 = clZ x y z := by unfold clZ; rw [if_neg hv]
    have HK := @Lib.hid _ (fun w' b => @nm_mk 0 (clZ x y z) W w' he b)
    clear he hv
    go_enter Try.func16, Try.ntmps16
    go_wp2_with fail
    refine (HO.out _).mono ?_
    rintro e w1 ⟨rfl, hb⟩
    have hbl1 := Lib.hid (below_call (HB.out _ _) hb)
    have hxc1 := Lib.hid ((mbox_new x y z W _).call hb)
    clear hb
    obtain ⟨c0, c1, c2⟩ := hxc1.out.1
    go_wp2_with fail
    go_ret
    exact HK.out _ hbl1.out

theorem rs_mem {x y z : Int} {a : Nat} (hv : OkM x y z) (ha : a < cN x y) (u : Int) : u ∈ rsZ x y z a ↔ ∃ v : Nat, u = v ∧ v < cN x y ∧ 0 ≤ dZ (stN x y z) (cN x y) a v := by
  have hh : hasB x y z a = true := by
    have := (nn hv.1).1
    exact decide_eq_true ⟨hv, by omega, by omega⟩
  unfold rsZ
  rw [if_pos hh, Int.toNat_natCast, rlN_mem]
theorem rs_len {x y z a : Int} : (rsZ x y z a).length ≤ 16 := by
  unfold rsZ; split
  · rename_i h
    obtain ⟨hv, k, rfl, ha, haN, hak, hN16, hNN⟩ := has_form h
    have := rlN_len (stN x y z) (cN x y) (k : Int).toNat (cN x y)
    omega
  · simp
theorem ap_rs {x y z : Int} {g : Nat} (hv : OkM x y z) (hg : g < gN x y) : (!decide ((bN x y g : Int) ∈ rsZ x y z (aN x y g))) = apB x y z g := by
  obtain ⟨e1, e2, e3, e4⟩ := ends_lt hv.1 hg
  unfold apB
  rw [← decide_not, decide_eq_decide, rs_mem hv (by omega), Int.toNat_natCast]
  refine ⟨fun h => ?_, fun h ⟨v, hv', h1, h2⟩ => ?_⟩
  · by_cases h' : dZ (stN x y z) (cN x y) (aN x y g) (bN x y g) < 0
    · exact h'
    · exact absurd ⟨_, rfl, e2, by omega⟩ h
  · obtain rfl : bN x y g = v := by omega
    omega

end Go.Proofs.Ytpocldadkhpapaa.perfI

/- The contract of the program's maze that an order of gaps makes. -/
namespace Go.Proofs.Ytpocldadkhpapaa.perfI
open Go.ChangeShapes Go.WideShapes Go.ChangeAt Go.RowKit
open draw gridP gridC gridE bitP mazeP mazeC mazeM mazeR mazeI intsP reachD forest perfP perfN intA
set_option linter.unusedVariables false

/-- What stands while an order is looked at: the grid's box, the answer's block, the order. -/
def GI (W : World) (x y : Int) (A : Option Addr) (l : List Int) (X : World) : Prop :=
  Below W.heap.size W X ∧ Box W.heap.size x y X ∧ Row3 (W.heap.size + 1) 0 0 0 X ∧ IntsIn X W.heap.size A l
theorem GI.call {W X X' : World} {x y : Int} {A : Option Addr} {l : List Int} (h : GI W x y A l X) (hb : Below X.heap.size X X') : GI W x y A l X' := by
  obtain ⟨h1, h2, h3, h5⟩ := h
  exact ⟨below_call h1 hb, h2.call hb, h3.call hb, h5.below (hb.mono h1.size)⟩
theorem gi_new {W : World} {x y : Int} {A : Option Addr} {l : List Int} (hi : IntsIn W W.heap.size A l) (T1 T2 : TypeId) :
    GI W x y A l ((W.alloc (.cells #[.int .i64 x, .int .i64 y] T1)).alloc (.cells #[.int .i64 0, .int .i64 0, .int .i64 0] T2)) := by
  have hb : Below W.heap.size W ((W.alloc (.cells #[.int .i64 x, .int .i64 y] T1)).alloc (.cells #[.int .i64 0, .int .i64 0, .int .i64 0] T2)) := ((Below.refl _ _).alloc (Nat.le_refl _) _).alloc (by simp) _
  refine ⟨hb, (box_new x y W T1).call (below_box _ _), ?_, hi.below hb⟩
  have := row3_new 0 0 0 (W.alloc (.cells #[.int .i64 x, .int .i64 y] T1)) T2
  simpa using this
/-- What stands while a maze is made: the maze's block, too. -/
def KI (W : World) (x y z : Int) (M : Nat) (A : Option Addr) (l : List Int) (X : World) : Prop := GI W x y A l X ∧ Row3 M x y z X ∧ W.heap.size + 1 < M
theorem KI.call {W X X' : World} {x y z : Int} {M : Nat} {A : Option Addr} {l : List Int} (h : KI W x y z M A l X) (hb : Below X.heap.size X X') : KI W x y z M A l X' := ⟨h.1.call hb, h.2.1.call hb, h.2.2⟩
theorem KI.dr {W X : World} {x y z : Int} {M : Nat} {A : Option Addr} {l : List Int} (h : KI W x y z M A l X) : KI W x y z M A l X.drew := h.call ⟨rfl, rfl, rfl, Nat.le_refl _, fun _ _ => rfl⟩
theorem ki_new {W X : World} {x y : Int} {A : Option Addr} {l : List Int} (h : GI W x y A l X) (T : TypeId) : KI W x y 0 X.heap.size A l (X.alloc (.cells #[.int .i64 x, .int .i64 y, .int .i64 0] T)) :=
  ⟨h.call (below_box _ _), row3_new x y 0 X T, row3_lt h.2.2.1⟩
theorem KI.put {W X : World} {x y z : Int} {M : Nat} {A : Option Addr} {l : List Int} (h : KI W x y z M A l X) (z' : Int) :
    KI W x y z' M A l (((X.setCell ⟨M, 0, none⟩ (.int .i64 x)).setCell ⟨M, 1, none⟩ (.int .i64 y)).setCell ⟨M, 2, none⟩ (.int .i64 z')) := by
  obtain ⟨⟨h1, h2, h3, h5⟩, h4, h6⟩ := h
  have hb : Below W.heap.size X (((X.setCell ⟨M, 0, none⟩ (.int .i64 x)).setCell ⟨M, 1, none⟩ (.int .i64 y)).setCell ⟨M, 2, none⟩ (.int .i64 z')) :=
    (((Below.refl _ _).setCell (by simp; omega) _).setCell (by simp; omega) _).setCell (by simp; omega) _
  exact ⟨⟨h1.trans hb, box_far (box_far (box_far h2 (by simp; omega) _) (by simp; omega) _) (by simp; omega) _, row3_far (row3_far (row3_far h3 (by simp; omega) _) (by simp; omega) _) (by simp; omega) _, h5.below hb⟩, row3_set h4, h6⟩

end Go.Proofs.Ytpocldadkhpapaa.perfI
