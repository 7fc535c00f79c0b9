/- The contracts of the program's functions on perfect mazes. -/
import Derived.Test.YthgnhamokikhkaaPerfN
import Derived.Test.YthgnhamokikhkaaRchI
import Derived.Test.YthgnhamokikhkaaSetI
import Derived.Test.YthgnhamokikhkaaGridN
namespace Go.Proofs.Ythgnhamokikhkaa.perfI
open Go.ChangeShapes Go.WideShapes Go.ChangeAt Go.RowKit
open draw gridP gridC gridE bitP mazeP mazeC mazeM mazeR mazeI reachI reachP reachM reachN intsP reachD forest perfP perfN intA setI
set_option linter.unusedVariables false

theorem isPerfect_any (x y z : Int) (W : World) :
    Calls Try.prog 24 #[.agg #[.int .i64 x, .int .i64 y, .int .i64 z]] W (Bl (ipB x y z) W) := by
  have HC := Lib.hid (fun X => isConnected_any x y z X)
  have HP := Lib.hid (fun X => countPassages_any x y z X)
  have HB0 := Lib.hid (below_box W (.cells #[.int .i64 x, .int .i64 y, .int .i64 z] 27))
  have HX0 := Lib.hid (mbox_new x y z W 27)
  obtain ⟨q, HN0, hq⟩ : ∃ q : Int, (∀ X, Calls Try.prog 77 #[.agg #[.int .i64 x, .int .i64 y]] X (Nm q X)) ∧ ipB x y z = ((cpZ x y z == IntKind.i64.wrap (q - 1)) && cnB x y z) := by
    by_cases hg : 1 ≤ x ∧ x ≤ 4 ∧ 1 ≤ y ∧ y ≤ 4
    · obtain ⟨h1, h2, h3, h4⟩ := hg
      obtain ⟨n1, n2⟩ := (mul_bd x y h1 h2 h3 h4).1
      refine ⟨x * y, fun X => gridI.countCells_yes x y X h1 h2 h3 h4, ?_⟩
      rw [IntWalk.i64_in _ (by omega)]
      unfold ipB
      exact Bool.and_comm _ _
    · refine ⟨0, fun X => gridI.countCells_no x y X hg, ?_⟩
      have : cnB x y z = false := by
        unfold cnB ptZ
        rw [if_neg (fun h => hg h.1)]; rfl
      unfold ipB
      rw [this, Bool.and_false, Bool.false_and]
  have HN := Lib.hid HN0
  obtain ⟨k, hw1⟩ : ∃ k, IntKind.i64.wrap (q - 1) = k := ⟨_, rfl⟩
  rw [hw1] at hq
  clear HN0
  generalize cpZ x y z = c at *
  cases he : (c == k) with
  | true =>
    have hr : cnB x y z = ipB x y z := by rw [hq, he]; rfl
    have HK := @Lib.hid _ (fun w' b => @bl_mk (cnB x y z) (ipB x y z) W w' hr b)
    clear hq hr
    generalize cnB x y z = r at *
    go_enter Try.func24, Try.ntmps24
    go_wp2_with fail
    generalize W.alloc (.cells #[.int .i64 x, .int .i64 y, .int .i64 z] 27) = w0 at *
    obtain ⟨m0, m1, m2⟩ := HX0.out.1
    try simp only [List.cons_append, List.nil_append, List.append_eq]
    refine wp_region_held_drew (S := (fun w' => w'.cell? ⟨W.heap.size, 0, none⟩ = some (.int .i64 x) ∧ w'.cell? ⟨W.heap.size, 1, none⟩ = some (.int .i64 y) ∧ w'.cell? ⟨W.heap.size, 2, none⟩ = some (.int .i64 z))) (by kernel_rfl) ?_ (fun hHeld0 => ?_)
    · (try dsimp only); go_keep
    refine wpAnyH_take (i := 0) (oi := { dst := some 3, op := Go.Op.load 27 (Go.Operand.tmp 1), type := 27, pos := "l05_perfect.go:22", after := #[], guard := none }) (v := ?_) rfl (by kernel_rfl) (by kernel_rfl) (by kernel_rfl) (fun _ _ _ h => h) (Or.inl ⟨by rfl, ?_⟩) (by assumption) ?_
    rotate_left
    · (intro w hSw; (try dsimp only at hSw); go_simp; try with_reducible rfl)
    try simp only [Act.put, List.setIfInBounds_toArray, List.set_cons_zero, List.set_cons_succ]
    refine wpAnyH_take (i := 2) (oi := { dst := some 5, op := Go.Op.fieldAddr 27 (Go.Operand.tmp 1) 0, type := 0, pos := "l05_perfect.go:22", after := #[], guard := none }) (v := ?_) rfl (by kernel_rfl) (by kernel_rfl) (by kernel_rfl) (fun _ _ _ h => h) (Or.inl ⟨by rfl, ?_⟩) (by assumption) ?_
    rotate_left
    · (intro w hSw; (try dsimp only at hSw); go_simp; try with_reducible rfl)
    try simp only [Act.put, List.setIfInBounds_toArray, List.set_cons_zero, List.set_cons_succ]
    refine wpAnyH_take (i := 3) (oi := { dst := some 6, op := Go.Op.load 25 (Go.Operand.tmp 5), type := 25, pos := "l05_perfect.go:22", after := #[{ on := 2, ground := Go.Ground.data }], guard := none }) (v := ?_) rfl (by kernel_rfl) (by kernel_rfl) (by kernel_rfl) (fun _ _ _ h => h) (Or.inl ⟨by rfl, ?_⟩) (by assumption) ?_
    rotate_left
    · (intro w hSw; (try dsimp only at hSw); go_simp; try with_reducible rfl)
    try simp only [Act.put, List.setIfInBounds_toArray, List.set_cons_zero, List.set_cons_succ]
    refine wpAnyH_ready (rs := [1]) (by kernel_rfl) (by simp) ?_
    refine AllReadyH.cons (o := { dst := some 4, op := Go.Op.call { callee := Go.Callee.value (Go.Operand.func 70), args := #[Go.Operand.tmp 3], argTypes := #[27] }, type := 3, pos := "l05_perfect.go:22", after := #[{ on := 0, ground := Go.Ground.data }], guard := none }) rfl (fun K1 hK1 => ?_) AllReadyH.nil
    go_simp
    (refine (HP.out _).mono ?_; rintro e v1 ⟨rfl, hb1⟩; have hM1 := Lib.hid (mbox_after hb1 HX0.out); obtain ⟨p1, q1, r1⟩ := hM1.out.1)
    go_wp2_with fail
    refine hK1.out _ _ ?_ (fun hHeld1 => ?_)
    · (try dsimp only); go_keep
    clear hK1 K1 hHeld0
    try simp only [Act.put, List.setIfInBounds_toArray, List.set_cons_zero, List.set_cons_succ]
    refine wpAnyH_ready (rs := [4]) (by kernel_rfl) (by simp) ?_
    refine AllReadyH.cons (o := { dst := some 7, op := Go.Op.call { callee := Go.Callee.value (Go.Operand.func 77), args := #[Go.Operand.tmp 6], argTypes := #[25] }, type := 3, pos := "l05_perfect.go:22", after := #[{ on := 3, ground := Go.Ground.data }, { on := 1, ground := Go.Ground.chain }], guard := none }) rfl (fun K4 hK4 => ?_) AllReadyH.nil
    go_simp
    (refine (HN.out _).mono ?_; rintro e v2 ⟨rfl, hb2⟩; have hM2 := Lib.hid (mbox_after hb2 hM1.out); obtain ⟨p2, q2, r2⟩ := hM2.out.1)
    go_wp2_with fail
    refine hK4.out _ _ ?_ (fun hHeld2 => ?_)
    · (try dsimp only); go_keep
    clear hK4 K4 hHeld1
    try simp only [Act.put, List.setIfInBounds_toArray, List.set_cons_zero, List.set_cons_succ]
    refine wpAnyH_take (i := 5) (oi := { dst := some 8, op := Go.Op.binOp Go.BinOp.sub 3 (Go.Operand.tmp 7) (Go.Operand.const (Go.Value.int Go.IntKind.i64 1)) 3, type := 3, pos := "l05_perfect.go:22", after := #[{ on := 4, ground := Go.Ground.data }], guard := none }) (v := ?_) rfl (by kernel_rfl) (by kernel_rfl) (by kernel_rfl) (fun _ _ _ h => h) (Or.inl ⟨by rfl, ?_⟩) (by assumption) ?_
    rotate_left
    · (intro w hSw; (try dsimp only at hSw); go_simp; try with_reducible rfl)
    try simp only [Act.put, List.setIfInBounds_toArray, List.set_cons_zero, List.set_cons_succ]
    refine wpAnyH_take (i := 6) (oi := { dst := some 9, op := Go.Op.binOp Go.BinOp.eql 3 (Go.Operand.tmp 4) (Go.Operand.tmp 8) 3, type := 4, pos := "l05_perfect.go:22", after := #[{ on := 1, ground := Go.Ground.data }, { on := 5, ground := Go.Ground.data }], guard := none }) (v := ?_) rfl (by kernel_rfl) (by kernel_rfl) (by kernel_rfl) (fun _ _ _ h => h) (Or.inl ⟨by rfl, ?_⟩) (by assumption) ?_
    rotate_left
    · (intro w hSw; (try dsimp only at hSw); go_simp; try with_reducible rfl)
    try simp only [Act.put, List.setIfInBounds_toArray, List.set_cons_zero, List.set_cons_succ]
    refine wpAnyH_take (i := 7) (oi := { dst := some 10, op := Go.Op.move (Go.Operand.tmp 9), type := 4, pos := "l05_perfect.go:22", after := #[{ on := 6, ground := Go.Ground.data }, { on := 4, ground := Go.Ground.chain }], guard := none }) (v := ?_) rfl (by kernel_rfl) (by kernel_rfl) (by kernel_rfl) (fun _ _ _ h => h) (Or.inl ⟨by rfl, ?_⟩) (by assumption) ?_
    rotate_left
    · (intro w hSw; (try dsimp only at hSw); go_simp; try with_reducible rfl)
    try simp only [Act.put, List.setIfInBounds_toArray, List.set_cons_zero, List.set_cons_succ]
    refine wpAnyH_take (i := 8) (oi := { dst := some 11, op := Go.Op.load 27 (Go.Operand.tmp 1), type := 27, pos := "l05_perfect.go:22", after := #[{ on := 7, ground := Go.Ground.guard }], guard := some (7, true) }) (v := ?_) rfl (by kernel_rfl) (by kernel_rfl) (by kernel_rfl) (fun _ _ _ h => h) (Or.inl ⟨by rfl, ?_⟩) (by assumption) ?_
    rotate_left
    · (intro w hSw; (try dsimp only at hSw); go_simp; try with_reducible rfl)
    try simp only [Act.put, List.setIfInBounds_toArray, List.set_cons_zero, List.set_cons_succ]
    refine wpAnyH_ready (rs := [9]) (by kernel_rfl) (by simp) ?_
    refine AllReadyH.cons (o := { dst := some 12, op := Go.Op.call { callee := Go.Callee.value (Go.Operand.func 25), args := #[Go.Operand.tmp 11], argTypes := #[27] }, type := 4, pos := "l05_perfect.go:22", after := #[{ on := 8, ground := Go.Ground.data }, { on := 7, ground := Go.Ground.chain }, { on := 7, ground := Go.Ground.guard }], guard := some (7, true) }) rfl (fun K9 hK9 => ?_) AllReadyH.nil
    go_simp
    (refine (HC.out _).mono ?_; rintro e v3 ⟨rfl, hb3⟩; have hM3 := Lib.hid (mbox_after hb3 hM2.out); obtain ⟨p3, q3, r3⟩ := hM3.out.1)
    go_wp2_with fail
    refine hK9.out _ _ ?_ (fun hHeld3 => ?_)
    · (try dsimp only); go_keep
    clear hK9 K9 hHeld2
    try simp only [Act.put, List.setIfInBounds_toArray, List.set_cons_zero, List.set_cons_succ]
    refine wpAnyH_take (i := 10) (oi := { dst := some 13, op := Go.Op.pick (Go.Operand.tmp 10) (Go.Operand.tmp 12) (Go.Operand.const (Go.Value.bool false)), type := 4, pos := "l05_perfect.go:22", after := #[{ on := 7, ground := Go.Ground.data }, { on := 9, ground := Go.Ground.data }], guard := none }) (v := ?_) rfl (by kernel_rfl) (by kernel_rfl) (by kernel_rfl) (fun _ _ _ h => h) (Or.inl ⟨by rfl, ?_⟩) (by assumption) ?_
    rotate_left
    · (intro w hSw; (try dsimp only at hSw); go_simp; try with_reducible rfl)
    try simp only [Act.put, List.setIfInBounds_toArray, List.set_cons_zero, List.set_cons_succ]
    refine wpAnyH_take (i := 11) (oi := { dst := some 2, op := Go.Op.assign (Go.Operand.tmp 13), type := 4, pos := "l05_perfect.go:22", after := #[{ on := 10, ground := Go.Ground.data }, { on := 9, ground := Go.Ground.chain }, { on := 0, ground := Go.Ground.phase }, { on := 1, ground := Go.Ground.phase }, { on := 2, ground := Go.Ground.phase }, { on := 3, ground := Go.Ground.phase }, { on := 4, ground := Go.Ground.phase }, { on := 5, ground := Go.Ground.phase }, { on := 6, ground := Go.Ground.phase }, { on := 7, ground := Go.Ground.phase }, { on := 8, ground := Go.Ground.phase }, { on := 9, ground := Go.Ground.phase }, { on := 10, ground := Go.Ground.phase }], guard := none }) (v := ?_) rfl (by kernel_rfl) (by kernel_rfl) (by kernel_rfl) (fun _ _ _ h => h) (Or.inl ⟨by rfl, ?_⟩) (by assumption) ?_
    rotate_left
    · (intro w hSw; (try dsimp only at hSw); go_simp; try with_reducible rfl)
    try simp only [Act.put, List.setIfInBounds_toArray, List.set_cons_zero, List.set_cons_succ]
    refine wpAnyH_done (by kernel_rfl) ?_ _
    go_wp2_with fail
    go_ret
    exact HK.out _ (below_call (below_call (below_call (below_dr HB0.out) hb1) hb2) hb3)
  | false =>
    have hr : false = ipB x y z := by rw [hq, he]; rfl
    have HK := @Lib.hid _ (fun w' b => @bl_mk false (ipB x y z) W w' hr b)
    clear hq hr
    go_enter Try.func24, Try.ntmps24
    go_wp2_with fail
    generalize W.alloc (.cells #[.int .i64 x, .int .i64 y, .int .i64 z] 27) = w0 at *
    obtain ⟨m0, m1, m2⟩ := HX0.out.1
    try simp only [List.cons_append, List.nil_append, List.append_eq]
    refine wp_region_held_drew (S := (fun w' => w'.cell? ⟨W.heap.size, 0, none⟩ = some (.int .i64 x) ∧ w'.cell? ⟨W.heap.size, 1, none⟩ = some (.int .i64 y) ∧ w'.cell? ⟨W.heap.size, 2, none⟩ = some (.int .i64 z))) (by kernel_rfl) ?_ (fun hHeld0 => ?_)
    · (try dsimp only); go_keep
    refine wpAnyH_take (i := 0) (oi := { dst := some 3, op := Go.Op.load 27 (Go.Operand.tmp 1), type := 27, pos := "l05_perfect.go:22", after := #[], guard := none }) (v := ?_) rfl (by kernel_rfl) (by kernel_rfl) (by kernel_rfl) (fun _ _ _ h => h) (Or.inl ⟨by rfl, ?_⟩) (by assumption) ?_
    rotate_left
    · (intro w hSw; (try dsimp only at hSw); go_simp; try with_reducible rfl)
    try simp only [Act.put, List.setIfInBounds_toArray, List.set_cons_zero, List.set_cons_succ]
    refine wpAnyH_take (i := 2) (oi := { dst := some 5, op := Go.Op.fieldAddr 27 (Go.Operand.tmp 1) 0, type := 0, pos := "l05_perfect.go:22", after := #[], guard := none }) (v := ?_) rfl (by kernel_rfl) (by kernel_rfl) (by kernel_rfl) (fun _ _ _ h => h) (Or.inl ⟨by rfl, ?_⟩) (by assumption) ?_
    rotate_left
    · (intro w hSw; (try dsimp only at hSw); go_simp; try with_reducible rfl)
    try simp only [Act.put, List.setIfInBounds_toArray, List.set_cons_zero, List.set_cons_succ]
    refine wpAnyH_take (i := 3) (oi := { dst := some 6, op := Go.Op.load 25 (Go.Operand.tmp 5), type := 25, pos := "l05_perfect.go:22", after := #[{ on := 2, ground := Go.Ground.data }], guard := none }) (v := ?_) rfl (by kernel_rfl) (by kernel_rfl) (by kernel_rfl) (fun _ _ _ h => h) (Or.inl ⟨by rfl, ?_⟩) (by assumption) ?_
    rotate_left
    · (intro w hSw; (try dsimp only at hSw); go_simp; try with_reducible rfl)
    try simp only [Act.put, List.setIfInBounds_toArray, List.set_cons_zero, List.set_cons_succ]
    refine wpAnyH_ready (rs := [1]) (by kernel_rfl) (by simp) ?_
    refine AllReadyH.cons (o := { dst := some 4, op := Go.Op.call { callee := Go.Callee.value (Go.Operand.func 70), args := #[Go.Operand.tmp 3], argTypes := #[27] }, type := 3, pos := "l05_perfect.go:22", after := #[{ on := 0, ground := Go.Ground.data }], guard := none }) rfl (fun K1 hK1 => ?_) AllReadyH.nil
    go_simp
    (refine (HP.out _).mono ?_; rintro e v1 ⟨rfl, hb1⟩; have hM1 := Lib.hid (mbox_after hb1 HX0.out); obtain ⟨p1, q1, r1⟩ := hM1.out.1)
    go_wp2_with fail
    refine hK1.out _ _ ?_ (fun hHeld1 => ?_)
    · (try dsimp only); go_keep
    clear hK1 K1 hHeld0
    try simp only [Act.put, List.setIfInBounds_toArray, List.set_cons_zero, List.set_cons_succ]
    refine wpAnyH_ready (rs := [4]) (by kernel_rfl) (by simp) ?_
    refine AllReadyH.cons (o := { dst := some 7, op := Go.Op.call { callee := Go.Callee.value (Go.Operand.func 77), args := #[Go.Operand.tmp 6], argTypes := #[25] }, type := 3, pos := "l05_perfect.go:22", after := #[{ on := 3, ground := Go.Ground.data }, { on := 1, ground := Go.Ground.chain }], guard := none }) rfl (fun K4 hK4 => ?_) AllReadyH.nil
    go_simp
    (refine (HN.out _).mono ?_; rintro e v2 ⟨rfl, hb2⟩; have hM2 := Lib.hid (mbox_after hb2 hM1.out); obtain ⟨p2, q2, r2⟩ := hM2.out.1)
    go_wp2_with fail
    refine hK4.out _ _ ?_ (fun hHeld2 => ?_)
    · (try dsimp only); go_keep
    clear hK4 K4 hHeld1
    try simp only [Act.put, List.setIfInBounds_toArray, List.set_cons_zero, List.set_cons_succ]
    refine wpAnyH_take (i := 5) (oi := { dst := some 8, op := Go.Op.binOp Go.BinOp.sub 3 (Go.Operand.tmp 7) (Go.Operand.const (Go.Value.int Go.IntKind.i64 1)) 3, type := 3, pos := "l05_perfect.go:22", after := #[{ on := 4, ground := Go.Ground.data }], guard := none }) (v := ?_) rfl (by kernel_rfl) (by kernel_rfl) (by kernel_rfl) (fun _ _ _ h => h) (Or.inl ⟨by rfl, ?_⟩) (by assumption) ?_
    rotate_left
    · (intro w hSw; (try dsimp only at hSw); go_simp; try with_reducible rfl)
    try simp only [Act.put, List.setIfInBounds_toArray, List.set_cons_zero, List.set_cons_succ]
    refine wpAnyH_take (i := 6) (oi := { dst := some 9, op := Go.Op.binOp Go.BinOp.eql 3 (Go.Operand.tmp 4) (Go.Operand.tmp 8) 3, type := 4, pos := "l05_perfect.go:22", after := #[{ on := 1, ground := Go.Ground.data }, { on := 5, ground := Go.Ground.data }], guard := none }) (v := ?_) rfl (by kernel_rfl) (by kernel_rfl) (by kernel_rfl) (fun _ _ _ h => h) (Or.inl ⟨by rfl, ?_⟩) (by assumption) ?_
    rotate_left
    · (intro w hSw; (try dsimp only at hSw); go_simp; try with_reducible rfl)
    try simp only [Act.put, List.setIfInBounds_toArray, List.set_cons_zero, List.set_cons_succ]
    refine wpAnyH_take (i := 7) (oi := { dst := some 10, op := Go.Op.move (Go.Operand.tmp 9), type := 4, pos := "l05_perfect.go:22", after := #[{ on := 6, ground := Go.Ground.data }, { on := 4, ground := Go.Ground.chain }], guard := none }) (v := ?_) rfl (by kernel_rfl) (by kernel_rfl) (by kernel_rfl) (fun _ _ _ h => h) (Or.inl ⟨by rfl, ?_⟩) (by assumption) ?_
    rotate_left
    · (intro w hSw; (try dsimp only at hSw); go_simp; try with_reducible rfl)
    try simp only [Act.put, List.setIfInBounds_toArray, List.set_cons_zero, List.set_cons_succ]
    refine wpAnyH_take (i := 8) (oi := { dst := some 11, op := Go.Op.load 27 (Go.Operand.tmp 1), type := 27, pos := "l05_perfect.go:22", after := #[{ on := 7, ground := Go.Ground.guard }], guard := some (7, true) }) (v := undef) rfl (by kernel_rfl) (by kernel_rfl) (by kernel_rfl) (fun _ _ _ h => h) (Or.inr ⟨by rfl, rfl⟩) (by assumption) ?_
    try simp only [Act.put, List.setIfInBounds_toArray, List.set_cons_zero, List.set_cons_succ]
    refine wpAnyH_take (i := 9) (oi := { dst := some 12, op := Go.Op.call { callee := Go.Callee.value (Go.Operand.func 25), args := #[Go.Operand.tmp 11], argTypes := #[27] }, type := 4, pos := "l05_perfect.go:22", after := #[{ on := 8, ground := Go.Ground.data }, { on := 7, ground := Go.Ground.chain }, { on := 7, ground := Go.Ground.guard }], guard := some (7, true) }) (v := undef) rfl (by kernel_rfl) (by kernel_rfl) (by kernel_rfl) (fun _ _ _ h => h) (Or.inr ⟨by rfl, rfl⟩) (by assumption) ?_
    try simp only [Act.put, List.setIfInBounds_toArray, List.set_cons_zero, List.set_cons_succ]
    refine wpAnyH_take (i := 10) (oi := { dst := some 13, op := Go.Op.pick (Go.Operand.tmp 10) (Go.Operand.tmp 12) (Go.Operand.const (Go.Value.bool false)), type := 4, pos := "l05_perfect.go:22", after := #[{ on := 7, ground := Go.Ground.data }, { on := 9, ground := Go.Ground.data }], guard := none }) (v := ?_) rfl (by kernel_rfl) (by kernel_rfl) (by kernel_rfl) (fun _ _ _ h => h) (Or.inl ⟨by rfl, ?_⟩) (by assumption) ?_
    rotate_left
    · (intro w hSw; (try dsimp only at hSw); go_simp; try with_reducible rfl)
    try simp only [Act.put, List.setIfInBounds_toArray, List.set_cons_zero, List.set_cons_succ]
    refine wpAnyH_take (i := 11) (oi := { dst := some 2, op := Go.Op.assign (Go.Operand.tmp 13), type := 4, pos := "l05_perfect.go:22", after := #[{ on := 10, ground := Go.Ground.data }, { on := 9, ground := Go.Ground.chain }, { on := 0, ground := Go.Ground.phase }, { on := 1, ground := Go.Ground.phase }, { on := 2, ground := Go.Ground.phase }, { on := 3, ground := Go.Ground.phase }, { on := 4, ground := Go.Ground.phase }, { on := 5, ground := Go.Ground.phase }, { on := 6, ground := Go.Ground.phase }, { on := 7, ground := Go.Ground.phase }, { on := 8, ground := Go.Ground.phase }, { on := 9, ground := Go.Ground.phase }, { on := 10, ground := Go.Ground.phase }], guard := none }) (v := ?_) rfl (by kernel_rfl) (by kernel_rfl) (by kernel_rfl) (fun _ _ _ h => h) (Or.inl ⟨by rfl, ?_⟩) (by assumption) ?_
    rotate_left
    · (intro w hSw; (try dsimp only at hSw); go_simp; try with_reducible rfl)
    try simp only [Act.put, List.setIfInBounds_toArray, List.set_cons_zero, List.set_cons_succ]
    refine wpAnyH_done (by kernel_rfl) ?_ _
    go_wp2_with fail
    go_ret
    exact HK.out _ (below_call (below_call (below_dr HB0.out) hb1) hb2)

theorem countLoops_any (x y z : Int) (W : World) :
    Calls Try.prog 19 #[.agg #[.int .i64 x, .int .i64 y, .int .i64 z]] W (Nm (clZ x y z) W) := by
  have HO := Lib.hid (fun X => ok_any x y z X)
  have HP := Lib.hid (fun X => countPassages_any x y z X)
  have HT := Lib.hid (fun X => countParts_any x y z X)
  have HB := Lib.hid below_box
  by_cases hv : OkM x y z
  · rw [show okB x y z = true from decide_eq_true hv] at HO
    obtain ⟨⟨h1, h2, h3, h4⟩, -, -⟩ := id hv
    have hcc := (mul_bd x y h1 h2 h3 h4).1
    have HN : Hid (∀ X, Calls Try.prog 71 #[.agg #[.int .i64 x, .int .i64 y]] X (Nm (x * y) X)) := fun X => cells_any x y X h1 h2 h3 h4
    have he : cpZ x y z - x * y + ptZ x y z = clZ x y z := by unfold clZ; rw [if_pos hv]
    have HK := @Lib.hid _ (fun w' b => @nm_mk (cpZ x y z - x * y + ptZ x y z) (clZ x y z) W w' he b)
    obtain ⟨c1, c2⟩ := cp_bd x y z
    obtain ⟨p1, p2⟩ := pt_bd x y z
    obtain ⟨n1, n2⟩ := hcc
    clear he hv h1 h2 h3 h4
    generalize cpZ x y z = c at *
    generalize ptZ x y z = p at *
    generalize x * y = N at *
    have hw1 : IntKind.i64.wrap (c - N) = c - N := IntWalk.i64_in _ (by omega)
    have hw2 : IntKind.i64.wrap (c - N + p) = c - N + p := IntWalk.i64_in _ (by omega)
    go_enter Try.func19, Try.ntmps19
    go_wp2_with fail
    refine (HO.out _).mono ?_
    rintro e w1 ⟨rfl, hb⟩
    have hbl1 := Lib.hid (below_call (HB.out _ _) hb)
    have hxc1 := Lib.hid ((mbox_new x y z W _).call hb)
    clear hb
    obtain ⟨c0, c1, c2⟩ := hxc1.out.1
    go_wp2_with fail
    try simp only [List.cons_append, List.nil_append, List.append_eq]
    refine wp_region_held_drew (S := (fun w' => w'.cell? ⟨W.heap.size, 0, none⟩ = some (.int .i64 x) ∧ w'.cell? ⟨W.heap.size, 1, none⟩ = some (.int .i64 y) ∧ w'.cell? ⟨W.heap.size, 2, none⟩ = some (.int .i64 z))) (by kernel_rfl) ?_ (fun hHeld0 => ?_)
    · (try dsimp only); go_keep
    refine wpAnyH_take (i := 0) (oi := { dst := some 6, op := Go.Op.load 27 (Go.Operand.tmp 1), type := 27, pos := "l05_perfect.go:29", after := #[], guard := none }) (v := ?_) rfl (by kernel_rfl) (by kernel_rfl) (by kernel_rfl) (fun _ _ _ h => h) (Or.inl ⟨by rfl, ?_⟩) (by assumption) ?_
    rotate_left
    · (intro w hSw; (try dsimp only at hSw); go_simp; try with_reducible rfl)
    try simp only [Act.put, List.setIfInBounds_toArray, List.set_cons_zero, List.set_cons_succ]
    refine wpAnyH_take (i := 2) (oi := { dst := some 8, op := Go.Op.fieldAddr 27 (Go.Operand.tmp 1) 0, type := 0, pos := "l05_perfect.go:29", after := #[], guard := none }) (v := ?_) rfl (by kernel_rfl) (by kernel_rfl) (by kernel_rfl) (fun _ _ _ h => h) (Or.inl ⟨by rfl, ?_⟩) (by assumption) ?_
    rotate_left
    · (intro w hSw; (try dsimp only at hSw); go_simp; try with_reducible rfl)
    try simp only [Act.put, List.setIfInBounds_toArray, List.set_cons_zero, List.set_cons_succ]
    refine wpAnyH_take (i := 3) (oi := { dst := some 9, op := Go.Op.load 25 (Go.Operand.tmp 8), type := 25, pos := "l05_perfect.go:29", after := #[{ on := 2, ground := Go.Ground.data }], guard := none }) (v := ?_) rfl (by kernel_rfl) (by kernel_rfl) (by kernel_rfl) (fun _ _ _ h => h) (Or.inl ⟨by rfl, ?_⟩) (by assumption) ?_
    rotate_left
    · (intro w hSw; (try dsimp only at hSw); go_simp; try with_reducible rfl)
    try simp only [Act.put, List.setIfInBounds_toArray, List.set_cons_zero, List.set_cons_succ]
    refine wpAnyH_take (i := 6) (oi := { dst := some 12, op := Go.Op.load 27 (Go.Operand.tmp 1), type := 27, pos := "l05_perfect.go:29", after := #[], guard := none }) (v := ?_) rfl (by kernel_rfl) (by kernel_rfl) (by kernel_rfl) (fun _ _ _ h => h) (Or.inl ⟨by rfl, ?_⟩) (by assumption) ?_
    rotate_left
    · (intro w hSw; (try dsimp only at hSw); go_simp; try with_reducible rfl)
    try simp only [Act.put, List.setIfInBounds_toArray, List.set_cons_zero, List.set_cons_succ]
    refine wpAnyH_ready (rs := [1]) (by kernel_rfl) (by simp) ?_
    refine AllReadyH.cons (o := { dst := some 7, op := Go.Op.call { callee := Go.Callee.value (Go.Operand.func 70), args := #[Go.Operand.tmp 6], argTypes := #[27] }, type := 3, pos := "l05_perfect.go:29", after := #[{ on := 0, ground := Go.Ground.data }], guard := none }) rfl (fun K1 hK1 => ?_) AllReadyH.nil
    go_simp
    (refine (HP.out _).mono ?_; rintro e v1 ⟨rfl, hb1⟩; have hM1 := Lib.hid (mbox_after hb1 hxc1.out); obtain ⟨p1, q1, r1⟩ := hM1.out.1)
    go_wp2_with fail
    refine hK1.out _ _ ?_ (fun hHeld1 => ?_)
    · (try dsimp only); go_keep
    clear hK1 K1 hHeld0
    try simp only [Act.put, List.setIfInBounds_toArray, List.set_cons_zero, List.set_cons_succ]
    refine wpAnyH_ready (rs := [4]) (by kernel_rfl) (by simp) ?_
    refine AllReadyH.cons (o := { dst := some 10, op := Go.Op.call { callee := Go.Callee.value (Go.Operand.func 71), args := #[Go.Operand.tmp 9], argTypes := #[25] }, type := 3, pos := "l05_perfect.go:29", after := #[{ on := 3, ground := Go.Ground.data }, { on := 1, ground := Go.Ground.chain }], guard := none }) rfl (fun K4 hK4 => ?_) AllReadyH.nil
    go_simp
    (refine (HN.out _).mono ?_; rintro e v2 ⟨rfl, hb2⟩; have hM2 := Lib.hid (mbox_after hb2 hM1.out); obtain ⟨p2, q2, r2⟩ := hM2.out.1)
    go_wp2_with fail
    refine hK4.out _ _ ?_ (fun hHeld2 => ?_)
    · (try dsimp only); go_keep
    clear hK4 K4 hHeld1
    try simp only [Act.put, List.setIfInBounds_toArray, List.set_cons_zero, List.set_cons_succ]
    refine wpAnyH_take (i := 5) (oi := { dst := some 11, op := Go.Op.binOp Go.BinOp.sub 3 (Go.Operand.tmp 7) (Go.Operand.tmp 10) 3, type := 3, pos := "l05_perfect.go:29", after := #[{ on := 1, ground := Go.Ground.data }, { on := 4, ground := Go.Ground.data }], guard := none }) (v := ?_) rfl (by kernel_rfl) (by kernel_rfl) (by kernel_rfl) (fun _ _ _ h => h) (Or.inl ⟨by rfl, ?_⟩) (by assumption) ?_
    rotate_left
    · (intro w hSw; (try dsimp only at hSw); go_simp; try with_reducible rfl)
    try simp only [Act.put, List.setIfInBounds_toArray, List.set_cons_zero, List.set_cons_succ]
    refine wpAnyH_ready (rs := [7]) (by kernel_rfl) (by simp) ?_
    refine AllReadyH.cons (o := { dst := some 13, op := Go.Op.call { callee := Go.Callee.value (Go.Operand.func 23), args := #[Go.Operand.tmp 12], argTypes := #[27] }, type := 3, pos := "l05_perfect.go:29", after := #[{ on := 6, ground := Go.Ground.data }, { on := 4, ground := Go.Ground.chain }], guard := none }) rfl (fun K7 hK7 => ?_) AllReadyH.nil
    go_simp
    (refine (HT.out _).mono ?_; rintro e v3 ⟨rfl, hb3⟩; have hM3 := Lib.hid (mbox_after hb3 hM2.out); obtain ⟨p3, q3, r3⟩ := hM3.out.1)
    go_wp2_with fail
    refine hK7.out _ _ ?_ (fun hHeld3 => ?_)
    · (try dsimp only); go_keep
    clear hK7 K7 hHeld2
    try simp only [Act.put, List.setIfInBounds_toArray, List.set_cons_zero, List.set_cons_succ]
    refine wpAnyH_take (i := 8) (oi := { dst := some 14, op := Go.Op.binOp Go.BinOp.add 3 (Go.Operand.tmp 11) (Go.Operand.tmp 13) 3, type := 3, pos := "l05_perfect.go:29", after := #[{ on := 5, ground := Go.Ground.data }, { on := 7, ground := Go.Ground.data }], guard := none }) (v := ?_) rfl (by kernel_rfl) (by kernel_rfl) (by kernel_rfl) (fun _ _ _ h => h) (Or.inl ⟨by rfl, ?_⟩) (by assumption) ?_
    rotate_left
    · (intro w hSw; (try dsimp only at hSw); go_simp; try with_reducible rfl)
    try simp only [Act.put, List.setIfInBounds_toArray, List.set_cons_zero, List.set_cons_succ]
    refine wpAnyH_take (i := 9) (oi := { dst := some 2, op := Go.Op.assign (Go.Operand.tmp 14), type := 3, pos := "l05_perfect.go:29", after := #[{ on := 8, ground := Go.Ground.data }, { on := 7, ground := Go.Ground.chain }, { on := 0, ground := Go.Ground.phase }, { on := 1, ground := Go.Ground.phase }, { on := 2, ground := Go.Ground.phase }, { on := 3, ground := Go.Ground.phase }, { on := 4, ground := Go.Ground.phase }, { on := 5, ground := Go.Ground.phase }, { on := 6, ground := Go.Ground.phase }, { on := 7, ground := Go.Ground.phase }, { on := 8, ground := Go.Ground.phase }], guard := none }) (v := ?_) rfl (by kernel_rfl) (by kernel_rfl) (by kernel_rfl) (fun _ _ _ h => h) (Or.inl ⟨by rfl, ?_⟩) (by assumption) ?_
    rotate_left
    · (intro w hSw; (try dsimp only at hSw); go_simp; try with_reducible rfl)
    try simp only [Act.put, List.setIfInBounds_toArray, List.set_cons_zero, List.set_cons_succ]
    refine wpAnyH_done (by kernel_rfl) ?_ _
    go_wp2_with fail
    go_ret
    exact HK.out _ (below_call (below_call (below_call (below_dr hbl1.out) hb1) hb2) hb3)
  · rw [show okB x y z = false from decide_eq_false hv] at HO
    have he : 0 = clZ x y z := by unfold clZ; rw [if_neg hv]
    have HK := @Lib.hid _ (fun w' b => @nm_mk 0 (clZ x y z) W w' he b)
    clear he hv
    go_enter Try.func19, Try.ntmps19
    go_wp2_with fail
    refine (HO.out _).mono ?_
    rintro e w1 ⟨rfl, hb⟩
    have hbl1 := Lib.hid (below_call (HB.out _ _) hb)
    have hxc1 := Lib.hid ((mbox_new x y z W _).call hb)
    clear hb
    obtain ⟨c0, c1, c2⟩ := hxc1.out.1
    go_wp2_with fail
    go_ret
    exact HK.out _ hbl1.out

theorem rs_mem {x y z : Int} {a : Nat} (hv : OkM x y z) (ha : a < cN x y) (u : Int) : u ∈ rsZ x y z a ↔ ∃ v : Nat, u = v ∧ v < cN x y ∧ 0 ≤ dZ (stN x y z) (cN x y) a v := by
  have hh : hasB x y z a = true := by
    have := (nn hv.1).1
    exact decide_eq_true ⟨hv, by omega, by omega⟩
  unfold rsZ
  rw [if_pos hh, Int.toNat_natCast, rlN_mem]
theorem rs_len {x y z a : Int} : (rsZ x y z a).length ≤ 16 := by
  unfold rsZ; split
  · rename_i h
    obtain ⟨hv, k, rfl, ha, haN, hak, hN16, hNN⟩ := has_form h
    have := rlN_len (stN x y z) (cN x y) (k : Int).toNat (cN x y)
    omega
  · simp
theorem ap_rs {x y z : Int} {g : Nat} (hv : OkM x y z) (hg : g < gN x y) : (!decide ((bN x y g : Int) ∈ rsZ x y z (aN x y g))) = apB x y z g := by
  obtain ⟨e1, e2, e3, e4⟩ := ends_lt hv.1 hg
  unfold apB
  rw [← decide_not, decide_eq_decide, rs_mem hv (by omega), Int.toNat_natCast]
  refine ⟨fun h => ?_, fun h ⟨v, hv', h1, h2⟩ => ?_⟩
  · by_cases h' : dZ (stN x y z) (cN x y) (aN x y g) (bN x y g) < 0
    · exact h'
    · exact absurd ⟨_, rfl, e2, by omega⟩ h
  · obtain rfl : bN x y g = v := by omega
    omega

set_option maxRecDepth 100000 in
theorem wouldJoin_any (x y z g : Int) (W : World) :
    Calls Try.prog 29 #[.agg #[.int .i64 x, .int .i64 y, .int .i64 z], .int .i64 g] W (Bl (wjB x y z g) W) := by
  have HO := Lib.hid (fun X => ok_any x y z X)
  have HB := Lib.hid below_box
  by_cases hv : OkM x y z
  · rw [show okB x y z = true from decide_eq_true hv] at HO
    obtain ⟨⟨h1, h2, h3, h4⟩, -, -⟩ := id hv
    have hgp := gps_bd h1 h2 h3 h4
    by_cases hg : 0 ≤ g ∧ g < gpsZ x y
    · have HG : Hid (∀ X, Calls Try.prog 74 #[.agg #[.int .i64 x, .int .i64 y], .int .i64 g] X (Bl true X)) := fun X => mazeC.hasGap_yes x y g X h1 h2 h3 h4 hg.1 hg.2
      have HP := Lib.hid (fun X => isPassage_any x y z g X)
      by_cases hb : bitZ z g = 1
      · rw [show psB x y z g = true from decide_eq_true ⟨hv, hg.1, hg.2, hb⟩] at HP
        have he : false = wjB x y z g := by unfold wjB; simp [hb]
        have HK := @Lib.hid _ (fun w' b => @bl_mk false (wjB x y z g) W w' he b)
        clear he hv h1 h2 h3 h4 hg hb hgp
        go_enter Try.func29, Try.ntmps29
        go_wp2_with fail
        refine (HO.out _).mono ?_
        rintro e w1 ⟨rfl, hb⟩
        have hbl1 := Lib.hid (below_call (HB.out _ _) hb)
        have hxc1 := Lib.hid ((mbox_new x y z W _).call hb)
        clear hb
        obtain ⟨c0, c1, c2⟩ := hxc1.out.1
        go_wp2_with fail
        refine (HG.out _).mono ?_
        rintro e w2 ⟨rfl, hb⟩
        have hbl2 := Lib.hid (below_call hbl1.out hb)
        have hxc2 := Lib.hid (hxc1.out.call hb)
        clear hb hbl1  hxc1 c0 c1 c2
        obtain ⟨c0, c1, c2⟩ := hxc2.out.1
        go_wp2_with fail
        refine (HP.out _).mono ?_
        rintro e w3 ⟨rfl, hb⟩
        have hbl3 := Lib.hid (below_call hbl2.out hb)
        have hxc3 := Lib.hid (hxc2.out.call hb)
        clear hb hbl2  hxc2 c0 c1 c2
        obtain ⟨c0, c1, c2⟩ := hxc3.out.1
        go_wp2_with fail
        go_ret
        exact HK.out _ hbl3.out
      · rw [show psB x y z g = false from decide_eq_false (fun h => hb h.2.2.2)] at HP
        obtain ⟨k, rfl⟩ := Int.eq_ofNat_of_zero_le hg.1
        have hk : k < gN x y := by unfold gN; omega
        obtain ⟨e1, e2, e3, e4⟩ := ends_lt hv.1 hk
        obtain ⟨n1, n2, n3⟩ := nn hv.1
        have HE := Lib.hid (fun X => gridI.endsOf_any x y k X)
        rw [e3, e4] at HE
        have HR := Lib.hid (fun X => reached_any x y z (aN x y k) X)
        have hlen := @rs_len x y z (aN x y k)
        have HRg : Hid (∀ u ∈ rsZ x y z (aN x y k), -9223372036854775808 ≤ u ∧ u ≤ 9223372036854775807) := fun u hu => by
          obtain ⟨v, rfl, h, -⟩ := (rs_mem hv (by omega) u).1 hu
          omega
        have he : (!decide ((bN x y k : Int) ∈ rsZ x y z (aN x y k))) = wjB x y z k := by
          rw [ap_rs hv hk]; unfold wjB; simp [hv, hg, hb]
        have HK := @Lib.hid _ (fun w' b => @bl_mk _ (wjB x y z k) W w' he b)
        clear he hv h1 h2 h3 h4 hg hb hgp hk e3 e4 n1
        generalize aN x y k = a at *
        generalize bN x y k = b at *
        generalize rsZ x y z a = l at *
        go_enter Try.func29, Try.ntmps29
        go_wp2_with fail
        refine (HO.out _).mono ?_
        rintro e w1 ⟨rfl, hb⟩
        have hbl1 := Lib.hid (below_call (HB.out _ _) hb)
        have hxc1 := Lib.hid ((mbox_new x y z W _).call hb)
        clear hb
        obtain ⟨c0, c1, c2⟩ := hxc1.out.1
        go_wp2_with fail
        refine (HG.out _).mono ?_
        rintro e w2 ⟨rfl, hb⟩
        have hbl2 := Lib.hid (below_call hbl1.out hb)
        have hxc2 := Lib.hid (hxc1.out.call hb)
        clear hb hbl1  hxc1 c0 c1 c2
        obtain ⟨c0, c1, c2⟩ := hxc2.out.1
        go_wp2_with fail
        refine (HP.out _).mono ?_
        rintro e w3 ⟨rfl, hb⟩
        have hbl3 := Lib.hid (below_call hbl2.out hb)
        have hxc3 := Lib.hid (hxc2.out.call hb)
        clear hb hbl2  hxc2 c0 c1 c2
        obtain ⟨c0, c1, c2⟩ := hxc3.out.1
        go_wp2_with fail
        refine (HE.out _).mono ?_
        rintro e w4 ⟨rfl, hb⟩
        have hbl4 := Lib.hid (below_call hbl3.out hb)
        have hxc4 := Lib.hid (hxc3.out.call hb)
        clear hb hbl3  hxc3 c0 c1 c2
        obtain ⟨c0, c1, c2⟩ := hxc4.out.1
        go_wp2_with fail
        refine (HR.out _).mono ?_
        rintro e w5 ⟨v, rfl, ho, hb⟩
        have hbl5 := Lib.hid (below_call hbl4.out hb)
        obtain ⟨A5, c5, rfl⟩ := own_form ho
        have HIn := Lib.hid (ints_own ho).1
        clear ho hb hbl4 hxc4 c0 c1 c2
        go_wp2_with fail
        refine (setOf_any A5 _ c5 l _ rfl (by omega) HIn.out HRg.out).mono ?_
        rintro e w6 ⟨bs, rfl, hs, hb⟩
        have hbl6 := Lib.hid (below_call hbl5.out hb)
        have HS := Lib.hid hs
        clear hs hb hbl5
        go_wp2_with fail
        refine (has_any bs _ l (b : Int) _ HS.out (by omega)).mono ?_
        rintro e w7 ⟨rfl, hb⟩
        have hbl7 := Lib.hid (below_call hbl6.out hb)
        clear hb hbl6 HS
        go_wp2_with fail
        go_ret
        exact HK.out _ hbl7.out
    · have HG : Hid (∀ X, Calls Try.prog 74 #[.agg #[.int .i64 x, .int .i64 y], .int .i64 g] X (Bl false X)) := fun X => mazeC.hasGap_no x y g X h1 h2 h3 h4 hg
      have he : false = wjB x y z g := by
        unfold wjB; symm; rw [Bool.and_eq_false_iff]; left; rw [decide_eq_false_iff_not]; exact fun h => hg ⟨h.2.1, h.2.2.1⟩
      have HK := @Lib.hid _ (fun w' b => @bl_mk false (wjB x y z g) W w' he b)
      clear he hv h1 h2 h3 h4 hg hgp
      go_enter Try.func29, Try.ntmps29
      go_wp2_with fail
      refine (HO.out _).mono ?_
      rintro e w1 ⟨rfl, hb⟩
      have hbl1 := Lib.hid (below_call (HB.out _ _) hb)
      have hxc1 := Lib.hid ((mbox_new x y z W _).call hb)
      clear hb
      obtain ⟨c0, c1, c2⟩ := hxc1.out.1
      go_wp2_with fail
      refine (HG.out _).mono ?_
      rintro e w2 ⟨rfl, hb⟩
      have hbl2 := Lib.hid (below_call hbl1.out hb)
      have hxc2 := Lib.hid (hxc1.out.call hb)
      clear hb hbl1  hxc1 c0 c1 c2
      obtain ⟨c0, c1, c2⟩ := hxc2.out.1
      go_wp2_with fail
      go_ret
      exact HK.out _ hbl2.out
  · rw [show okB x y z = false from decide_eq_false hv] at HO
    have he : false = wjB x y z g := by
      unfold wjB; symm; rw [Bool.and_eq_false_iff]; left; rw [decide_eq_false_iff_not]; exact fun h => hv h.1
    have HK := @Lib.hid _ (fun w' b => @bl_mk false (wjB x y z g) W w' he b)
    clear he hv
    go_enter Try.func29, Try.ntmps29
    go_wp2_with fail
    refine (HO.out _).mono ?_
    rintro e w1 ⟨rfl, hb⟩
    have hbl1 := Lib.hid (below_call (HB.out _ _) hb)
    have hxc1 := Lib.hid ((mbox_new x y z W _).call hb)
    clear hb
    obtain ⟨c0, c1, c2⟩ := hxc1.out.1
    go_wp2_with fail
    go_ret
    exact HK.out _ hbl1.out

theorem isBridge_any (x y z g : Int) (W : World) :
    Calls Try.prog 22 #[.agg #[.int .i64 x, .int .i64 y, .int .i64 z], .int .i64 g] W (Bl (ibB x y z g) W) := by
  have HP := Lib.hid (fun X => isPassage_any x y z g X)
  have HB := Lib.hid below_box
  cases hp : psB x y z g with
  | false =>
    rw [hp] at HP
    have he : false = ibB x y z g := by unfold ibB; rw [hp]; rfl
    have HK := @Lib.hid _ (fun w' b => @bl_mk false (ibB x y z g) W w' he b)
    clear he hp
    go_enter Try.func22, Try.ntmps22
    go_wp2_with fail
    refine (HP.out _).mono ?_
    rintro e w1 ⟨rfl, hb⟩
    have hbl1 := Lib.hid (below_call (HB.out _ _) hb)
    clear hb
    go_wp2_with fail
    go_ret
    exact HK.out _ hbl1.out
  | true =>
    rw [hp] at HP
    obtain ⟨hv, g0, g1, hb⟩ := of_decide_eq_true hp
    obtain ⟨k, rfl⟩ := Int.eq_ofNat_of_zero_le g0
    have hsg : sgZ x y z k false = z - 2 ^ (k : Int).toNat := by
      unfold sgZ; rw [if_pos (show sgB x y z k = true from decide_eq_true ⟨hv, g0, g1⟩), if_pos hb, if_neg (by decide)]
    have hfl := mazeQ.flip hv g0 g1
    rw [hp, show (!true) = false from rfl, hsg] at hfl
    have hv' := hfl.1
    have hnb : bitZ (z - 2 ^ (k : Int).toNat) k ≠ 1 := fun h => by
      have := hfl.2.1
      rw [show psB x y (z - 2 ^ (k : Int).toNat) k = true from decide_eq_true ⟨hv', g0, g1, h⟩] at this
      cases this
    have HG := Lib.hid (fun X => setGap_any x y z k false X)
    rw [hsg] at HG
    have HA := Lib.hid (fun X => wouldJoin_any x y (z - 2 ^ (k : Int).toNat) k X)
    have he : wjB x y (z - 2 ^ (k : Int).toNat) k = ibB x y z k := by
      unfold ibB wjB; rw [hp, decide_eq_true ⟨hv', g0, g1, hnb⟩]
    have HK := @Lib.hid _ (fun w' b => @bl_mk (wjB x y (z - 2 ^ (k : Int).toNat) k) (ibB x y z k) W w' he b)
    clear he hp hb hv hv' hsg hfl hnb
    generalize wjB x y (z - 2 ^ (k : Int).toNat) k = ap at *
    generalize z - 2 ^ (k : Int).toNat = z' at *
    go_enter Try.func22, Try.ntmps22
    go_wp2_with fail
    refine (HP.out _).mono ?_
    rintro e w1 ⟨rfl, hb⟩
    have hbl1 := Lib.hid (below_call (HB.out _ _) hb)
    have hxc1 := Lib.hid ((mbox_new x y z W _).call hb)
    clear hb
    obtain ⟨c0, c1, c2⟩ := hxc1.out.1
    go_wp2_with fail
    refine (HG.out _).mono ?_
    rintro e w2 ⟨rfl, hb⟩
    have hbl2 := Lib.hid (below_call hbl1.out hb)
    have HN := Lib.hid (fun T => below_call hbl2.out (below_box w2 (.cells #[.int .i64 x, .int .i64 y, .int .i64 z'] T)))
    clear hb
    go_wp2_with fail
    refine (HA.out _).mono ?_
    rintro e w3 ⟨rfl, hb⟩
    have hbl3 := Lib.hid (below_call (HN.out _) hb)
    go_wp2_with fail
    go_ret
    exact HK.out _ hbl3.out
end Go.Proofs.Ythgnhamokikhkaa.perfI

/- The contract of the program's maze that an order of gaps makes. -/
namespace Go.Proofs.Ythgnhamokikhkaa.perfI
open Go.ChangeShapes Go.WideShapes Go.ChangeAt Go.RowKit
open draw gridP gridC gridE bitP mazeP mazeC mazeM mazeR mazeI intsP reachD forest perfP perfN intA
set_option linter.unusedVariables false

/-- What stands while an order is looked at: the grid's box, the answer's block, the order. -/
def GI (W : World) (x y : Int) (A : Option Addr) (l : List Int) (X : World) : Prop :=
  Below W.heap.size W X ∧ Box W.heap.size x y X ∧ Row3 (W.heap.size + 1) 0 0 0 X ∧ IntsIn X W.heap.size A l
theorem GI.call {W X X' : World} {x y : Int} {A : Option Addr} {l : List Int} (h : GI W x y A l X) (hb : Below X.heap.size X X') : GI W x y A l X' := by
  obtain ⟨h1, h2, h3, h5⟩ := h
  exact ⟨below_call h1 hb, h2.call hb, h3.call hb, h5.below (hb.mono h1.size)⟩
theorem gi_new {W : World} {x y : Int} {A : Option Addr} {l : List Int} (hi : IntsIn W W.heap.size A l) (T1 T2 : TypeId) :
    GI W x y A l ((W.alloc (.cells #[.int .i64 x, .int .i64 y] T1)).alloc (.cells #[.int .i64 0, .int .i64 0, .int .i64 0] T2)) := by
  have hb : Below W.heap.size W ((W.alloc (.cells #[.int .i64 x, .int .i64 y] T1)).alloc (.cells #[.int .i64 0, .int .i64 0, .int .i64 0] T2)) := ((Below.refl _ _).alloc (Nat.le_refl _) _).alloc (by simp) _
  refine ⟨hb, (box_new x y W T1).call (below_box _ _), ?_, hi.below hb⟩
  have := row3_new 0 0 0 (W.alloc (.cells #[.int .i64 x, .int .i64 y] T1)) T2
  simpa using this
/-- What stands while a maze is made: the maze's block, too. -/
def KI (W : World) (x y z : Int) (M : Nat) (A : Option Addr) (l : List Int) (X : World) : Prop := GI W x y A l X ∧ Row3 M x y z X ∧ W.heap.size + 1 < M
theorem KI.call {W X X' : World} {x y z : Int} {M : Nat} {A : Option Addr} {l : List Int} (h : KI W x y z M A l X) (hb : Below X.heap.size X X') : KI W x y z M A l X' := ⟨h.1.call hb, h.2.1.call hb, h.2.2⟩
theorem KI.dr {W X : World} {x y z : Int} {M : Nat} {A : Option Addr} {l : List Int} (h : KI W x y z M A l X) : KI W x y z M A l X.drew := h.call ⟨rfl, rfl, rfl, Nat.le_refl _, fun _ _ => rfl⟩
theorem ki_new {W X : World} {x y : Int} {A : Option Addr} {l : List Int} (h : GI W x y A l X) (T : TypeId) : KI W x y 0 X.heap.size A l (X.alloc (.cells #[.int .i64 x, .int .i64 y, .int .i64 0] T)) :=
  ⟨h.call (below_box _ _), row3_new x y 0 X T, row3_lt h.2.2.1⟩
theorem KI.put {W X : World} {x y z : Int} {M : Nat} {A : Option Addr} {l : List Int} (h : KI W x y z M A l X) (z' : Int) :
    KI W x y z' M A l (((X.setCell ⟨M, 0, none⟩ (.int .i64 x)).setCell ⟨M, 1, none⟩ (.int .i64 y)).setCell ⟨M, 2, none⟩ (.int .i64 z')) := by
  obtain ⟨⟨h1, h2, h3, h5⟩, h4, h6⟩ := h
  have hb : Below W.heap.size X (((X.setCell ⟨M, 0, none⟩ (.int .i64 x)).setCell ⟨M, 1, none⟩ (.int .i64 y)).setCell ⟨M, 2, none⟩ (.int .i64 z')) :=
    (((Below.refl _ _).setCell (by simp; omega) _).setCell (by simp; omega) _).setCell (by simp; omega) _
  exact ⟨⟨h1.trans hb, box_far (box_far (box_far h2 (by simp; omega) _) (by simp; omega) _) (by simp; omega) _, row3_far (row3_far (row3_far h3 (by simp; omega) _) (by simp; omega) _) (by simp; omega) _, h5.below hb⟩, row3_set h4, h6⟩

set_option maxRecDepth 100000 in
set_option maxHeartbeats 4000000 in
theorem kruskalMaze_any (x y : Int) (A : Option Addr) (n c : Nat) (l : List Int) (W : World) (hn : l.length = n) (hm : n ≤ 1048576) (hi : IntsIn W W.heap.size A l) :
    Calls Try.prog 28 #[.agg #[.int .i64 x, .int .i64 y], .slice A n c] W (MzB (kmX x y l) (kmY x y l) (kmZ x y l) (kmB x y l) W) := by
  have HZ : Hid (koB x y l = false → ∀ X, Below W.heap.size W X → MzB (kmX x y l) (kmY x y l) (kmZ x y l) (kmB x y l) W (.returned (.tuple #[.agg #[.int .i64 0, .int .i64 0, .int .i64 0], .bool false])) X) := fun h X hb => by
    obtain ⟨e1, e2, e3, e4⟩ := zero_of h
    rw [e1, e2, e3, e4]; exact ⟨rfl, hb⟩
  have HS := @Lib.hid _ (fun T1 T2 => @gi_new W x y A l hi T1 T2)
  have Hn := Lib.hid hn
  have hsz0 := Lib.hid (below_two W)
  clear hi
  by_cases hok : OkZ x y
  · have HGk : Hid (∀ X, Calls Try.prog 79 #[.agg #[.int .i64 x, .int .i64 y]] X (Bl true X)) := fun X => ok_yes x y X hok.1 hok.2.1 hok.2.2.1 hok.2.2.2
    by_cases h100 : n ≤ 100
    · have hd : decide ((100 : Int) < (n : Int)) = false := by simp; omega
      have HGy : Hid (∀ u X, 0 ≤ u ∧ u < gpsZ x y → Calls Try.prog 74 #[.agg #[.int .i64 x, .int .i64 y], .int .i64 u] X (Bl true X)) := fun u X h => mazeC.hasGap_yes x y u X hok.1 hok.2.1 hok.2.2.1 hok.2.2.2 h.1 h.2
      have HGn : Hid (∀ u X, ¬ (0 ≤ u ∧ u < gpsZ x y) → Calls Try.prog 74 #[.agg #[.int .i64 x, .int .i64 y], .int .i64 u] X (Bl false X)) := fun u X h => mazeC.hasGap_no x y u X hok.1 hok.2.1 hok.2.2.1 hok.2.2.2 h
      have Hok := Lib.hid hok
      clear hok hn
      go_enter Try.func28, Try.ntmps28
      go_wp2_with fail
      have hgi0 := Lib.hid (HS.out 25 27)
      refine (HGk.out _).mono ?_
      rintro e w1 ⟨rfl, hb⟩
      have hgi1 := Lib.hid (hgi0.out.call hb)
      clear hb HS hgi0
      go_wp2_with fail
      go_loopw [22] (fun u22 wr => ∃ k : Nat, k ≤ n ∧ u22 = .int .i64 k ∧ (∀ j u, j < k → l[j]? = some u → 0 ≤ u ∧ u < gpsZ x y) ∧ GI W x y A l wr) (fun u22 _ => n - (intOf u22).toNat)
      case atStart => exact ⟨0, Nat.zero_le _, rfl, fun j u hj => absurd hj (by omega), hgi1.out⟩
      case round =>
        clear hgi1
        obtain ⟨k, hk, rfl, hin, hgi0⟩ := hrel
        have hgi := Lib.hid hgi0
        have HIn := Lib.hid hin
        clear hgi0 hin
        by_cases hkn : k < n
        · obtain ⟨u, hu, hmem⟩ : ∃ u, l[k]? = some u ∧ u ∈ l := by
            have hkl : k < l.length := by have := Hn.out; omega
            exact ⟨l[k], List.getElem?_eq_getElem hkl, List.getElem_mem hkl⟩
          obtain ⟨ad, rfl, hab, hcell⟩ := ints_cell hgi.out.2.2.2 hu
          obtain ⟨⟨b0, b1⟩, -⟩ := hgi.out.2.1
          have hk0 : (0 : Int) ≤ (k : Int) := Int.natCast_nonneg _
          have hk1 : (k : Int) < (n : Int) := by omega
          have HU := Lib.hid hu
          clear hu
          by_cases hur : 0 ≤ u ∧ u < gpsZ x y
          · have HG1 := Lib.hid (fun X => HGy.out u X hur)
            have HN : Hid (∀ j v, j < k + 1 → l[j]? = some v → 0 ≤ v ∧ v < gpsZ x y) := fun j v hj hv => by
              rcases Nat.lt_or_ge j k with h | h
              · exact HIn.out j v h hv
              · obtain rfl : j = k := by omega
                rw [HU.out] at hv; cases hv; exact hur
            clear hur
            go_wp2_with fail
            refine (HG1.out _).mono ?_
            rintro e w2 ⟨rfl, hb⟩
            have hgi2 := Lib.hid (hgi.out.call hb)
            clear hb
            go_wp2_with fail
            go_roundw
            case rel => exact ⟨k + 1, by omega, by go_num, HN.out, hgi2.out⟩
            case measure => simp [intOf]; omega
          · have HG1 := Lib.hid (fun X => HGn.out u X hur)
            have hko : koB x y l = false := by
              unfold koB; rw [decide_eq_false_iff_not]; rintro ⟨-, -, h3⟩; exact hur (h3 u hmem)
            have HE := Lib.hid (HZ.out hko)
            clear hur hko
            go_wp2_with fail
            refine (HG1.out _).mono ?_
            rintro e w2 ⟨rfl, hb⟩
            have hgi2 := Lib.hid (hgi.out.call hb)
            obtain ⟨⟨e0, e1, e2⟩, f0, f1, f2⟩ := row3_cells hgi2.out.2.2.1
            clear hb b0 b1
            go_wp2_with fail
            refine bodyPost_ret (v := .tuple #[.agg #[.int .i64 0, .int .i64 0, .int .i64 0], .bool false]) (by simp [results, Try.results28, go_sem, e0, e1, e2]) rfl (HE.out _ ?_)
            exact ((hgi2.out.1.setCell (by simp) _).setCell (by simp) _).setCell (by simp) _
        · obtain rfl : k = n := by omega
          have hok := Hok.out
          have hko : koB x y l = true := decide_eq_true ⟨hok, by have := Hn.out; omega, fun u hu => by
            obtain ⟨j, hj⟩ := List.getElem?_of_mem hu
            have := (List.getElem?_eq_some_iff.1 hj).1
            exact HIn.out j u (by have := Hn.out; omega) hj⟩
          have HE : Hid (∀ b X, b = ipB x y (kzL x y l 0) → Below W.heap.size W X → MzB (kmX x y l) (kmY x y l) (kmZ x y l) (kmB x y l) W (.returned (.tuple #[.agg #[.int .i64 x, .int .i64 y, .int .i64 (kzL x y l 0)], .bool b])) X) := fun b X e hb => by
            unfold kmX kmY kmZ kmB; rw [if_pos hko, if_pos hko, if_pos hko, hko, e]; exact ⟨rfl, hb⟩
          have HW := Lib.hid (fun z u X => wouldJoin_any x y z u X)
          have HSg := Lib.hid (fun z u X => setGap_any x y z u true X)
          have HIp := Lib.hid (fun z X => isPerfect_any x y z X)
          have HStep : Hid (∀ j u z, l[j]? = some u → z = kzL x y (l.take j) 0 → (wjB x y z u = true → sgZ x y z u true = kzL x y (l.take (j + 1)) 0 ∧ sgB x y z u = true) ∧ (wjB x y z u = false → z = kzL x y (l.take (j + 1)) 0)) := fun j u z hu e => by
            rw [kz_take hu, ← e]
            unfold kzS
            refine ⟨fun h => ?_, fun h => by rw [h]; simp⟩
            rw [if_pos h]
            unfold wjB at h
            rw [Bool.and_eq_true, decide_eq_true_iff] at h
            obtain ⟨⟨h1, h2, h3, h4⟩, -⟩ := h
            have hs : sgB x y z u = true := decide_eq_true ⟨h1, h2, h3⟩
            unfold sgZ; rw [if_pos hs, if_neg h4]; exact ⟨rfl, hs⟩
          obtain ⟨⟨b0, b1⟩, -⟩ := hgi.out.2.1
          have HKn := @Lib.hid _ (fun T => ki_new hgi.out T)
          clear HZ hko HIn HGy HGn hk hok
          go_wp2_with fail
          generalize wr.heap.size = M at *
          go_loopw [36] (fun u36 wq => ∃ (j : Nat) (z : Int), j ≤ k ∧ u36 = .int .i64 j ∧ z = kzL x y (l.take j) 0 ∧ KI W x y z M A l wq) (fun u36 _ => k - (intOf u36).toNat)
          case atStart => exact ⟨0, 0, Nat.zero_le _, rfl, rfl, HKn.out _⟩
          case round =>
            clear HKn
            obtain ⟨j, z, hj, rfl, hz, hks0⟩ := hrel
            have hks := Lib.hid hks0
            have Hz := Lib.hid hz
            have hWM := hks0.2.2
            obtain ⟨⟨m0, m1, m2⟩, f0, f1, f2⟩ := row3_cells hks0.2.1
            clear hks0 hz
            by_cases hjk : j < k
            · obtain ⟨u, hu⟩ : ∃ u, l[j]? = some u := by
                have hjl : j < l.length := by have := Hn.out; omega
                exact ⟨l[j], List.getElem?_eq_getElem hjl⟩
              obtain ⟨ad, rfl, hab, hcell⟩ := ints_cell hks.out.1.2.2.2 hu
              have hj0 : (0 : Int) ≤ (j : Int) := Int.natCast_nonneg _
              have hj1 : (j : Int) < (k : Int) := by omega
              have HS1 := Lib.hid (HStep.out j u z hu Hz.out)
              clear hu f0 f1 f2
              cases hwj : wjB x y z u with
              | true =>
                have HWj := Lib.hid (fun X => HW.out z u X)
                rw [hwj] at HWj
                obtain ⟨hs1, hs2⟩ := HS1.out.1 hwj
                have HSt := Lib.hid (fun X => HSg.out z u X)
                rw [hs2] at HSt
                have Hs1 := Lib.hid hs1
                clear hwj hs1 hs2
                generalize sgZ x y z u true = z' at *
                go_wp2_with fail
                refine (HWj.out _).mono ?_
                rintro e v1 ⟨rfl, hb1⟩
                have hk2 := Lib.hid (hks.out.call hb1)
                clear hb1 m0 m1 m2 hks hcell
                obtain ⟨⟨m0, m1, m2⟩, -⟩ := row3_cells hk2.out.2.1
                go_wp2_with fail
                refine (HSt.out _).mono ?_
                rintro e v2 ⟨rfl, hb2⟩
                have hk3 := Lib.hid (hk2.out.call hb2)
                clear hb2 m0 m1 m2 hk2
                obtain ⟨⟨m0, m1, m2⟩, f0, f1, f2⟩ := row3_cells hk3.out.2.1
                have HN := Lib.hid (hk3.out.put z')
                go_wp2_with fail
                go_roundw
                case rel => exact ⟨j + 1, z', by omega, by go_num, Hs1.out, HN.out⟩
                case measure => simp [intOf]; omega
              | false =>
                have HWj := Lib.hid (fun X => HW.out z u X)
                rw [hwj] at HWj
                have Hs1 := Lib.hid (HS1.out.2 hwj)
                clear hwj
                go_wp2_with fail
                refine (HWj.out _).mono ?_
                rintro e v1 ⟨rfl, hb1⟩
                have hk2 := Lib.hid (hks.out.call hb1)
                clear hb1 m0 m1 m2 hks hcell
                go_wp2_with fail
                go_roundw
                case rel => exact ⟨j + 1, z, by omega, by go_num, Hs1.out, hk2.out⟩
                case measure => simp [intOf]; omega
            · obtain rfl : j = k := by omega
              have hzl : z = kzL x y l 0 := by rw [Hz.out, List.take_of_length_le (by have := Hn.out; omega)]
              have HIz := Lib.hid (fun X => HIp.out z X)
              have HEz := Lib.hid (fun X hb => HE.out (ipB x y z) X (by rw [hzl]) hb)
              rw [← hzl] at HEz
              clear f0 f1 f2 hzl HE HIp
              generalize ipB x y z = ip at *
              have hn1 : M ≠ W.heap.size + 1 := by omega
              have hn2 : W.heap.size + 1 ≠ M := by omega
              go_wp2_with fail
              try simp only [List.cons_append, List.nil_append, List.append_eq]
              refine wp_region_held_drew (S := (fun w' => w'.cell? ⟨M, 0, none⟩ = some (.int .i64 x) ∧ w'.cell? ⟨M, 1, none⟩ = some (.int .i64 y) ∧ w'.cell? ⟨M, 2, none⟩ = some (.int .i64 z))) (by kernel_rfl) ?_ (fun hHeld0 => ?_)
              · (try dsimp only); go_keep
              refine wpAnyH_take (i := 0) (oi := { dst := some 50, op := Go.Op.load 27 (Go.Operand.tmp 8), type := 27, pos := "l05_perfect.go:65", after := #[], guard := none }) (v := ?_) rfl (by kernel_rfl) (by kernel_rfl) (by kernel_rfl) (fun _ _ _ h => h) (Or.inl ⟨by rfl, ?_⟩) (by assumption) ?_
              rotate_left
              · (intro w hSw; (try dsimp only at hSw); go_simp; try with_reducible rfl)
              try simp only [Act.put, List.setIfInBounds_toArray, List.set_cons_zero, List.set_cons_succ]
              refine wpAnyH_take (i := 1) (oi := { dst := some 51, op := Go.Op.load 27 (Go.Operand.tmp 8), type := 27, pos := "l05_perfect.go:65", after := #[], guard := none }) (v := ?_) rfl (by kernel_rfl) (by kernel_rfl) (by kernel_rfl) (fun _ _ _ h => h) (Or.inl ⟨by rfl, ?_⟩) (by assumption) ?_
              rotate_left
              · (intro w hSw; (try dsimp only at hSw); go_simp; try with_reducible rfl)
              try simp only [Act.put, List.setIfInBounds_toArray, List.set_cons_zero, List.set_cons_succ]
              refine wpAnyH_ready (rs := [2]) (by kernel_rfl) (by simp) ?_
              refine AllReadyH.cons (o := { dst := some 52, op := Go.Op.call { callee := Go.Callee.value (Go.Operand.func 24), args := #[Go.Operand.tmp 51], argTypes := #[27] }, type := 4, pos := "l05_perfect.go:65", after := #[{ on := 1, ground := Go.Ground.data }], guard := none }) rfl (fun K2 hK2 => ?_) AllReadyH.nil
              go_simp
              (refine (HIz.out _).mono ?_; rintro e v1 ⟨rfl, hb1⟩; have hk2 := Lib.hid (hks.out.dr.call hb1); obtain ⟨⟨p1, q1, r1⟩, -⟩ := row3_cells hk2.out.2.1; obtain ⟨⟨e0, e1, e2⟩, g0, g1, g2⟩ := row3_cells hk2.out.1.2.2.1)
              go_wp2_with fail
              refine hK2.out _ _ ?_ (fun hHeld1 => ?_)
              · (try dsimp only); go_keep
              clear hK2 K2 hHeld0
              try simp only [Act.put, List.setIfInBounds_toArray, List.set_cons_zero, List.set_cons_succ]
              refine wpAnyH_ready (rs := [3]) (by kernel_rfl) (by simp) ?_
              refine AllReadyH.cons (o := { dst := none, op := Go.Op.store 27 (Go.Operand.tmp 4) (Go.Operand.tmp 50), type := 0, pos := "l05_perfect.go:65", after := #[{ on := 0, ground := Go.Ground.data }, { on := 2, ground := Go.Ground.chain }, { on := 0, ground := Go.Ground.phase }, { on := 1, ground := Go.Ground.textOnly Go.Departure.lateStores }, { on := 2, ground := Go.Ground.textOnly Go.Departure.lateStoresUnsure }], guard := none }) rfl (fun K3 hK3 => ?_) AllReadyH.nil
              go_simp
              refine hK3.out _ _ ?_ (fun hHeld2 => ?_)
              · (try dsimp only); go_keep
              clear hK3 K3 hHeld1
              try simp only [Act.put, List.setIfInBounds_toArray, List.set_cons_zero, List.set_cons_succ]
              refine wpAnyH_take (i := 4) (oi := { dst := some 5, op := Go.Op.assign (Go.Operand.tmp 52), type := 4, pos := "l05_perfect.go:65", after := #[{ on := 2, ground := Go.Ground.data }, { on := 3, ground := Go.Ground.chain }, { on := 0, ground := Go.Ground.phase }, { on := 1, ground := Go.Ground.phase }, { on := 2, ground := Go.Ground.phase }, { on := 3, ground := Go.Ground.phase }], guard := none }) (v := ?_) rfl (by kernel_rfl) (by kernel_rfl) (by kernel_rfl) (fun _ _ _ h => h) (Or.inl ⟨by rfl, ?_⟩) (by assumption) ?_
              rotate_left
              · (intro w hSw; (try dsimp only at hSw); go_simp; try with_reducible rfl)
              try simp only [Act.put, List.setIfInBounds_toArray, List.set_cons_zero, List.set_cons_succ]
              refine wpAnyH_done (by kernel_rfl) ?_ _
              go_wp2_with fail
              refine bodyPost_ret (v := .tuple #[.agg #[.int .i64 x, .int .i64 y, .int .i64 z], .bool ip]) (by simp [results, Try.results28, go_sem, e0, e1, e2]) rfl (HEz.out _ ?_)
              exact ((hk2.out.1.1.setCell (by simp) _).setCell (by simp) _).setCell (by simp) _
    · have hd : decide ((100 : Int) < (n : Int)) = true := by simp; omega
      have HE := Lib.hid (HZ.out (by unfold koB; rw [decide_eq_false_iff_not]; rintro ⟨-, h2, -⟩; omega))
      clear hok h100 hn
      go_enter Try.func28, Try.ntmps28
      go_wp2_with fail
      have hgi0 := Lib.hid (HS.out 25 27)
      refine (HGk.out _).mono ?_
      rintro e w1 ⟨rfl, hb⟩
      have hgi1 := Lib.hid (hgi0.out.call hb)
      obtain ⟨⟨e0, e1, e2⟩, f0, f1, f2⟩ := row3_cells hgi1.out.2.2.1
      clear hb HS hgi0
      go_wp2_with fail
      refine bodyPost_ret (v := .tuple #[.agg #[.int .i64 0, .int .i64 0, .int .i64 0], .bool false]) (by simp [results, Try.results28, go_sem, e0, e1, e2]) rfl (HE.out _ ?_)
      exact ((hgi1.out.1.setCell (by simp) _).setCell (by simp) _).setCell (by simp) _
  · have HGk : Hid (∀ X, Calls Try.prog 79 #[.agg #[.int .i64 x, .int .i64 y]] X (Bl false X)) := fun X => ok_no x y X hok
    have HE := Lib.hid (HZ.out (by unfold koB; rw [decide_eq_false_iff_not]; exact fun h => hok h.1))
    clear hok hn
    go_enter Try.func28, Try.ntmps28
    go_wp2_with fail
    have hgi0 := Lib.hid (HS.out 25 27)
    refine (HGk.out _).mono ?_
    rintro e w1 ⟨rfl, hb⟩
    have hgi1 := Lib.hid (hgi0.out.call hb)
    obtain ⟨⟨e0, e1, e2⟩, f0, f1, f2⟩ := row3_cells hgi1.out.2.2.1
    clear hb HS hgi0
    go_wp2_with fail
    refine bodyPost_ret (v := .tuple #[.agg #[.int .i64 0, .int .i64 0, .int .i64 0], .bool false]) (by simp [results, Try.results28, go_sem, e0, e1, e2]) rfl (HE.out _ ?_)
    exact ((hgi1.out.1.setCell (by simp) _).setCell (by simp) _).setCell (by simp) _
end Go.Proofs.Ythgnhamokikhkaa.perfI
