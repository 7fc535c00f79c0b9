/- The law of walls: its walk, over the contracts of the program's functions. -/
import Derived.Test.YthgnhamokikhkaaWalR
import Derived.Test.YthgnhamokikhkaaDrwA
namespace Go.Proofs.Ythgnhamokikhkaa.fnWalls
open Go.ChangeShapes Go.WideShapes Go.ChangeAt Go.RowKit
open draw gridP gridC bitP mazeP mazeC mazeM mazeE intsP intK bigK reachP reachM reachN reachD forest perfP walP walR
set_option linter.unusedVariables false

/-- The law's answer. -/
def Yes (w : World) (e : Ending) (w' : World) : Prop := e = .returned (.bool true) ∧ Below w.heap.size w w'
theorem yes_mk {w w' : World} (h : Below w.heap.size w w') : Yes w (.returned (.bool true)) w' := ⟨rfl, h⟩

theorem cl_bd (x y z : Int) : -30 ≤ clZ x y z ∧ clZ x y z ≤ 60 ∧ 0 ≤ ptZ x y z ∧ ptZ x y z ≤ 16 := by
  have hp : 0 ≤ ptZ x y z ∧ ptZ x y z ≤ 16 := by
    unfold ptZ; split
    · rename_i h
      have h1 := (mul_bd x y h.1.1 h.1.2.1 h.1.2.2.1 h.1.2.2.2).1
      have : cpN (stN x y z) (cN x y) (cN x y) ≤ cN x y := by
        rw [cp_cnt]
        generalize cN x y = n
        generalize isLeast _ _ = p
        induction n with
        | zero => exact Nat.le_refl _
        | succ n ih => unfold cnt; split <;> omega
      unfold cN at this ⊢; omega
    · omega
  unfold clZ
  split
  · rename_i h
    have h1 := (mul_bd x y h.1.1 h.1.2.1 h.1.2.2.1 h.1.2.2.2).1
    have h2 : 0 ≤ cpZ x y z ∧ cpZ x y z ≤ 24 := by
      unfold cpZ; rw [if_pos h]
      have := pcN_le z.toNat 24; omega
    omega
  · omega
set_option maxRecDepth 100000 in
set_option maxHeartbeats 2000000 in
theorem walk_at (A : Option Addr) (n c : Nat) (w : World) (hn : n ≤ maxLen) (hb : BytesIn w w.heap.size A n)
    (HIp : Hid (∀ x y z X, Calls Try.prog 24 #[.agg #[.int .i64 x, .int .i64 y, .int .i64 z]] X (Bl (ipB x y z) X)))
    (HWt : Hid (∀ x y z X, Calls Try.prog 30 #[.agg #[.int .i64 x, .int .i64 y, .int .i64 z]] X (Bl (wtB x y z) X)))
    (HWp : Hid (∀ x y z X, Calls Try.prog 31 #[.agg #[.int .i64 x, .int .i64 y, .int .i64 z]] X (Nm (wpZ x y z) X)))
    (HCl : Hid (∀ x y z X, Calls Try.prog 19 #[.agg #[.int .i64 x, .int .i64 y, .int .i64 z]] X (Nm (clZ x y z) X)))
    (HWl : Hid (∀ x y z X, Calls Try.prog 32 #[.agg #[.int .i64 x, .int .i64 y, .int .i64 z]] X (Nm (wlpZ x y z) X)))
    (HPt : Hid (∀ x y z X, Calls Try.prog 23 #[.agg #[.int .i64 x, .int .i64 y, .int .i64 z]] X (Nm (ptZ x y z) X))) :
    Calls Try.prog 5 #[.slice A n c] w (Yes w) := by
  have HK := @Lib.hid _ (fun w' h => @yes_mk w w' h)
  have HR := Lib.hid (Below.refl w.heap.size w)
  have HD := Lib.hid (drawMaze_any A n c w hn hb)
  have HN := Lib.hid hn
  unfold maxLen at hn
  clear hb
  by_cases hbig : 1048576 < n
  · go_enter Try.func5, Try.ntmps5
    go_wp2_with fail
    refine (big_yes A n c w HN.out hbig).mono ?_
    rintro e w' ⟨rfl, rfl⟩
    go_wp2_with fail
    go_ret
    exact HK.out _ HR.out
  · go_enter Try.func5, Try.ntmps5
    go_wp2_with fail
    refine (big_no A n c w HN.out (by omega)).mono ?_
    rintro e w' ⟨rfl, rfl⟩
    go_wp2_with fail
    refine HD.out.mono ?_
    rintro e w1 ⟨x, y, z, hv, rfl, hb1⟩
    obtain ⟨f1, f2, f3⟩ := fwalls hv
    have hbd := cl_bd x y z
    have A1 := Lib.hid (HIp.out x y z)
    have A2 := Lib.hid (HWt.out x y z)
    have A3 := Lib.hid (HWp.out x y z)
    have A4 := Lib.hid (HCl.out x y z)
    have A5 := Lib.hid (HWl.out x y z)
    have A6 := Lib.hid (HPt.out x y z)
    rw [f1] at A1
    rw [f2] at A3
    rw [f3] at A5
    have hz1 := hb1.size
    have hbl0 := @Lib.hid _ (fun T => (hb1.alloc hz1 (.cells #[.int .i64 x, .int .i64 y, .int .i64 z] T)))
    have hxm0 := @Lib.hid _ (fun T => mbox_new x y z w1 T)
    clear HIp HWt HWp HCl HWl HPt HD HR hb1 hv f1 f2 f3
    generalize wtB x y z = wt at *
    generalize clZ x y z = cl at *
    generalize ptZ x y z = pt at *
    have q1 : IntKind.i64.wrap (cl + 1) = cl + 1 := IntWalk.i64_in _ (by omega)
    have q2 : IntKind.i64.wrap (pt - 1) = pt - 1 := IntWalk.i64_in _ (by omega)
    go_wp2_with fail
    have hbl1 := Lib.hid (hbl0.out 27)
    have hxm1 := Lib.hid (hxm0.out 27)
    clear hbl0 hxm0
    generalize w1.alloc (.cells #[.int .i64 x, .int .i64 y, .int .i64 z] 27) = w2 at *
    generalize w1.heap.size = M at *
    obtain ⟨m0, m1, m2⟩ := hxm1.out.1
    try simp only [List.cons_append, List.nil_append, List.append_eq]
    refine wp_region_held_drew (S := (fun w' => w'.cell? ⟨M, 0, none⟩ = some (.int .i64 x) ∧ w'.cell? ⟨M, 1, none⟩ = some (.int .i64 y) ∧ w'.cell? ⟨M, 2, none⟩ = some (.int .i64 z))) (by kernel_rfl) ?_ (fun hHeld0 => ?_)
    · (try dsimp only); go_keep
    refine wpAnyH_take (i := 0) (oi := { dst := some 8, op := Go.Op.load 27 (Go.Operand.tmp 3), type := 27, pos := "laws.go:298", after := #[], guard := none }) (v := ?_) rfl (by kernel_rfl) (by kernel_rfl) (by kernel_rfl) (fun _ _ _ h => h) (Or.inl ⟨by rfl, ?_⟩) (by assumption) ?_
    rotate_left
    · (intro w hSw; (try dsimp only at hSw); go_simp; try with_reducible rfl)
    try simp only [Act.put, List.setIfInBounds_toArray, List.set_cons_zero, List.set_cons_succ]
    refine wpAnyH_take (i := 2) (oi := { dst := some 10, op := Go.Op.load 27 (Go.Operand.tmp 3), type := 27, pos := "laws.go:298", after := #[], guard := none }) (v := ?_) rfl (by kernel_rfl) (by kernel_rfl) (by kernel_rfl) (fun _ _ _ h => h) (Or.inl ⟨by rfl, ?_⟩) (by assumption) ?_
    rotate_left
    · (intro w hSw; (try dsimp only at hSw); go_simp; try with_reducible rfl)
    try simp only [Act.put, List.setIfInBounds_toArray, List.set_cons_zero, List.set_cons_succ]
    refine wpAnyH_ready (rs := [1]) (by kernel_rfl) (by simp) ?_
    refine AllReadyH.cons (o := { dst := some 9, op := Go.Op.call { callee := Go.Callee.value (Go.Operand.func 24), args := #[Go.Operand.tmp 8], argTypes := #[27] }, type := 4, pos := "laws.go:298", after := #[{ on := 0, ground := Go.Ground.data }], guard := none }) rfl (fun K1 hK1 => ?_) AllReadyH.nil
    go_simp
    (refine (A1.out _).mono ?_; rintro e v1 ⟨rfl, hb1⟩; have hM1 := Lib.hid (mbox_after hb1 hxm1.out); obtain ⟨p1, q1, r1⟩ := hM1.out.1)
    go_wp2_with fail
    refine hK1.out _ _ ?_ (fun hHeld1 => ?_)
    · (try dsimp only); go_keep
    clear hK1 K1 hHeld0
    try simp only [Act.put, List.setIfInBounds_toArray, List.set_cons_zero, List.set_cons_succ]
    refine wpAnyH_ready (rs := [3]) (by kernel_rfl) (by simp) ?_
    refine AllReadyH.cons (o := { dst := some 11, op := Go.Op.call { callee := Go.Callee.value (Go.Operand.func 30), args := #[Go.Operand.tmp 10], argTypes := #[27] }, type := 4, pos := "laws.go:298", after := #[{ on := 2, ground := Go.Ground.data }, { on := 1, ground := Go.Ground.chain }], guard := none }) rfl (fun K3 hK3 => ?_) AllReadyH.nil
    go_simp
    (refine (A2.out _).mono ?_; rintro e v2 ⟨rfl, hb2⟩; have hM2 := Lib.hid (mbox_after hb2 hM1.out); obtain ⟨p2, q2, r2⟩ := hM2.out.1)
    go_wp2_with fail
    refine hK3.out _ _ ?_ (fun hHeld2 => ?_)
    · (try dsimp only); go_keep
    clear hK3 K3 hHeld1
    try simp only [Act.put, List.setIfInBounds_toArray, List.set_cons_zero, List.set_cons_succ]
    refine wpAnyH_take (i := 4) (oi := { dst := some 12, op := Go.Op.binOp Go.BinOp.eql 4 (Go.Operand.tmp 9) (Go.Operand.tmp 11) 4, type := 4, pos := "laws.go:298", after := #[{ on := 1, ground := Go.Ground.data }, { on := 3, ground := Go.Ground.data }], guard := none }) (v := ?_) rfl (by kernel_rfl) (by kernel_rfl) (by kernel_rfl) (fun _ _ _ h => h) (Or.inl ⟨by rfl, ?_⟩) (by assumption) ?_
    rotate_left
    · (intro w hSw; (try dsimp only at hSw); go_simp; try with_reducible rfl)
    try simp only [Act.put, List.setIfInBounds_toArray, List.set_cons_zero, List.set_cons_succ]
    refine wpAnyH_take (i := 5) (oi := { dst := some 13, op := Go.Op.move (Go.Operand.tmp 12), type := 4, pos := "laws.go:298", after := #[{ on := 4, ground := Go.Ground.data }, { on := 3, ground := Go.Ground.chain }], guard := none }) (v := ?_) rfl (by kernel_rfl) (by kernel_rfl) (by kernel_rfl) (fun _ _ _ h => h) (Or.inl ⟨by rfl, ?_⟩) (by assumption) ?_
    rotate_left
    · (intro w hSw; (try dsimp only at hSw); go_simp; try with_reducible rfl)
    try simp only [Act.put, List.setIfInBounds_toArray, List.set_cons_zero, List.set_cons_succ]
    refine wpAnyH_take (i := 6) (oi := { dst := some 14, op := Go.Op.load 27 (Go.Operand.tmp 3), type := 27, pos := "laws.go:298", after := #[{ on := 5, ground := Go.Ground.guard }], guard := some (5, true) }) (v := ?_) rfl (by kernel_rfl) (by kernel_rfl) (by kernel_rfl) (fun _ _ _ h => h) (Or.inl ⟨by rfl, ?_⟩) (by assumption) ?_
    rotate_left
    · (intro w hSw; (try dsimp only at hSw); go_simp; try with_reducible rfl)
    try simp only [Act.put, List.setIfInBounds_toArray, List.set_cons_zero, List.set_cons_succ]
    refine wpAnyH_take (i := 8) (oi := { dst := some 16, op := Go.Op.load 27 (Go.Operand.tmp 3), type := 27, pos := "laws.go:298", after := #[{ on := 5, ground := Go.Ground.guard }], guard := some (5, true) }) (v := ?_) rfl (by kernel_rfl) (by kernel_rfl) (by kernel_rfl) (fun _ _ _ h => h) (Or.inl ⟨by rfl, ?_⟩) (by assumption) ?_
    rotate_left
    · (intro w hSw; (try dsimp only at hSw); go_simp; try with_reducible rfl)
    try simp only [Act.put, List.setIfInBounds_toArray, List.set_cons_zero, List.set_cons_succ]
    refine wpAnyH_ready (rs := [7]) (by kernel_rfl) (by simp) ?_
    refine AllReadyH.cons (o := { dst := some 15, op := Go.Op.call { callee := Go.Callee.value (Go.Operand.func 31), args := #[Go.Operand.tmp 14], argTypes := #[27] }, type := 3, pos := "laws.go:298", after := #[{ on := 6, ground := Go.Ground.data }, { on := 5, ground := Go.Ground.chain }, { on := 5, ground := Go.Ground.guard }], guard := some (5, true) }) rfl (fun K7 hK7 => ?_) AllReadyH.nil
    go_simp
    (refine (A3.out _).mono ?_; rintro e v3 ⟨rfl, hb3⟩; have hM3 := Lib.hid (mbox_after hb3 hM2.out); obtain ⟨p3, q3, r3⟩ := hM3.out.1)
    go_wp2_with fail
    refine hK7.out _ _ ?_ (fun hHeld3 => ?_)
    · (try dsimp only); go_keep
    clear hK7 K7 hHeld2
    try simp only [Act.put, List.setIfInBounds_toArray, List.set_cons_zero, List.set_cons_succ]
    refine wpAnyH_ready (rs := [9]) (by kernel_rfl) (by simp) ?_
    refine AllReadyH.cons (o := { dst := some 17, op := Go.Op.call { callee := Go.Callee.value (Go.Operand.func 19), args := #[Go.Operand.tmp 16], argTypes := #[27] }, type := 3, pos := "laws.go:298", after := #[{ on := 8, ground := Go.Ground.data }, { on := 7, ground := Go.Ground.chain }, { on := 5, ground := Go.Ground.guard }], guard := some (5, true) }) rfl (fun K9 hK9 => ?_) AllReadyH.nil
    go_simp
    (refine (A4.out _).mono ?_; rintro e v4 ⟨rfl, hb4⟩; have hM4 := Lib.hid (mbox_after hb4 hM3.out); obtain ⟨p4, q4, r4⟩ := hM4.out.1)
    go_wp2_with fail
    refine hK9.out _ _ ?_ (fun hHeld4 => ?_)
    · (try dsimp only); go_keep
    clear hK9 K9 hHeld3
    try simp only [Act.put, List.setIfInBounds_toArray, List.set_cons_zero, List.set_cons_succ]
    refine wpAnyH_take (i := 10) (oi := { dst := some 18, op := Go.Op.binOp Go.BinOp.add 3 (Go.Operand.tmp 17) (Go.Operand.const (Go.Value.int Go.IntKind.i64 1)) 3, type := 3, pos := "laws.go:298", after := #[{ on := 9, ground := Go.Ground.data }, { on := 5, ground := Go.Ground.guard }], guard := some (5, true) }) (v := ?_) rfl (by kernel_rfl) (by kernel_rfl) (by kernel_rfl) (fun _ _ _ h => h) (Or.inl ⟨by rfl, ?_⟩) (by assumption) ?_
    rotate_left
    · (intro w hSw; (try dsimp only at hSw); go_simp; try with_reducible rfl)
    try simp only [Act.put, List.setIfInBounds_toArray, List.set_cons_zero, List.set_cons_succ]
    refine wpAnyH_take (i := 11) (oi := { dst := some 19, op := Go.Op.binOp Go.BinOp.eql 3 (Go.Operand.tmp 15) (Go.Operand.tmp 18) 3, type := 4, pos := "laws.go:298", after := #[{ on := 7, ground := Go.Ground.data }, { on := 10, ground := Go.Ground.data }, { on := 5, ground := Go.Ground.guard }], guard := some (5, true) }) (v := ?_) rfl (by kernel_rfl) (by kernel_rfl) (by kernel_rfl) (fun _ _ _ h => h) (Or.inl ⟨by rfl, ?_⟩) (by assumption) ?_
    rotate_left
    · (intro w hSw; (try dsimp only at hSw); go_simp; try with_reducible rfl)
    try simp only [Act.put, List.setIfInBounds_toArray, List.set_cons_zero, List.set_cons_succ]
    refine wpAnyH_take (i := 12) (oi := { dst := some 20, op := Go.Op.pick (Go.Operand.tmp 13) (Go.Operand.tmp 19) (Go.Operand.const (Go.Value.bool false)), type := 4, pos := "laws.go:298", after := #[{ on := 5, ground := Go.Ground.data }, { on := 11, ground := Go.Ground.data }], guard := none }) (v := ?_) rfl (by kernel_rfl) (by kernel_rfl) (by kernel_rfl) (fun _ _ _ h => h) (Or.inl ⟨by rfl, ?_⟩) (by assumption) ?_
    rotate_left
    · (intro w hSw; (try dsimp only at hSw); go_simp; try with_reducible rfl)
    try simp only [Act.put, List.setIfInBounds_toArray, List.set_cons_zero, List.set_cons_succ]
    refine wpAnyH_take (i := 13) (oi := { dst := some 21, op := Go.Op.move (Go.Operand.tmp 20), type := 4, pos := "laws.go:298", after := #[{ on := 12, ground := Go.Ground.data }, { on := 9, ground := Go.Ground.chain }], guard := none }) (v := ?_) rfl (by kernel_rfl) (by kernel_rfl) (by kernel_rfl) (fun _ _ _ h => h) (Or.inl ⟨by rfl, ?_⟩) (by assumption) ?_
    rotate_left
    · (intro w hSw; (try dsimp only at hSw); go_simp; try with_reducible rfl)
    try simp only [Act.put, List.setIfInBounds_toArray, List.set_cons_zero, List.set_cons_succ]
    refine wpAnyH_take (i := 14) (oi := { dst := some 22, op := Go.Op.load 27 (Go.Operand.tmp 3), type := 27, pos := "laws.go:298", after := #[{ on := 13, ground := Go.Ground.guard }], guard := some (13, true) }) (v := ?_) rfl (by kernel_rfl) (by kernel_rfl) (by kernel_rfl) (fun _ _ _ h => h) (Or.inl ⟨by rfl, ?_⟩) (by assumption) ?_
    rotate_left
    · (intro w hSw; (try dsimp only at hSw); go_simp; try with_reducible rfl)
    try simp only [Act.put, List.setIfInBounds_toArray, List.set_cons_zero, List.set_cons_succ]
    refine wpAnyH_take (i := 16) (oi := { dst := some 24, op := Go.Op.load 27 (Go.Operand.tmp 3), type := 27, pos := "laws.go:298", after := #[{ on := 13, ground := Go.Ground.guard }], guard := some (13, true) }) (v := ?_) rfl (by kernel_rfl) (by kernel_rfl) (by kernel_rfl) (fun _ _ _ h => h) (Or.inl ⟨by rfl, ?_⟩) (by assumption) ?_
    rotate_left
    · (intro w hSw; (try dsimp only at hSw); go_simp; try with_reducible rfl)
    try simp only [Act.put, List.setIfInBounds_toArray, List.set_cons_zero, List.set_cons_succ]
    refine wpAnyH_ready (rs := [15]) (by kernel_rfl) (by simp) ?_
    refine AllReadyH.cons (o := { dst := some 23, op := Go.Op.call { callee := Go.Callee.value (Go.Operand.func 32), args := #[Go.Operand.tmp 22], argTypes := #[27] }, type := 3, pos := "laws.go:298", after := #[{ on := 14, ground := Go.Ground.data }, { on := 13, ground := Go.Ground.chain }, { on := 13, ground := Go.Ground.guard }], guard := some (13, true) }) rfl (fun K15 hK15 => ?_) AllReadyH.nil
    go_simp
    (refine (A5.out _).mono ?_; rintro e v5 ⟨rfl, hb5⟩; have hM5 := Lib.hid (mbox_after hb5 hM4.out); obtain ⟨p5, q5, r5⟩ := hM5.out.1)
    go_wp2_with fail
    refine hK15.out _ _ ?_ (fun hHeld5 => ?_)
    · (try dsimp only); go_keep
    clear hK15 K15 hHeld4
    try simp only [Act.put, List.setIfInBounds_toArray, List.set_cons_zero, List.set_cons_succ]
    refine wpAnyH_ready (rs := [17]) (by kernel_rfl) (by simp) ?_
    refine AllReadyH.cons (o := { dst := some 25, op := Go.Op.call { callee := Go.Callee.value (Go.Operand.func 23), args := #[Go.Operand.tmp 24], argTypes := #[27] }, type := 3, pos := "laws.go:298", after := #[{ on := 16, ground := Go.Ground.data }, { on := 15, ground := Go.Ground.chain }, { on := 13, ground := Go.Ground.guard }], guard := some (13, true) }) rfl (fun K17 hK17 => ?_) AllReadyH.nil
    go_simp
    (refine (A6.out _).mono ?_; rintro e v6 ⟨rfl, hb6⟩; have hM6 := Lib.hid (mbox_after hb6 hM5.out); obtain ⟨p6, q6, r6⟩ := hM6.out.1)
    go_wp2_with fail
    refine hK17.out _ _ ?_ (fun hHeld6 => ?_)
    · (try dsimp only); go_keep
    clear hK17 K17 hHeld5
    try simp only [Act.put, List.setIfInBounds_toArray, List.set_cons_zero, List.set_cons_succ]
    refine wpAnyH_take (i := 18) (oi := { dst := some 26, op := Go.Op.binOp Go.BinOp.sub 3 (Go.Operand.tmp 25) (Go.Operand.const (Go.Value.int Go.IntKind.i64 1)) 3, type := 3, pos := "laws.go:298", after := #[{ on := 17, ground := Go.Ground.data }, { on := 13, ground := Go.Ground.guard }], guard := some (13, true) }) (v := ?_) rfl (by kernel_rfl) (by kernel_rfl) (by kernel_rfl) (fun _ _ _ h => h) (Or.inl ⟨by rfl, ?_⟩) (by assumption) ?_
    rotate_left
    · (intro w hSw; (try dsimp only at hSw); go_simp; try with_reducible rfl)
    try simp only [Act.put, List.setIfInBounds_toArray, List.set_cons_zero, List.set_cons_succ]
    refine wpAnyH_take (i := 19) (oi := { dst := some 27, op := Go.Op.binOp Go.BinOp.eql 3 (Go.Operand.tmp 23) (Go.Operand.tmp 26) 3, type := 4, pos := "laws.go:298", after := #[{ on := 15, ground := Go.Ground.data }, { on := 18, ground := Go.Ground.data }, { on := 13, ground := Go.Ground.guard }], guard := some (13, true) }) (v := ?_) rfl (by kernel_rfl) (by kernel_rfl) (by kernel_rfl) (fun _ _ _ h => h) (Or.inl ⟨by rfl, ?_⟩) (by assumption) ?_
    rotate_left
    · (intro w hSw; (try dsimp only at hSw); go_simp; try with_reducible rfl)
    try simp only [Act.put, List.setIfInBounds_toArray, List.set_cons_zero, List.set_cons_succ]
    refine wpAnyH_take (i := 20) (oi := { dst := some 28, op := Go.Op.pick (Go.Operand.tmp 21) (Go.Operand.tmp 27) (Go.Operand.const (Go.Value.bool false)), type := 4, pos := "laws.go:298", after := #[{ on := 13, ground := Go.Ground.data }, { on := 19, ground := Go.Ground.data }], guard := none }) (v := ?_) rfl (by kernel_rfl) (by kernel_rfl) (by kernel_rfl) (fun _ _ _ h => h) (Or.inl ⟨by rfl, ?_⟩) (by assumption) ?_
    rotate_left
    · (intro w hSw; (try dsimp only at hSw); go_simp; try with_reducible rfl)
    try simp only [Act.put, List.setIfInBounds_toArray, List.set_cons_zero, List.set_cons_succ]
    refine wpAnyH_take (i := 21) (oi := { dst := some 2, op := Go.Op.assign (Go.Operand.tmp 28), type := 4, pos := "laws.go:298", after := #[{ on := 20, ground := Go.Ground.data }, { on := 17, ground := Go.Ground.chain }, { on := 0, ground := Go.Ground.phase }, { on := 1, ground := Go.Ground.phase }, { on := 2, ground := Go.Ground.phase }, { on := 3, ground := Go.Ground.phase }, { on := 4, ground := Go.Ground.phase }, { on := 5, ground := Go.Ground.phase }, { on := 6, ground := Go.Ground.phase }, { on := 7, ground := Go.Ground.phase }, { on := 8, ground := Go.Ground.phase }, { on := 9, ground := Go.Ground.phase }, { on := 10, ground := Go.Ground.phase }, { on := 11, ground := Go.Ground.phase }, { on := 12, ground := Go.Ground.phase }, { on := 13, ground := Go.Ground.phase }, { on := 14, ground := Go.Ground.phase }, { on := 15, ground := Go.Ground.phase }, { on := 16, ground := Go.Ground.phase }, { on := 17, ground := Go.Ground.phase }, { on := 18, ground := Go.Ground.phase }, { on := 19, ground := Go.Ground.phase }, { on := 20, ground := Go.Ground.phase }], guard := none }) (v := ?_) rfl (by kernel_rfl) (by kernel_rfl) (by kernel_rfl) (fun _ _ _ h => h) (Or.inl ⟨by rfl, ?_⟩) (by assumption) ?_
    rotate_left
    · (intro w hSw; (try dsimp only at hSw); go_simp; try with_reducible rfl)
    try simp only [Act.put, List.setIfInBounds_toArray, List.set_cons_zero, List.set_cons_succ]
    refine wpAnyH_done (by kernel_rfl) ?_ _
    go_wp2_with fail
    go_ret
    exact HK.out _ (below_call (below_call (below_call (below_call (below_call (below_call (below_dr hbl1.out) hb1) hb2) hb3) hb4) hb5) hb6)
end Go.Proofs.Ythgnhamokikhkaa.fnWalls
