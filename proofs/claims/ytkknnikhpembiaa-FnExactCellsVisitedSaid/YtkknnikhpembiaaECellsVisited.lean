/- CellsVisited: for every argument the program's answer is the model's and owns its memory, and the arguments read as before. -/
import Derived.Test.YtkknnikhpembiaaHandM
import Derived.Test.YtkknnikhpembiaaWkL
import Derived.Test.YtkknnikhpembiaaHandI4
import Derived.Test.YtkknnikhpembiaaListK
import Derived.Test.YtkknnikhpembiaaBase
import Derived.Test.YtkknnikhpembiaaMzB
namespace Go.Proofs.Ytkknnikhpembiaa.fnExactCellsVisited
open Go.ChangeShapes Go.WideShapes Go.ChangeAt Go.RowKit
open gridC gridR mazeP mazeC mazeM mazeR handQ listW gridE wkL intsP intK intA listK lawKit reachD draw
set_option linter.unusedVariables false

/-- The law's answer. -/
def Yes (w : World) (e : Ending) (w' : World) : Prop := e = .returned (.bool true) ∧ Below w.heap.size w w'
theorem yes_mk {w w' : World} (h : Below w.heap.size w w') : Yes w (.returned (.bool true)) w' := ⟨rfl, h⟩

set_option maxRecDepth 100000 in
set_option maxHeartbeats 2000000 in
theorem walk_at (x0 y0 z0 : Int) (x1 y1 : Int) (r0 : List Int) (W : World)  (hl0 : r0.length ≤ 2000000)
    (HS : Hid (∀  X, Calls Try.prog 31 #[.agg #[.int .i64 x0, .int .i64 y0, .int .i64 z0], .agg #[.int .i64 x1, .int .i64 y1]] X (Ints r0 X)))
    (HI : Hid (∀  X, Calls Try.prog 17 #[.agg #[.int .i64 x0, .int .i64 y0, .int .i64 z0], .agg #[.int .i64 x1, .int .i64 y1]] X (Ints r0 X))) :
    Calls Try.prog 9 #[.agg #[.int .i64 x0, .int .i64 y0, .int .i64 z0], .agg #[.int .i64 x1, .int .i64 y1]] W (Yes W) := by
  have HK := @Lib.hid _ (fun w' b => @yes_mk W w' b)
  have er0 : ((r0.length : Int) != (r0.length : Int)) = false := by simp
  go_enter Try.func9, Try.ntmps9
  obtain ⟨hbx0, hbx1, hbx2⟩ := wkL.two_boxes x0 y0 z0 x1 y1 W 43 44
  have hxc0 := Lib.hid hbx0
  have hxc1 := Lib.hid hbx1
  have hbl := Lib.hid hbx2
  clear hbx0 hbx1 hbx2
  obtain ⟨c00, c01, c02⟩ := hxc0.out.1
  obtain ⟨c10, c11⟩ := hxc1.out.1
  go_wp2_with fail
  try simp only [List.cons_append, List.nil_append, List.append_eq]
  refine wp_region_held_drew (S := (fun w' => w'.cell? ⟨W.heap.size, 0, none⟩ = some (.int .i64 x0) ∧ w'.cell? ⟨W.heap.size, 1, none⟩ = some (.int .i64 y0) ∧ w'.cell? ⟨W.heap.size, 2, none⟩ = some (.int .i64 z0) ∧ w'.cell? ⟨W.heap.size + 1, 0, none⟩ = some (.int .i64 x1) ∧ w'.cell? ⟨W.heap.size + 1, 1, none⟩ = some (.int .i64 y1))) (by kernel_rfl) ?_ (fun hHeld0 => ?_)
  · (try dsimp only); go_keep
  refine wpAnyH_take (i := 0) (oi := { dst := some 10, op := Go.Op.load 43 (Go.Operand.tmp 2), type := 43, pos := "exact.go:1812", after := #[], guard := none }) (v := ?_) rfl (by kernel_rfl) (by kernel_rfl) (by kernel_rfl) (fun _ _ _ h => h) (Or.inl ⟨by rfl, ?_⟩) (by assumption) ?_
  rotate_left
  · (intro w hSw; (try dsimp only at hSw); go_simp; try with_reducible rfl)
  try simp only [Act.put, List.setIfInBounds_toArray, List.set_cons_zero, List.set_cons_succ]
  refine wpAnyH_take (i := 2) (oi := { dst := some 12, op := Go.Op.load 44 (Go.Operand.tmp 3), type := 44, pos := "exact.go:1812", after := #[], guard := none }) (v := ?_) rfl (by kernel_rfl) (by kernel_rfl) (by kernel_rfl) (fun _ _ _ h => h) (Or.inl ⟨by rfl, ?_⟩) (by assumption) ?_
  rotate_left
  · (intro w hSw; (try dsimp only at hSw); go_simp; try with_reducible rfl)
  try simp only [Act.put, List.setIfInBounds_toArray, List.set_cons_zero, List.set_cons_succ]
  refine wpAnyH_ready (rs := [1]) (by kernel_rfl) (by simp) ?_
  refine AllReadyH.cons (o := { dst := some 11, op := Go.Op.call { callee := Go.Callee.value (Go.Operand.func 20), args := #[Go.Operand.tmp 10], argTypes := #[43] }, type := 27, pos := "exact.go:1812", after := #[{ on := 0, ground := Go.Ground.data }], guard := none }) rfl (fun K1 hK1 => ?_) AllReadyH.nil
  go_simp
  (refine (toMaze_any x0 y0 z0 _).mono ?_; rintro e w1 ⟨rfl, hb⟩; clear c00 c01 c02; clear c10 c11; have hb := draw_off hb; replace hbl := Lib.hid (below_call hbl.out hb); replace hxc0 := Lib.hid (hxc0.out.call hb); replace hxc1 := Lib.hid (hxc1.out.call hb); clear hb; obtain ⟨c00, c01, c02⟩ := hxc0.out.1; obtain ⟨c10, c11⟩ := hxc1.out.1)
  go_wp2_with fail
  refine hK1.out _ _ ?_ (fun hHeld1 => ?_)
  · (try dsimp only); go_keep
  clear hK1 K1 hHeld0
  try simp only [Act.put, List.setIfInBounds_toArray, List.set_cons_zero, List.set_cons_succ]
  refine wpAnyH_ready (rs := [3]) (by kernel_rfl) (by simp) ?_
  refine AllReadyH.cons (o := { dst := some 13, op := Go.Op.call { callee := Go.Callee.value (Go.Operand.func 21), args := #[Go.Operand.tmp 12], argTypes := #[44] }, type := 29, pos := "exact.go:1812", after := #[{ on := 2, ground := Go.Ground.data }, { on := 1, ground := Go.Ground.chain }], guard := none }) rfl (fun K3 hK3 => ?_) AllReadyH.nil
  go_simp
  (refine (wkL.toWalker_any x1 y1 _).mono ?_; rintro e w2 ⟨rfl, hb⟩; clear c00 c01 c02; clear c10 c11; replace hbl := Lib.hid (below_call hbl.out hb); replace hxc0 := Lib.hid (hxc0.out.call hb); replace hxc1 := Lib.hid (hxc1.out.call hb); clear hb; obtain ⟨c00, c01, c02⟩ := hxc0.out.1; obtain ⟨c10, c11⟩ := hxc1.out.1)
  go_wp2_with fail
  refine hK3.out _ _ ?_ (fun hHeld2 => ?_)
  · (try dsimp only); go_keep
  clear hK3 K3 hHeld1
  try simp only [Act.put, List.setIfInBounds_toArray, List.set_cons_zero, List.set_cons_succ]
  refine wpAnyH_ready (rs := [4]) (by kernel_rfl) (by simp) ?_
  refine AllReadyH.cons (o := { dst := some 14, op := Go.Op.call { callee := Go.Callee.value (Go.Operand.func 31), args := #[Go.Operand.tmp 11, Go.Operand.tmp 13], argTypes := #[27, 29] }, type := 37, pos := "exact.go:1812", after := #[{ on := 1, ground := Go.Ground.data }, { on := 3, ground := Go.Ground.data }, { on := 3, ground := Go.Ground.chain }], guard := none }) rfl (fun K4 hK4 => ?_) AllReadyH.nil
  go_simp
  (refine (HS.out _).mono ?_; rintro e w3 ⟨vw0, rfl, ho, hb⟩; clear c00 c01 c02; clear c10 c11; have h_w0 := Lib.hid ho; clear ho; replace hbl := Lib.hid (below_call hbl.out hb); replace hxc0 := Lib.hid (hxc0.out.call hb); replace hxc1 := Lib.hid (hxc1.out.call hb); clear hb; obtain ⟨A_w0, k_w0, rfl⟩ := intsP.own_form h_w0.out; obtain ⟨c00, c01, c02⟩ := hxc0.out.1; obtain ⟨c10, c11⟩ := hxc1.out.1)
  go_wp2_with fail
  refine hK4.out _ _ ?_ (fun hHeld3 => ?_)
  · (try dsimp only); go_keep
  clear hK4 K4 hHeld2
  try simp only [Act.put, List.setIfInBounds_toArray, List.set_cons_zero, List.set_cons_succ]
  refine wpAnyH_take (i := 5) (oi := { dst := some 5, op := Go.Op.assign (Go.Operand.tmp 14), type := 37, pos := "exact.go:1812", after := #[{ on := 4, ground := Go.Ground.data }, { on := 4, ground := Go.Ground.chain }, { on := 0, ground := Go.Ground.phase }, { on := 1, ground := Go.Ground.phase }, { on := 2, ground := Go.Ground.phase }, { on := 3, ground := Go.Ground.phase }, { on := 4, ground := Go.Ground.phase }], guard := none }) (v := ?_) rfl (by kernel_rfl) (by kernel_rfl) (by kernel_rfl) (fun _ _ _ h => h) (Or.inl ⟨by rfl, ?_⟩) (by assumption) ?_
  rotate_left
  · (intro w hSw; (try dsimp only at hSw); go_simp; try with_reducible rfl)
  try simp only [Act.put, List.setIfInBounds_toArray, List.set_cons_zero, List.set_cons_succ]
  refine wpAnyH_done (by kernel_rfl) ?_ _
  clear c00 c01 c02
  clear c10 c11
  obtain ⟨c00, c01, c02⟩ := hxc0.out.1
  obtain ⟨c10, c11⟩ := hxc1.out.1
  go_wp2_with fail
  try simp only [List.cons_append, List.nil_append, List.append_eq]
  refine wp_region_held_drew (S := (fun w' => w'.cell? ⟨W.heap.size, 0, none⟩ = some (.int .i64 x0) ∧ w'.cell? ⟨W.heap.size, 1, none⟩ = some (.int .i64 y0) ∧ w'.cell? ⟨W.heap.size, 2, none⟩ = some (.int .i64 z0) ∧ w'.cell? ⟨W.heap.size + 1, 0, none⟩ = some (.int .i64 x1) ∧ w'.cell? ⟨W.heap.size + 1, 1, none⟩ = some (.int .i64 y1))) (by kernel_rfl) ?_ (fun hHeld0 => ?_)
  · (try dsimp only); go_keep
  refine wpAnyH_take (i := 0) (oi := { dst := some 15, op := Go.Op.load 43 (Go.Operand.tmp 2), type := 43, pos := "exact.go:1813", after := #[], guard := none }) (v := ?_) rfl (by kernel_rfl) (by kernel_rfl) (by kernel_rfl) (fun _ _ _ h => h) (Or.inl ⟨by rfl, ?_⟩) (by assumption) ?_
  rotate_left
  · (intro w hSw; (try dsimp only at hSw); go_simp; try with_reducible rfl)
  try simp only [Act.put, List.setIfInBounds_toArray, List.set_cons_zero, List.set_cons_succ]
  refine wpAnyH_take (i := 2) (oi := { dst := some 17, op := Go.Op.load 44 (Go.Operand.tmp 3), type := 44, pos := "exact.go:1813", after := #[], guard := none }) (v := ?_) rfl (by kernel_rfl) (by kernel_rfl) (by kernel_rfl) (fun _ _ _ h => h) (Or.inl ⟨by rfl, ?_⟩) (by assumption) ?_
  rotate_left
  · (intro w hSw; (try dsimp only at hSw); go_simp; try with_reducible rfl)
  try simp only [Act.put, List.setIfInBounds_toArray, List.set_cons_zero, List.set_cons_succ]
  refine wpAnyH_ready (rs := [1]) (by kernel_rfl) (by simp) ?_
  refine AllReadyH.cons (o := { dst := some 16, op := Go.Op.call { callee := Go.Callee.value (Go.Operand.func 20), args := #[Go.Operand.tmp 15], argTypes := #[43] }, type := 27, pos := "exact.go:1813", after := #[{ on := 0, ground := Go.Ground.data }], guard := none }) rfl (fun K1 hK1 => ?_) AllReadyH.nil
  go_simp
  (refine (toMaze_any x0 y0 z0 _).mono ?_; rintro e w4 ⟨rfl, hb⟩; clear c00 c01 c02; clear c10 c11; have hb := draw_off hb; replace hbl := Lib.hid (below_call hbl.out hb); replace hxc0 := Lib.hid (hxc0.out.call hb); replace hxc1 := Lib.hid (hxc1.out.call hb); replace h_w0 := Lib.hid (own_call h_w0.out hb); clear hb; obtain ⟨c00, c01, c02⟩ := hxc0.out.1; obtain ⟨c10, c11⟩ := hxc1.out.1)
  go_wp2_with fail
  refine hK1.out _ _ ?_ (fun hHeld1 => ?_)
  · (try dsimp only); go_keep
  clear hK1 K1 hHeld0
  try simp only [Act.put, List.setIfInBounds_toArray, List.set_cons_zero, List.set_cons_succ]
  refine wpAnyH_ready (rs := [3]) (by kernel_rfl) (by simp) ?_
  refine AllReadyH.cons (o := { dst := some 18, op := Go.Op.call { callee := Go.Callee.value (Go.Operand.func 21), args := #[Go.Operand.tmp 17], argTypes := #[44] }, type := 29, pos := "exact.go:1813", after := #[{ on := 2, ground := Go.Ground.data }, { on := 1, ground := Go.Ground.chain }], guard := none }) rfl (fun K3 hK3 => ?_) AllReadyH.nil
  go_simp
  (refine (wkL.toWalker_any x1 y1 _).mono ?_; rintro e w5 ⟨rfl, hb⟩; clear c00 c01 c02; clear c10 c11; replace hbl := Lib.hid (below_call hbl.out hb); replace hxc0 := Lib.hid (hxc0.out.call hb); replace hxc1 := Lib.hid (hxc1.out.call hb); replace h_w0 := Lib.hid (own_call h_w0.out hb); clear hb; obtain ⟨c00, c01, c02⟩ := hxc0.out.1; obtain ⟨c10, c11⟩ := hxc1.out.1)
  go_wp2_with fail
  refine hK3.out _ _ ?_ (fun hHeld2 => ?_)
  · (try dsimp only); go_keep
  clear hK3 K3 hHeld1
  try simp only [Act.put, List.setIfInBounds_toArray, List.set_cons_zero, List.set_cons_succ]
  refine wpAnyH_ready (rs := [4]) (by kernel_rfl) (by simp) ?_
  refine AllReadyH.cons (o := { dst := some 19, op := Go.Op.call { callee := Go.Callee.value (Go.Operand.func 17), args := #[Go.Operand.tmp 16, Go.Operand.tmp 18], argTypes := #[27, 29] }, type := 37, pos := "exact.go:1813", after := #[{ on := 1, ground := Go.Ground.data }, { on := 3, ground := Go.Ground.data }, { on := 3, ground := Go.Ground.chain }], guard := none }) rfl (fun K4 hK4 => ?_) AllReadyH.nil
  go_simp
  (refine (HI.out _).mono ?_; rintro e w6 ⟨vg0, rfl, ho, hb⟩; clear c00 c01 c02; clear c10 c11; have NE_w0_g0 := Lib.hid (own_apart h_w0.out ho); have h_g0 := Lib.hid ho; have U_g0 := Lib.hid (fun g e => (ho.lt g e)); have UW_g0 := Lib.hid hbl.out.size; have UBc0_g0 := Lib.hid hxc0.out.2; have UBc1_g0 := Lib.hid hxc1.out.2; clear ho; replace hbl := Lib.hid (below_call hbl.out hb); replace hxc0 := Lib.hid (hxc0.out.call hb); replace hxc1 := Lib.hid (hxc1.out.call hb); replace h_w0 := Lib.hid (own_call h_w0.out hb); clear hb; obtain ⟨A_g0, k_g0, rfl⟩ := intsP.own_form h_g0.out; obtain ⟨c00, c01, c02⟩ := hxc0.out.1; obtain ⟨c10, c11⟩ := hxc1.out.1)
  go_wp2_with fail
  refine hK4.out _ _ ?_ (fun hHeld3 => ?_)
  · (try dsimp only); go_keep
  clear hK4 K4 hHeld2
  try simp only [Act.put, List.setIfInBounds_toArray, List.set_cons_zero, List.set_cons_succ]
  refine wpAnyH_take (i := 5) (oi := { dst := some 6, op := Go.Op.assign (Go.Operand.tmp 19), type := 37, pos := "exact.go:1813", after := #[{ on := 4, ground := Go.Ground.data }, { on := 4, ground := Go.Ground.chain }, { on := 0, ground := Go.Ground.phase }, { on := 1, ground := Go.Ground.phase }, { on := 2, ground := Go.Ground.phase }, { on := 3, ground := Go.Ground.phase }, { on := 4, ground := Go.Ground.phase }], guard := none }) (v := ?_) rfl (by kernel_rfl) (by kernel_rfl) (by kernel_rfl) (fun _ _ _ h => h) (Or.inl ⟨by rfl, ?_⟩) (by assumption) ?_
  rotate_left
  · (intro w hSw; (try dsimp only at hSw); go_simp; try with_reducible rfl)
  try simp only [Act.put, List.setIfInBounds_toArray, List.set_cons_zero, List.set_cons_succ]
  refine wpAnyH_done (by kernel_rfl) ?_ _
  clear c00 c01 c02
  clear c10 c11
  obtain ⟨c00, c01, c02⟩ := hxc0.out.1
  obtain ⟨c10, c11⟩ := hxc1.out.1
  go_wp2_with fail
  refine (eq_b _ _ _ _ r0.length r0 _ rfl (by omega) h_g0.out h_w0.out).mono ?_
  rintro e w7 ⟨rfl, hb⟩
  clear c00 c01 c02
  clear c10 c11
  replace hbl := Lib.hid (below_call hbl.out hb)
  replace hxc0 := Lib.hid (hxc0.out.call hb)
  replace hxc1 := Lib.hid (hxc1.out.call hb)
  replace h_w0 := Lib.hid (own_call h_w0.out hb)
  replace h_g0 := Lib.hid (own_call h_g0.out hb)
  clear hb
  obtain ⟨c00, c01, c02⟩ := hxc0.out.1
  obtain ⟨c10, c11⟩ := hxc1.out.1
  go_wp2_with fail
  refine (mark_one (.slice A_g0 r0.length k_g0) _ r0.length 1 1 _ _ rfl (by omega) (by omega) h_g0.out).mono ?_
  rintro e w8 ⟨rfl, ho, hg⟩
  clear c00 c01 c02
  clear c10 c11
  replace h_g0 := Lib.hid ho
  clear ho
  replace hbl := Lib.hid (below_marked hbl.out hg (fun g e => Nat.le_trans UW_g0.out (U_g0.out g e).1))
  replace hxc0 := Lib.hid (mbox_marked hxc0.out hg (fun g e => Nat.lt_of_lt_of_le UBc0_g0.out (U_g0.out g e).1))
  replace hxc1 := Lib.hid (box_marked hxc1.out hg (fun g e => Nat.lt_of_lt_of_le UBc1_g0.out (U_g0.out g e).1))
  replace h_w0 := Lib.hid (row_marked h_w0.out hg NE_w0_g0.out)
  clear hg
  obtain ⟨c00, c01, c02⟩ := hxc0.out.1
  obtain ⟨c10, c11⟩ := hxc1.out.1
  go_wp2_with fail
  refine (held_any (.slice A_g0 r0.length k_g0) _ r0.length 1 1 _ rfl (by omega) (by omega) h_g0.out).mono ?_
  rintro e w9 ⟨rfl, hb⟩
  clear c00 c01 c02
  clear c10 c11
  replace hbl := Lib.hid (below_call hbl.out hb)
  replace hxc0 := Lib.hid (hxc0.out.call hb)
  replace hxc1 := Lib.hid (hxc1.out.call hb)
  replace h_w0 := Lib.hid (own_call h_w0.out hb)
  replace h_g0 := Lib.hid (own_call h_g0.out hb)
  clear hb
  have hne : (((1 + r0.length : Nat) : Int) != ((1 + r0.length : Nat) : Int)) = false := by simp
  have hne2 : ((1 : Int) + (r0.length : Int) != (1 : Int) + (r0.length : Int)) = false := by simp
  obtain ⟨c00, c01, c02⟩ := hxc0.out.1
  obtain ⟨c10, c11⟩ := hxc1.out.1
  go_wp2_with fail
  try simp only [List.cons_append, List.nil_append, List.append_eq]
  refine wp_region_held_drew (S := (fun w' => w'.cell? ⟨W.heap.size, 0, none⟩ = some (.int .i64 x0) ∧ w'.cell? ⟨W.heap.size, 1, none⟩ = some (.int .i64 y0) ∧ w'.cell? ⟨W.heap.size, 2, none⟩ = some (.int .i64 z0) ∧ w'.cell? ⟨W.heap.size + 1, 0, none⟩ = some (.int .i64 x1) ∧ w'.cell? ⟨W.heap.size + 1, 1, none⟩ = some (.int .i64 y1))) (by kernel_rfl) ?_ (fun hHeld0 => ?_)
  · (try dsimp only); go_keep
  refine wpAnyH_take (i := 0) (oi := { dst := some 35, op := Go.Op.load 43 (Go.Operand.tmp 2), type := 43, pos := "exact.go:1827", after := #[], guard := none }) (v := ?_) rfl (by kernel_rfl) (by kernel_rfl) (by kernel_rfl) (fun _ _ _ h => h) (Or.inl ⟨by rfl, ?_⟩) (by assumption) ?_
  rotate_left
  · (intro w hSw; (try dsimp only at hSw); go_simp; try with_reducible rfl)
  try simp only [Act.put, List.setIfInBounds_toArray, List.set_cons_zero, List.set_cons_succ]
  refine wpAnyH_take (i := 2) (oi := { dst := some 37, op := Go.Op.load 44 (Go.Operand.tmp 3), type := 44, pos := "exact.go:1827", after := #[], guard := none }) (v := ?_) rfl (by kernel_rfl) (by kernel_rfl) (by kernel_rfl) (fun _ _ _ h => h) (Or.inl ⟨by rfl, ?_⟩) (by assumption) ?_
  rotate_left
  · (intro w hSw; (try dsimp only at hSw); go_simp; try with_reducible rfl)
  try simp only [Act.put, List.setIfInBounds_toArray, List.set_cons_zero, List.set_cons_succ]
  refine wpAnyH_ready (rs := [1]) (by kernel_rfl) (by simp) ?_
  refine AllReadyH.cons (o := { dst := some 36, op := Go.Op.call { callee := Go.Callee.value (Go.Operand.func 20), args := #[Go.Operand.tmp 35], argTypes := #[43] }, type := 27, pos := "exact.go:1827", after := #[{ on := 0, ground := Go.Ground.data }], guard := none }) rfl (fun K1 hK1 => ?_) AllReadyH.nil
  go_simp
  (refine (toMaze_any x0 y0 z0 _).mono ?_; rintro e w10 ⟨rfl, hb⟩; clear c00 c01 c02; clear c10 c11; have hb := draw_off hb; replace hbl := Lib.hid (below_call hbl.out hb); replace hxc0 := Lib.hid (hxc0.out.call hb); replace hxc1 := Lib.hid (hxc1.out.call hb); replace h_w0 := Lib.hid (own_call h_w0.out hb); replace h_g0 := Lib.hid (own_call h_g0.out hb); clear hb; obtain ⟨c00, c01, c02⟩ := hxc0.out.1; obtain ⟨c10, c11⟩ := hxc1.out.1)
  go_wp2_with fail
  refine hK1.out _ _ ?_ (fun hHeld1 => ?_)
  · (try dsimp only); go_keep
  clear hK1 K1 hHeld0
  try simp only [Act.put, List.setIfInBounds_toArray, List.set_cons_zero, List.set_cons_succ]
  refine wpAnyH_ready (rs := [3]) (by kernel_rfl) (by simp) ?_
  refine AllReadyH.cons (o := { dst := some 38, op := Go.Op.call { callee := Go.Callee.value (Go.Operand.func 21), args := #[Go.Operand.tmp 37], argTypes := #[44] }, type := 29, pos := "exact.go:1827", after := #[{ on := 2, ground := Go.Ground.data }, { on := 1, ground := Go.Ground.chain }], guard := none }) rfl (fun K3 hK3 => ?_) AllReadyH.nil
  go_simp
  (refine (wkL.toWalker_any x1 y1 _).mono ?_; rintro e w11 ⟨rfl, hb⟩; clear c00 c01 c02; clear c10 c11; replace hbl := Lib.hid (below_call hbl.out hb); replace hxc0 := Lib.hid (hxc0.out.call hb); replace hxc1 := Lib.hid (hxc1.out.call hb); replace h_w0 := Lib.hid (own_call h_w0.out hb); replace h_g0 := Lib.hid (own_call h_g0.out hb); clear hb; obtain ⟨c00, c01, c02⟩ := hxc0.out.1; obtain ⟨c10, c11⟩ := hxc1.out.1)
  go_wp2_with fail
  refine hK3.out _ _ ?_ (fun hHeld2 => ?_)
  · (try dsimp only); go_keep
  clear hK3 K3 hHeld1
  try simp only [Act.put, List.setIfInBounds_toArray, List.set_cons_zero, List.set_cons_succ]
  refine wpAnyH_ready (rs := [4]) (by kernel_rfl) (by simp) ?_
  refine AllReadyH.cons (o := { dst := some 39, op := Go.Op.call { callee := Go.Callee.value (Go.Operand.func 17), args := #[Go.Operand.tmp 36, Go.Operand.tmp 38], argTypes := #[27, 29] }, type := 37, pos := "exact.go:1827", after := #[{ on := 1, ground := Go.Ground.data }, { on := 3, ground := Go.Ground.data }, { on := 3, ground := Go.Ground.chain }], guard := none }) rfl (fun K4 hK4 => ?_) AllReadyH.nil
  go_simp
  (refine (HI.out _).mono ?_; rintro e w12 ⟨vh0, rfl, ho, hb⟩; clear c00 c01 c02; clear c10 c11; have NE_w0_h0 := Lib.hid (own_apart h_w0.out ho); have NE_g0_h0 := Lib.hid (own_apart h_g0.out ho); have h_h0 := Lib.hid ho; clear ho; replace hbl := Lib.hid (below_call hbl.out hb); replace hxc0 := Lib.hid (hxc0.out.call hb); replace hxc1 := Lib.hid (hxc1.out.call hb); replace h_w0 := Lib.hid (own_call h_w0.out hb); replace h_g0 := Lib.hid (own_call h_g0.out hb); clear hb; obtain ⟨A_h0, k_h0, rfl⟩ := intsP.own_form h_h0.out; obtain ⟨c00, c01, c02⟩ := hxc0.out.1; obtain ⟨c10, c11⟩ := hxc1.out.1)
  go_wp2_with fail
  refine hK4.out _ _ ?_ (fun hHeld3 => ?_)
  · (try dsimp only); go_keep
  clear hK4 K4 hHeld2
  try simp only [Act.put, List.setIfInBounds_toArray, List.set_cons_zero, List.set_cons_succ]
  refine wpAnyH_take (i := 5) (oi := { dst := some 9, op := Go.Op.assign (Go.Operand.tmp 39), type := 37, pos := "exact.go:1827", after := #[{ on := 4, ground := Go.Ground.data }, { on := 4, ground := Go.Ground.chain }, { on := 0, ground := Go.Ground.phase }, { on := 1, ground := Go.Ground.phase }, { on := 2, ground := Go.Ground.phase }, { on := 3, ground := Go.Ground.phase }, { on := 4, ground := Go.Ground.phase }], guard := none }) (v := ?_) rfl (by kernel_rfl) (by kernel_rfl) (by kernel_rfl) (fun _ _ _ h => h) (Or.inl ⟨by rfl, ?_⟩) (by assumption) ?_
  rotate_left
  · (intro w hSw; (try dsimp only at hSw); go_simp; try with_reducible rfl)
  try simp only [Act.put, List.setIfInBounds_toArray, List.set_cons_zero, List.set_cons_succ]
  refine wpAnyH_done (by kernel_rfl) ?_ _
  clear c00 c01 c02
  clear c10 c11
  obtain ⟨c00, c01, c02⟩ := hxc0.out.1
  obtain ⟨c10, c11⟩ := hxc1.out.1
  go_wp2_with fail
  refine (eq_b _ _ _ _ r0.length r0 _ rfl (by omega) h_h0.out h_w0.out).mono ?_
  rintro e w13 ⟨rfl, hb⟩
  clear c00 c01 c02
  clear c10 c11
  replace hbl := Lib.hid (below_call hbl.out hb)
  replace hxc0 := Lib.hid (hxc0.out.call hb)
  replace hxc1 := Lib.hid (hxc1.out.call hb)
  replace h_w0 := Lib.hid (own_call h_w0.out hb)
  replace h_g0 := Lib.hid (own_call h_g0.out hb)
  replace h_h0 := Lib.hid (own_call h_h0.out hb)
  clear hb
  obtain ⟨c00, c01, c02⟩ := hxc0.out.1
  obtain ⟨c10, c11⟩ := hxc1.out.1
  go_wp2_with fail
  refine (held_any (.slice A_g0 r0.length k_g0) _ r0.length 1 1 _ rfl (by omega) (by omega) h_g0.out).mono ?_
  rintro e w14 ⟨rfl, hb⟩
  clear c00 c01 c02
  clear c10 c11
  replace hbl := Lib.hid (below_call hbl.out hb)
  replace hxc0 := Lib.hid (hxc0.out.call hb)
  replace hxc1 := Lib.hid (hxc1.out.call hb)
  replace h_w0 := Lib.hid (own_call h_w0.out hb)
  replace h_g0 := Lib.hid (own_call h_g0.out hb)
  replace h_h0 := Lib.hid (own_call h_h0.out hb)
  clear hb
  go_wp2_with fail
  go_ret
  exact HK.out _ hbl.out

set_option maxRecDepth 100000 in
theorem walk (x0 y0 z0 : Int) (x1 y1 : Int) (W : World) (wx0 : (Lit.int .i64 x0).wf = true) (wy0 : (Lit.int .i64 y0).wf = true) (wz0 : (Lit.int .i64 z0).wf = true) (wx1 : (Lit.int .i64 x1).wf = true) (wy1 : (Lit.int .i64 y1).wf = true) :
    Calls Try.prog 9 #[.agg #[.int .i64 x0, .int .i64 y0, .int .i64 z0], .agg #[.int .i64 x1, .int .i64 y1]] W (Yes W) := by
  exact walk_at x0 y0 z0 x1 y1 (cvL x0 y0 z0 x1 y1) W (Nat.le_trans (handM.cv_len x0 y0 z0 x1 y1) (by decide))
    (Lib.hid (fun  X => handM.cellsVisited_any x0 y0 z0 x1 y1 X ))
    (Lib.hid (fun  X => handI.cellsVisited_any x0 y0 z0 x1 y1 X ))

set_option maxRecDepth 100000 in
theorem lifted (os : Os) (started : os.Started) (H : Type) (enc : TypeId × Value → H) :
    ReturnsInHanded {} Try.checked os 9 .any (Rows.fnExactCellsVisitedSpec.pre6 enc Try.prog Try.f9 Rows.fnExactCellsVisitedRow.domain false) (Rows.fnExactCellsVisitedSpec.post enc Try.prog Try.f9 false true false false) := by
  refine returnsInHanded_of_change (C := Try.checked) own started (by kernel_rfl) Try.func9
    (ChangeSpec.witness6 (enc := enc) (C := Try.checked) false ⟨#[], #[.agg #[.int .i64 0, .int .i64 0, .int .i64 0], .agg #[.int .i64 0, .int .i64 0]], []⟩ 8 (by kernel_rfl) (by kernel_rfl) (by kernel_rfl) (by kernel_rfl)) ?_
  intro W base args ds gs before hval0 hW _ _
  have hval : ∀ (j : Nat) t v, Try.f9.params[j]? = some t → args[j]? = some v → Value.okWide Try.prog W .any base t v := hval0
  have hW' := hW
  obtain ⟨p, q, hA0, hV, rfl, hfz, hnd⟩ := hW
  have hA : DataW.TrodAll enc Try.prog W 0 (fun _ => true) true Try.f9.params.toList args.toList ds p := hA0
  rw [Try.params9] at hA hval
  obtain ⟨v0, vs0, d0, ds0, p0, q0, hargs, rfl, rfl, h0, r0⟩ := trodAll_cons hA
  obtain ⟨v1, vs1, d1, ds1, p1, q1, rfl, rfl, rfl, h1, r1⟩ := trodAll_cons r0
  obtain ⟨rfl, rfl, rfl⟩ := trodAll_nil r1
  obtain rfl : args = #[v0, v1] := by cases args; simp_all
  obtain ⟨rfl, rfl⟩ := trodVars_none hV
  clear hA0 hval0
  simp only [List.append_nil] at hW'
  obtain ⟨x0, y0, z0, rfl, rfl, rfl, wx0, wy0, wz0⟩ := mazeR.open_maze (hval 0 43 v0 rfl rfl) h0
  obtain ⟨x1, y1, rfl, rfl, rfl, wx1, wy1⟩ := wkL.open_walker (hval 1 44 v1 rfl rfl) h1
  refine (walk x0 y0 z0 x1 y1 W wx0 wy0 wz0 wx1 wy1).mono fun e W' ⟨he, hg⟩ => ?_
  subst he
  exact ⟨_, rfl, post_below (pa := []) (pv := []) hW' (fun _ _ _ => (trodAll_cons_mk (shut_bool Try.underlying4 _) trodAll_mk0)) (fun sp _ => (trodAll_cons_mk (mazeR.shut_maze wx0 wy0 wz0) (trodAll_cons_mk (wkL.shut_walker wx1 wy1) trodAll_mk0))) (fun _ _ => rfl) (by simp)
    hg (ok_one (by kernel_rfl) rfl (okWide_bool_mk Try.underlying4 _))⟩

theorem over : Rows.fnExactCellsVisitedRow.holds Try.pinned (OpenSpec.ofChange Rows.fnExactCellsVisitedSpec) :=
  OpenClaim.holds_of_wide 9 Try.f9 rfl rfl rfl rfl rfl rfl rfl ⟨rfl, rfl, rfl, rfl, rfl⟩ rfl rfl rfl rfl rfl (by kernel_rfl) Try.func9 (by kernel_rfl)
    (of_decide_eq_true (by kernel_rfl)) (by unfold Func.isWrapper; first | (rw [if_pos (by decide +kernel)]; kernel_rfl) | (rw [if_neg (by decide +kernel)]; exact ⟨rfl, rfl⟩))
    (fun os started H enc _ => lifted os started H enc)

theorem proved : Rows.FnExactCellsVisitedSaid :=
  over
end Go.Proofs.Ytkknnikhpembiaa.fnExactCellsVisited
