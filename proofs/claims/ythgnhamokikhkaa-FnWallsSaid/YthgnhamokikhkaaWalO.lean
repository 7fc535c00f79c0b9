/- The contracts of the program's functions on corners. -/
import Derived.Test.YthgnhamokikhkaaWalS
import Derived.Test.YthgnhamokikhkaaPrgM
import Derived.Test.YthgnhamokikhkaaGridN
namespace Go.Proofs.Ythgnhamokikhkaa.walI
open Go.ChangeShapes Go.WideShapes Go.ChangeAt Go.RowKit
open draw gridP gridC gridE gridI bitP mazeP mazeC mazeM mazeR mazeI intsP reachP reachM reachN reachD forest perfP walP walR walS
set_option linter.unusedVariables false

theorem corners_any (x y : Int) (W : World) (hk : OkZ x y) :
    Calls Try.prog 87 #[.agg #[.int .i64 x, .int .i64 y]] W (Nm (cosZ x y) W) := by
  obtain ⟨e1, e2, e3, e4⟩ := co_pos hk
  obtain ⟨h1, h2, h3, h4⟩ := id hk
  have he : (x + 1) * (y + 1) = cosZ x y := by unfold cosZ; rw [if_pos ⟨h1, h2, h3, h4⟩]
  have HK := @Lib.hid _ (fun w' b => @nm_mk ((x + 1) * (y + 1)) (cosZ x y) W w' he b)
  have HB := Lib.hid below_box
  have q1 : IntKind.i64.wrap (x + 1) = x + 1 := IntWalk.i64_in _ (by omega)
  have q2 : IntKind.i64.wrap (y + 1) = y + 1 := IntWalk.i64_in _ (by omega)
  have q3 : IntKind.i64.wrap ((x + 1) * (y + 1)) = (x + 1) * (y + 1) := IntWalk.i64_in _ (by omega)
  clear he e1 e2 e3 e4 hk
  go_enter Try.func87, Try.ntmps87
  go_wp2_with fail
  go_ret
  exact HK.out _ (HB.out _ _)

theorem innerCorners_any (x y : Int) (W : World) (hk : OkZ x y) :
    Calls Try.prog 89 #[.agg #[.int .i64 x, .int .i64 y]] W (Nm ((x - 1) * (y - 1)) W) := by
  obtain ⟨h1, h2, h3, h4⟩ := id hk
  have HK := @Lib.hid _ (fun w' b => @nm_mk ((x - 1) * (y - 1)) ((x - 1) * (y - 1)) W w' rfl b)
  have HB := Lib.hid below_box
  have hb : 0 ≤ (x - 1) * (y - 1) ∧ (x - 1) * (y - 1) ≤ 9 := by
    rcases (by omega : x = 1 ∨ x = 2 ∨ x = 3 ∨ x = 4) with rfl | rfl | rfl | rfl <;> omega
  have q1 : IntKind.i64.wrap (x - 1) = x - 1 := IntWalk.i64_in _ (by omega)
  have q2 : IntKind.i64.wrap (y - 1) = y - 1 := IntWalk.i64_in _ (by omega)
  have q3 : IntKind.i64.wrap ((x - 1) * (y - 1)) = (x - 1) * (y - 1) := IntWalk.i64_in _ (by omega)
  clear hb hk
  go_enter Try.func89, Try.ntmps89
  go_wp2_with fail
  go_ret
  exact HK.out _ (HB.out _ _)

/-- At the edge, for a corner that is there. -/
def edA (x y c : Int) : Bool := c % (x + 1) == 0 || c % (x + 1) == x || c / (x + 1) == 0 || c / (x + 1) == y
theorem ed_is {x y c : Int} (h : decide (0 ≤ c ∧ c < cosZ x y) = true) : edA x y c = edB x y c := by
  unfold edB edA
  rw [decide_eq_true_iff] at h
  rw [decide_eq_true (show 0 ≤ c ∧ c ≤ cosZ x y - 1 by omega), Bool.true_and]
theorem ed_out {x y c : Int} (h : decide (0 ≤ c ∧ c < cosZ x y) = false) : false = edB x y c := by
  unfold edB
  rw [decide_eq_false_iff_not] at h
  rw [decide_eq_false (show ¬ (0 ≤ c ∧ c ≤ cosZ x y - 1) by omega), Bool.false_and]
theorem isEdgeM_any (x y c : Int) (W : World) (hk : OkZ x y) (c0 : 0 ≤ c) (c1 : c ≤ 24) :
    Calls Try.prog 131 #[.agg #[.int .i64 x, .int .i64 y], .int .i64 c] W (Bl (edA x y c) W) := by
  have HB := Lib.hid (fun T => below_box W (.cells #[.int .i64 x, .int .i64 y] T))
  have HX := Lib.hid (box_new x y W)
  obtain ⟨h1, h2, h3, h4⟩ := hk
  have he : (c % (x + 1) == 0 || c % (x + 1) == x || c / (x + 1) == 0 || c / (x + 1) == y) = edA x y c := rfl
  have t1 : c.tmod (x + 1) = c % (x + 1) := IntWalk.rem_in _ _ (by omega)
  have t2 : c.tdiv (x + 1) = c / (x + 1) := by rw [Int.tdiv_eq_ediv_of_nonneg (by omega)]
  have hx0 : (x + 1 = 0) = False := by simp; omega
  have q1 : IntKind.i64.wrap (x + 1) = x + 1 := IntWalk.i64_in _ (by omega)
  have hdv := Int.ediv_nonneg (show 0 ≤ c by omega) (show 0 ≤ x + 1 by omega)
  have hdl : c / (x + 1) ≤ c := Int.ediv_le_self _ (by omega)
  have q2 : IntKind.i64.wrap (c / (x + 1)) = c / (x + 1) := IntWalk.i64_in _ (by omega)
  obtain ⟨b1, e1⟩ : ∃ b, (c % (x + 1) == 0) = b := ⟨_, rfl⟩
  obtain ⟨b2, e2⟩ : ∃ b, (c % (x + 1) == x) = b := ⟨_, rfl⟩
  obtain ⟨b3, e3⟩ : ∃ b, (c / (x + 1) == 0) = b := ⟨_, rfl⟩
  obtain ⟨b4, e4⟩ : ∃ b, (c / (x + 1) == y) = b := ⟨_, rfl⟩
  rw [e1, e2, e3, e4] at he
  have HK := @Lib.hid _ (fun w' b => @bl_mk (b1 || b2 || b3 || b4) (edA x y c) W w' he b)
  clear he hdv hdl h2 h4 c0 c1
  generalize c % (x + 1) = u at *
  generalize c / (x + 1) = v at *
  go_enter Try.func131, Try.ntmps131
  go_wp2_with fail
  have HB0 := Lib.hid (HB.out 25)
  have HX0 := Lib.hid (HX.out 25)
  clear HB HX
  generalize W.alloc (.cells #[.int .i64 x, .int .i64 y] 25) = w0 at *
  obtain ⟨p0, p1⟩ := HX0.out.1
  go_quiet (fail)
  cases b1
  · cases b2
    · cases b3
      · cases b4
        · go_wp2_with fail
          go_ret
          exact HK.out _ (below_draws HB0.out _)
        · go_wp2_with fail
          go_ret
          exact HK.out _ (below_draws HB0.out _)
      · go_wp2_with fail
        go_ret
        exact HK.out _ (below_draws HB0.out _)
    · go_wp2_with fail
      go_ret
      exact HK.out _ (below_draws HB0.out _)
  · go_wp2_with fail
    go_ret
    exact HK.out _ (below_draws HB0.out _)

theorem northWest_any (x y k : Int) (W : World) (hk : OkZ x y) (k0 : 0 ≤ k) (k1 : k < 16) :
    Calls Try.prog 132 #[.agg #[.int .i64 x, .int .i64 y], .int .i64 k] W (Nm (k + k / x) W) := by
  obtain ⟨h1, h2, h3, h4⟩ := hk
  have HK := @Lib.hid _ (fun w' a (e : a = k + k / x) b => @nm_mk a (k + k / x) W w' e b)
  have HB := Lib.hid below_box
  obtain rfl | rfl | rfl | rfl : x = 1 ∨ x = 2 ∨ x = 3 ∨ x = 4 := by omega
  all_goals
    go_enter Try.func132, Try.ntmps132
    go_wp2
    go_ret
    exact HK.out _ _ (by omega) (HB.out _ _)

theorem southEast_any (x y k : Int) (W : World) (hk : OkZ x y) (k0 : 0 ≤ k) (k1 : k < 16) :
    Calls Try.prog 133 #[.agg #[.int .i64 x, .int .i64 y], .int .i64 k] W (Nm (k + k / x + x + 2) W) := by
  have HN := Lib.hid (fun X => northWest_any x y k X hk k0 k1)
  obtain ⟨h1, h2, h3, h4⟩ := hk
  have hd := Int.ediv_nonneg k0 (show 0 ≤ x by omega)
  have hd2 : k / x ≤ k := Int.ediv_le_self _ k0
  have HK := @Lib.hid _ (fun w' b => @nm_mk (k + k / x + x + 2) (k + k / x + x + 2) W w' rfl b)
  have HB := Lib.hid (fun T => below_box W (.cells #[.int .i64 x, .int .i64 y] T))
  have HX := Lib.hid (box_new x y W)
  have q1 : IntKind.i64.wrap (k + k / x + x) = k + k / x + x := IntWalk.i64_in _ (by omega)
  have q2 : IntKind.i64.wrap (k + k / x + x + 2) = k + k / x + x + 2 := IntWalk.i64_in _ (by omega)
  clear hd hd2
  generalize k + k / x = v at *
  go_enter Try.func133, Try.ntmps133
  go_wp2_with fail
  have HB0 := Lib.hid (HB.out 25)
  have HX0 := Lib.hid (HX.out 25)
  clear HB HX
  generalize W.alloc (.cells #[.int .i64 x, .int .i64 y] 25) = w0 at *
  obtain ⟨p0, p1⟩ := HX0.out.1
  try simp only [List.cons_append, List.nil_append, List.append_eq]
  refine wp_region_held_drew (S := (fun w' => w'.cell? ⟨W.heap.size, 0, none⟩ = some (.int .i64 x) ∧ w'.cell? ⟨W.heap.size, 1, none⟩ = some (.int .i64 y))) (by kernel_rfl) ?_ (fun hHeld0 => ?_)
  · (try dsimp only); go_keep
  refine wpAnyH_take (i := 0) (oi := { dst := some 5, op := Go.Op.load 25 (Go.Operand.tmp 2), type := 25, pos := "l09_wall.go:32", after := #[], guard := none }) (v := ?_) rfl (by kernel_rfl) (by kernel_rfl) (by kernel_rfl) (fun _ _ _ h => h) (Or.inl ⟨by rfl, ?_⟩) (by assumption) ?_
  rotate_left
  · (intro w hSw; (try dsimp only at hSw); go_simp; try with_reducible rfl)
  try simp only [Act.put, List.setIfInBounds_toArray, List.set_cons_zero, List.set_cons_succ]
  refine wpAnyH_take (i := 1) (oi := { dst := some 6, op := Go.Op.move (Go.Operand.tmp 1), type := 3, pos := "l09_wall.go:32", after := #[], guard := none }) (v := ?_) rfl (by kernel_rfl) (by kernel_rfl) (by kernel_rfl) (fun _ _ _ h => h) (Or.inl ⟨by rfl, ?_⟩) (by assumption) ?_
  rotate_left
  · (intro w hSw; (try dsimp only at hSw); go_simp; try with_reducible rfl)
  try simp only [Act.put, List.setIfInBounds_toArray, List.set_cons_zero, List.set_cons_succ]
  refine wpAnyH_take (i := 3) (oi := { dst := some 8, op := Go.Op.fieldAddr 25 (Go.Operand.tmp 2) 0, type := 0, pos := "l09_wall.go:32", after := #[], guard := none }) (v := ?_) rfl (by kernel_rfl) (by kernel_rfl) (by kernel_rfl) (fun _ _ _ h => h) (Or.inl ⟨by rfl, ?_⟩) (by assumption) ?_
  rotate_left
  · (intro w hSw; (try dsimp only at hSw); go_simp; try with_reducible rfl)
  try simp only [Act.put, List.setIfInBounds_toArray, List.set_cons_zero, List.set_cons_succ]
  refine wpAnyH_take (i := 4) (oi := { dst := some 9, op := Go.Op.load 3 (Go.Operand.tmp 8), type := 3, pos := "l09_wall.go:32", after := #[{ on := 3, ground := Go.Ground.data }], guard := none }) (v := ?_) rfl (by kernel_rfl) (by kernel_rfl) (by kernel_rfl) (fun _ _ _ h => h) (Or.inl ⟨by rfl, ?_⟩) (by assumption) ?_
  rotate_left
  · (intro w hSw; (try dsimp only at hSw); go_simp; try with_reducible rfl)
  try simp only [Act.put, List.setIfInBounds_toArray, List.set_cons_zero, List.set_cons_succ]
  refine wpAnyH_ready (rs := [2]) (by kernel_rfl) (by simp) ?_
  refine AllReadyH.cons (o := { dst := some 7, op := Go.Op.call { callee := Go.Callee.value (Go.Operand.func 132), args := #[Go.Operand.tmp 5, Go.Operand.tmp 6], argTypes := #[25, 3] }, type := 3, pos := "l09_wall.go:32", after := #[{ on := 0, ground := Go.Ground.data }, { on := 1, ground := Go.Ground.data }], guard := none }) rfl (fun K2 hK2 => ?_) AllReadyH.nil
  go_simp
  (refine (HN.out _).mono ?_; rintro e v1 ⟨rfl, hb1⟩; have hM1 := Lib.hid (Box.call (X := w0.drew) HX0.out hb1); obtain ⟨p2, p3⟩ := hM1.out.1)
  go_wp2_with fail
  refine hK2.out _ _ ?_ (fun hHeld1 => ?_)
  · (try dsimp only); go_keep
  clear hK2 K2 hHeld0
  try simp only [Act.put, List.setIfInBounds_toArray, List.set_cons_zero, List.set_cons_succ]
  refine wpAnyH_take (i := 5) (oi := { dst := some 10, op := Go.Op.binOp Go.BinOp.add 3 (Go.Operand.tmp 7) (Go.Operand.tmp 9) 3, type := 3, pos := "l09_wall.go:32", after := #[{ on := 2, ground := Go.Ground.data }, { on := 4, ground := Go.Ground.data }], guard := none }) (v := ?_) rfl (by kernel_rfl) (by kernel_rfl) (by kernel_rfl) (fun _ _ _ h => h) (Or.inl ⟨by rfl, ?_⟩) (by assumption) ?_
  rotate_left
  · (intro w hSw; (try dsimp only at hSw); go_simp; try with_reducible rfl)
  try simp only [Act.put, List.setIfInBounds_toArray, List.set_cons_zero, List.set_cons_succ]
  refine wpAnyH_take (i := 6) (oi := { dst := some 11, op := Go.Op.binOp Go.BinOp.add 3 (Go.Operand.tmp 10) (Go.Operand.const (Go.Value.int Go.IntKind.i64 2)) 3, type := 3, pos := "l09_wall.go:32", after := #[{ on := 5, ground := Go.Ground.data }], guard := none }) (v := ?_) rfl (by kernel_rfl) (by kernel_rfl) (by kernel_rfl) (fun _ _ _ h => h) (Or.inl ⟨by rfl, ?_⟩) (by assumption) ?_
  rotate_left
  · (intro w hSw; (try dsimp only at hSw); go_simp; try with_reducible rfl)
  try simp only [Act.put, List.setIfInBounds_toArray, List.set_cons_zero, List.set_cons_succ]
  refine wpAnyH_take (i := 7) (oi := { dst := some 4, op := Go.Op.assign (Go.Operand.tmp 11), type := 3, pos := "l09_wall.go:32", after := #[{ on := 6, ground := Go.Ground.data }, { on := 2, ground := Go.Ground.chain }, { on := 0, ground := Go.Ground.phase }, { on := 1, ground := Go.Ground.phase }, { on := 2, ground := Go.Ground.phase }, { on := 3, ground := Go.Ground.phase }, { on := 4, ground := Go.Ground.phase }, { on := 5, ground := Go.Ground.phase }, { on := 6, ground := Go.Ground.phase }], guard := none }) (v := ?_) rfl (by kernel_rfl) (by kernel_rfl) (by kernel_rfl) (fun _ _ _ h => h) (Or.inl ⟨by rfl, ?_⟩) (by assumption) ?_
  rotate_left
  · (intro w hSw; (try dsimp only at hSw); go_simp; try with_reducible rfl)
  try simp only [Act.put, List.setIfInBounds_toArray, List.set_cons_zero, List.set_cons_succ]
  refine wpAnyH_done (by kernel_rfl) ?_ _
  go_wp2_with fail
  go_ret
  exact HK.out _ (below_call (below_dr HB0.out) hb1)

theorem corner2_fin : ∀ w h : Fin 4, ∀ g : Fin 24, (gpsZ ((w : Nat) + 1) ((h : Nat) + 1) ≤ (g : Nat)) ∨
    (c1Z ((w : Nat) + 1) ((h : Nat) + 1) (g : Nat) = ebZ ((w : Nat) + 1) ((h : Nat) + 1) (g : Nat) + ebZ ((w : Nat) + 1) ((h : Nat) + 1) (g : Nat) / ((w : Nat) + 1) ∧
     c2Z ((w : Nat) + 1) ((h : Nat) + 1) (g : Nat) = eaZ ((w : Nat) + 1) ((h : Nat) + 1) (g : Nat) + eaZ ((w : Nat) + 1) ((h : Nat) + 1) (g : Nat) / ((w : Nat) + 1) + ((w : Nat) + 1) + 2 ∧
     0 ≤ eaZ ((w : Nat) + 1) ((h : Nat) + 1) (g : Nat) ∧ eaZ ((w : Nat) + 1) ((h : Nat) + 1) (g : Nat) < 16 ∧ 0 ≤ ebZ ((w : Nat) + 1) ((h : Nat) + 1) (g : Nat) ∧ ebZ ((w : Nat) + 1) ((h : Nat) + 1) (g : Nat) < 16) := by decide +kernel
theorem corner2 {x y g : Int} (h : eaZ x y g ≠ -1) : OkZ x y ∧ c1Z x y g = ebZ x y g + ebZ x y g / x ∧ c2Z x y g = eaZ x y g + eaZ x y g / x + x + 2 ∧ 0 ≤ eaZ x y g ∧ eaZ x y g < 16 ∧ 0 ≤ ebZ x y g ∧ ebZ x y g < 16 := by
  have hin : OkZ x y ∧ 0 ≤ g ∧ g < gpsZ x y := by
    unfold eaZ at h
    split at h
    · rename_i hk
      split at h
      · rename_i hg; exact ⟨hk, hg⟩
      · exact absurd rfl h
    · exact absurd rfl h
  obtain ⟨hk, g0, g1⟩ := hin
  obtain ⟨b1, b2⟩ := gps_bd hk.1 hk.2.1 hk.2.2.1 hk.2.2.2
  obtain ⟨g, rfl⟩ := Int.eq_ofNat_of_zero_le g0
  refine ⟨hk, ?_⟩
  obtain ⟨w, h', rfl, rfl⟩ := fins hk
  rcases corner2_fin w h' ⟨g, by omega⟩ with e | e
  · simp only at e; omega
  · exact e
theorem corner_none {x y g : Int} (h : eaZ x y g = -1) : -1 = c1Z x y g ∧ -1 = c2Z x y g := by
  unfold c1Z c2Z
  rw [if_pos (by omega), if_pos (by omega)]; exact ⟨rfl, rfl⟩
theorem cornersOf_any (x y g : Int) (W : World) :
    Calls Try.prog 86 #[.agg #[.int .i64 x, .int .i64 y], .int .i64 g] W (Nm2 (c1Z x y g) (c2Z x y g) W) := by
  have HB := Lib.hid below_box
  have HE := Lib.hid (fun X => endsOf_any x y g X)
  by_cases hn : eaZ x y g = -1
  · obtain ⟨e1, e2⟩ := corner_none hn
    have HK := @Lib.hid _ (fun w' b => @nm2_mk (-1) (-1) _ _ W w' e1 e2 b)
    rw [hn] at HE
    clear e1 e2 hn
    generalize ebZ x y g = eb at *
    go_enter Try.func86, Try.ntmps86
    go_wp2_with fail
    refine (HE.out _).mono ?_
    rintro e w1 ⟨rfl, hb⟩
    have hb1 := Lib.hid (below_call (HB.out _ _) hb)
    clear hb
    go_wp2_with fail
    go_ret2
    exact HK.out _ hb1.out
  · obtain ⟨hk, e1, e2, a0, a1, b0, b1⟩ := corner2 hn
    have HN := Lib.hid (fun X => northWest_any x y (ebZ x y g) X hk b0 b1)
    have HS := Lib.hid (fun X => southEast_any x y (eaZ x y g) X hk a0 a1)
    rw [← e1] at HN
    rw [← e2] at HS
    have hne : (eaZ x y g == -1) = false := by rw [beq_eq_false_iff_ne]; exact hn
    have HK := @Lib.hid _ (fun w' b => @nm2_mk (c1Z x y g) (c2Z x y g) _ _ W w' rfl rfl b)
    have HX := Lib.hid (box_new x y W)
    clear e1 e2 a0 a1 b0 b1 hn
    generalize ebZ x y g = eb at *
    generalize eaZ x y g = ea at *
    generalize c1Z x y g = u1 at *
    generalize c2Z x y g = u2 at *
    go_enter Try.func86, Try.ntmps86
    go_wp2_with fail
    refine (HE.out _).mono ?_
    rintro e w1 ⟨rfl, hb⟩
    have hb1 := Lib.hid (below_call (HB.out _ _) hb)
    have hx := Lib.hid ((HX.out _).call hb)
    obtain ⟨p0, p1⟩ := hx.out.1
    clear hb
    go_wp2_with fail
    try simp only [List.cons_append, List.nil_append, List.append_eq]
    refine wp_region_held_drew (S := (fun w' => w'.cell? ⟨W.heap.size, 0, none⟩ = some (.int .i64 x) ∧ w'.cell? ⟨W.heap.size, 1, none⟩ = some (.int .i64 y))) (by kernel_rfl) ?_ (fun hHeld0 => ?_)
    · (try dsimp only); go_keep
    refine wpAnyH_take (i := 0) (oi := { dst := some 16, op := Go.Op.load 25 (Go.Operand.tmp 2), type := 25, pos := "l09_wall.go:48", after := #[], guard := none }) (v := ?_) rfl (by kernel_rfl) (by kernel_rfl) (by kernel_rfl) (fun _ _ _ h => h) (Or.inl ⟨by rfl, ?_⟩) (by assumption) ?_
    rotate_left
    · (intro w hSw; (try dsimp only at hSw); go_simp; try with_reducible rfl)
    try simp only [Act.put, List.setIfInBounds_toArray, List.set_cons_zero, List.set_cons_succ]
    refine wpAnyH_take (i := 1) (oi := { dst := some 17, op := Go.Op.move (Go.Operand.tmp 7), type := 3, pos := "l09_wall.go:48", after := #[], guard := none }) (v := ?_) rfl (by kernel_rfl) (by kernel_rfl) (by kernel_rfl) (fun _ _ _ h => h) (Or.inl ⟨by rfl, ?_⟩) (by assumption) ?_
    rotate_left
    · (intro w hSw; (try dsimp only at hSw); go_simp; try with_reducible rfl)
    try simp only [Act.put, List.setIfInBounds_toArray, List.set_cons_zero, List.set_cons_succ]
    refine wpAnyH_take (i := 3) (oi := { dst := some 19, op := Go.Op.load 25 (Go.Operand.tmp 2), type := 25, pos := "l09_wall.go:48", after := #[], guard := none }) (v := ?_) rfl (by kernel_rfl) (by kernel_rfl) (by kernel_rfl) (fun _ _ _ h => h) (Or.inl ⟨by rfl, ?_⟩) (by assumption) ?_
    rotate_left
    · (intro w hSw; (try dsimp only at hSw); go_simp; try with_reducible rfl)
    try simp only [Act.put, List.setIfInBounds_toArray, List.set_cons_zero, List.set_cons_succ]
    refine wpAnyH_take (i := 4) (oi := { dst := some 20, op := Go.Op.move (Go.Operand.tmp 6), type := 3, pos := "l09_wall.go:48", after := #[], guard := none }) (v := ?_) rfl (by kernel_rfl) (by kernel_rfl) (by kernel_rfl) (fun _ _ _ h => h) (Or.inl ⟨by rfl, ?_⟩) (by assumption) ?_
    rotate_left
    · (intro w hSw; (try dsimp only at hSw); go_simp; try with_reducible rfl)
    try simp only [Act.put, List.setIfInBounds_toArray, List.set_cons_zero, List.set_cons_succ]
    refine wpAnyH_ready (rs := [2]) (by kernel_rfl) (by simp) ?_
    refine AllReadyH.cons (o := { dst := some 18, op := Go.Op.call { callee := Go.Callee.value (Go.Operand.func 132), args := #[Go.Operand.tmp 16, Go.Operand.tmp 17], argTypes := #[25, 3] }, type := 3, pos := "l09_wall.go:48", after := #[{ on := 0, ground := Go.Ground.data }, { on := 1, ground := Go.Ground.data }], guard := none }) rfl (fun K2 hK2 => ?_) AllReadyH.nil
    go_simp
    (refine (HN.out _).mono ?_; rintro e v2 ⟨rfl, hb2⟩; have hM2 := Lib.hid (Box.call (X := w1.drew) hx.out hb2); obtain ⟨p2, p3⟩ := hM2.out.1)
    go_wp2_with fail
    refine hK2.out _ _ ?_ (fun hHeld1 => ?_)
    · (try dsimp only); go_keep
    clear hK2 K2 hHeld0
    try simp only [Act.put, List.setIfInBounds_toArray, List.set_cons_zero, List.set_cons_succ]
    refine wpAnyH_ready (rs := [5]) (by kernel_rfl) (by simp) ?_
    refine AllReadyH.cons (o := { dst := some 21, op := Go.Op.call { callee := Go.Callee.value (Go.Operand.func 133), args := #[Go.Operand.tmp 19, Go.Operand.tmp 20], argTypes := #[25, 3] }, type := 3, pos := "l09_wall.go:48", after := #[{ on := 3, ground := Go.Ground.data }, { on := 4, ground := Go.Ground.data }, { on := 2, ground := Go.Ground.chain }], guard := none }) rfl (fun K5 hK5 => ?_) AllReadyH.nil
    go_simp
    (refine (HS.out _).mono ?_; rintro e v3 ⟨rfl, hb3⟩; have hM3 := Lib.hid (hM2.out.call (X' := v3) hb3); obtain ⟨p4, p5⟩ := hM3.out.1)
    go_wp2_with fail
    refine hK5.out _ _ ?_ (fun hHeld2 => ?_)
    · (try dsimp only); go_keep
    clear hK5 K5 hHeld1
    try simp only [Act.put, List.setIfInBounds_toArray, List.set_cons_zero, List.set_cons_succ]
    refine wpAnyH_take (i := 6) (oi := { dst := some 4, op := Go.Op.assign (Go.Operand.tmp 18), type := 3, pos := "l09_wall.go:48", after := #[{ on := 2, ground := Go.Ground.data }, { on := 5, ground := Go.Ground.chain }, { on := 0, ground := Go.Ground.phase }, { on := 1, ground := Go.Ground.phase }, { on := 2, ground := Go.Ground.phase }, { on := 3, ground := Go.Ground.textOnly Go.Departure.lateStores }, { on := 4, ground := Go.Ground.textOnly Go.Departure.lateStores }, { on := 5, ground := Go.Ground.textOnly Go.Departure.lateStoresUnsure }], guard := none }) (v := ?_) rfl (by kernel_rfl) (by kernel_rfl) (by kernel_rfl) (fun _ _ _ h => h) (Or.inl ⟨by rfl, ?_⟩) (by assumption) ?_
    rotate_left
    · (intro w hSw; (try dsimp only at hSw); go_simp; try with_reducible rfl)
    try simp only [Act.put, List.setIfInBounds_toArray, List.set_cons_zero, List.set_cons_succ]
    refine wpAnyH_take (i := 7) (oi := { dst := some 5, op := Go.Op.assign (Go.Operand.tmp 21), type := 3, pos := "l09_wall.go:48", after := #[{ on := 5, ground := Go.Ground.data }, { on := 6, ground := Go.Ground.chain }, { on := 0, ground := Go.Ground.phase }, { on := 1, ground := Go.Ground.phase }, { on := 2, ground := Go.Ground.phase }, { on := 3, ground := Go.Ground.phase }, { on := 4, ground := Go.Ground.phase }, { on := 5, ground := Go.Ground.phase }, { on := 6, ground := Go.Ground.phase }], guard := none }) (v := ?_) rfl (by kernel_rfl) (by kernel_rfl) (by kernel_rfl) (fun _ _ _ h => h) (Or.inl ⟨by rfl, ?_⟩) (by assumption) ?_
    rotate_left
    · (intro w hSw; (try dsimp only at hSw); go_simp; try with_reducible rfl)
    try simp only [Act.put, List.setIfInBounds_toArray, List.set_cons_zero, List.set_cons_succ]
    refine wpAnyH_done (by kernel_rfl) ?_ _
    go_wp2_with fail
    go_ret2
    exact HK.out _ (below_call (below_call (below_dr hb1.out) hb2) hb3)

end Go.Proofs.Ythgnhamokikhkaa.walI
