/- The contracts of what the program draws at a place, and of its comparison of lists of texts. -/
import Derived.Test.YtmmdngfhfceefaaDoorLinQ
import Derived.Test.YtmmdngfhfceefaaDoorPrgM
namespace Go.Proofs.YtmmdngfhfceefaaDoor.linI
open Go.ChangeShapes Go.WideShapes Go.ChangeAt Go.RowKit
open draw gridP gridC gridE bitP mazeP mazeC mazeM mazeI intsP reachP reachM reachN reachD intA listK forest deadP linP splP listT linR linQ
set_option linter.unusedVariables false

theorem cd_val {x y : Int} {r c : Nat} (hr : r % 2 = 1) (hc : c % 2 = 1) (hp : 0 ≤ (c : Int) / 2 ∧ (c : Int) / 2 < x ∧ 0 ≤ (r : Int) / 2 ∧ (r : Int) / 2 < y) : (r : Int) / 2 * x + (c : Int) / 2 = cdZ x y r c := by
  unfold cdZ; rw [if_pos ⟨by omega, by omega, by omega, hp.2.1, by omega, hp.2.2.2⟩]
theorem cd_off {x y : Int} {r c : Nat} (h : ¬ (r % 2 = 1 ∧ c % 2 = 1 ∧ (0 ≤ (c : Int) / 2 ∧ (c : Int) / 2 < x ∧ 0 ≤ (r : Int) / 2 ∧ (r : Int) / 2 < y))) : (-1 : Int) = cdZ x y r c := by
  unfold cdZ; rw [if_neg]; intro h'; exact h ⟨by omega, by omega, by omega, h'.2.2.2.1, by omega, h'.2.2.2.2.2⟩
theorem cd_up {x y c : Int} : (-1 : Int) = cdZ x y (-1) c := by unfold cdZ; rw [if_neg (by omega)]
theorem cd_left {x y r : Int} : (-1 : Int) = cdZ x y r (-1) := by unfold cdZ; rw [if_neg (by omega)]

theorem cellDrawn_nat (x y : Int) (r c : Nat) (W : World) (hk : OkZ x y) (hr : r ≤ 1048576) (hc : c ≤ 1048576) :
    Calls Tryd.prog 46 #[.agg #[.int .i64 x, .int .i64 y], .int .i64 r, .int .i64 c] W (Nm (cdZ x y r c) W) := by
  obtain ⟨h1, h2, h3, h4⟩ := hk
  have HK := @Lib.hid _ (fun w' a (e : a = cdZ x y r c) b => @nm_mk a (cdZ x y r c) W w' e b)
  have HB := Lib.hid below_box
  have HP := Lib.hid (fun X => hasPlace_any x y ((c : Int) / 2) ((r : Int) / 2) X)
  have hr0 : (0 : Int) ≤ (r : Int) := Int.natCast_nonneg _
  have hc0 : (0 : Int) ≤ (c : Int) := Int.natCast_nonneg _
  have HV := @Lib.hid _ (@cd_val x y r c)
  have HN := @Lib.hid _ (@cd_off x y r c)
  generalize cdZ x y r c = v at *
  by_cases hr2 : r % 2 = 1
  · have hrI : ((r : Int) % 2 != 1) = false := by simp; omega
    by_cases hc2 : c % 2 = 1
    · have hcI : ((c : Int) % 2 != 1) = false := by simp; omega
      have HV2 := Lib.hid (HV.out hr2 hc2)
      have HN2 := Lib.hid (fun (h : ¬ (0 ≤ (c : Int) / 2 ∧ (c : Int) / 2 < x ∧ 0 ≤ (r : Int) / 2 ∧ (r : Int) / 2 < y)) => HN.out (fun h' => h h'.2.2))
      clear hr2 hc2 HV HN
      go_enter Tryd.func46, Tryd.ntmps46
      go_wp2_with fail
      refine (HP.out _).mono ?_
      rintro e w1 (⟨hp, rfl, hb⟩ | ⟨hp, rfl, hb⟩)
      · have hb1 := Lib.hid (below_call (HB.out _ _) hb)
        have hx := Lib.hid ((box_new x y W _).call hb)
        obtain ⟨c0, c1⟩ := hx.out.1
        have hv := Lib.hid (HV2.out hp.out)
        have hry : (r : Int) / 2 < y := hp.out.2.2.2
        obtain ⟨hm0, hm1⟩ := half_bq (x := x) (r := r) h1 h2 (by omega)
        clear hb hp HV2 HN2 HP
        go_wp2_with fail
        go_ret
        exact HK.out _ _ hv.out hb1.out
      · have hb1 := Lib.hid (below_call (HB.out _ _) hb)
        have hv := Lib.hid (HN2.out hp.out)
        clear hb hp HV2 HN2 HP
        go_wp2_with fail
        go_ret
        exact HK.out _ _ hv.out hb1.out
    · have hcI : ((c : Int) % 2 != 1) = true := by simp; omega
      have hv := Lib.hid (HN.out (fun h => hc2 h.2.1))
      clear hr2 hc2 HV HN
      go_enter Tryd.func46, Tryd.ntmps46
      go_wp2_with fail
      go_ret
      exact HK.out _ _ hv.out (HB.out _ _)
  · have hrI : ((r : Int) % 2 != 1) = true := by simp; omega
    have hv := Lib.hid (HN.out (fun h => hr2 h.1))
    clear hr2 HV HN
    go_enter Tryd.func46, Tryd.ntmps46
    go_wp2_with fail
    go_ret
    exact HK.out _ _ hv.out (HB.out _ _)

theorem cellDrawn_up (x y c : Int) (W : World) :
    Calls Tryd.prog 46 #[.agg #[.int .i64 x, .int .i64 y], .int .i64 (-1), .int .i64 c] W (Nm (-1) W) := by
  have HK := @Lib.hid _ (fun w' b => @nm_mk (-1) (-1) W w' rfl b)
  have HB := Lib.hid below_box
  go_enter Tryd.func46, Tryd.ntmps46
  go_wp2_with fail
  go_ret
  exact HK.out _ (HB.out _ _)

theorem cellDrawn_left (x y : Int) (r : Nat) (W : World) :
    Calls Tryd.prog 46 #[.agg #[.int .i64 x, .int .i64 y], .int .i64 r, .int .i64 (-1)] W (Nm (-1) W) := by
  have HK := @Lib.hid _ (fun w' b => @nm_mk (-1) (-1) W w' rfl b)
  have HB := Lib.hid below_box
  have hr0 : (0 : Int) ≤ (r : Int) := Int.natCast_nonneg _
  by_cases hr2 : r % 2 = 1
  · have hrI : ((r : Int) % 2 != 1) = false := by simp; omega
    clear hr2
    go_enter Tryd.func46, Tryd.ntmps46
    go_wp2_with fail
    go_ret
    exact HK.out _ (HB.out _ _)
  · have hrI : ((r : Int) % 2 != 1) = true := by simp; omega
    clear hr2
    go_enter Tryd.func46, Tryd.ntmps46
    go_wp2_with fail
    go_ret
    exact HK.out _ (HB.out _ _)

theorem cellDrawn_any (x y r c : Int) (W : World) (hk : OkZ x y) (hr0 : -1 ≤ r) (hr : r ≤ 1048576) (hc0 : -1 ≤ c) (hc : c ≤ 1048576) :
    Calls Tryd.prog 46 #[.agg #[.int .i64 x, .int .i64 y], .int .i64 r, .int .i64 c] W (Nm (cdZ x y r c) W) := by
  by_cases h : r = -1
  · subst h; rw [← cd_up]; exact cellDrawn_up x y c W
  · obtain ⟨r', rfl⟩ : ∃ r' : Nat, r = (r' : Int) := ⟨r.toNat, by omega⟩
    by_cases h' : c = -1
    · subst h'; rw [← cd_left]; exact cellDrawn_left x y r' W
    · obtain ⟨c', rfl⟩ : ∃ c' : Nat, c = (c' : Int) := ⟨c.toNat, by omega⟩
      exact cellDrawn_nat x y r' c' W hk (by omega) (by omega)

set_option maxRecDepth 100000 in
theorem gapDrawn_any (x y : Int) (r c : Nat) (W : World) (hk : OkZ x y) (hr : r ≤ 1048576) (hc : c ≤ 1048576) :
    Calls Tryd.prog 26 #[.agg #[.int .i64 x, .int .i64 y], .int .i64 r, .int .i64 c] W (Nm (gdZ x y r c) W) := by
  have HK := @Lib.hid _ (fun w' a (e : a = gdZ x y r c) b => @nm_mk a (gdZ x y r c) W w' e b)
  have HB := Lib.hid below_box
  have HX := Lib.hid (fun T => box_new x y W T)
  have HC1 := Lib.hid (fun X => cellDrawn_any x y r ((c : Int) - 1) X hk (by omega) (by omega) (by omega) (by omega))
  have HC2 := Lib.hid (fun X => cellDrawn_any x y ((r : Int) - 1) c X hk (by omega) (by omega) (by omega) (by omega))
  have HG1 := Lib.hid (fun X => gridI.gapAt_any x y (cdZ x y r ((c : Int) - 1)) 1 X)
  have HG2 := Lib.hid (fun X => gridI.gapAt_any x y (cdZ x y ((r : Int) - 1) c) 2 X)
  have hr0 : (0 : Int) ≤ (r : Int) := Int.natCast_nonneg _
  have hc0 : (0 : Int) ≤ (c : Int) := Int.natCast_nonneg _
  have HD : Hid (gdZ x y r c = if cdZ x y r ((c : Int) - 1) = -1 then gpZ x y (cdZ x y ((r : Int) - 1) c) 2 else gpZ x y (cdZ x y r ((c : Int) - 1)) 1) := Lib.hid rfl
  generalize gdZ x y r c = gv at *
  generalize cdZ x y r ((c : Int) - 1) = a at *
  generalize cdZ x y ((r : Int) - 1) c = b at *
  generalize gpZ x y b 2 = g2 at *
  generalize gpZ x y a 1 = g1 at *
  have q1 : IntKind.i64.wrap ((c : Int) - 1) = (c : Int) - 1 := IntWalk.i64_in _ (by omega)
  have q2 : IntKind.i64.wrap ((r : Int) - 1) = (r : Int) - 1 := IntWalk.i64_in _ (by omega)
  by_cases ha : a = -1
  · have haI : (a != -1) = false := by simp [ha]
    have hv : Hid (g2 = gv) := Lib.hid (by rw [HD.out, if_pos ha])
    clear HD ha HG1
    go_enter Tryd.func26, Tryd.ntmps26
    go_wp2_with fail
    refine (HC1.out _).mono ?_
    rintro e w1 ⟨rfl, hb⟩
    have hb1 := Lib.hid (below_call (HB.out _ _) hb)
    have hx := Lib.hid ((HX.out _).call hb)
    obtain ⟨c0, c1⟩ := hx.out.1
    clear hb HX
    go_wp2_with fail
    try simp only [List.cons_append, List.nil_append, List.append_eq]
    refine wp_region_held_drew (S := (fun w' => w'.cell? ⟨W.heap.size, 0, none⟩ = some (.int .i64 x) ∧ w'.cell? ⟨W.heap.size, 1, none⟩ = some (.int .i64 y))) (by kernel_rfl) ?_ (fun hHeld0 => ?_)
    · (try dsimp only); go_keep
    refine wpAnyH_take (i := 0) (oi := { dst := some 18, op := Go.Op.load 25 (Go.Operand.tmp 3), type := 25, pos := "l08_draw.go:27", after := #[], guard := none }) (v := ?_) rfl (by kernel_rfl) (by kernel_rfl) (by kernel_rfl) (fun _ _ _ h => h) (Or.inl ⟨by rfl, ?_⟩) (by assumption) ?_
    rotate_left
    · (intro w hSw; (try dsimp only at hSw); go_simp; try with_reducible rfl)
    try simp only [Act.put, List.setIfInBounds_toArray, List.set_cons_zero, List.set_cons_succ]
    refine wpAnyH_take (i := 1) (oi := { dst := some 19, op := Go.Op.load 25 (Go.Operand.tmp 3), type := 25, pos := "l08_draw.go:27", after := #[], guard := none }) (v := ?_) rfl (by kernel_rfl) (by kernel_rfl) (by kernel_rfl) (fun _ _ _ h => h) (Or.inl ⟨by rfl, ?_⟩) (by assumption) ?_
    rotate_left
    · (intro w hSw; (try dsimp only at hSw); go_simp; try with_reducible rfl)
    try simp only [Act.put, List.setIfInBounds_toArray, List.set_cons_zero, List.set_cons_succ]
    refine wpAnyH_take (i := 2) (oi := { dst := some 20, op := Go.Op.move (Go.Operand.tmp 1), type := 3, pos := "l08_draw.go:27", after := #[], guard := none }) (v := ?_) rfl (by kernel_rfl) (by kernel_rfl) (by kernel_rfl) (fun _ _ _ h => h) (Or.inl ⟨by rfl, ?_⟩) (by assumption) ?_
    rotate_left
    · (intro w hSw; (try dsimp only at hSw); go_simp; try with_reducible rfl)
    try simp only [Act.put, List.setIfInBounds_toArray, List.set_cons_zero, List.set_cons_succ]
    refine wpAnyH_take (i := 3) (oi := { dst := some 21, op := Go.Op.binOp Go.BinOp.sub 3 (Go.Operand.tmp 20) (Go.Operand.const (Go.Value.int Go.IntKind.i64 1)) 3, type := 3, pos := "l08_draw.go:27", after := #[{ on := 2, ground := Go.Ground.data }], guard := none }) (v := ?_) rfl (by kernel_rfl) (by kernel_rfl) (by kernel_rfl) (fun _ _ _ h => h) (Or.inl ⟨by rfl, ?_⟩) (by assumption) ?_
    rotate_left
    · (intro w hSw; (try dsimp only at hSw); go_simp; try with_reducible rfl)
    try simp only [Act.put, List.setIfInBounds_toArray, List.set_cons_zero, List.set_cons_succ]
    refine wpAnyH_take (i := 4) (oi := { dst := some 22, op := Go.Op.move (Go.Operand.tmp 2), type := 3, pos := "l08_draw.go:27", after := #[], guard := none }) (v := ?_) rfl (by kernel_rfl) (by kernel_rfl) (by kernel_rfl) (fun _ _ _ h => h) (Or.inl ⟨by rfl, ?_⟩) (by assumption) ?_
    rotate_left
    · (intro w hSw; (try dsimp only at hSw); go_simp; try with_reducible rfl)
    try simp only [Act.put, List.setIfInBounds_toArray, List.set_cons_zero, List.set_cons_succ]
    refine wpAnyH_ready (rs := [5]) (by kernel_rfl) (by simp) ?_
    refine AllReadyH.cons (o := { dst := some 23, op := Go.Op.call { callee := Go.Callee.value (Go.Operand.func 46), args := #[Go.Operand.tmp 19, Go.Operand.tmp 21, Go.Operand.tmp 22], argTypes := #[25, 3, 3] }, type := 3, pos := "l08_draw.go:27", after := #[{ on := 1, ground := Go.Ground.data }, { on := 3, ground := Go.Ground.data }, { on := 4, ground := Go.Ground.data }], guard := none }) rfl (fun K5 hK5 => ?_) AllReadyH.nil
    go_simp
    (refine (HC2.out _).mono ?_; rintro e v2 ⟨rfl, hb2⟩; have hx2 := Lib.hid (Box.call (Box.draws hx.out 1) hb2); have hbl2 := Lib.hid (below_call (below_dr hb1.out) hb2); obtain ⟨p0, p1⟩ := hx2.out.1)
    go_wp2_with fail
    refine hK5.out _ _ ?_ (fun hHeld1 => ?_)
    · (try dsimp only); go_keep
    clear hK5 K5 hHeld0
    try simp only [Act.put, List.setIfInBounds_toArray, List.set_cons_zero, List.set_cons_succ]
    refine wpAnyH_ready (rs := [6]) (by kernel_rfl) (by simp) ?_
    refine AllReadyH.cons (o := { dst := some 24, op := Go.Op.call { callee := Go.Callee.value (Go.Operand.func 50), args := #[Go.Operand.tmp 18, Go.Operand.tmp 23, Go.Operand.const (Go.Value.int Go.IntKind.i64 2)], argTypes := #[25, 3, 3] }, type := 3, pos := "l08_draw.go:27", after := #[{ on := 0, ground := Go.Ground.data }, { on := 5, ground := Go.Ground.data }, { on := 5, ground := Go.Ground.chain }], guard := none }) rfl (fun K6 hK6 => ?_) AllReadyH.nil
    go_simp
    (refine (HG2.out _).mono ?_; rintro e v3 ⟨rfl, hb3⟩; have hx3 := Lib.hid (hx2.out.call hb3); have hbl3 := Lib.hid (below_call hbl2.out hb3); obtain ⟨n0, n1⟩ := hx3.out.1)
    go_wp2_with fail
    refine hK6.out _ _ ?_ (fun hHeld2 => ?_)
    · (try dsimp only); go_keep
    clear hK6 K6 hHeld1
    try simp only [Act.put, List.setIfInBounds_toArray, List.set_cons_zero, List.set_cons_succ]
    refine wpAnyH_take (i := 7) (oi := { dst := some 6, op := Go.Op.assign (Go.Operand.tmp 24), type := 3, pos := "l08_draw.go:27", after := #[{ on := 6, ground := Go.Ground.data }, { on := 6, ground := Go.Ground.chain }, { on := 0, ground := Go.Ground.phase }, { on := 1, ground := Go.Ground.phase }, { on := 2, ground := Go.Ground.phase }, { on := 3, ground := Go.Ground.phase }, { on := 4, ground := Go.Ground.phase }, { on := 5, ground := Go.Ground.phase }, { on := 6, ground := Go.Ground.phase }], guard := none }) (v := ?_) rfl (by kernel_rfl) (by kernel_rfl) (by kernel_rfl) (fun _ _ _ h => h) (Or.inl ⟨by rfl, ?_⟩) (by assumption) ?_
    rotate_left
    · (intro w hSw; (try dsimp only at hSw); go_simp; try with_reducible rfl)
    try simp only [Act.put, List.setIfInBounds_toArray, List.set_cons_zero, List.set_cons_succ]
    refine wpAnyH_done (by kernel_rfl) ?_ _
    all_goals go_wp2_with fail
    all_goals go_ret
    all_goals exact HK.out _ _ hv.out hbl3.out
  · have haI : (a != -1) = true := by simp [ha]
    have hv : Hid (g1 = gv) := Lib.hid (by rw [HD.out, if_neg ha])
    clear HD ha HG2 HC2
    go_enter Tryd.func26, Tryd.ntmps26
    go_wp2_with fail
    refine (HC1.out _).mono ?_
    rintro e w1 ⟨rfl, hb⟩
    have hb1 := Lib.hid (below_call (HB.out _ _) hb)
    have hx := Lib.hid ((HX.out _).call hb)
    obtain ⟨c0, c1⟩ := hx.out.1
    clear hb HX
    go_wp2_with fail
    refine (HG1.out _).mono ?_
    rintro e w2 ⟨rfl, hb⟩
    have hb2 := Lib.hid (below_call hb1.out hb)
    go_wp2_with fail
    go_ret
    exact HK.out _ _ hv.out hb2.out

set_option maxRecDepth 100000 in
theorem drawnOpen_any (x y z : Int) (r c : Nat) (W : World) (hk : OkZ x y) (hr : r ≤ 1048576) (hc : c ≤ 1048576) :
    Calls Tryd.prog 22 #[.agg #[.int .i64 x, .int .i64 y, .int .i64 z], .int .i64 r, .int .i64 c] W (Bl (doB x y z r c) W) := by
  have HB := Lib.hid below_box
  have HX := Lib.hid (fun T => mbox_new x y z W T)
  have HC := Lib.hid (fun X => cellDrawn_any x y r c X hk (by omega) (by omega) (by omega) (by omega))
  have HG := Lib.hid (fun X => gapDrawn_any x y r c X hk hr hc)
  have HS := Lib.hid (fun X => isPassage_any x y z (gdZ x y r c) X)
  have HD : Hid (doB x y z r c = ((cdZ x y r c != -1) || psB x y z (gdZ x y r c))) := Lib.hid rfl
  have HK := @Lib.hid _ (fun w' v e b => @bl_mk v (doB x y z r c) W w' e b)
  generalize doB x y z r c = dv at *
  generalize cdZ x y r c = a at *
  generalize gdZ x y r c = g at *
  generalize psB x y z g = ps at *
  by_cases ha : a = -1
  · have haI : (a != -1) = false := by simp [ha]
    have hv : Hid (ps = dv) := Lib.hid (by rw [HD.out, haI, Bool.false_or])
    clear HD ha
    go_enter Tryd.func22, Tryd.ntmps22
    go_wp2_with fail
    have hb0 := Lib.hid (HB.out W (.cells #[.int .i64 x, .int .i64 y, .int .i64 z] 27))
    have hx0 := Lib.hid (HX.out 27)
    clear HX HB
    generalize W.alloc (.cells #[.int .i64 x, .int .i64 y, .int .i64 z] 27) = w0 at *
    obtain ⟨m0, m1, m2⟩ := hx0.out.1
    try simp only [List.cons_append, List.nil_append, List.append_eq]
    refine wp_region_held_drew (S := (fun w' => w'.cell? ⟨W.heap.size, 0, none⟩ = some (.int .i64 x) ∧ w'.cell? ⟨W.heap.size, 1, none⟩ = some (.int .i64 y) ∧ w'.cell? ⟨W.heap.size, 2, none⟩ = some (.int .i64 z))) (by kernel_rfl) ?_ (fun hHeld0 => ?_)
    · (try dsimp only); go_keep
    refine wpAnyH_take (i := 0) (oi := { dst := some 7, op := Go.Op.fieldAddr 27 (Go.Operand.tmp 3) 0, type := 0, pos := "l08_draw.go:31", after := #[], guard := none }) (v := ?_) rfl (by kernel_rfl) (by kernel_rfl) (by kernel_rfl) (fun _ _ _ h => h) (Or.inl ⟨by rfl, ?_⟩) (by assumption) ?_
    rotate_left
    · (intro w hSw; (try dsimp only at hSw); go_simp; try with_reducible rfl)
    try simp only [Act.put, List.setIfInBounds_toArray, List.set_cons_zero, List.set_cons_succ]
    refine wpAnyH_take (i := 1) (oi := { dst := some 8, op := Go.Op.load 25 (Go.Operand.tmp 7), type := 25, pos := "l08_draw.go:31", after := #[{ on := 0, ground := Go.Ground.data }], guard := none }) (v := ?_) rfl (by kernel_rfl) (by kernel_rfl) (by kernel_rfl) (fun _ _ _ h => h) (Or.inl ⟨by rfl, ?_⟩) (by assumption) ?_
    rotate_left
    · (intro w hSw; (try dsimp only at hSw); go_simp; try with_reducible rfl)
    try simp only [Act.put, List.setIfInBounds_toArray, List.set_cons_zero, List.set_cons_succ]
    refine wpAnyH_take (i := 2) (oi := { dst := some 9, op := Go.Op.move (Go.Operand.tmp 1), type := 3, pos := "l08_draw.go:31", after := #[], guard := none }) (v := ?_) rfl (by kernel_rfl) (by kernel_rfl) (by kernel_rfl) (fun _ _ _ h => h) (Or.inl ⟨by rfl, ?_⟩) (by assumption) ?_
    rotate_left
    · (intro w hSw; (try dsimp only at hSw); go_simp; try with_reducible rfl)
    try simp only [Act.put, List.setIfInBounds_toArray, List.set_cons_zero, List.set_cons_succ]
    refine wpAnyH_take (i := 3) (oi := { dst := some 10, op := Go.Op.move (Go.Operand.tmp 2), type := 3, pos := "l08_draw.go:31", after := #[], guard := none }) (v := ?_) rfl (by kernel_rfl) (by kernel_rfl) (by kernel_rfl) (fun _ _ _ h => h) (Or.inl ⟨by rfl, ?_⟩) (by assumption) ?_
    rotate_left
    · (intro w hSw; (try dsimp only at hSw); go_simp; try with_reducible rfl)
    try simp only [Act.put, List.setIfInBounds_toArray, List.set_cons_zero, List.set_cons_succ]
    refine wpAnyH_ready (rs := [4]) (by kernel_rfl) (by simp) ?_
    refine AllReadyH.cons (o := { dst := some 11, op := Go.Op.call { callee := Go.Callee.value (Go.Operand.func 46), args := #[Go.Operand.tmp 8, Go.Operand.tmp 9, Go.Operand.tmp 10], argTypes := #[25, 3, 3] }, type := 3, pos := "l08_draw.go:31", after := #[{ on := 1, ground := Go.Ground.data }, { on := 2, ground := Go.Ground.data }, { on := 3, ground := Go.Ground.data }], guard := none }) rfl (fun K4 hK4 => ?_) AllReadyH.nil
    go_simp
    (refine (HC.out _).mono ?_; rintro e v1 ⟨rfl, hb1⟩; have hM1 := Lib.hid (mbox_after hb1 hx0.out); have hbl1 := Lib.hid (below_call (below_dr hb0.out) hb1); obtain ⟨p1, q1, r1⟩ := hM1.out.1)
    go_wp2_with fail
    refine hK4.out _ _ ?_ (fun hHeld1 => ?_)
    · (try dsimp only); go_keep
    clear hK4 K4 hHeld0
    try simp only [Act.put, List.setIfInBounds_toArray, List.set_cons_zero, List.set_cons_succ]
    refine wpAnyH_take (i := 5) (oi := { dst := some 12, op := Go.Op.binOp Go.BinOp.neq 3 (Go.Operand.tmp 11) (Go.Operand.const (Go.Value.int Go.IntKind.i64 (-1))) 3, type := 4, pos := "l08_draw.go:31", after := #[{ on := 4, ground := Go.Ground.data }], guard := none }) (v := ?_) rfl (by kernel_rfl) (by kernel_rfl) (by kernel_rfl) (fun _ _ _ h => h) (Or.inl ⟨by rfl, ?_⟩) (by assumption) ?_
    rotate_left
    · (intro w hSw; (try dsimp only at hSw); go_simp; try with_reducible rfl)
    try simp only [Act.put, List.setIfInBounds_toArray, List.set_cons_zero, List.set_cons_succ]
    refine wpAnyH_take (i := 6) (oi := { dst := some 13, op := Go.Op.move (Go.Operand.tmp 12), type := 4, pos := "l08_draw.go:31", after := #[{ on := 5, ground := Go.Ground.data }, { on := 4, ground := Go.Ground.chain }], guard := none }) (v := ?_) rfl (by kernel_rfl) (by kernel_rfl) (by kernel_rfl) (fun _ _ _ h => h) (Or.inl ⟨by rfl, ?_⟩) (by assumption) ?_
    rotate_left
    · (intro w hSw; (try dsimp only at hSw); go_simp; try with_reducible rfl)
    try simp only [Act.put, List.setIfInBounds_toArray, List.set_cons_zero, List.set_cons_succ]
    refine wpAnyH_take (i := 7) (oi := { dst := some 14, op := Go.Op.load 27 (Go.Operand.tmp 3), type := 27, pos := "l08_draw.go:31", after := #[{ on := 6, ground := Go.Ground.guard }], guard := some (6, false) }) (v := ?_) rfl (by kernel_rfl) (by kernel_rfl) (by kernel_rfl) (fun _ _ _ h => h) (Or.inl ⟨by rfl, ?_⟩) (by assumption) ?_
    rotate_left
    · (intro w hSw; (try dsimp only at hSw); go_simp; try with_reducible rfl)
    try simp only [Act.put, List.setIfInBounds_toArray, List.set_cons_zero, List.set_cons_succ]
    refine wpAnyH_take (i := 8) (oi := { dst := some 15, op := Go.Op.fieldAddr 27 (Go.Operand.tmp 3) 0, type := 0, pos := "l08_draw.go:31", after := #[{ on := 6, ground := Go.Ground.guard }], guard := some (6, false) }) (v := ?_) rfl (by kernel_rfl) (by kernel_rfl) (by kernel_rfl) (fun _ _ _ h => h) (Or.inl ⟨by rfl, ?_⟩) (by assumption) ?_
    rotate_left
    · (intro w hSw; (try dsimp only at hSw); go_simp; try with_reducible rfl)
    try simp only [Act.put, List.setIfInBounds_toArray, List.set_cons_zero, List.set_cons_succ]
    refine wpAnyH_take (i := 9) (oi := { dst := some 16, op := Go.Op.load 25 (Go.Operand.tmp 15), type := 25, pos := "l08_draw.go:31", after := #[{ on := 8, ground := Go.Ground.data }, { on := 6, ground := Go.Ground.guard }], guard := some (6, false) }) (v := ?_) rfl (by kernel_rfl) (by kernel_rfl) (by kernel_rfl) (fun _ _ _ h => h) (Or.inl ⟨by rfl, ?_⟩) (by assumption) ?_
    rotate_left
    · (intro w hSw; (try dsimp only at hSw); go_simp; try with_reducible rfl)
    try simp only [Act.put, List.setIfInBounds_toArray, List.set_cons_zero, List.set_cons_succ]
    refine wpAnyH_take (i := 10) (oi := { dst := some 17, op := Go.Op.move (Go.Operand.tmp 1), type := 3, pos := "l08_draw.go:31", after := #[{ on := 6, ground := Go.Ground.guard }], guard := some (6, false) }) (v := ?_) rfl (by kernel_rfl) (by kernel_rfl) (by kernel_rfl) (fun _ _ _ h => h) (Or.inl ⟨by rfl, ?_⟩) (by assumption) ?_
    rotate_left
    · (intro w hSw; (try dsimp only at hSw); go_simp; try with_reducible rfl)
    try simp only [Act.put, List.setIfInBounds_toArray, List.set_cons_zero, List.set_cons_succ]
    refine wpAnyH_take (i := 11) (oi := { dst := some 18, op := Go.Op.move (Go.Operand.tmp 2), type := 3, pos := "l08_draw.go:31", after := #[{ on := 6, ground := Go.Ground.guard }], guard := some (6, false) }) (v := ?_) rfl (by kernel_rfl) (by kernel_rfl) (by kernel_rfl) (fun _ _ _ h => h) (Or.inl ⟨by rfl, ?_⟩) (by assumption) ?_
    rotate_left
    · (intro w hSw; (try dsimp only at hSw); go_simp; try with_reducible rfl)
    try simp only [Act.put, List.setIfInBounds_toArray, List.set_cons_zero, List.set_cons_succ]
    refine wpAnyH_ready (rs := [12]) (by kernel_rfl) (by simp) ?_
    refine AllReadyH.cons (o := { dst := some 19, op := Go.Op.call { callee := Go.Callee.value (Go.Operand.func 26), args := #[Go.Operand.tmp 16, Go.Operand.tmp 17, Go.Operand.tmp 18], argTypes := #[25, 3, 3] }, type := 3, pos := "l08_draw.go:31", after := #[{ on := 9, ground := Go.Ground.data }, { on := 10, ground := Go.Ground.data }, { on := 11, ground := Go.Ground.data }, { on := 6, ground := Go.Ground.chain }, { on := 6, ground := Go.Ground.guard }], guard := some (6, false) }) rfl (fun K12 hK12 => ?_) AllReadyH.nil
    go_simp
    (refine (HG.out _).mono ?_; rintro e v2 ⟨rfl, hb2⟩; have hM2 := Lib.hid (mbox_after hb2 hM1.out); have hbl2 := Lib.hid (below_call hbl1.out hb2); obtain ⟨p2, q2, r2⟩ := hM2.out.1)
    go_wp2_with fail
    refine hK12.out _ _ ?_ (fun hHeld2 => ?_)
    · (try dsimp only); go_keep
    clear hK12 K12 hHeld1
    try simp only [Act.put, List.setIfInBounds_toArray, List.set_cons_zero, List.set_cons_succ]
    refine wpAnyH_ready (rs := [13]) (by kernel_rfl) (by simp) ?_
    refine AllReadyH.cons (o := { dst := some 20, op := Go.Op.call { callee := Go.Callee.value (Go.Operand.func 47), args := #[Go.Operand.tmp 14, Go.Operand.tmp 19], argTypes := #[27, 3] }, type := 4, pos := "l08_draw.go:31", after := #[{ on := 7, ground := Go.Ground.data }, { on := 12, ground := Go.Ground.data }, { on := 12, ground := Go.Ground.chain }, { on := 6, ground := Go.Ground.guard }], guard := some (6, false) }) rfl (fun K13 hK13 => ?_) AllReadyH.nil
    go_simp
    (refine (HS.out _).mono ?_; rintro e v3 ⟨rfl, hb3⟩; have hbl3 := Lib.hid (below_call hbl2.out hb3); have hM3 := Lib.hid (mbox_after hb3 hM2.out); obtain ⟨p3, q3, r3⟩ := hM3.out.1)
    go_wp2_with fail
    refine hK13.out _ _ ?_ (fun hHeld3 => ?_)
    · (try dsimp only); go_keep
    clear hK13 K13 hHeld2
    try simp only [Act.put, List.setIfInBounds_toArray, List.set_cons_zero, List.set_cons_succ]
    refine wpAnyH_take (i := 14) (oi := { dst := some 21, op := Go.Op.pick (Go.Operand.tmp 13) (Go.Operand.const (Go.Value.bool true)) (Go.Operand.tmp 20), type := 4, pos := "l08_draw.go:31", after := #[{ on := 6, ground := Go.Ground.data }, { on := 13, ground := Go.Ground.data }], guard := none }) (v := ?_) rfl (by kernel_rfl) (by kernel_rfl) (by kernel_rfl) (fun _ _ _ h => h) (Or.inl ⟨by rfl, ?_⟩) (by assumption) ?_
    rotate_left
    · (intro w hSw; (try dsimp only at hSw); go_simp; try with_reducible rfl)
    try simp only [Act.put, List.setIfInBounds_toArray, List.set_cons_zero, List.set_cons_succ]
    refine wpAnyH_take (i := 15) (oi := { dst := some 6, op := Go.Op.assign (Go.Operand.tmp 21), type := 4, pos := "l08_draw.go:31", after := #[{ on := 14, ground := Go.Ground.data }, { on := 13, ground := Go.Ground.chain }, { on := 0, ground := Go.Ground.phase }, { on := 1, ground := Go.Ground.phase }, { on := 2, ground := Go.Ground.phase }, { on := 3, ground := Go.Ground.phase }, { on := 4, ground := Go.Ground.phase }, { on := 5, ground := Go.Ground.phase }, { on := 6, ground := Go.Ground.phase }, { on := 7, ground := Go.Ground.phase }, { on := 8, ground := Go.Ground.phase }, { on := 9, ground := Go.Ground.phase }, { on := 10, ground := Go.Ground.phase }, { on := 11, ground := Go.Ground.phase }, { on := 12, ground := Go.Ground.phase }, { on := 13, ground := Go.Ground.phase }, { on := 14, ground := Go.Ground.phase }], guard := none }) (v := ?_) rfl (by kernel_rfl) (by kernel_rfl) (by kernel_rfl) (fun _ _ _ h => h) (Or.inl ⟨by rfl, ?_⟩) (by assumption) ?_
    rotate_left
    · (intro w hSw; (try dsimp only at hSw); go_simp; try with_reducible rfl)
    try simp only [Act.put, List.setIfInBounds_toArray, List.set_cons_zero, List.set_cons_succ]
    refine wpAnyH_done (by kernel_rfl) ?_ _
    all_goals go_wp2_with fail
    all_goals go_ret
    all_goals exact HK.out _ _ hv.out hbl3.out
  · have haI : (a != -1) = true := by simp [ha]
    have hv : Hid (true = dv) := Lib.hid (by rw [HD.out, haI, Bool.true_or])
    clear HD ha
    go_enter Tryd.func22, Tryd.ntmps22
    go_wp2_with fail
    have hb0 := Lib.hid (HB.out W (.cells #[.int .i64 x, .int .i64 y, .int .i64 z] 27))
    have hx0 := Lib.hid (HX.out 27)
    clear HX HB
    generalize W.alloc (.cells #[.int .i64 x, .int .i64 y, .int .i64 z] 27) = w0 at *
    obtain ⟨m0, m1, m2⟩ := hx0.out.1
    try simp only [List.cons_append, List.nil_append, List.append_eq]
    refine wp_region_held_drew (S := (fun w' => w'.cell? ⟨W.heap.size, 0, none⟩ = some (.int .i64 x) ∧ w'.cell? ⟨W.heap.size, 1, none⟩ = some (.int .i64 y) ∧ w'.cell? ⟨W.heap.size, 2, none⟩ = some (.int .i64 z))) (by kernel_rfl) ?_ (fun hHeld0 => ?_)
    · (try dsimp only); go_keep
    refine wpAnyH_take (i := 0) (oi := { dst := some 7, op := Go.Op.fieldAddr 27 (Go.Operand.tmp 3) 0, type := 0, pos := "l08_draw.go:31", after := #[], guard := none }) (v := ?_) rfl (by kernel_rfl) (by kernel_rfl) (by kernel_rfl) (fun _ _ _ h => h) (Or.inl ⟨by rfl, ?_⟩) (by assumption) ?_
    rotate_left
    · (intro w hSw; (try dsimp only at hSw); go_simp; try with_reducible rfl)
    try simp only [Act.put, List.setIfInBounds_toArray, List.set_cons_zero, List.set_cons_succ]
    refine wpAnyH_take (i := 1) (oi := { dst := some 8, op := Go.Op.load 25 (Go.Operand.tmp 7), type := 25, pos := "l08_draw.go:31", after := #[{ on := 0, ground := Go.Ground.data }], guard := none }) (v := ?_) rfl (by kernel_rfl) (by kernel_rfl) (by kernel_rfl) (fun _ _ _ h => h) (Or.inl ⟨by rfl, ?_⟩) (by assumption) ?_
    rotate_left
    · (intro w hSw; (try dsimp only at hSw); go_simp; try with_reducible rfl)
    try simp only [Act.put, List.setIfInBounds_toArray, List.set_cons_zero, List.set_cons_succ]
    refine wpAnyH_take (i := 2) (oi := { dst := some 9, op := Go.Op.move (Go.Operand.tmp 1), type := 3, pos := "l08_draw.go:31", after := #[], guard := none }) (v := ?_) rfl (by kernel_rfl) (by kernel_rfl) (by kernel_rfl) (fun _ _ _ h => h) (Or.inl ⟨by rfl, ?_⟩) (by assumption) ?_
    rotate_left
    · (intro w hSw; (try dsimp only at hSw); go_simp; try with_reducible rfl)
    try simp only [Act.put, List.setIfInBounds_toArray, List.set_cons_zero, List.set_cons_succ]
    refine wpAnyH_take (i := 3) (oi := { dst := some 10, op := Go.Op.move (Go.Operand.tmp 2), type := 3, pos := "l08_draw.go:31", after := #[], guard := none }) (v := ?_) rfl (by kernel_rfl) (by kernel_rfl) (by kernel_rfl) (fun _ _ _ h => h) (Or.inl ⟨by rfl, ?_⟩) (by assumption) ?_
    rotate_left
    · (intro w hSw; (try dsimp only at hSw); go_simp; try with_reducible rfl)
    try simp only [Act.put, List.setIfInBounds_toArray, List.set_cons_zero, List.set_cons_succ]
    refine wpAnyH_ready (rs := [4]) (by kernel_rfl) (by simp) ?_
    refine AllReadyH.cons (o := { dst := some 11, op := Go.Op.call { callee := Go.Callee.value (Go.Operand.func 46), args := #[Go.Operand.tmp 8, Go.Operand.tmp 9, Go.Operand.tmp 10], argTypes := #[25, 3, 3] }, type := 3, pos := "l08_draw.go:31", after := #[{ on := 1, ground := Go.Ground.data }, { on := 2, ground := Go.Ground.data }, { on := 3, ground := Go.Ground.data }], guard := none }) rfl (fun K4 hK4 => ?_) AllReadyH.nil
    go_simp
    (refine (HC.out _).mono ?_; rintro e v1 ⟨rfl, hb1⟩; have hM1 := Lib.hid (mbox_after hb1 hx0.out); have hbl1 := Lib.hid (below_call (below_dr hb0.out) hb1); obtain ⟨p1, q1, r1⟩ := hM1.out.1)
    go_wp2_with fail
    refine hK4.out _ _ ?_ (fun hHeld1 => ?_)
    · (try dsimp only); go_keep
    clear hK4 K4 hHeld0
    try simp only [Act.put, List.setIfInBounds_toArray, List.set_cons_zero, List.set_cons_succ]
    refine wpAnyH_take (i := 5) (oi := { dst := some 12, op := Go.Op.binOp Go.BinOp.neq 3 (Go.Operand.tmp 11) (Go.Operand.const (Go.Value.int Go.IntKind.i64 (-1))) 3, type := 4, pos := "l08_draw.go:31", after := #[{ on := 4, ground := Go.Ground.data }], guard := none }) (v := ?_) rfl (by kernel_rfl) (by kernel_rfl) (by kernel_rfl) (fun _ _ _ h => h) (Or.inl ⟨by rfl, ?_⟩) (by assumption) ?_
    rotate_left
    · (intro w hSw; (try dsimp only at hSw); go_simp; try with_reducible rfl)
    try simp only [Act.put, List.setIfInBounds_toArray, List.set_cons_zero, List.set_cons_succ]
    refine wpAnyH_take (i := 6) (oi := { dst := some 13, op := Go.Op.move (Go.Operand.tmp 12), type := 4, pos := "l08_draw.go:31", after := #[{ on := 5, ground := Go.Ground.data }, { on := 4, ground := Go.Ground.chain }], guard := none }) (v := ?_) rfl (by kernel_rfl) (by kernel_rfl) (by kernel_rfl) (fun _ _ _ h => h) (Or.inl ⟨by rfl, ?_⟩) (by assumption) ?_
    rotate_left
    · (intro w hSw; (try dsimp only at hSw); go_simp; try with_reducible rfl)
    try simp only [Act.put, List.setIfInBounds_toArray, List.set_cons_zero, List.set_cons_succ]
    refine wpAnyH_take (i := 7) (oi := { dst := some 14, op := Go.Op.load 27 (Go.Operand.tmp 3), type := 27, pos := "l08_draw.go:31", after := #[{ on := 6, ground := Go.Ground.guard }], guard := some (6, false) }) (v := undef) rfl (by kernel_rfl) (by kernel_rfl) (by kernel_rfl) (fun _ _ _ h => h) (Or.inr ⟨by rfl, rfl⟩) (by assumption) ?_
    try simp only [Act.put, List.setIfInBounds_toArray, List.set_cons_zero, List.set_cons_succ]
    refine wpAnyH_take (i := 8) (oi := { dst := some 15, op := Go.Op.fieldAddr 27 (Go.Operand.tmp 3) 0, type := 0, pos := "l08_draw.go:31", after := #[{ on := 6, ground := Go.Ground.guard }], guard := some (6, false) }) (v := undef) rfl (by kernel_rfl) (by kernel_rfl) (by kernel_rfl) (fun _ _ _ h => h) (Or.inr ⟨by rfl, rfl⟩) (by assumption) ?_
    try simp only [Act.put, List.setIfInBounds_toArray, List.set_cons_zero, List.set_cons_succ]
    refine wpAnyH_take (i := 9) (oi := { dst := some 16, op := Go.Op.load 25 (Go.Operand.tmp 15), type := 25, pos := "l08_draw.go:31", after := #[{ on := 8, ground := Go.Ground.data }, { on := 6, ground := Go.Ground.guard }], guard := some (6, false) }) (v := undef) rfl (by kernel_rfl) (by kernel_rfl) (by kernel_rfl) (fun _ _ _ h => h) (Or.inr ⟨by rfl, rfl⟩) (by assumption) ?_
    try simp only [Act.put, List.setIfInBounds_toArray, List.set_cons_zero, List.set_cons_succ]
    refine wpAnyH_take (i := 10) (oi := { dst := some 17, op := Go.Op.move (Go.Operand.tmp 1), type := 3, pos := "l08_draw.go:31", after := #[{ on := 6, ground := Go.Ground.guard }], guard := some (6, false) }) (v := undef) rfl (by kernel_rfl) (by kernel_rfl) (by kernel_rfl) (fun _ _ _ h => h) (Or.inr ⟨by rfl, rfl⟩) (by assumption) ?_
    try simp only [Act.put, List.setIfInBounds_toArray, List.set_cons_zero, List.set_cons_succ]
    refine wpAnyH_take (i := 11) (oi := { dst := some 18, op := Go.Op.move (Go.Operand.tmp 2), type := 3, pos := "l08_draw.go:31", after := #[{ on := 6, ground := Go.Ground.guard }], guard := some (6, false) }) (v := undef) rfl (by kernel_rfl) (by kernel_rfl) (by kernel_rfl) (fun _ _ _ h => h) (Or.inr ⟨by rfl, rfl⟩) (by assumption) ?_
    try simp only [Act.put, List.setIfInBounds_toArray, List.set_cons_zero, List.set_cons_succ]
    refine wpAnyH_take (i := 12) (oi := { dst := some 19, op := Go.Op.call { callee := Go.Callee.value (Go.Operand.func 26), args := #[Go.Operand.tmp 16, Go.Operand.tmp 17, Go.Operand.tmp 18], argTypes := #[25, 3, 3] }, type := 3, pos := "l08_draw.go:31", after := #[{ on := 9, ground := Go.Ground.data }, { on := 10, ground := Go.Ground.data }, { on := 11, ground := Go.Ground.data }, { on := 6, ground := Go.Ground.chain }, { on := 6, ground := Go.Ground.guard }], guard := some (6, false) }) (v := undef) rfl (by kernel_rfl) (by kernel_rfl) (by kernel_rfl) (fun _ _ _ h => h) (Or.inr ⟨by rfl, rfl⟩) (by assumption) ?_
    try simp only [Act.put, List.setIfInBounds_toArray, List.set_cons_zero, List.set_cons_succ]
    refine wpAnyH_take (i := 13) (oi := { dst := some 20, op := Go.Op.call { callee := Go.Callee.value (Go.Operand.func 47), args := #[Go.Operand.tmp 14, Go.Operand.tmp 19], argTypes := #[27, 3] }, type := 4, pos := "l08_draw.go:31", after := #[{ on := 7, ground := Go.Ground.data }, { on := 12, ground := Go.Ground.data }, { on := 12, ground := Go.Ground.chain }, { on := 6, ground := Go.Ground.guard }], guard := some (6, false) }) (v := undef) rfl (by kernel_rfl) (by kernel_rfl) (by kernel_rfl) (fun _ _ _ h => h) (Or.inr ⟨by rfl, rfl⟩) (by assumption) ?_
    try simp only [Act.put, List.setIfInBounds_toArray, List.set_cons_zero, List.set_cons_succ]
    refine wpAnyH_take (i := 14) (oi := { dst := some 21, op := Go.Op.pick (Go.Operand.tmp 13) (Go.Operand.const (Go.Value.bool true)) (Go.Operand.tmp 20), type := 4, pos := "l08_draw.go:31", after := #[{ on := 6, ground := Go.Ground.data }, { on := 13, ground := Go.Ground.data }], guard := none }) (v := ?_) rfl (by kernel_rfl) (by kernel_rfl) (by kernel_rfl) (fun _ _ _ h => h) (Or.inl ⟨by rfl, ?_⟩) (by assumption) ?_
    rotate_left
    · (intro w hSw; (try dsimp only at hSw); go_simp; try with_reducible rfl)
    try simp only [Act.put, List.setIfInBounds_toArray, List.set_cons_zero, List.set_cons_succ]
    refine wpAnyH_take (i := 15) (oi := { dst := some 6, op := Go.Op.assign (Go.Operand.tmp 21), type := 4, pos := "l08_draw.go:31", after := #[{ on := 14, ground := Go.Ground.data }, { on := 13, ground := Go.Ground.chain }, { on := 0, ground := Go.Ground.phase }, { on := 1, ground := Go.Ground.phase }, { on := 2, ground := Go.Ground.phase }, { on := 3, ground := Go.Ground.phase }, { on := 4, ground := Go.Ground.phase }, { on := 5, ground := Go.Ground.phase }, { on := 6, ground := Go.Ground.phase }, { on := 7, ground := Go.Ground.phase }, { on := 8, ground := Go.Ground.phase }, { on := 9, ground := Go.Ground.phase }, { on := 10, ground := Go.Ground.phase }, { on := 11, ground := Go.Ground.phase }, { on := 12, ground := Go.Ground.phase }, { on := 13, ground := Go.Ground.phase }, { on := 14, ground := Go.Ground.phase }], guard := none }) (v := ?_) rfl (by kernel_rfl) (by kernel_rfl) (by kernel_rfl) (fun _ _ _ h => h) (Or.inl ⟨by rfl, ?_⟩) (by assumption) ?_
    rotate_left
    · (intro w hSw; (try dsimp only at hSw); go_simp; try with_reducible rfl)
    try simp only [Act.put, List.setIfInBounds_toArray, List.set_cons_zero, List.set_cons_succ]
    refine wpAnyH_done (by kernel_rfl) ?_ _
    all_goals go_wp2_with fail
    all_goals go_ret
    all_goals exact HK.out _ _ hv.out hbl1.out

/-- Lists of texts are compared. -/
theorem take_next {l l' : List (List UInt8)} {k : Nat} {u : List UInt8} (h1 : l[k]? = some u) (h2 : l'[k]? = some u) (h : l.take k = l'.take k) : l.take (k + 1) = l'.take (k + 1) := by
  rw [List.take_add_one, List.take_add_one, h, h1, h2]
theorem bytes_ne {s s' : ByteArray} {u u' : List UInt8} (h : s = ⟨u.toArray⟩) (h' : s' = ⟨u'.toArray⟩) (hn : u ≠ u') : (s.toList == s'.toList) = false := by
  rw [beq_eq_false_iff_ne]; intro e
  apply hn
  have e' : s.data.toList = s'.data.toList := by simpa [ByteArray.toList_eq] using e
  rw [h, h'] at e'; simpa using e'
set_option maxRecDepth 100000 in
theorem equal_any (A B : Option Addr) (n m c d : Nat) (l l' : List (List UInt8)) (W : World) (hn : l.length = n) (hm : l'.length = m) (hn1 : n ≤ 1048576) (hm1 : m ≤ 1048576) (hi : TxIn W W.heap.size A l) (hi' : TxIn W W.heap.size B l') :
    Calls Tryd.prog 27 #[.slice A n c, .slice B m d] W (Bl (decide (l = l')) W) := by
  have HI := Lib.hid hi
  have HI' := Lib.hid hi'
  have HR := Lib.hid (Below.refl W.heap.size W)
  have HK := @Lib.hid _ (fun w' v e b => @bl_mk v (decide (l = l')) W w' e b)
  have Hn := Lib.hid hn
  have Hm := Lib.hid hm
  clear hi hi' hn hm
  by_cases hnm : n = m
  · subst hnm
    go_enter Tryd.func27, Tryd.ntmps27
    go_wp2_with fail
    go_loopw [13] (fun u13 wr => ∃ k : Nat, k ≤ n ∧ u13 = .int .i64 k ∧ l.take k = l'.take k ∧ Below W.heap.size W wr) (fun u13 _ => n - (intOf u13).toNat)
    case atStart => exact ⟨0, Nat.zero_le _, rfl, rfl, HR.out⟩
    case round =>
      obtain ⟨k, hk, rfl, htk, hb0⟩ := hrel
      have HT := Lib.hid htk
      have hbl := Lib.hid hb0
      clear htk hb0
      have hk0 : (0 : Int) ≤ (k : Int) := Int.natCast_nonneg _
      by_cases hkn : k < n
      · have hk1 : (k : Int) < (n : Int) := by omega
        obtain ⟨u, hu⟩ : ∃ u, l[k]? = some u := ⟨l[k]'(by have := Hn.out; omega), List.getElem?_eq_getElem (by have := Hn.out; omega)⟩
        obtain ⟨u', hu'⟩ : ∃ u, l'[k]? = some u := ⟨l'[k]'(by have := Hm.out; omega), List.getElem?_eq_getElem (by have := Hm.out; omega)⟩
        have hiw : TxIn wr W.heap.size A l := HI.out.below hbl.out
        have hiw' : TxIn wr W.heap.size B l' := HI'.out.below hbl.out
        obtain ⟨ad, rfl, hab⟩ := hiw.at (by intro e; rw [e] at hu; cases hu)
        obtain ⟨ad', rfl, hab'⟩ := hiw'.at (by intro e; rw [e] at hu'; cases hu')
        obtain ⟨s, hs⟩ : ∃ s : ByteArray, s = ⟨u.toArray⟩ := ⟨_, rfl⟩
        obtain ⟨s', hs'⟩ : ∃ s : ByteArray, s = ⟨u'.toArray⟩ := ⟨_, rfl⟩
        have hcell := hiw.cell hu
        have hcell' := hiw'.cell hu'
        rw [← hs] at hcell
        rw [← hs'] at hcell'
        by_cases he : u = u'
        · subst he
          have HN := Lib.hid (take_next hu hu' HT.out)
          obtain rfl : s = s' := hs.trans hs'.symm
          clear hu hu' hs hs' hiw hiw'
          go_wp2_with fail
          go_quiet (fail)
          go_wp2_with fail
          go_roundw
          case rel => exact ⟨k + 1, by omega, by go_num, HN.out, below_draws hbl.out _⟩
          case measure => simp [intOf]; omega
        · have hne : l ≠ l' := fun e => he (by rw [e, hu'] at hu; exact (Option.some.inj hu).symm)
          have hv : false = decide (l = l') := (decide_eq_false hne).symm
          have hsb := bytes_ne hs hs' he
          have Hv := Lib.hid hv
          clear hu hu' hs hs' hiw hiw' he hne hv
          go_wp2_with fail
          go_quiet (fail)
          go_wp2_with fail
          go_ret
          exact HK.out _ _ Hv.out (below_draws hbl.out _)
      · obtain rfl : k = n := by omega
        have hv : true = decide (l = l') := by
          have := HT.out
          rw [List.take_of_length_le (by have := Hn.out; omega), List.take_of_length_le (by have := Hm.out; omega)] at this
          exact (decide_eq_true this).symm
        have Hv := Lib.hid hv
        clear hv
        go_wp2_with fail
        go_ret
        exact HK.out _ _ Hv.out hbl.out
  · have hnI : ((n : Int) != (m : Int)) = true := by rw [bne_iff_ne]; omega
    have hne : l ≠ l' := fun e => hnm (by rw [← Hn.out, ← Hm.out, e])
    have Hv : Hid (false = decide (l = l')) := Lib.hid (decide_eq_false hne).symm
    clear hne hnm
    go_enter Tryd.func27, Tryd.ntmps27
    go_wp2_with fail
    go_ret
    exact HK.out _ _ Hv.out HR.out
end Go.Proofs.YtmmdngfhfceefaaDoor.linI
