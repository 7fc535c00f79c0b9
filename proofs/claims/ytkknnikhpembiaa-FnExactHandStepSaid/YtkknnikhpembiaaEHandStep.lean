/- HandStep: for every argument the program's answer is the model's, and the arguments read as before. -/
import Derived.Test.YtkknnikhpembiaaHandM
import Derived.Test.YtkknnikhpembiaaWkL
import Derived.Test.YtkknnikhpembiaaHandI1
import Derived.Test.YtkknnikhpembiaaListK
import Derived.Test.YtkknnikhpembiaaBase
import Derived.Test.YtkknnikhpembiaaMzB
namespace Go.Proofs.Ytkknnikhpembiaa.fnExactHandStep
open Go.ChangeShapes Go.WideShapes Go.ChangeAt Go.RowKit
open gridC gridR mazeP mazeC mazeM mazeR handQ listW gridE wkL intsP intK intA listK lawKit reachD draw
set_option linter.unusedVariables false

/-- The law's answer. -/
def Yes (w : World) (e : Ending) (w' : World) : Prop := e = .returned (.bool true) ∧ Below w.heap.size w w'
theorem yes_mk {w w' : World} (h : Below w.heap.size w w') : Yes w (.returned (.bool true)) w' := ⟨rfl, h⟩

set_option maxRecDepth 100000 in
set_option maxHeartbeats 2000000 in
theorem walk_at (x0 y0 z0 : Int) (x1 y1 : Int) (r0x r0y : Int) (W : World) 
    (HS : Hid (∀  X, Calls Try.prog 23 #[.agg #[.int .i64 x0, .int .i64 y0, .int .i64 z0], .agg #[.int .i64 x1, .int .i64 y1]] X (Wk r0x r0y X)))
    (HI : Hid (∀  X, Calls Try.prog 13 #[.agg #[.int .i64 x0, .int .i64 y0, .int .i64 z0], .agg #[.int .i64 x1, .int .i64 y1]] X (Wk r0x r0y X))) :
    Calls Try.prog 5 #[.agg #[.int .i64 x0, .int .i64 y0, .int .i64 z0], .agg #[.int .i64 x1, .int .i64 y1]] W (Yes W) := by
  have HK := @Lib.hid _ (fun w' b => @yes_mk W w' b)
  go_enter Try.func5, Try.ntmps5
  obtain ⟨hbx0, hbx1, hbx2⟩ := wkL.two_boxes x0 y0 z0 x1 y1 W 43 44
  have hxc0 := Lib.hid hbx0
  have hxc1 := Lib.hid hbx1
  have hbl := Lib.hid hbx2
  clear hbx0 hbx1 hbx2
  obtain ⟨c00, c01, c02⟩ := hxc0.out.1
  obtain ⟨c10, c11⟩ := hxc1.out.1
  go_wp2_with fail
  have ht := Lib.hid (show TB W x0 y0 z0 x1 y1 none _ from ⟨hbl.out, hxc0.out, hxc1.out, (fun b e => by cases e)⟩)
  generalize ((W.alloc (.cells #[.int .i64 x0, .int .i64 y0, .int .i64 z0] 43)).alloc (.cells #[.int .i64 x1, .int .i64 y1] 44)) = Z0 at *
  go_cut [5] from 7 to 11 (fun ux wx => ∃ B : Nat, ux = .pointer (some ⟨B, 0, none⟩) ∧ TZ W x0 y0 z0 x1 y1 none B r0x r0y wx)
  case first =>
    have ht0 := Lib.hid ht.out.dr
    try simp only [List.cons_append, List.nil_append, List.append_eq]
    refine wp_region_held_drew (S := (fun w' => w'.cell? ⟨W.heap.size, 0, none⟩ = some (.int .i64 x0) ∧ w'.cell? ⟨W.heap.size, 1, none⟩ = some (.int .i64 y0) ∧ w'.cell? ⟨W.heap.size, 2, none⟩ = some (.int .i64 z0) ∧ w'.cell? ⟨W.heap.size + 1, 0, none⟩ = some (.int .i64 x1) ∧ w'.cell? ⟨W.heap.size + 1, 1, none⟩ = some (.int .i64 y1))) (by kernel_rfl) ?_ (fun hHeld0 => ?_)
    · (try dsimp only); (first | go_keep | exact TZ.keep (TZ.put ht3.out _ _))
    refine wpAnyH_take (i := 0) (oi := { dst := some 7, op := Go.Op.load 43 (Go.Operand.tmp 2), type := 43, pos := "exact.go:1750", after := #[], guard := none }) (v := ?_) rfl (by kernel_rfl) (by kernel_rfl) (by kernel_rfl) (fun _ _ _ h => h) (Or.inl ⟨by rfl, ?_⟩) (by assumption) ?_
    rotate_left
    · (intro w hSw; (try dsimp only at hSw); go_simp; try with_reducible rfl)
    try simp only [Act.put, List.setIfInBounds_toArray, List.set_cons_zero, List.set_cons_succ]
    refine wpAnyH_take (i := 2) (oi := { dst := some 9, op := Go.Op.load 44 (Go.Operand.tmp 3), type := 44, pos := "exact.go:1750", after := #[], guard := none }) (v := ?_) rfl (by kernel_rfl) (by kernel_rfl) (by kernel_rfl) (fun _ _ _ h => h) (Or.inl ⟨by rfl, ?_⟩) (by assumption) ?_
    rotate_left
    · (intro w hSw; (try dsimp only at hSw); go_simp; try with_reducible rfl)
    try simp only [Act.put, List.setIfInBounds_toArray, List.set_cons_zero, List.set_cons_succ]
    refine wpAnyH_ready (rs := [1, 5]) (by kernel_rfl) (by simp) ?_
    refine (AllReadyH.cons (o := { dst := some 8, op := Go.Op.call { callee := Go.Callee.value (Go.Operand.func 20), args := #[Go.Operand.tmp 7], argTypes := #[43] }, type := 27, pos := "exact.go:1750", after := #[{ on := 0, ground := Go.Ground.data }], guard := none }) rfl (fun K1 hK1 => ?_) (AllReadyH.cons (o := { dst := some 5, op := Go.Op.alloc 29, type := 0, pos := "exact.go:1750", after := #[], guard := none }) rfl (fun K5 hK5 => ?_) AllReadyH.nil))
    · as_aux_lemma =>
        go_simp
        (refine (toMaze_any x0 y0 z0 _).mono ?_; rintro e yw1 ⟨rfl, hb⟩; (first | have ht1 := Lib.hid (TZ.call ht0.out hb) | have ht1 := Lib.hid (TZ.call (TZ.newd ht.out _) hb) | have ht1 := Lib.hid (TZ.call (TZ.new ht0.out _) hb) | have ht1 := Lib.hid (TB.call ht0.out hb)); clear hb; (first | (have c00 := (TZ.tb ht1.out).2.1.1.1; have c01 := (TZ.tb ht1.out).2.1.1.2.1; have c02 := (TZ.tb ht1.out).2.1.1.2.2; have c10 := (TZ.tb ht1.out).2.2.1.1.1; have c11 := (TZ.tb ht1.out).2.2.1.1.2; have zz0 := (TZ.row ht1.out).1.1; have zz1 := (TZ.row ht1.out).1.2; have fz0 := (TZ.row ht1.out).2.1; have fz1 := (TZ.row ht1.out).2.2) | (have c00 := (TB.id ht1.out).2.1.1.1; have c01 := (TB.id ht1.out).2.1.1.2.1; have c02 := (TB.id ht1.out).2.1.1.2.2; have c10 := (TB.id ht1.out).2.2.1.1.1; have c11 := (TB.id ht1.out).2.2.1.1.2)))
        go_wp2_with fail
        refine hK1.out _ _ ?_ (fun hHeld1 => ?_)
        · (try dsimp only); (first | go_keep | exact TZ.keep (TZ.put ht3.out _ _))
        clear hK1 K1 hHeld0
        try simp only [Act.put, List.setIfInBounds_toArray, List.set_cons_zero, List.set_cons_succ]
        refine wpAnyH_ready (rs := [3, 5]) (by kernel_rfl) (by simp) ?_
        refine (AllReadyH.cons (o := { dst := some 10, op := Go.Op.call { callee := Go.Callee.value (Go.Operand.func 21), args := #[Go.Operand.tmp 9], argTypes := #[44] }, type := 29, pos := "exact.go:1750", after := #[{ on := 2, ground := Go.Ground.data }, { on := 1, ground := Go.Ground.chain }], guard := none }) rfl (fun K3 hK3 => ?_) (AllReadyH.cons (o := { dst := some 5, op := Go.Op.alloc 29, type := 0, pos := "exact.go:1750", after := #[], guard := none }) rfl (fun K5 hK5 => ?_) AllReadyH.nil))
        · as_aux_lemma =>
            go_simp
            (refine (wkL.toWalker_any x1 y1 _).mono ?_; rintro e yw2 ⟨rfl, hb⟩; (first | have ht2 := Lib.hid (TZ.call ht1.out hb) | have ht2 := Lib.hid (TZ.call (TZ.new ht1.out _) hb) | have ht2 := Lib.hid (TB.call ht1.out hb)); clear hb; (first | (have c00 := (TZ.tb ht2.out).2.1.1.1; have c01 := (TZ.tb ht2.out).2.1.1.2.1; have c02 := (TZ.tb ht2.out).2.1.1.2.2; have c10 := (TZ.tb ht2.out).2.2.1.1.1; have c11 := (TZ.tb ht2.out).2.2.1.1.2; have zz0 := (TZ.row ht2.out).1.1; have zz1 := (TZ.row ht2.out).1.2; have fz0 := (TZ.row ht2.out).2.1; have fz1 := (TZ.row ht2.out).2.2) | (have c00 := (TB.id ht2.out).2.1.1.1; have c01 := (TB.id ht2.out).2.1.1.2.1; have c02 := (TB.id ht2.out).2.1.1.2.2; have c10 := (TB.id ht2.out).2.2.1.1.1; have c11 := (TB.id ht2.out).2.2.1.1.2)))
            go_wp2_with fail
            refine hK3.out _ _ ?_ (fun hHeld2 => ?_)
            · (try dsimp only); (first | go_keep | exact TZ.keep (TZ.put ht3.out _ _))
            clear hK3 K3 hHeld1
            try simp only [Act.put, List.setIfInBounds_toArray, List.set_cons_zero, List.set_cons_succ]
            refine wpAnyH_ready (rs := [4, 5]) (by kernel_rfl) (by simp) ?_
            refine (AllReadyH.cons (o := { dst := some 11, op := Go.Op.call { callee := Go.Callee.value (Go.Operand.func 23), args := #[Go.Operand.tmp 8, Go.Operand.tmp 10], argTypes := #[27, 29] }, type := 29, pos := "exact.go:1750", after := #[{ on := 1, ground := Go.Ground.data }, { on := 3, ground := Go.Ground.data }, { on := 3, ground := Go.Ground.chain }], guard := none }) rfl (fun K4 hK4 => ?_) (AllReadyH.cons (o := { dst := some 5, op := Go.Op.alloc 29, type := 0, pos := "exact.go:1750", after := #[], guard := none }) rfl (fun K5 hK5 => ?_) AllReadyH.nil))
            · as_aux_lemma =>
                go_simp
                (refine (HS.out _).mono ?_; rintro e yw3 ⟨rfl, hb⟩; (first | have ht3 := Lib.hid (TZ.call ht2.out hb) | have ht3 := Lib.hid (TZ.call (TZ.new ht2.out _) hb) | have ht3 := Lib.hid (TB.call ht2.out hb)); clear hb; (first | (have c00 := (TZ.tb ht3.out).2.1.1.1; have c01 := (TZ.tb ht3.out).2.1.1.2.1; have c02 := (TZ.tb ht3.out).2.1.1.2.2; have c10 := (TZ.tb ht3.out).2.2.1.1.1; have c11 := (TZ.tb ht3.out).2.2.1.1.2; have zz0 := (TZ.row ht3.out).1.1; have zz1 := (TZ.row ht3.out).1.2; have fz0 := (TZ.row ht3.out).2.1; have fz1 := (TZ.row ht3.out).2.2) | (have c00 := (TB.id ht3.out).2.1.1.1; have c01 := (TB.id ht3.out).2.1.1.2.1; have c02 := (TB.id ht3.out).2.1.1.2.2; have c10 := (TB.id ht3.out).2.2.1.1.1; have c11 := (TB.id ht3.out).2.2.1.1.2)))
                go_wp2_with fail
                refine hK4.out _ _ ?_ (fun hHeld3 => ?_)
                · (try dsimp only); (first | go_keep | exact TZ.keep (TZ.put ht3.out _ _))
                clear hK4 K4 hHeld2
                try simp only [Act.put, List.setIfInBounds_toArray, List.set_cons_zero, List.set_cons_succ]
                refine wpAnyH_ready (rs := [5]) (by kernel_rfl) (by simp) ?_
                refine AllReadyH.cons (o := { dst := some 5, op := Go.Op.alloc 29, type := 0, pos := "exact.go:1750", after := #[], guard := none }) rfl (fun K5 hK5 => ?_) AllReadyH.nil
                go_simp
                refine hK5.out _ _ ?_ (fun hHeld4 => ?_)
                · (try dsimp only); (first | go_keep | exact TZ.keep (TZ.put ht3.out _ _))
                clear hK5 K5 hHeld3
                try simp only [Act.put, List.setIfInBounds_toArray, List.set_cons_zero, List.set_cons_succ]
                refine wpAnyH_ready (rs := [6]) (by kernel_rfl) (by simp) ?_
                refine AllReadyH.cons (o := { dst := none, op := Go.Op.store 29 (Go.Operand.tmp 5) (Go.Operand.tmp 11), type := 0, pos := "exact.go:1750", after := #[{ on := 5, ground := Go.Ground.data }, { on := 4, ground := Go.Ground.data }, { on := 4, ground := Go.Ground.chain }, { on := 0, ground := Go.Ground.phase }, { on := 1, ground := Go.Ground.phase }, { on := 2, ground := Go.Ground.phase }, { on := 3, ground := Go.Ground.phase }, { on := 4, ground := Go.Ground.phase }, { on := 5, ground := Go.Ground.phase }], guard := none }) rfl (fun K6 hK6 => ?_) AllReadyH.nil
                go_simp
                refine hK6.out _ _ ?_ (fun hHeld5 => ?_)
                · (try dsimp only); (first | go_keep | exact TZ.keep (TZ.put ht3.out _ _))
                clear hK6 K6 hHeld4
                try simp only [Act.put, List.setIfInBounds_toArray, List.set_cons_zero, List.set_cons_succ]
                refine wpAnyH_done (by kernel_rfl) ?_ _
                (go_wp2_with fail; go_meet; first | exact ⟨_, rfl, TZ.put ht3.out _ _⟩ | exact ⟨_, rfl, TZ.made ht3.out⟩)
            · as_aux_lemma =>
                go_simp
                refine hK5.out _ _ ?_ (fun hHeld3 => ?_)
                · (try dsimp only); (first | go_keep | exact TZ.keep (TZ.put ht3.out _ _))
                clear hK5 K5 hHeld2
                try simp only [Act.put, List.setIfInBounds_toArray, List.set_cons_zero, List.set_cons_succ]
                refine wpAnyH_ready (rs := [4]) (by kernel_rfl) (by simp) ?_
                refine AllReadyH.cons (o := { dst := some 11, op := Go.Op.call { callee := Go.Callee.value (Go.Operand.func 23), args := #[Go.Operand.tmp 8, Go.Operand.tmp 10], argTypes := #[27, 29] }, type := 29, pos := "exact.go:1750", after := #[{ on := 1, ground := Go.Ground.data }, { on := 3, ground := Go.Ground.data }, { on := 3, ground := Go.Ground.chain }], guard := none }) rfl (fun K4 hK4 => ?_) AllReadyH.nil
                go_simp
                (refine (HS.out _).mono ?_; rintro e yw3 ⟨rfl, hb⟩; (first | have ht3 := Lib.hid (TZ.call ht2.out hb) | have ht3 := Lib.hid (TZ.call (TZ.new ht2.out _) hb) | have ht3 := Lib.hid (TB.call ht2.out hb)); clear hb; (first | (have c00 := (TZ.tb ht3.out).2.1.1.1; have c01 := (TZ.tb ht3.out).2.1.1.2.1; have c02 := (TZ.tb ht3.out).2.1.1.2.2; have c10 := (TZ.tb ht3.out).2.2.1.1.1; have c11 := (TZ.tb ht3.out).2.2.1.1.2; have zz0 := (TZ.row ht3.out).1.1; have zz1 := (TZ.row ht3.out).1.2; have fz0 := (TZ.row ht3.out).2.1; have fz1 := (TZ.row ht3.out).2.2) | (have c00 := (TB.id ht3.out).2.1.1.1; have c01 := (TB.id ht3.out).2.1.1.2.1; have c02 := (TB.id ht3.out).2.1.1.2.2; have c10 := (TB.id ht3.out).2.2.1.1.1; have c11 := (TB.id ht3.out).2.2.1.1.2)))
                go_wp2_with fail
                refine hK4.out _ _ ?_ (fun hHeld4 => ?_)
                · (try dsimp only); (first | go_keep | exact TZ.keep (TZ.put ht3.out _ _))
                clear hK4 K4 hHeld3
                try simp only [Act.put, List.setIfInBounds_toArray, List.set_cons_zero, List.set_cons_succ]
                refine wpAnyH_ready (rs := [6]) (by kernel_rfl) (by simp) ?_
                refine AllReadyH.cons (o := { dst := none, op := Go.Op.store 29 (Go.Operand.tmp 5) (Go.Operand.tmp 11), type := 0, pos := "exact.go:1750", after := #[{ on := 5, ground := Go.Ground.data }, { on := 4, ground := Go.Ground.data }, { on := 4, ground := Go.Ground.chain }, { on := 0, ground := Go.Ground.phase }, { on := 1, ground := Go.Ground.phase }, { on := 2, ground := Go.Ground.phase }, { on := 3, ground := Go.Ground.phase }, { on := 4, ground := Go.Ground.phase }, { on := 5, ground := Go.Ground.phase }], guard := none }) rfl (fun K6 hK6 => ?_) AllReadyH.nil
                go_simp
                refine hK6.out _ _ ?_ (fun hHeld5 => ?_)
                · (try dsimp only); (first | go_keep | exact TZ.keep (TZ.put ht3.out _ _))
                clear hK6 K6 hHeld4
                try simp only [Act.put, List.setIfInBounds_toArray, List.set_cons_zero, List.set_cons_succ]
                refine wpAnyH_done (by kernel_rfl) ?_ _
                (go_wp2_with fail; go_meet; first | exact ⟨_, rfl, TZ.put ht3.out _ _⟩ | exact ⟨_, rfl, TZ.made ht3.out⟩)
        · as_aux_lemma =>
            go_simp
            refine hK5.out _ _ ?_ (fun hHeld2 => ?_)
            · (try dsimp only); (first | go_keep | exact TZ.keep (TZ.put ht3.out _ _))
            clear hK5 K5 hHeld1
            try simp only [Act.put, List.setIfInBounds_toArray, List.set_cons_zero, List.set_cons_succ]
            refine wpAnyH_ready (rs := [3]) (by kernel_rfl) (by simp) ?_
            refine AllReadyH.cons (o := { dst := some 10, op := Go.Op.call { callee := Go.Callee.value (Go.Operand.func 21), args := #[Go.Operand.tmp 9], argTypes := #[44] }, type := 29, pos := "exact.go:1750", after := #[{ on := 2, ground := Go.Ground.data }, { on := 1, ground := Go.Ground.chain }], guard := none }) rfl (fun K3 hK3 => ?_) AllReadyH.nil
            go_simp
            (refine (wkL.toWalker_any x1 y1 _).mono ?_; rintro e yw2 ⟨rfl, hb⟩; (first | have ht2 := Lib.hid (TZ.call ht1.out hb) | have ht2 := Lib.hid (TZ.call (TZ.new ht1.out _) hb) | have ht2 := Lib.hid (TB.call ht1.out hb)); clear hb; (first | (have c00 := (TZ.tb ht2.out).2.1.1.1; have c01 := (TZ.tb ht2.out).2.1.1.2.1; have c02 := (TZ.tb ht2.out).2.1.1.2.2; have c10 := (TZ.tb ht2.out).2.2.1.1.1; have c11 := (TZ.tb ht2.out).2.2.1.1.2; have zz0 := (TZ.row ht2.out).1.1; have zz1 := (TZ.row ht2.out).1.2; have fz0 := (TZ.row ht2.out).2.1; have fz1 := (TZ.row ht2.out).2.2) | (have c00 := (TB.id ht2.out).2.1.1.1; have c01 := (TB.id ht2.out).2.1.1.2.1; have c02 := (TB.id ht2.out).2.1.1.2.2; have c10 := (TB.id ht2.out).2.2.1.1.1; have c11 := (TB.id ht2.out).2.2.1.1.2)))
            go_wp2_with fail
            refine hK3.out _ _ ?_ (fun hHeld3 => ?_)
            · (try dsimp only); (first | go_keep | exact TZ.keep (TZ.put ht3.out _ _))
            clear hK3 K3 hHeld2
            try simp only [Act.put, List.setIfInBounds_toArray, List.set_cons_zero, List.set_cons_succ]
            refine wpAnyH_ready (rs := [4]) (by kernel_rfl) (by simp) ?_
            refine AllReadyH.cons (o := { dst := some 11, op := Go.Op.call { callee := Go.Callee.value (Go.Operand.func 23), args := #[Go.Operand.tmp 8, Go.Operand.tmp 10], argTypes := #[27, 29] }, type := 29, pos := "exact.go:1750", after := #[{ on := 1, ground := Go.Ground.data }, { on := 3, ground := Go.Ground.data }, { on := 3, ground := Go.Ground.chain }], guard := none }) rfl (fun K4 hK4 => ?_) AllReadyH.nil
            go_simp
            (refine (HS.out _).mono ?_; rintro e yw3 ⟨rfl, hb⟩; (first | have ht3 := Lib.hid (TZ.call ht2.out hb) | have ht3 := Lib.hid (TZ.call (TZ.new ht2.out _) hb) | have ht3 := Lib.hid (TB.call ht2.out hb)); clear hb; (first | (have c00 := (TZ.tb ht3.out).2.1.1.1; have c01 := (TZ.tb ht3.out).2.1.1.2.1; have c02 := (TZ.tb ht3.out).2.1.1.2.2; have c10 := (TZ.tb ht3.out).2.2.1.1.1; have c11 := (TZ.tb ht3.out).2.2.1.1.2; have zz0 := (TZ.row ht3.out).1.1; have zz1 := (TZ.row ht3.out).1.2; have fz0 := (TZ.row ht3.out).2.1; have fz1 := (TZ.row ht3.out).2.2) | (have c00 := (TB.id ht3.out).2.1.1.1; have c01 := (TB.id ht3.out).2.1.1.2.1; have c02 := (TB.id ht3.out).2.1.1.2.2; have c10 := (TB.id ht3.out).2.2.1.1.1; have c11 := (TB.id ht3.out).2.2.1.1.2)))
            go_wp2_with fail
            refine hK4.out _ _ ?_ (fun hHeld4 => ?_)
            · (try dsimp only); (first | go_keep | exact TZ.keep (TZ.put ht3.out _ _))
            clear hK4 K4 hHeld3
            try simp only [Act.put, List.setIfInBounds_toArray, List.set_cons_zero, List.set_cons_succ]
            refine wpAnyH_ready (rs := [6]) (by kernel_rfl) (by simp) ?_
            refine AllReadyH.cons (o := { dst := none, op := Go.Op.store 29 (Go.Operand.tmp 5) (Go.Operand.tmp 11), type := 0, pos := "exact.go:1750", after := #[{ on := 5, ground := Go.Ground.data }, { on := 4, ground := Go.Ground.data }, { on := 4, ground := Go.Ground.chain }, { on := 0, ground := Go.Ground.phase }, { on := 1, ground := Go.Ground.phase }, { on := 2, ground := Go.Ground.phase }, { on := 3, ground := Go.Ground.phase }, { on := 4, ground := Go.Ground.phase }, { on := 5, ground := Go.Ground.phase }], guard := none }) rfl (fun K6 hK6 => ?_) AllReadyH.nil
            go_simp
            refine hK6.out _ _ ?_ (fun hHeld5 => ?_)
            · (try dsimp only); (first | go_keep | exact TZ.keep (TZ.put ht3.out _ _))
            clear hK6 K6 hHeld4
            try simp only [Act.put, List.setIfInBounds_toArray, List.set_cons_zero, List.set_cons_succ]
            refine wpAnyH_done (by kernel_rfl) ?_ _
            (go_wp2_with fail; go_meet; first | exact ⟨_, rfl, TZ.put ht3.out _ _⟩ | exact ⟨_, rfl, TZ.made ht3.out⟩)
    · as_aux_lemma =>
        go_simp
        refine hK5.out _ _ ?_ (fun hHeld1 => ?_)
        · (try dsimp only); (first | go_keep | exact TZ.keep (TZ.put ht3.out _ _))
        clear hK5 K5 hHeld0
        try simp only [Act.put, List.setIfInBounds_toArray, List.set_cons_zero, List.set_cons_succ]
        refine wpAnyH_ready (rs := [1]) (by kernel_rfl) (by simp) ?_
        refine AllReadyH.cons (o := { dst := some 8, op := Go.Op.call { callee := Go.Callee.value (Go.Operand.func 20), args := #[Go.Operand.tmp 7], argTypes := #[43] }, type := 27, pos := "exact.go:1750", after := #[{ on := 0, ground := Go.Ground.data }], guard := none }) rfl (fun K1 hK1 => ?_) AllReadyH.nil
        go_simp
        (refine (toMaze_any x0 y0 z0 _).mono ?_; rintro e yw1 ⟨rfl, hb⟩; (first | have ht1 := Lib.hid (TZ.call ht0.out hb) | have ht1 := Lib.hid (TZ.call (TZ.newd ht.out _) hb) | have ht1 := Lib.hid (TZ.call (TZ.new ht0.out _) hb) | have ht1 := Lib.hid (TB.call ht0.out hb)); clear hb; (first | (have c00 := (TZ.tb ht1.out).2.1.1.1; have c01 := (TZ.tb ht1.out).2.1.1.2.1; have c02 := (TZ.tb ht1.out).2.1.1.2.2; have c10 := (TZ.tb ht1.out).2.2.1.1.1; have c11 := (TZ.tb ht1.out).2.2.1.1.2; have zz0 := (TZ.row ht1.out).1.1; have zz1 := (TZ.row ht1.out).1.2; have fz0 := (TZ.row ht1.out).2.1; have fz1 := (TZ.row ht1.out).2.2) | (have c00 := (TB.id ht1.out).2.1.1.1; have c01 := (TB.id ht1.out).2.1.1.2.1; have c02 := (TB.id ht1.out).2.1.1.2.2; have c10 := (TB.id ht1.out).2.2.1.1.1; have c11 := (TB.id ht1.out).2.2.1.1.2)))
        go_wp2_with fail
        refine hK1.out _ _ ?_ (fun hHeld2 => ?_)
        · (try dsimp only); (first | go_keep | exact TZ.keep (TZ.put ht3.out _ _))
        clear hK1 K1 hHeld1
        try simp only [Act.put, List.setIfInBounds_toArray, List.set_cons_zero, List.set_cons_succ]
        refine wpAnyH_ready (rs := [3]) (by kernel_rfl) (by simp) ?_
        refine AllReadyH.cons (o := { dst := some 10, op := Go.Op.call { callee := Go.Callee.value (Go.Operand.func 21), args := #[Go.Operand.tmp 9], argTypes := #[44] }, type := 29, pos := "exact.go:1750", after := #[{ on := 2, ground := Go.Ground.data }, { on := 1, ground := Go.Ground.chain }], guard := none }) rfl (fun K3 hK3 => ?_) AllReadyH.nil
        go_simp
        (refine (wkL.toWalker_any x1 y1 _).mono ?_; rintro e yw2 ⟨rfl, hb⟩; (first | have ht2 := Lib.hid (TZ.call ht1.out hb) | have ht2 := Lib.hid (TZ.call (TZ.new ht1.out _) hb) | have ht2 := Lib.hid (TB.call ht1.out hb)); clear hb; (first | (have c00 := (TZ.tb ht2.out).2.1.1.1; have c01 := (TZ.tb ht2.out).2.1.1.2.1; have c02 := (TZ.tb ht2.out).2.1.1.2.2; have c10 := (TZ.tb ht2.out).2.2.1.1.1; have c11 := (TZ.tb ht2.out).2.2.1.1.2; have zz0 := (TZ.row ht2.out).1.1; have zz1 := (TZ.row ht2.out).1.2; have fz0 := (TZ.row ht2.out).2.1; have fz1 := (TZ.row ht2.out).2.2) | (have c00 := (TB.id ht2.out).2.1.1.1; have c01 := (TB.id ht2.out).2.1.1.2.1; have c02 := (TB.id ht2.out).2.1.1.2.2; have c10 := (TB.id ht2.out).2.2.1.1.1; have c11 := (TB.id ht2.out).2.2.1.1.2)))
        go_wp2_with fail
        refine hK3.out _ _ ?_ (fun hHeld3 => ?_)
        · (try dsimp only); (first | go_keep | exact TZ.keep (TZ.put ht3.out _ _))
        clear hK3 K3 hHeld2
        try simp only [Act.put, List.setIfInBounds_toArray, List.set_cons_zero, List.set_cons_succ]
        refine wpAnyH_ready (rs := [4]) (by kernel_rfl) (by simp) ?_
        refine AllReadyH.cons (o := { dst := some 11, op := Go.Op.call { callee := Go.Callee.value (Go.Operand.func 23), args := #[Go.Operand.tmp 8, Go.Operand.tmp 10], argTypes := #[27, 29] }, type := 29, pos := "exact.go:1750", after := #[{ on := 1, ground := Go.Ground.data }, { on := 3, ground := Go.Ground.data }, { on := 3, ground := Go.Ground.chain }], guard := none }) rfl (fun K4 hK4 => ?_) AllReadyH.nil
        go_simp
        (refine (HS.out _).mono ?_; rintro e yw3 ⟨rfl, hb⟩; (first | have ht3 := Lib.hid (TZ.call ht2.out hb) | have ht3 := Lib.hid (TZ.call (TZ.new ht2.out _) hb) | have ht3 := Lib.hid (TB.call ht2.out hb)); clear hb; (first | (have c00 := (TZ.tb ht3.out).2.1.1.1; have c01 := (TZ.tb ht3.out).2.1.1.2.1; have c02 := (TZ.tb ht3.out).2.1.1.2.2; have c10 := (TZ.tb ht3.out).2.2.1.1.1; have c11 := (TZ.tb ht3.out).2.2.1.1.2; have zz0 := (TZ.row ht3.out).1.1; have zz1 := (TZ.row ht3.out).1.2; have fz0 := (TZ.row ht3.out).2.1; have fz1 := (TZ.row ht3.out).2.2) | (have c00 := (TB.id ht3.out).2.1.1.1; have c01 := (TB.id ht3.out).2.1.1.2.1; have c02 := (TB.id ht3.out).2.1.1.2.2; have c10 := (TB.id ht3.out).2.2.1.1.1; have c11 := (TB.id ht3.out).2.2.1.1.2)))
        go_wp2_with fail
        refine hK4.out _ _ ?_ (fun hHeld4 => ?_)
        · (try dsimp only); (first | go_keep | exact TZ.keep (TZ.put ht3.out _ _))
        clear hK4 K4 hHeld3
        try simp only [Act.put, List.setIfInBounds_toArray, List.set_cons_zero, List.set_cons_succ]
        refine wpAnyH_ready (rs := [6]) (by kernel_rfl) (by simp) ?_
        refine AllReadyH.cons (o := { dst := none, op := Go.Op.store 29 (Go.Operand.tmp 5) (Go.Operand.tmp 11), type := 0, pos := "exact.go:1750", after := #[{ on := 5, ground := Go.Ground.data }, { on := 4, ground := Go.Ground.data }, { on := 4, ground := Go.Ground.chain }, { on := 0, ground := Go.Ground.phase }, { on := 1, ground := Go.Ground.phase }, { on := 2, ground := Go.Ground.phase }, { on := 3, ground := Go.Ground.phase }, { on := 4, ground := Go.Ground.phase }, { on := 5, ground := Go.Ground.phase }], guard := none }) rfl (fun K6 hK6 => ?_) AllReadyH.nil
        go_simp
        refine hK6.out _ _ ?_ (fun hHeld5 => ?_)
        · (try dsimp only); (first | go_keep | exact TZ.keep (TZ.put ht3.out _ _))
        clear hK6 K6 hHeld4
        try simp only [Act.put, List.setIfInBounds_toArray, List.set_cons_zero, List.set_cons_succ]
        refine wpAnyH_done (by kernel_rfl) ?_ _
        (go_wp2_with fail; go_meet; first | exact ⟨_, rfl, TZ.put ht3.out _ _⟩ | exact ⟨_, rfl, TZ.made ht3.out⟩)
  case rest =>
  obtain ⟨B_w0, rfl, htz⟩ := hcut
  clear c00 c01 c02
  clear c10 c11
  clear ht
  replace hbl := Lib.hid htz.1.1
  replace hxc0 := Lib.hid htz.1.2.1
  replace hxc1 := Lib.hid htz.1.2.2.1
  have hr_w0 := Lib.hid htz.2.1
  clear htz
  obtain ⟨c00, c01, c02⟩ := hxc0.out.1
  obtain ⟨c10, c11⟩ := hxc1.out.1
  obtain ⟨⟨dw00, dw01⟩, -⟩ := row2_cells hr_w0.out
  go_wp2_with fail
  have ht := Lib.hid (show TB W x0 y0 z0 x1 y1 (some (B_w0, r0x, r0y)) _ from ⟨hbl.out, hxc0.out, hxc1.out, (fun b e => by cases e; exact hr_w0.out)⟩)
  go_cut [6] from 12 to 16 (fun ux wx => ∃ B : Nat, ux = .pointer (some ⟨B, 0, none⟩) ∧ TZ W x0 y0 z0 x1 y1 (some (B_w0, r0x, r0y)) B r0x r0y wx)
  case first =>
    have ht0 := Lib.hid ht.out.dr
    try simp only [List.cons_append, List.nil_append, List.append_eq]
    refine wp_region_held_drew (S := (fun w' => w'.cell? ⟨W.heap.size, 0, none⟩ = some (.int .i64 x0) ∧ w'.cell? ⟨W.heap.size, 1, none⟩ = some (.int .i64 y0) ∧ w'.cell? ⟨W.heap.size, 2, none⟩ = some (.int .i64 z0) ∧ w'.cell? ⟨W.heap.size + 1, 0, none⟩ = some (.int .i64 x1) ∧ w'.cell? ⟨W.heap.size + 1, 1, none⟩ = some (.int .i64 y1))) (by kernel_rfl) ?_ (fun hHeld0 => ?_)
    · (try dsimp only); (first | go_keep | exact TZ.keep (TZ.put ht3.out _ _))
    refine wpAnyH_take (i := 0) (oi := { dst := some 12, op := Go.Op.load 43 (Go.Operand.tmp 2), type := 43, pos := "exact.go:1751", after := #[], guard := none }) (v := ?_) rfl (by kernel_rfl) (by kernel_rfl) (by kernel_rfl) (fun _ _ _ h => h) (Or.inl ⟨by rfl, ?_⟩) (by assumption) ?_
    rotate_left
    · (intro w hSw; (try dsimp only at hSw); go_simp; try with_reducible rfl)
    try simp only [Act.put, List.setIfInBounds_toArray, List.set_cons_zero, List.set_cons_succ]
    refine wpAnyH_take (i := 2) (oi := { dst := some 14, op := Go.Op.load 44 (Go.Operand.tmp 3), type := 44, pos := "exact.go:1751", after := #[], guard := none }) (v := ?_) rfl (by kernel_rfl) (by kernel_rfl) (by kernel_rfl) (fun _ _ _ h => h) (Or.inl ⟨by rfl, ?_⟩) (by assumption) ?_
    rotate_left
    · (intro w hSw; (try dsimp only at hSw); go_simp; try with_reducible rfl)
    try simp only [Act.put, List.setIfInBounds_toArray, List.set_cons_zero, List.set_cons_succ]
    refine wpAnyH_ready (rs := [1, 5]) (by kernel_rfl) (by simp) ?_
    refine (AllReadyH.cons (o := { dst := some 13, op := Go.Op.call { callee := Go.Callee.value (Go.Operand.func 20), args := #[Go.Operand.tmp 12], argTypes := #[43] }, type := 27, pos := "exact.go:1751", after := #[{ on := 0, ground := Go.Ground.data }], guard := none }) rfl (fun K1 hK1 => ?_) (AllReadyH.cons (o := { dst := some 6, op := Go.Op.alloc 29, type := 0, pos := "exact.go:1751", after := #[], guard := none }) rfl (fun K5 hK5 => ?_) AllReadyH.nil))
    · as_aux_lemma =>
        go_simp
        (refine (toMaze_any x0 y0 z0 _).mono ?_; rintro e yw1 ⟨rfl, hb⟩; (first | have ht1 := Lib.hid (TZ.call ht0.out hb) | have ht1 := Lib.hid (TZ.call (TZ.newd ht.out _) hb) | have ht1 := Lib.hid (TZ.call (TZ.new ht0.out _) hb) | have ht1 := Lib.hid (TB.call ht0.out hb)); clear hb; (first | (have c00 := (TZ.tb ht1.out).2.1.1.1; have c01 := (TZ.tb ht1.out).2.1.1.2.1; have c02 := (TZ.tb ht1.out).2.1.1.2.2; have c10 := (TZ.tb ht1.out).2.2.1.1.1; have c11 := (TZ.tb ht1.out).2.2.1.1.2; have zz0 := (TZ.row ht1.out).1.1; have zz1 := (TZ.row ht1.out).1.2; have fz0 := (TZ.row ht1.out).2.1; have fz1 := (TZ.row ht1.out).2.2) | (have c00 := (TB.id ht1.out).2.1.1.1; have c01 := (TB.id ht1.out).2.1.1.2.1; have c02 := (TB.id ht1.out).2.1.1.2.2; have c10 := (TB.id ht1.out).2.2.1.1.1; have c11 := (TB.id ht1.out).2.2.1.1.2)))
        go_wp2_with fail
        refine hK1.out _ _ ?_ (fun hHeld1 => ?_)
        · (try dsimp only); (first | go_keep | exact TZ.keep (TZ.put ht3.out _ _))
        clear hK1 K1 hHeld0
        try simp only [Act.put, List.setIfInBounds_toArray, List.set_cons_zero, List.set_cons_succ]
        refine wpAnyH_ready (rs := [3, 5]) (by kernel_rfl) (by simp) ?_
        refine (AllReadyH.cons (o := { dst := some 15, op := Go.Op.call { callee := Go.Callee.value (Go.Operand.func 21), args := #[Go.Operand.tmp 14], argTypes := #[44] }, type := 29, pos := "exact.go:1751", after := #[{ on := 2, ground := Go.Ground.data }, { on := 1, ground := Go.Ground.chain }], guard := none }) rfl (fun K3 hK3 => ?_) (AllReadyH.cons (o := { dst := some 6, op := Go.Op.alloc 29, type := 0, pos := "exact.go:1751", after := #[], guard := none }) rfl (fun K5 hK5 => ?_) AllReadyH.nil))
        · as_aux_lemma =>
            go_simp
            (refine (wkL.toWalker_any x1 y1 _).mono ?_; rintro e yw2 ⟨rfl, hb⟩; (first | have ht2 := Lib.hid (TZ.call ht1.out hb) | have ht2 := Lib.hid (TZ.call (TZ.new ht1.out _) hb) | have ht2 := Lib.hid (TB.call ht1.out hb)); clear hb; (first | (have c00 := (TZ.tb ht2.out).2.1.1.1; have c01 := (TZ.tb ht2.out).2.1.1.2.1; have c02 := (TZ.tb ht2.out).2.1.1.2.2; have c10 := (TZ.tb ht2.out).2.2.1.1.1; have c11 := (TZ.tb ht2.out).2.2.1.1.2; have zz0 := (TZ.row ht2.out).1.1; have zz1 := (TZ.row ht2.out).1.2; have fz0 := (TZ.row ht2.out).2.1; have fz1 := (TZ.row ht2.out).2.2) | (have c00 := (TB.id ht2.out).2.1.1.1; have c01 := (TB.id ht2.out).2.1.1.2.1; have c02 := (TB.id ht2.out).2.1.1.2.2; have c10 := (TB.id ht2.out).2.2.1.1.1; have c11 := (TB.id ht2.out).2.2.1.1.2)))
            go_wp2_with fail
            refine hK3.out _ _ ?_ (fun hHeld2 => ?_)
            · (try dsimp only); (first | go_keep | exact TZ.keep (TZ.put ht3.out _ _))
            clear hK3 K3 hHeld1
            try simp only [Act.put, List.setIfInBounds_toArray, List.set_cons_zero, List.set_cons_succ]
            refine wpAnyH_ready (rs := [4, 5]) (by kernel_rfl) (by simp) ?_
            refine (AllReadyH.cons (o := { dst := some 16, op := Go.Op.call { callee := Go.Callee.value (Go.Operand.func 13), args := #[Go.Operand.tmp 13, Go.Operand.tmp 15], argTypes := #[27, 29] }, type := 29, pos := "exact.go:1751", after := #[{ on := 1, ground := Go.Ground.data }, { on := 3, ground := Go.Ground.data }, { on := 3, ground := Go.Ground.chain }], guard := none }) rfl (fun K4 hK4 => ?_) (AllReadyH.cons (o := { dst := some 6, op := Go.Op.alloc 29, type := 0, pos := "exact.go:1751", after := #[], guard := none }) rfl (fun K5 hK5 => ?_) AllReadyH.nil))
            · as_aux_lemma =>
                go_simp
                (refine (HI.out _).mono ?_; rintro e yw3 ⟨rfl, hb⟩; (first | have ht3 := Lib.hid (TZ.call ht2.out hb) | have ht3 := Lib.hid (TZ.call (TZ.new ht2.out _) hb) | have ht3 := Lib.hid (TB.call ht2.out hb)); clear hb; (first | (have c00 := (TZ.tb ht3.out).2.1.1.1; have c01 := (TZ.tb ht3.out).2.1.1.2.1; have c02 := (TZ.tb ht3.out).2.1.1.2.2; have c10 := (TZ.tb ht3.out).2.2.1.1.1; have c11 := (TZ.tb ht3.out).2.2.1.1.2; have zz0 := (TZ.row ht3.out).1.1; have zz1 := (TZ.row ht3.out).1.2; have fz0 := (TZ.row ht3.out).2.1; have fz1 := (TZ.row ht3.out).2.2) | (have c00 := (TB.id ht3.out).2.1.1.1; have c01 := (TB.id ht3.out).2.1.1.2.1; have c02 := (TB.id ht3.out).2.1.1.2.2; have c10 := (TB.id ht3.out).2.2.1.1.1; have c11 := (TB.id ht3.out).2.2.1.1.2)))
                go_wp2_with fail
                refine hK4.out _ _ ?_ (fun hHeld3 => ?_)
                · (try dsimp only); (first | go_keep | exact TZ.keep (TZ.put ht3.out _ _))
                clear hK4 K4 hHeld2
                try simp only [Act.put, List.setIfInBounds_toArray, List.set_cons_zero, List.set_cons_succ]
                refine wpAnyH_ready (rs := [5]) (by kernel_rfl) (by simp) ?_
                refine AllReadyH.cons (o := { dst := some 6, op := Go.Op.alloc 29, type := 0, pos := "exact.go:1751", after := #[], guard := none }) rfl (fun K5 hK5 => ?_) AllReadyH.nil
                go_simp
                refine hK5.out _ _ ?_ (fun hHeld4 => ?_)
                · (try dsimp only); (first | go_keep | exact TZ.keep (TZ.put ht3.out _ _))
                clear hK5 K5 hHeld3
                try simp only [Act.put, List.setIfInBounds_toArray, List.set_cons_zero, List.set_cons_succ]
                refine wpAnyH_ready (rs := [6]) (by kernel_rfl) (by simp) ?_
                refine AllReadyH.cons (o := { dst := none, op := Go.Op.store 29 (Go.Operand.tmp 6) (Go.Operand.tmp 16), type := 0, pos := "exact.go:1751", after := #[{ on := 5, ground := Go.Ground.data }, { on := 4, ground := Go.Ground.data }, { on := 4, ground := Go.Ground.chain }, { on := 0, ground := Go.Ground.phase }, { on := 1, ground := Go.Ground.phase }, { on := 2, ground := Go.Ground.phase }, { on := 3, ground := Go.Ground.phase }, { on := 4, ground := Go.Ground.phase }, { on := 5, ground := Go.Ground.phase }], guard := none }) rfl (fun K6 hK6 => ?_) AllReadyH.nil
                go_simp
                refine hK6.out _ _ ?_ (fun hHeld5 => ?_)
                · (try dsimp only); (first | go_keep | exact TZ.keep (TZ.put ht3.out _ _))
                clear hK6 K6 hHeld4
                try simp only [Act.put, List.setIfInBounds_toArray, List.set_cons_zero, List.set_cons_succ]
                refine wpAnyH_done (by kernel_rfl) ?_ _
                (go_wp2_with fail; go_meet; first | exact ⟨_, rfl, TZ.put ht3.out _ _⟩ | exact ⟨_, rfl, TZ.made ht3.out⟩)
            · as_aux_lemma =>
                go_simp
                refine hK5.out _ _ ?_ (fun hHeld3 => ?_)
                · (try dsimp only); (first | go_keep | exact TZ.keep (TZ.put ht3.out _ _))
                clear hK5 K5 hHeld2
                try simp only [Act.put, List.setIfInBounds_toArray, List.set_cons_zero, List.set_cons_succ]
                refine wpAnyH_ready (rs := [4]) (by kernel_rfl) (by simp) ?_
                refine AllReadyH.cons (o := { dst := some 16, op := Go.Op.call { callee := Go.Callee.value (Go.Operand.func 13), args := #[Go.Operand.tmp 13, Go.Operand.tmp 15], argTypes := #[27, 29] }, type := 29, pos := "exact.go:1751", after := #[{ on := 1, ground := Go.Ground.data }, { on := 3, ground := Go.Ground.data }, { on := 3, ground := Go.Ground.chain }], guard := none }) rfl (fun K4 hK4 => ?_) AllReadyH.nil
                go_simp
                (refine (HI.out _).mono ?_; rintro e yw3 ⟨rfl, hb⟩; (first | have ht3 := Lib.hid (TZ.call ht2.out hb) | have ht3 := Lib.hid (TZ.call (TZ.new ht2.out _) hb) | have ht3 := Lib.hid (TB.call ht2.out hb)); clear hb; (first | (have c00 := (TZ.tb ht3.out).2.1.1.1; have c01 := (TZ.tb ht3.out).2.1.1.2.1; have c02 := (TZ.tb ht3.out).2.1.1.2.2; have c10 := (TZ.tb ht3.out).2.2.1.1.1; have c11 := (TZ.tb ht3.out).2.2.1.1.2; have zz0 := (TZ.row ht3.out).1.1; have zz1 := (TZ.row ht3.out).1.2; have fz0 := (TZ.row ht3.out).2.1; have fz1 := (TZ.row ht3.out).2.2) | (have c00 := (TB.id ht3.out).2.1.1.1; have c01 := (TB.id ht3.out).2.1.1.2.1; have c02 := (TB.id ht3.out).2.1.1.2.2; have c10 := (TB.id ht3.out).2.2.1.1.1; have c11 := (TB.id ht3.out).2.2.1.1.2)))
                go_wp2_with fail
                refine hK4.out _ _ ?_ (fun hHeld4 => ?_)
                · (try dsimp only); (first | go_keep | exact TZ.keep (TZ.put ht3.out _ _))
                clear hK4 K4 hHeld3
                try simp only [Act.put, List.setIfInBounds_toArray, List.set_cons_zero, List.set_cons_succ]
                refine wpAnyH_ready (rs := [6]) (by kernel_rfl) (by simp) ?_
                refine AllReadyH.cons (o := { dst := none, op := Go.Op.store 29 (Go.Operand.tmp 6) (Go.Operand.tmp 16), type := 0, pos := "exact.go:1751", after := #[{ on := 5, ground := Go.Ground.data }, { on := 4, ground := Go.Ground.data }, { on := 4, ground := Go.Ground.chain }, { on := 0, ground := Go.Ground.phase }, { on := 1, ground := Go.Ground.phase }, { on := 2, ground := Go.Ground.phase }, { on := 3, ground := Go.Ground.phase }, { on := 4, ground := Go.Ground.phase }, { on := 5, ground := Go.Ground.phase }], guard := none }) rfl (fun K6 hK6 => ?_) AllReadyH.nil
                go_simp
                refine hK6.out _ _ ?_ (fun hHeld5 => ?_)
                · (try dsimp only); (first | go_keep | exact TZ.keep (TZ.put ht3.out _ _))
                clear hK6 K6 hHeld4
                try simp only [Act.put, List.setIfInBounds_toArray, List.set_cons_zero, List.set_cons_succ]
                refine wpAnyH_done (by kernel_rfl) ?_ _
                (go_wp2_with fail; go_meet; first | exact ⟨_, rfl, TZ.put ht3.out _ _⟩ | exact ⟨_, rfl, TZ.made ht3.out⟩)
        · as_aux_lemma =>
            go_simp
            refine hK5.out _ _ ?_ (fun hHeld2 => ?_)
            · (try dsimp only); (first | go_keep | exact TZ.keep (TZ.put ht3.out _ _))
            clear hK5 K5 hHeld1
            try simp only [Act.put, List.setIfInBounds_toArray, List.set_cons_zero, List.set_cons_succ]
            refine wpAnyH_ready (rs := [3]) (by kernel_rfl) (by simp) ?_
            refine AllReadyH.cons (o := { dst := some 15, op := Go.Op.call { callee := Go.Callee.value (Go.Operand.func 21), args := #[Go.Operand.tmp 14], argTypes := #[44] }, type := 29, pos := "exact.go:1751", after := #[{ on := 2, ground := Go.Ground.data }, { on := 1, ground := Go.Ground.chain }], guard := none }) rfl (fun K3 hK3 => ?_) AllReadyH.nil
            go_simp
            (refine (wkL.toWalker_any x1 y1 _).mono ?_; rintro e yw2 ⟨rfl, hb⟩; (first | have ht2 := Lib.hid (TZ.call ht1.out hb) | have ht2 := Lib.hid (TZ.call (TZ.new ht1.out _) hb) | have ht2 := Lib.hid (TB.call ht1.out hb)); clear hb; (first | (have c00 := (TZ.tb ht2.out).2.1.1.1; have c01 := (TZ.tb ht2.out).2.1.1.2.1; have c02 := (TZ.tb ht2.out).2.1.1.2.2; have c10 := (TZ.tb ht2.out).2.2.1.1.1; have c11 := (TZ.tb ht2.out).2.2.1.1.2; have zz0 := (TZ.row ht2.out).1.1; have zz1 := (TZ.row ht2.out).1.2; have fz0 := (TZ.row ht2.out).2.1; have fz1 := (TZ.row ht2.out).2.2) | (have c00 := (TB.id ht2.out).2.1.1.1; have c01 := (TB.id ht2.out).2.1.1.2.1; have c02 := (TB.id ht2.out).2.1.1.2.2; have c10 := (TB.id ht2.out).2.2.1.1.1; have c11 := (TB.id ht2.out).2.2.1.1.2)))
            go_wp2_with fail
            refine hK3.out _ _ ?_ (fun hHeld3 => ?_)
            · (try dsimp only); (first | go_keep | exact TZ.keep (TZ.put ht3.out _ _))
            clear hK3 K3 hHeld2
            try simp only [Act.put, List.setIfInBounds_toArray, List.set_cons_zero, List.set_cons_succ]
            refine wpAnyH_ready (rs := [4]) (by kernel_rfl) (by simp) ?_
            refine AllReadyH.cons (o := { dst := some 16, op := Go.Op.call { callee := Go.Callee.value (Go.Operand.func 13), args := #[Go.Operand.tmp 13, Go.Operand.tmp 15], argTypes := #[27, 29] }, type := 29, pos := "exact.go:1751", after := #[{ on := 1, ground := Go.Ground.data }, { on := 3, ground := Go.Ground.data }, { on := 3, ground := Go.Ground.chain }], guard := none }) rfl (fun K4 hK4 => ?_) AllReadyH.nil
            go_simp
            (refine (HI.out _).mono ?_; rintro e yw3 ⟨rfl, hb⟩; (first | have ht3 := Lib.hid (TZ.call ht2.out hb) | have ht3 := Lib.hid (TZ.call (TZ.new ht2.out _) hb) | have ht3 := Lib.hid (TB.call ht2.out hb)); clear hb; (first | (have c00 := (TZ.tb ht3.out).2.1.1.1; have c01 := (TZ.tb ht3.out).2.1.1.2.1; have c02 := (TZ.tb ht3.out).2.1.1.2.2; have c10 := (TZ.tb ht3.out).2.2.1.1.1; have c11 := (TZ.tb ht3.out).2.2.1.1.2; have zz0 := (TZ.row ht3.out).1.1; have zz1 := (TZ.row ht3.out).1.2; have fz0 := (TZ.row ht3.out).2.1; have fz1 := (TZ.row ht3.out).2.2) | (have c00 := (TB.id ht3.out).2.1.1.1; have c01 := (TB.id ht3.out).2.1.1.2.1; have c02 := (TB.id ht3.out).2.1.1.2.2; have c10 := (TB.id ht3.out).2.2.1.1.1; have c11 := (TB.id ht3.out).2.2.1.1.2)))
            go_wp2_with fail
            refine hK4.out _ _ ?_ (fun hHeld4 => ?_)
            · (try dsimp only); (first | go_keep | exact TZ.keep (TZ.put ht3.out _ _))
            clear hK4 K4 hHeld3
            try simp only [Act.put, List.setIfInBounds_toArray, List.set_cons_zero, List.set_cons_succ]
            refine wpAnyH_ready (rs := [6]) (by kernel_rfl) (by simp) ?_
            refine AllReadyH.cons (o := { dst := none, op := Go.Op.store 29 (Go.Operand.tmp 6) (Go.Operand.tmp 16), type := 0, pos := "exact.go:1751", after := #[{ on := 5, ground := Go.Ground.data }, { on := 4, ground := Go.Ground.data }, { on := 4, ground := Go.Ground.chain }, { on := 0, ground := Go.Ground.phase }, { on := 1, ground := Go.Ground.phase }, { on := 2, ground := Go.Ground.phase }, { on := 3, ground := Go.Ground.phase }, { on := 4, ground := Go.Ground.phase }, { on := 5, ground := Go.Ground.phase }], guard := none }) rfl (fun K6 hK6 => ?_) AllReadyH.nil
            go_simp
            refine hK6.out _ _ ?_ (fun hHeld5 => ?_)
            · (try dsimp only); (first | go_keep | exact TZ.keep (TZ.put ht3.out _ _))
            clear hK6 K6 hHeld4
            try simp only [Act.put, List.setIfInBounds_toArray, List.set_cons_zero, List.set_cons_succ]
            refine wpAnyH_done (by kernel_rfl) ?_ _
            (go_wp2_with fail; go_meet; first | exact ⟨_, rfl, TZ.put ht3.out _ _⟩ | exact ⟨_, rfl, TZ.made ht3.out⟩)
    · as_aux_lemma =>
        go_simp
        refine hK5.out _ _ ?_ (fun hHeld1 => ?_)
        · (try dsimp only); (first | go_keep | exact TZ.keep (TZ.put ht3.out _ _))
        clear hK5 K5 hHeld0
        try simp only [Act.put, List.setIfInBounds_toArray, List.set_cons_zero, List.set_cons_succ]
        refine wpAnyH_ready (rs := [1]) (by kernel_rfl) (by simp) ?_
        refine AllReadyH.cons (o := { dst := some 13, op := Go.Op.call { callee := Go.Callee.value (Go.Operand.func 20), args := #[Go.Operand.tmp 12], argTypes := #[43] }, type := 27, pos := "exact.go:1751", after := #[{ on := 0, ground := Go.Ground.data }], guard := none }) rfl (fun K1 hK1 => ?_) AllReadyH.nil
        go_simp
        (refine (toMaze_any x0 y0 z0 _).mono ?_; rintro e yw1 ⟨rfl, hb⟩; (first | have ht1 := Lib.hid (TZ.call ht0.out hb) | have ht1 := Lib.hid (TZ.call (TZ.newd ht.out _) hb) | have ht1 := Lib.hid (TZ.call (TZ.new ht0.out _) hb) | have ht1 := Lib.hid (TB.call ht0.out hb)); clear hb; (first | (have c00 := (TZ.tb ht1.out).2.1.1.1; have c01 := (TZ.tb ht1.out).2.1.1.2.1; have c02 := (TZ.tb ht1.out).2.1.1.2.2; have c10 := (TZ.tb ht1.out).2.2.1.1.1; have c11 := (TZ.tb ht1.out).2.2.1.1.2; have zz0 := (TZ.row ht1.out).1.1; have zz1 := (TZ.row ht1.out).1.2; have fz0 := (TZ.row ht1.out).2.1; have fz1 := (TZ.row ht1.out).2.2) | (have c00 := (TB.id ht1.out).2.1.1.1; have c01 := (TB.id ht1.out).2.1.1.2.1; have c02 := (TB.id ht1.out).2.1.1.2.2; have c10 := (TB.id ht1.out).2.2.1.1.1; have c11 := (TB.id ht1.out).2.2.1.1.2)))
        go_wp2_with fail
        refine hK1.out _ _ ?_ (fun hHeld2 => ?_)
        · (try dsimp only); (first | go_keep | exact TZ.keep (TZ.put ht3.out _ _))
        clear hK1 K1 hHeld1
        try simp only [Act.put, List.setIfInBounds_toArray, List.set_cons_zero, List.set_cons_succ]
        refine wpAnyH_ready (rs := [3]) (by kernel_rfl) (by simp) ?_
        refine AllReadyH.cons (o := { dst := some 15, op := Go.Op.call { callee := Go.Callee.value (Go.Operand.func 21), args := #[Go.Operand.tmp 14], argTypes := #[44] }, type := 29, pos := "exact.go:1751", after := #[{ on := 2, ground := Go.Ground.data }, { on := 1, ground := Go.Ground.chain }], guard := none }) rfl (fun K3 hK3 => ?_) AllReadyH.nil
        go_simp
        (refine (wkL.toWalker_any x1 y1 _).mono ?_; rintro e yw2 ⟨rfl, hb⟩; (first | have ht2 := Lib.hid (TZ.call ht1.out hb) | have ht2 := Lib.hid (TZ.call (TZ.new ht1.out _) hb) | have ht2 := Lib.hid (TB.call ht1.out hb)); clear hb; (first | (have c00 := (TZ.tb ht2.out).2.1.1.1; have c01 := (TZ.tb ht2.out).2.1.1.2.1; have c02 := (TZ.tb ht2.out).2.1.1.2.2; have c10 := (TZ.tb ht2.out).2.2.1.1.1; have c11 := (TZ.tb ht2.out).2.2.1.1.2; have zz0 := (TZ.row ht2.out).1.1; have zz1 := (TZ.row ht2.out).1.2; have fz0 := (TZ.row ht2.out).2.1; have fz1 := (TZ.row ht2.out).2.2) | (have c00 := (TB.id ht2.out).2.1.1.1; have c01 := (TB.id ht2.out).2.1.1.2.1; have c02 := (TB.id ht2.out).2.1.1.2.2; have c10 := (TB.id ht2.out).2.2.1.1.1; have c11 := (TB.id ht2.out).2.2.1.1.2)))
        go_wp2_with fail
        refine hK3.out _ _ ?_ (fun hHeld3 => ?_)
        · (try dsimp only); (first | go_keep | exact TZ.keep (TZ.put ht3.out _ _))
        clear hK3 K3 hHeld2
        try simp only [Act.put, List.setIfInBounds_toArray, List.set_cons_zero, List.set_cons_succ]
        refine wpAnyH_ready (rs := [4]) (by kernel_rfl) (by simp) ?_
        refine AllReadyH.cons (o := { dst := some 16, op := Go.Op.call { callee := Go.Callee.value (Go.Operand.func 13), args := #[Go.Operand.tmp 13, Go.Operand.tmp 15], argTypes := #[27, 29] }, type := 29, pos := "exact.go:1751", after := #[{ on := 1, ground := Go.Ground.data }, { on := 3, ground := Go.Ground.data }, { on := 3, ground := Go.Ground.chain }], guard := none }) rfl (fun K4 hK4 => ?_) AllReadyH.nil
        go_simp
        (refine (HI.out _).mono ?_; rintro e yw3 ⟨rfl, hb⟩; (first | have ht3 := Lib.hid (TZ.call ht2.out hb) | have ht3 := Lib.hid (TZ.call (TZ.new ht2.out _) hb) | have ht3 := Lib.hid (TB.call ht2.out hb)); clear hb; (first | (have c00 := (TZ.tb ht3.out).2.1.1.1; have c01 := (TZ.tb ht3.out).2.1.1.2.1; have c02 := (TZ.tb ht3.out).2.1.1.2.2; have c10 := (TZ.tb ht3.out).2.2.1.1.1; have c11 := (TZ.tb ht3.out).2.2.1.1.2; have zz0 := (TZ.row ht3.out).1.1; have zz1 := (TZ.row ht3.out).1.2; have fz0 := (TZ.row ht3.out).2.1; have fz1 := (TZ.row ht3.out).2.2) | (have c00 := (TB.id ht3.out).2.1.1.1; have c01 := (TB.id ht3.out).2.1.1.2.1; have c02 := (TB.id ht3.out).2.1.1.2.2; have c10 := (TB.id ht3.out).2.2.1.1.1; have c11 := (TB.id ht3.out).2.2.1.1.2)))
        go_wp2_with fail
        refine hK4.out _ _ ?_ (fun hHeld4 => ?_)
        · (try dsimp only); (first | go_keep | exact TZ.keep (TZ.put ht3.out _ _))
        clear hK4 K4 hHeld3
        try simp only [Act.put, List.setIfInBounds_toArray, List.set_cons_zero, List.set_cons_succ]
        refine wpAnyH_ready (rs := [6]) (by kernel_rfl) (by simp) ?_
        refine AllReadyH.cons (o := { dst := none, op := Go.Op.store 29 (Go.Operand.tmp 6) (Go.Operand.tmp 16), type := 0, pos := "exact.go:1751", after := #[{ on := 5, ground := Go.Ground.data }, { on := 4, ground := Go.Ground.data }, { on := 4, ground := Go.Ground.chain }, { on := 0, ground := Go.Ground.phase }, { on := 1, ground := Go.Ground.phase }, { on := 2, ground := Go.Ground.phase }, { on := 3, ground := Go.Ground.phase }, { on := 4, ground := Go.Ground.phase }, { on := 5, ground := Go.Ground.phase }], guard := none }) rfl (fun K6 hK6 => ?_) AllReadyH.nil
        go_simp
        refine hK6.out _ _ ?_ (fun hHeld5 => ?_)
        · (try dsimp only); (first | go_keep | exact TZ.keep (TZ.put ht3.out _ _))
        clear hK6 K6 hHeld4
        try simp only [Act.put, List.setIfInBounds_toArray, List.set_cons_zero, List.set_cons_succ]
        refine wpAnyH_done (by kernel_rfl) ?_ _
        (go_wp2_with fail; go_meet; first | exact ⟨_, rfl, TZ.put ht3.out _ _⟩ | exact ⟨_, rfl, TZ.made ht3.out⟩)
  case rest =>
  obtain ⟨B_g0, rfl, htz⟩ := hcut
  clear c00 c01 c02
  clear c10 c11
  clear dw00 dw01
  clear ht
  replace hbl := Lib.hid htz.1.1
  replace hxc0 := Lib.hid htz.1.2.1
  replace hxc1 := Lib.hid htz.1.2.2.1
  replace hr_w0 := Lib.hid (htz.1.2.2.2 _ rfl)
  have hr_g0 := Lib.hid htz.2.1
  clear htz
  obtain ⟨c00, c01, c02⟩ := hxc0.out.1
  obtain ⟨c10, c11⟩ := hxc1.out.1
  obtain ⟨⟨dw00, dw01⟩, -⟩ := row2_cells hr_w0.out
  obtain ⟨⟨dg00, dg01⟩, -⟩ := row2_cells hr_g0.out
  go_wp2_with fail
  refine (wkL.eqWalker_same r0x r0y _).mono ?_
  rintro e w1 ⟨rfl, hb⟩
  clear c00 c01 c02
  clear c10 c11
  clear dw00 dw01
  clear dg00 dg01
  replace hbl := Lib.hid (below_call hbl.out hb)
  replace hxc0 := Lib.hid (hxc0.out.call hb)
  replace hxc1 := Lib.hid (hxc1.out.call hb)
  replace hr_w0 := Lib.hid (Row2.call hr_w0.out hb)
  replace hr_g0 := Lib.hid (Row2.call hr_g0.out hb)
  clear hb
  go_wp2_with fail
  go_ret
  exact HK.out _ hbl.out

set_option maxRecDepth 100000 in
theorem walk (x0 y0 z0 : Int) (x1 y1 : Int) (W : World) (wx0 : (Lit.int .i64 x0).wf = true) (wy0 : (Lit.int .i64 y0).wf = true) (wz0 : (Lit.int .i64 z0).wf = true) (wx1 : (Lit.int .i64 x1).wf = true) (wy1 : (Lit.int .i64 y1).wf = true) :
    Calls Try.prog 5 #[.agg #[.int .i64 x0, .int .i64 y0, .int .i64 z0], .agg #[.int .i64 x1, .int .i64 y1]] W (Yes W) := by
  exact walk_at x0 y0 z0 x1 y1 (hsC x0 y0 z0 x1 y1) (hsF x0 y0 z0 x1 y1) W
    (Lib.hid (fun  X => handM.handStep_any x0 y0 z0 x1 y1 X ))
    (Lib.hid (fun  X => handI.handStep_any x0 y0 z0 x1 y1 X ))

set_option maxRecDepth 100000 in
theorem lifted (os : Os) (started : os.Started) (H : Type) (enc : TypeId × Value → H) :
    ReturnsInHanded {} Try.checked os 5 .any (Rows.fnExactHandStepSpec.pre6 enc Try.prog Try.f5 Rows.fnExactHandStepRow.domain false) (Rows.fnExactHandStepSpec.post enc Try.prog Try.f5 false true false false) := by
  refine returnsInHanded_of_change (C := Try.checked) own started (by kernel_rfl) Try.func5
    (ChangeSpec.witness6 (enc := enc) (C := Try.checked) false ⟨#[], #[.agg #[.int .i64 0, .int .i64 0, .int .i64 0], .agg #[.int .i64 0, .int .i64 0]], []⟩ 8 (by kernel_rfl) (by kernel_rfl) (by kernel_rfl) (by kernel_rfl)) ?_
  intro W base args ds gs before hval0 hW _ _
  have hval : ∀ (j : Nat) t v, Try.f5.params[j]? = some t → args[j]? = some v → Value.okWide Try.prog W .any base t v := hval0
  have hW' := hW
  obtain ⟨p, q, hA0, hV, rfl, hfz, hnd⟩ := hW
  have hA : DataW.TrodAll enc Try.prog W 0 (fun _ => true) true Try.f5.params.toList args.toList ds p := hA0
  rw [Try.params5] at hA hval
  obtain ⟨v0, vs0, d0, ds0, p0, q0, hargs, rfl, rfl, h0, r0⟩ := trodAll_cons hA
  obtain ⟨v1, vs1, d1, ds1, p1, q1, rfl, rfl, rfl, h1, r1⟩ := trodAll_cons r0
  obtain ⟨rfl, rfl, rfl⟩ := trodAll_nil r1
  obtain rfl : args = #[v0, v1] := by cases args; simp_all
  obtain ⟨rfl, rfl⟩ := trodVars_none hV
  clear hA0 hval0
  simp only [List.append_nil] at hW'
  obtain ⟨x0, y0, z0, rfl, rfl, rfl, wx0, wy0, wz0⟩ := mazeR.open_maze (hval 0 43 v0 rfl rfl) h0
  obtain ⟨x1, y1, rfl, rfl, rfl, wx1, wy1⟩ := wkL.open_walker (hval 1 44 v1 rfl rfl) h1
  refine (walk x0 y0 z0 x1 y1 W wx0 wy0 wz0 wx1 wy1).mono fun e W' ⟨he, hg⟩ => ?_
  subst he
  exact ⟨_, rfl, post_below (pa := []) (pv := []) hW' (fun _ _ _ => (trodAll_cons_mk (shut_bool Try.underlying4 _) trodAll_mk0)) (fun sp _ => (trodAll_cons_mk (mazeR.shut_maze wx0 wy0 wz0) (trodAll_cons_mk (wkL.shut_walker wx1 wy1) trodAll_mk0))) (fun _ _ => rfl) (by simp)
    hg (ok_one (by kernel_rfl) rfl (okWide_bool_mk Try.underlying4 _))⟩

theorem over : Rows.fnExactHandStepRow.holds Try.pinned (OpenSpec.ofChange Rows.fnExactHandStepSpec) :=
  OpenClaim.holds_of_wide 5 Try.f5 rfl rfl rfl rfl rfl rfl rfl ⟨rfl, rfl, rfl, rfl, rfl⟩ rfl rfl rfl rfl rfl (by kernel_rfl) Try.func5 (by kernel_rfl)
    (of_decide_eq_true (by kernel_rfl)) (by unfold Func.isWrapper; first | (rw [if_pos (by decide +kernel)]; kernel_rfl) | (rw [if_neg (by decide +kernel)]; exact ⟨rfl, rfl⟩))
    (fun os started H enc _ => lifted os started H enc)

theorem proved : Rows.FnExactHandStepSaid :=
  over
end Go.Proofs.Ytkknnikhpembiaa.fnExactHandStep
