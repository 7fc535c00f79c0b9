/- The draw of a perfect maze and a walker in it. -/
import Derived.Test.YtkknnikhpembiaaHandM
import Derived.Test.YtkknnikhpembiaaTreA
namespace Go.Proofs.Ytkknnikhpembiaa.handD
open Go.ChangeShapes Go.WideShapes Go.ChangeAt Go.RowKit
open draw gridP gridC gridE bitP mazeP mazeQ mazeC mazeM mazeR mazeE intsP forest treP reachP reachM reachN listW handM treA
set_option linter.unusedVariables false

theorem grown_of_below {w w' : World} {row : Option Nat} (hb : Below w.heap.size w w') : w.grownBy w' row := ⟨hb.os, hb.tape, hb.output, hb.size, fun k hk _ => hb.block k hk⟩
theorem row3_set {b : Nat} {x y z x' y' z' : Int} {X : World} (h : Row3 b x y z X) : Row3 b x' y' z' (((X.setCell ⟨b, 0, none⟩ (.int .i64 x')).setCell ⟨b, 1, none⟩ (.int .i64 y')).setCell ⟨b, 2, none⟩ (.int .i64 z')) := by
  obtain ⟨T, h⟩ := h
  exact ⟨T, by simp [World.setCell, Array.getElem?_modify, h]⟩
theorem row3_far {b : Nat} {x y z : Int} {X : World} (h : Row3 b x y z X) {p : Addr} (hp : p.block ≠ b) (u : Value) : Row3 b x y z (X.setCell p u) := by
  obtain ⟨T, h⟩ := h
  exact ⟨T, (Below.heap_setCell X p u b (fun e => hp e.symm)).trans h⟩
theorem bdr (w : World) : Below w.heap.size w w.drew := ⟨rfl, rfl, rfl, Nat.le_refl _, fun _ _ => rfl⟩
/-- A walker in a maze of N cells is drawn with the cursor. -/
def DrawnW (N g : Nat) (w : World) (e : Ending) (w' : World) : Prop := ∃ c f : Nat, (c < N ∧ f < 4) ∧ e = .returned (.agg #[.int .i64 c, .int .i64 f]) ∧ Cur w' g ∧ w.grownBy w' (some g)
theorem drawnW_mk {w X Y : World} {g N B : Nat} {c f : Nat} (hlt : g < w.heap.size) (hB : w.heap.size ≤ B) (hz : c < N ∧ f < 4) (hc : Cur X g) (hg : w.grownBy X (some g))
    (hY : Y = (X.setCell ⟨B, 0, none⟩ (.int .i64 c)).setCell ⟨B, 1, none⟩ (.int .i64 f)) : DrawnW N g w (.returned (.agg #[.int .i64 c, .int .i64 f])) Y := by
  subst hY
  exact ⟨c, f, hz, rfl, cur_set (cur_set hc (by simp; omega) _) (by simp; omega) _, grown_put (grown_put hg (by simp; omega) _) (by simp; omega) _⟩
theorem walker_any (g : Nat) (x y z : Int) (w : World) (hc : Cur w g) (hk : OkZ x y) :
    Calls Try.prog 37 #[.pointer (some ⟨g, 0, none⟩), .agg #[.int .i64 x, .int .i64 y, .int .i64 z]] w (DrawnW (cN x y) g w) := by
  have hlt := hc.lt
  have HD := @Lib.hid _ (fun X Y c f a b d e => @drawnW_mk w X Y g (cN x y) (w.heap.size + 1) c f hlt (by omega) a b d e)
  have hC : caN x y = cN x y := by unfold caN; rw [if_pos hk]
  have HC := Lib.hid (fun X => cellsA x y X)
  rw [hC] at HC
  have hN := deadR.nn3 hk
  obtain ⟨-, n1, n2⟩ := hN
  have HX := Lib.hid (fun T1 T2 => (mbox_new x y z w T1).call (below_box _ (.cells #[.int .i64 0, .int .i64 0] T2)))
  have HR : Hid (∀ T1 T2, Row2 (w.heap.size + 1) 0 0 ((w.alloc (.cells #[.int .i64 x, .int .i64 y, .int .i64 z] T1)).alloc (.cells #[.int .i64 0, .int .i64 0] T2))) := Lib.hid (fun T1 T2 => by
    have := row2_new 0 0 (w.alloc (.cells #[.int .i64 x, .int .i64 y, .int .i64 z] T1)) T2
    simpa using this)
  have HCu := Lib.hid (fun o o' => (hc.alloc1 o).alloc1 o')
  have HGr := Lib.hid (fun o o' => only_alloc1 (only_alloc1 (World.grownBy.refl w (some g)) o) o')
  clear hC hk
  generalize cN x y = N at *
  go_enter Try.func37, Try.ntmps37
  go_wp2_with fail
  have hx0 := Lib.hid (HX.out 27 29)
  have hr0 := Lib.hid (HR.out 27 29)
  have hcu0 := Lib.hid (HCu.out (.cells #[.int .i64 x, .int .i64 y, .int .i64 z] 27) (.cells #[.int .i64 0, .int .i64 0] 29))
  have hgr0 := Lib.hid (HGr.out (.cells #[.int .i64 x, .int .i64 y, .int .i64 z] 27) (.cells #[.int .i64 0, .int .i64 0] 29))
  obtain ⟨⟨m0, m1, m2⟩, -⟩ := hx0.out
  clear HX HR HCu HGr
  go_wp2_with fail
  refine (HC.out _).mono ?_
  rintro e w1 ⟨rfl, hb⟩
  have hr1 := Lib.hid (hr0.out.call hb)
  have hcu1 := Lib.hid (hcu0.out.kept hb hcu0.out.lt)
  have hgr1 := Lib.hid (only_trans hgr0.out (grown_of_below hb))
  clear hb hr0 hcu0 hgr0 hx0 m0 m1 m2
  by_cases hN1 : N = 1
  · subst hN1
    go_wp2_with fail
    refine (below_any g 1 _ hcu1.out (by omega) (by omega)).mono ?_
    rintro e w2 ⟨c, hc0, rfl, hcu2, hg2⟩
    have HC0 := Lib.hid hc0
    have hr2 := Lib.hid (row2_grown hr1.out hg2 (fun e => by injection e with e; omega))
    have hcu2' := Lib.hid hcu2
    have hgr2 := Lib.hid (only_trans hgr1.out hg2)
    clear hc0 hcu2 hg2 hr1 hcu1 hgr1
    go_wp2_with fail
    refine (below_any g 4 _ hcu2'.out (by omega) (by omega)).mono ?_
    rintro e w3 ⟨f, hf0, rfl, hcu3, hg3⟩
    have HF0 := Lib.hid hf0
    have hr3 := Lib.hid (row2_grown hr2.out hg3 (fun e => by injection e with e; omega))
    have hcu3' := Lib.hid hcu3
    have hgr3 := Lib.hid (only_trans hgr2.out hg3)
    clear hf0 hcu3 hg3 hr2 hcu2' hgr2
    obtain ⟨⟨a0, a1⟩, fa0, fa1⟩ := row2_cells hr3.out
    go_wp2_with fail
    refine ret_set2 a0 a1 fun Y g0 g1 hY => ?_
    exact bodyPost_ret (v := .agg #[.int .i64 (c : Int), .int .i64 (f : Int)]) (by simp [results, Try.results37, go_sem, g0, g1]) rfl (HD.out _ _ _ _ ⟨by have := HC0.out; omega, by have := HF0.out; omega⟩ hcu3'.out hgr3.out hY)
  · have hN2 : (1 : Int) < (N : Int) := by omega
    go_wp2_with fail
    refine (below_any g (N : Int) _ hcu1.out (by omega) (by omega)).mono ?_
    rintro e w2 ⟨c, hc0, rfl, hcu2, hg2⟩
    have HC0 := Lib.hid hc0
    have hr2 := Lib.hid (row2_grown hr1.out hg2 (fun e => by injection e with e; omega))
    have hcu2' := Lib.hid hcu2
    have hgr2 := Lib.hid (only_trans hgr1.out hg2)
    clear hc0 hcu2 hg2 hr1 hcu1 hgr1
    go_wp2_with fail
    refine (below_any g 4 _ hcu2'.out (by omega) (by omega)).mono ?_
    rintro e w3 ⟨f, hf0, rfl, hcu3, hg3⟩
    have HF0 := Lib.hid hf0
    have hr3 := Lib.hid (row2_grown hr2.out hg3 (fun e => by injection e with e; omega))
    have hcu3' := Lib.hid hcu3
    have hgr3 := Lib.hid (only_trans hgr2.out hg3)
    clear hf0 hcu3 hg3 hr2 hcu2' hgr2
    obtain ⟨⟨a0, a1⟩, fa0, fa1⟩ := row2_cells hr3.out
    go_wp2_with fail
    refine ret_set2 a0 a1 fun Y g0 g1 hY => ?_
    exact bodyPost_ret (v := .agg #[.int .i64 (c : Int), .int .i64 (f : Int)]) (by simp [results, Try.results37, go_sem, g0, g1]) rfl (HD.out _ _ _ _ ⟨by have := HC0.out; omega, by have := HF0.out; omega⟩ hcu3'.out hgr3.out hY)

/-- A perfect maze and a walker in it are drawn from a code. -/
def PerfWalker (w : World) (e : Ending) (w' : World) : Prop := ∃ (x y : Int) (o c f : Nat), (OkZ x y ∧ (o < 2 ^ gN x y ∧ lp x y o = 0 ∧ pt x y o = 1) ∧ c < cN x y ∧ f < 4) ∧ e = .returned (.tuple #[.agg #[.int .i64 x, .int .i64 y, .int .i64 o], .agg #[.int .i64 c, .int .i64 f]]) ∧ Below w.heap.size w w'
theorem drawWalker_any (A : Option Addr) (n c : Nat) (w : World) (hn : n ≤ maxLen) (hb : BytesIn w w.heap.size A n) :
    Calls Try.prog 11 #[.slice A n c] w (PerfWalker w) := by
  have hb2 := below_two w (.cells #[.int .i64 0, .int .i64 0, .int .i64 0] 27) (.cells #[.int .i64 0, .int .i64 0] 29)
  have HB := Lib.hid hb2
  have HY := Lib.hid ((hb.keep (w' := ((w.alloc (.cells #[.int .i64 0, .int .i64 0, .int .i64 0] 27)).alloc (.cells #[.int .i64 0, .int .i64 0] 29))) fun p hp => hb2.cell hp).more (B' := w.heap.size + 1 + 1) (by omega))
  have HR1 : Hid (Row3 w.heap.size 0 0 0 ((w.alloc (.cells #[.int .i64 0, .int .i64 0, .int .i64 0] 27)).alloc (.cells #[.int .i64 0, .int .i64 0] 29))) := Lib.hid ((row3_new 0 0 0 w _).call (below_box _ _))
  have HR2 : Hid (Row2 (w.heap.size + 1) 0 0 ((w.alloc (.cells #[.int .i64 0, .int .i64 0, .int .i64 0] 27)).alloc (.cells #[.int .i64 0, .int .i64 0] 29))) := Lib.hid (by
    have := row2_new 0 0 (w.alloc (.cells #[.int .i64 0, .int .i64 0, .int .i64 0] 27)) 29
    simpa using this)
  clear hb hb2
  go_enter Try.func11, Try.ntmps11
  go_wp2_with fail
  refine (new_any A n c _ hn (by simpa using HY.out)).mono ?_
  rintro e w1 ⟨rfl, hc1, hb1, hs1⟩
  have hc1' : Cur w1 (w.heap.size + 1 + 1) := by simpa using hc1
  have hr31 := Lib.hid (HR1.out.call hb1)
  have hr21 := Lib.hid (HR2.out.call hb1)
  have HB1 := Lib.hid (HB.out.trans (hb1.mono (by simp; omega)))
  have hz1 : w.heap.size + 1 + 1 < w1.heap.size := by simp at hs1; omega
  clear hs1 hb1 HR1 HR2 HB HY hc1
  go_wp2_with fail
  refine (tree5_any _ _ hc1').mono ?_
  rintro e w2 ⟨x, y, o, hk, hz, rfl, hc2, hg2⟩
  have HV := Lib.hid hk
  have HZ := Lib.hid hz
  have hr32 := Lib.hid (row3_grown hr31.out hg2 (by omega))
  have hr22 := Lib.hid (row2_grown hr21.out hg2 (fun e => by injection e with e; omega))
  have HB2 := Lib.hid (HB1.out.grown hg2 (by omega) (fun k hk => by cases hk; omega))
  have hz2 := hg2.size
  have hm3 := Lib.hid (row3_new x y o w2 27)
  have hc3 := Lib.hid (hc2.alloc1 (.cells #[.int .i64 x, .int .i64 y, .int .i64 o] 27))
  have hr33 := Lib.hid (hr32.out.call (below_box w2 (.cells #[.int .i64 x, .int .i64 y, .int .i64 o] 27)))
  have hr23 := Lib.hid (hr22.out.call (below_box w2 (.cells #[.int .i64 x, .int .i64 y, .int .i64 o] 27)))
  have HB3 := Lib.hid (HB2.out.alloc (by omega) (.cells #[.int .i64 x, .int .i64 y, .int .i64 o] 27))
  clear hg2 hc1' hc2 hk hz hr31 hr21 hr32 hr22 HB1 HB2
  go_wp2_with fail
  generalize w2.alloc (.cells #[.int .i64 x, .int .i64 y, .int .i64 o] 27) = w3 at *
  generalize hM : w2.heap.size = M at *
  obtain ⟨⟨m0, m1, m2⟩, -⟩ := row3_cells hm3.out
  obtain ⟨⟨a0, a1, a2⟩, fa0, fa1, fa2⟩ := row3_cells hr33.out
  obtain ⟨⟨b0, b1⟩, fb0, fb1⟩ := row2_cells hr23.out
  have hn3 : M ≠ w.heap.size + 1 + 1 := by omega
  have hn4 : w.heap.size ≠ w.heap.size + 1 + 1 := by omega
  have hn5 : (some (w.heap.size + 1 + 1) : Option Nat) ≠ some (w.heap.size + 1) := fun e => by injection e with e; omega
  have hn1 : (w.heap.size = M) = False := by simp; omega
  have hn2 : (w.heap.size + 1 = M) = False := by simp; omega
  try simp only [List.cons_append, List.nil_append, List.append_eq]
  refine wp_region_held_drew (S := (fun w' => w'.cell? ⟨M, 0, none⟩ = some (.int .i64 x) ∧ w'.cell? ⟨M, 1, none⟩ = some (.int .i64 y) ∧ w'.cell? ⟨M, 2, none⟩ = some (.int .i64 o))) (by kernel_rfl) ?_ (fun hHeld0 => ?_)
  · (try dsimp only); go_keep
  refine wpAnyH_take (i := 0) (oi := { dst := some 10, op := Go.Op.load 27 (Go.Operand.tmp 5), type := 27, pos := "l10_hand.go:117", after := #[], guard := none }) (v := ?_) rfl (by kernel_rfl) (by kernel_rfl) (by kernel_rfl) (fun _ _ _ h => h) (Or.inl ⟨by rfl, ?_⟩) (by assumption) ?_
  rotate_left
  · (intro w hSw; (try dsimp only at hSw); go_simp; try with_reducible rfl)
  try simp only [Act.put, List.setIfInBounds_toArray, List.set_cons_zero, List.set_cons_succ]
  refine wpAnyH_take (i := 1) (oi := { dst := some 11, op := Go.Op.move (Go.Operand.tmp 4), type := 55, pos := "l10_hand.go:117", after := #[], guard := none }) (v := ?_) rfl (by kernel_rfl) (by kernel_rfl) (by kernel_rfl) (fun _ _ _ h => h) (Or.inl ⟨by rfl, ?_⟩) (by assumption) ?_
  rotate_left
  · (intro w hSw; (try dsimp only at hSw); go_simp; try with_reducible rfl)
  try simp only [Act.put, List.setIfInBounds_toArray, List.set_cons_zero, List.set_cons_succ]
  refine wpAnyH_take (i := 2) (oi := { dst := some 12, op := Go.Op.load 27 (Go.Operand.tmp 5), type := 27, pos := "l10_hand.go:117", after := #[], guard := none }) (v := ?_) rfl (by kernel_rfl) (by kernel_rfl) (by kernel_rfl) (fun _ _ _ h => h) (Or.inl ⟨by rfl, ?_⟩) (by assumption) ?_
  rotate_left
  · (intro w hSw; (try dsimp only at hSw); go_simp; try with_reducible rfl)
  try simp only [Act.put, List.setIfInBounds_toArray, List.set_cons_zero, List.set_cons_succ]
  refine wpAnyH_ready (rs := [3]) (by kernel_rfl) (by simp) ?_
  refine AllReadyH.cons (o := { dst := some 13, op := Go.Op.call { callee := Go.Callee.value (Go.Operand.func 37), args := #[Go.Operand.tmp 11, Go.Operand.tmp 12], argTypes := #[55, 27] }, type := 29, pos := "l10_hand.go:117", after := #[{ on := 1, ground := Go.Ground.data }, { on := 2, ground := Go.Ground.data }], guard := none }) rfl (fun K3 hK3 => ?_) AllReadyH.nil
  go_simp
  (refine (walker_any _ x y o _ (hc3.out.kept (bdr _) hc3.out.lt) HV.out).mono ?_; rintro e v1 ⟨c', f', hcf, rfl, hcu4, hg4⟩; have hm4 := Lib.hid (row3_grown (hm3.out.call (bdr _)) hg4 hn3); obtain ⟨⟨p1, q1, r1⟩, -⟩ := row3_cells hm4.out; have hr34 := Lib.hid (row3_grown (hr33.out.call (bdr _)) hg4 hn4); have hr24 := Lib.hid (row2_grown (hr23.out.call (bdr _)) hg4 hn5); obtain ⟨⟨a0', a1', a2'⟩, fa0', fa1', fa2'⟩ := row3_cells hr34.out; obtain ⟨⟨b0', b1'⟩, fb0', fb1'⟩ := row2_cells hr24.out)
  go_wp2_with fail
  refine hK3.out _ _ ?_ (fun hHeld1 => ?_)
  · (try dsimp only); go_keep
  clear hK3 K3 hHeld0
  try simp only [Act.put, List.setIfInBounds_toArray, List.set_cons_zero, List.set_cons_succ]
  refine wpAnyH_ready (rs := [4]) (by kernel_rfl) (by simp) ?_
  refine AllReadyH.cons (o := { dst := none, op := Go.Op.store 27 (Go.Operand.tmp 2) (Go.Operand.tmp 10), type := 0, pos := "l10_hand.go:117", after := #[{ on := 0, ground := Go.Ground.data }, { on := 3, ground := Go.Ground.chain }, { on := 0, ground := Go.Ground.phase }, { on := 1, ground := Go.Ground.textOnly Go.Departure.lateStores }, { on := 2, ground := Go.Ground.textOnly Go.Departure.lateStores }, { on := 3, ground := Go.Ground.textOnly Go.Departure.lateStoresUnsure }], guard := none }) rfl (fun K4 hK4 => ?_) AllReadyH.nil
  go_simp
  refine hK4.out _ _ ?_ (fun hHeld2 => ?_)
  · (try dsimp only); go_keep
  clear hK4 K4 hHeld1
  try simp only [Act.put, List.setIfInBounds_toArray, List.set_cons_zero, List.set_cons_succ]
  refine wpAnyH_ready (rs := [5]) (by kernel_rfl) (by simp) ?_
  refine AllReadyH.cons (o := { dst := none, op := Go.Op.store 29 (Go.Operand.tmp 3) (Go.Operand.tmp 13), type := 0, pos := "l10_hand.go:117", after := #[{ on := 3, ground := Go.Ground.data }, { on := 4, ground := Go.Ground.chain }, { on := 0, ground := Go.Ground.phase }, { on := 1, ground := Go.Ground.phase }, { on := 2, ground := Go.Ground.phase }, { on := 3, ground := Go.Ground.phase }, { on := 4, ground := Go.Ground.phase }], guard := none }) rfl (fun K5 hK5 => ?_) AllReadyH.nil
  go_simp
  refine hK5.out _ _ ?_ (fun hHeld3 => ?_)
  · (try dsimp only); go_keep
  clear hK5 K5 hHeld2
  try simp only [Act.put, List.setIfInBounds_toArray, List.set_cons_zero, List.set_cons_succ]
  refine wpAnyH_done (by kernel_rfl) ?_ _
  have HB4 := ((HB3.out.trans ((bdr w3).mono HB3.out.size)).grown hg4 (by have := HB3.out.size; simpa using this) (fun k hk => by cases hk; omega))
  have HB5 := Lib.hid (((((HB4.setCell (p := ⟨w.heap.size, 0, none⟩) (Nat.le_refl _) (.int .i64 x)).setCell (p := ⟨w.heap.size, 1, none⟩) (Nat.le_refl _) (.int .i64 y)).setCell (p := ⟨w.heap.size, 2, none⟩) (Nat.le_refl _) (.int .i64 o)).setCell (p := ⟨w.heap.size + 1, 0, none⟩) (by simp) (.int .i64 c')).setCell (p := ⟨w.heap.size + 1, 1, none⟩) (by simp) (.int .i64 f'))
  have hr35 := row3_far (row3_far (row3_set (x' := x) (y' := y) (z' := o) hr34.out) (p := ⟨w.heap.size + 1, 0, none⟩) (by simp) (.int .i64 c')) (p := ⟨w.heap.size + 1, 1, none⟩) (by simp) (.int .i64 f')
  have hr25 := row2_set (x' := c') (y' := f') (row2_far (row2_far (row2_far hr24.out (p := ⟨w.heap.size, 0, none⟩) (by simp) (.int .i64 x)) (p := ⟨w.heap.size, 1, none⟩) (by simp) (.int .i64 y)) (p := ⟨w.heap.size, 2, none⟩) (by simp) (.int .i64 o))
  obtain ⟨⟨y0, y1, y2⟩, -⟩ := row3_cells hr35
  obtain ⟨⟨z0, z1⟩, -⟩ := row2_cells hr25
  clear hr35 hr25 HB4 hr34 hr24 hm4 a0' a1' a2' b0' b1' p1 q1 r1 a0 a1 a2 b0 b1 m0 m1 m2 fa0 fa1 fa2 fb0 fb1 fa0' fa1' fa2' fb0' fb1' hcu4 hg4
  generalize (((((v1.setCell ⟨w.heap.size, 0, none⟩ (.int .i64 x)).setCell ⟨w.heap.size, 1, none⟩ (.int .i64 y)).setCell ⟨w.heap.size, 2, none⟩ (.int .i64 o)).setCell ⟨w.heap.size + 1, 0, none⟩ (.int .i64 c')).setCell ⟨w.heap.size + 1, 1, none⟩ (.int .i64 f')) = Y at *
  have HCF := Lib.hid hcf
  clear hcf
  go_wp2_with fail
  exact bodyPost_ret (v := .tuple #[.agg #[.int .i64 x, .int .i64 y, .int .i64 o], .agg #[.int .i64 c', .int .i64 f']]) (by simp [results, Try.results11, go_sem, y0, y1, y2, z0, z1]) rfl ⟨x, y, o, c', f', ⟨HV.out, HZ.out, HCF.out.1, HCF.out.2⟩, rfl, HB5.out⟩
end Go.Proofs.Ytkknnikhpembiaa.handD
