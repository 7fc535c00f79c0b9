/- The contract of the program's walls. -/
import Derived.Test.YthakbjdkcdppjaaGrwJ1
import Derived.Test.YthakbjdkcdppjaaPrgM
import Derived.Defers
namespace Go.Proofs.Ythakbjdkcdppjaa.grwJ
open Go.ChangeShapes Go.WideShapes Go.ChangeAt Go.RowKit
open draw gridP gridC gridE bitP mazeP mazeC mazeM mazeR mazeI intsP reachP reachM reachN reachD intA listK wayP ersP ersO entO grwP grwO grwI
set_option linter.unusedVariables false

theorem grw_trans {W X X' : World} {D : Nat} (h : W.grownBy X (some D)) (g : X.grownBy X' (some D)) : W.grownBy X' (some D) :=
  ⟨g.os.trans h.os, g.tape.trans h.tape, g.output.trans h.output, Nat.le_trans h.size g.size, fun k hk hne => (g.block k (Nat.lt_of_lt_of_le hk h.size) hne).trans (h.block k hk hne)⟩
theorem grw_below {X X' : World} {D B : Nat} (hb : Below B X X') (hB : X.heap.size ≤ B) : X.grownBy X' (some D) :=
  ⟨hb.os, hb.tape, hb.output, hb.size, fun k hk hne => hb.block k (Nat.lt_of_lt_of_le hk hB)⟩
theorem below_grw {X X' : World} {D B : Nat} (hg : X.grownBy X' (some D)) (hB : B ≤ D) (hs : B ≤ X.heap.size) : Below B X X' := (Below.refl _ _).grown hg hs (fun j hj => by cases hj; exact hB)

/-- What a division is while it goes on: only its own block has changed. -/
def DZ (W : World) (D B : Nat) (cs : List Int) (x y o : Int) (q : Nat) (v : Value) (k : Int) (X : World) : Prop :=
  W.grownBy X (some D) ∧ Blk D #[.int .i64 x, .int .i64 y, .int .i64 o, v, .int .i64 k] X ∧ ChV X B cs q v ∧ B ≤ D ∧ D < W.heap.size
section
variable {W X X' : World} {D B q : Nat} {cs : List Int} {x y o k : Int} {v : Value}
theorem dz_new (h : Blk D #[.int .i64 x, .int .i64 y, .int .i64 o, v, .int .i64 k] W) (hv : ChV W B cs q v) (hB : B ≤ D) : DZ W D B cs x y o q v k W := ⟨World.grownBy.refl W (some D), h, hv, hB, blk_lt h⟩
theorem DZ.size (h : DZ W D B cs x y o q v k X) : W.heap.size ≤ X.heap.size := h.1.size
theorem DZ.sub {o' k' : Int} {q' : Nat} {v' : Value} (h : DZ W D B cs x y o q v k X) (h' : DZ X D B cs x y o' q' v' k' X') : DZ W D B cs x y o' q' v' k' X' := ⟨grw_trans h.1 h'.1, h'.2.1, h'.2.2.1, h.2.2.2⟩
theorem DZ.call (h : DZ W D B cs x y o q v k X) (hb : Below X.heap.size X X') : DZ W D B cs x y o q v k X' := by
  have hl := blk_lt h.2.1
  have hB := h.2.2.2.1
  exact ⟨grw_trans h.1 (grw_below hb (Nat.le_refl _)), h.2.1.call hb, h.2.2.1.keep (hb.mono (by omega)), h.2.2.2⟩
theorem DZ.dr (h : DZ W D B cs x y o q v k X) : DZ W D B cs x y o q v k X.drew := h.call ⟨rfl, rfl, rfl, Nat.le_refl _, fun _ _ => rfl⟩
theorem DZ.put (h : DZ W D B cs x y o q v k X) (o' : Int) : DZ W D B cs x y o' q v k (((X.setCell ⟨D, 0, none⟩ (.int .i64 x)).setCell ⟨D, 1, none⟩ (.int .i64 y)).setCell ⟨D, 2, none⟩ (.int .i64 o')) := by
  have hB := h.2.2.2.1
  have hb : Below B X (((X.setCell ⟨D, 0, none⟩ (.int .i64 x)).setCell ⟨D, 1, none⟩ (.int .i64 y)).setCell ⟨D, 2, none⟩ (.int .i64 o')) :=
    (((Below.refl _ _).setCell (by simp; omega) _).setCell (by simp; omega) _).setCell (by simp; omega) _
  exact ⟨listK.grown_set (listK.grown_set (listK.grown_set h.1 _) _) _, blk_put (blk_put (blk_put h.2.1 0 (.int .i64 x)) 1 (.int .i64 y)) 2 (.int .i64 o'), h.2.2.1.keep hb, h.2.2.2⟩
theorem DZ.wall (h : DZ W D B cs x y o q v k X) (k' : Int) : DZ W D B cs x y o q v k' (X.setCell ⟨D, 4, none⟩ (.int .i64 k')) := by
  have hB := h.2.2.2.1
  have hb : Below B X (X.setCell ⟨D, 4, none⟩ (.int .i64 k')) := (Below.refl _ _).setCell (by simp; omega) _
  exact ⟨listK.grown_set h.1 _, blk_put h.2.1 4 (.int .i64 k'), h.2.2.1.keep hb, h.2.2.2⟩
theorem DZ.next (h : DZ W D B cs x y o q v k X) (hx : NxP ⟨D, 3, none⟩ B cs q v X X') : ∃ v', DZ W D B cs x y o (q + 1) v' k X' ∧ X.grownBy X' (some D) := by
  obtain ⟨v', hv, h'⟩ := hx
  have hB := h.2.2.2.1
  rcases h' with ⟨rfl, rfl⟩ | rfl
  · exact ⟨_, ⟨h.1, h.2.1, hv, h.2.2.2⟩, World.grownBy.refl _ _⟩
  · have hb : Below B X (X.setCell ⟨D, 3, none⟩ v') := (Below.refl _ _).setCell (by simp; omega) _
    exact ⟨v', ⟨listK.grown_set h.1 _, blk_put h.2.1 3 v', hv.keep hb, h.2.2.2⟩, listK.grown_set (World.grownBy.refl _ _) _⟩
end

theorem row_put3 {X : World} {D g n c : Nat} {xs : List Value} (h : X.ownsRow (D + 1) 3 1 (.slice (some ⟨g, 0, none⟩) n c) n xs) (hg : g ≠ D) (a0 a1 a2 : Value) : (((X.setCell ⟨D, 0, none⟩ a0).setCell ⟨D, 1, none⟩ a1).setCell ⟨D, 2, none⟩ a2).ownsRow (D + 1) 3 1 (.slice (some ⟨g, 0, none⟩) n c) n xs :=
  h.kept (listK.grown_set (listK.grown_set (listK.grown_set (World.grownBy.refl X (some D)) _) _) _) (.inr fun e => hg (by simp [Value.ownBlock] at e; exact e))

/-- What a function without results leaves does not hang on its frame. -/
theorem leaves_any {P : Program} {fn : Func} {R : Ending → World → Prop} {v : Value} (hr : ∀ t w, (results fn t).run P w = .ok v w) : ∀ (ds : List Deferred) (u : FrameMode) (w : World) (t t' : Array Value), Leaves P fn t R ds u w → Leaves P fn t' R ds u w
  | [], .returning, w, t, t', h => by
    obtain ⟨v', h1, h2⟩ := h
    rw [hr] at h1
    injection h1 with h1
    subst h1
    exact ⟨_, hr _ _, h2⟩
  | [], .panicking _, w, t, t', h => h
  | [], .run, w, t, t', h => h.elim
  | d :: ds, u, w, t, t', h => by
    obtain ⟨h1, fv, cap, f, args, h2, h3, h4⟩ := h
    refine ⟨h1, fv, cap, f, args, h2, h3, h4.mono ?_⟩
    intro e u' w' he
    cases e with
    | returned _ => exact leaves_any hr ds _ _ t t' he
    | panicked c => exact leaves_any hr ds _ _ t t' he
    | outgrown => exact he

/-- A wall is counted, by a deferred call. -/
theorem countWall_d (D : Nat) (k : Int) (u : FrameMode) (w : World) (hc : w.cell? ⟨D, 4, none⟩ = some (.int .i64 k)) (hz : w.frozen? ⟨D, 4, none⟩ = false) (hk : 0 ≤ k ∧ k ≤ 1000) :
    CallsD Try.prog 70 #[.pointer (some ⟨D, 0, none⟩)] u w fun e u' w' => u' = u ∧ (e = .returned (.tuple #[]) ∧ w' = w.setCell ⟨D, 4, none⟩ (.int .i64 (k + 1))) := by
  go_enter_d Try.func70, Try.ntmps70
  go_wp2
  go_end0
  exact ⟨rfl, rfl⟩

set_option maxRecDepth 100000 in
set_option maxHeartbeats 4000000 in
theorem setWall_any (x y : Int) (D B q n c p g : Nat) (cs L : List Int) (v : Value) (o k d : Int) (W : World) (hb : Blk D #[.int .i64 x, .int .i64 y, .int .i64 o, v, .int .i64 k] W) (hv : ChV W B cs q v) (hB : B ≤ D)
    (hL : L.length = n) (hn : 1 ≤ n ∧ n ≤ 16) (ho : W.ownsRow (D + 1) 3 1 (.slice (some ⟨g, 0, none⟩) n c) n (icells L)) (hk : 0 ≤ k ∧ k ≤ 1000) (hp : (chZ cs q).toNat % n = p) :
    Calls Try.prog 63 #[.pointer (some ⟨D, 0, none⟩), .slice (some ⟨g, 0, none⟩) n c, .int .i64 d] W fun e w' => e = .returned (.tuple #[]) ∧ ∃ v', DZ W D B cs x y (swF x y o L d p n) (q + 1) v' (k + 1) w' := by
  have hdz0 := Lib.hid (dz_new hb hv hB)
  have HNe := Lib.hid (fun h1 h2 => next_any D 3 q n B cs v W h1 h2 hv hn.1 (by omega))
  rw [hp] at HNe
  have hgD : g ≠ D := by have := ho.lt g rfl; omega
  have HO := Lib.hid ho
  have HL := Lib.hid hL
  have HGp := Lib.hid (fun u X => gridI.gapAt_any x y u d X)
  have HSg := Lib.hid (fun z g b X => setGap_any x y z g b X)
  have HSu : Hid (∀ i, swF x y o L d p (i + 1) = sgZ x y (swF x y o L d p i) (gpZ x y (L.getD i 0) d) (decide (i = p))) := Lib.hid fun i => rfl
  have HS0 : Hid (swF x y o L d p 0 = o) := Lib.hid rfl
  have hres : ∀ t w, (results Try.f63 t).run Try.prog w = .ok (.tuple #[]) w := fun t w => results_none rfl _ _ _
  have Hres := Lib.hid hres
  clear hres
  have hpn : p < n := by rw [← hp]; exact Nat.mod_lt _ (by omega)
  clear hb hv ho hL hp
  generalize swF x y o L d p = F at *
  obtain ⟨⟨m0, m1, m2, m3, m4⟩, f0, f1, f2, f3, f4⟩ := blk5_cells hdz0.out.2.1
  go_enter_defers Try.func63, Try.ntmps63
  go_wp2_with fail
  refine (HNe.out m3 f3).mono ?_
  rintro e w1 ⟨rfl, hx⟩
  obtain ⟨v1, hdz1', hgr⟩ := hdz0.out.next hx
  have hdz1 := Lib.hid hdz1'
  have HO1 : Hid (w1.ownsRow (D + 1) 3 1 (.slice (some ⟨g, 0, none⟩) n c) n (icells L)) := Lib.hid (HO.out.kept hgr (.inr fun e => hgD (by simp [Value.ownBlock] at e; exact e)))
  clear hx hdz1' hgr HNe HO m0 m1 m2 m3 m4 f0 f1 f2 f3 f4 hdz0
  go_wp2_with fail
  go_loopw [18] (fun u18 wr => ∃ i : Nat, i ≤ n ∧ u18 = .int .i64 (i : Int) ∧ DZ W D B cs x y (F i) (q + 1) v1 k wr ∧ wr.ownsRow (D + 1) 3 1 (.slice (some ⟨g, 0, none⟩) n c) n (icells L)) (fun u18 _ => n - (intOf u18).toNat)
  case atStart => exact ⟨0, Nat.zero_le _, rfl, by rw [HS0.out]; exact hdz1.out, HO1.out⟩
  case round =>
    clear hdz1 HO1
    obtain ⟨i, hi, rfl, hdz0, ho0⟩ := hrel
    have hdz := Lib.hid hdz0
    have ho := Lib.hid ho0
    have hi0 : (0 : Int) ≤ (i : Int) := Int.natCast_nonneg _
    by_cases hin : i < n
    · have hi1 : (i : Int) < (n : Int) := by omega
      have hcd : wr.cell? ⟨g, i, none⟩ = some (.int .i64 (L.getD i 0)) := own_cellI ho0 (by rw [List.getD_eq_getElem?_getD, List.getElem?_eq_getElem (by have := HL.out; omega)]; rfl)
      have HS1 := Lib.hid (HSu.out i)
      have hdc : ((i : Int) == (p : Int)) = decide (i = p) := by rw [Bool.eq_iff_iff, beq_iff_eq, decide_eq_true_iff]; omega
      have HG1 := Lib.hid (fun X => HGp.out (L.getD i 0) X)
      generalize L.getD i 0 = u at *
      generalize decide (i = p) = bb at *
      generalize gpZ x y u d = gg at *
      have HSg1 := Lib.hid (fun X => HSg.out (F i) gg bb X)
      rw [← HS1.out] at HSg1
      generalize sgB x y (F i) gg = sb at *
      generalize hO3 : F (i + 1) = o3 at *
      have HO3 := Lib.hid hO3
      obtain ⟨⟨m0, m1, m2, m3, m4⟩, f0, f1, f2, f3, f4⟩ := blk5_cells hdz0.2.1
      clear hdz0 ho0 hO3 HGp HSg HSu
      generalize F i = o1 at *
      go_wp2_with fail
      try simp only [List.cons_append, List.nil_append, List.append_eq]
      refine wp_region_held_drew (S := (fun w' => w'.cell? ⟨D, 0, none⟩ = some (.int .i64 x) ∧ w'.cell? ⟨D, 1, none⟩ = some (.int .i64 y))) (by kernel_rfl) ?_ (fun hHeld0 => ?_)
      · (try dsimp only); (first | go_keep | exact ⟨(blk5_cells (hdz3.out.put o3).2.1).1.1, (blk5_cells (hdz3.out.put o3).2.1).1.2.1⟩)
      refine wpAnyH_take (i := 0) (oi := { dst := some 24, op := Go.Op.move (Go.Operand.tmp 0), type := 87, pos := "l17_grow.go:96", after := #[], guard := none }) (v := ?_) rfl (by kernel_rfl) (by kernel_rfl) (by kernel_rfl) (fun _ _ _ h => leaves_any Hres.out _ _ _ _ _ h) (Or.inl ⟨by rfl, ?_⟩) (by assumption) ?_
      rotate_left
      · (intro w hSw; (try dsimp only at hSw); go_simp; try with_reducible rfl)
      try simp only [Act.put, List.setIfInBounds_toArray, List.set_cons_zero, List.set_cons_succ]
      refine wpAnyH_take (i := 1) (oi := { dst := some 25, op := Go.Op.move (Go.Operand.tmp 0), type := 87, pos := "l17_grow.go:96", after := #[], guard := none }) (v := ?_) rfl (by kernel_rfl) (by kernel_rfl) (by kernel_rfl) (fun _ _ _ h => leaves_any Hres.out _ _ _ _ _ h) (Or.inl ⟨by rfl, ?_⟩) (by assumption) ?_
      rotate_left
      · (intro w hSw; (try dsimp only at hSw); go_simp; try with_reducible rfl)
      try simp only [Act.put, List.setIfInBounds_toArray, List.set_cons_zero, List.set_cons_succ]
      refine wpAnyH_take (i := 2) (oi := { dst := some 26, op := Go.Op.nilCheck (Go.Operand.tmp 25), type := 0, pos := "l17_grow.go:96", after := #[{ on := 1, ground := Go.Ground.data }], guard := none }) (v := ?_) rfl (by kernel_rfl) (by kernel_rfl) (by kernel_rfl) (fun _ _ _ h => leaves_any Hres.out _ _ _ _ _ h) (Or.inl ⟨by rfl, ?_⟩) (by assumption) ?_
      rotate_left
      · (intro w hSw; (try dsimp only at hSw); go_simp; try with_reducible rfl)
      try simp only [Act.put, List.setIfInBounds_toArray, List.set_cons_zero, List.set_cons_succ]
      refine wpAnyH_take (i := 3) (oi := { dst := some 27, op := Go.Op.fieldAddr 59 (Go.Operand.tmp 26) 0, type := 0, pos := "l17_grow.go:96", after := #[{ on := 2, ground := Go.Ground.data }], guard := none }) (v := ?_) rfl (by kernel_rfl) (by kernel_rfl) (by kernel_rfl) (fun _ _ _ h => leaves_any Hres.out _ _ _ _ _ h) (Or.inl ⟨by rfl, ?_⟩) (by assumption) ?_
      rotate_left
      · (intro w hSw; (try dsimp only at hSw); go_simp; try with_reducible rfl)
      try simp only [Act.put, List.setIfInBounds_toArray, List.set_cons_zero, List.set_cons_succ]
      refine wpAnyH_take (i := 5) (oi := { dst := some 29, op := Go.Op.move (Go.Operand.tmp 0), type := 87, pos := "l17_grow.go:96", after := #[], guard := none }) (v := ?_) rfl (by kernel_rfl) (by kernel_rfl) (by kernel_rfl) (fun _ _ _ h => leaves_any Hres.out _ _ _ _ _ h) (Or.inl ⟨by rfl, ?_⟩) (by assumption) ?_
      rotate_left
      · (intro w hSw; (try dsimp only at hSw); go_simp; try with_reducible rfl)
      try simp only [Act.put, List.setIfInBounds_toArray, List.set_cons_zero, List.set_cons_succ]
      refine wpAnyH_take (i := 6) (oi := { dst := some 30, op := Go.Op.nilCheck (Go.Operand.tmp 29), type := 0, pos := "l17_grow.go:96", after := #[{ on := 5, ground := Go.Ground.data }], guard := none }) (v := ?_) rfl (by kernel_rfl) (by kernel_rfl) (by kernel_rfl) (fun _ _ _ h => leaves_any Hres.out _ _ _ _ _ h) (Or.inl ⟨by rfl, ?_⟩) (by assumption) ?_
      rotate_left
      · (intro w hSw; (try dsimp only at hSw); go_simp; try with_reducible rfl)
      try simp only [Act.put, List.setIfInBounds_toArray, List.set_cons_zero, List.set_cons_succ]
      refine wpAnyH_take (i := 7) (oi := { dst := some 31, op := Go.Op.fieldAddr 59 (Go.Operand.tmp 30) 0, type := 0, pos := "l17_grow.go:96", after := #[{ on := 6, ground := Go.Ground.data }], guard := none }) (v := ?_) rfl (by kernel_rfl) (by kernel_rfl) (by kernel_rfl) (fun _ _ _ h => leaves_any Hres.out _ _ _ _ _ h) (Or.inl ⟨by rfl, ?_⟩) (by assumption) ?_
      rotate_left
      · (intro w hSw; (try dsimp only at hSw); go_simp; try with_reducible rfl)
      try simp only [Act.put, List.setIfInBounds_toArray, List.set_cons_zero, List.set_cons_succ]
      refine wpAnyH_take (i := 8) (oi := { dst := some 32, op := Go.Op.fieldAddr 30 (Go.Operand.tmp 31) 0, type := 0, pos := "l17_grow.go:96", after := #[{ on := 7, ground := Go.Ground.data }], guard := none }) (v := ?_) rfl (by kernel_rfl) (by kernel_rfl) (by kernel_rfl) (fun _ _ _ h => leaves_any Hres.out _ _ _ _ _ h) (Or.inl ⟨by rfl, ?_⟩) (by assumption) ?_
      rotate_left
      · (intro w hSw; (try dsimp only at hSw); go_simp; try with_reducible rfl)
      try simp only [Act.put, List.setIfInBounds_toArray, List.set_cons_zero, List.set_cons_succ]
      refine wpAnyH_take (i := 9) (oi := { dst := some 33, op := Go.Op.load 25 (Go.Operand.tmp 32), type := 25, pos := "l17_grow.go:96", after := #[{ on := 8, ground := Go.Ground.data }], guard := none }) (v := ?_) rfl (by kernel_rfl) (by kernel_rfl) (by kernel_rfl) (fun _ _ _ h => leaves_any Hres.out _ _ _ _ _ h) (Or.inl ⟨by rfl, ?_⟩) (by assumption) ?_
      rotate_left
      · (intro w hSw; (try dsimp only at hSw); go_simp; try with_reducible rfl)
      try simp only [Act.put, List.setIfInBounds_toArray, List.set_cons_zero, List.set_cons_succ]
      refine wpAnyH_take (i := 10) (oi := { dst := some 34, op := Go.Op.move (Go.Operand.tmp 8), type := 3, pos := "l17_grow.go:96", after := #[], guard := none }) (v := ?_) rfl (by kernel_rfl) (by kernel_rfl) (by kernel_rfl) (fun _ _ _ h => leaves_any Hres.out _ _ _ _ _ h) (Or.inl ⟨by rfl, ?_⟩) (by assumption) ?_
      rotate_left
      · (intro w hSw; (try dsimp only at hSw); go_simp; try with_reducible rfl)
      try simp only [Act.put, List.setIfInBounds_toArray, List.set_cons_zero, List.set_cons_succ]
      refine wpAnyH_take (i := 11) (oi := { dst := some 35, op := Go.Op.move (Go.Operand.tmp 2), type := 3, pos := "l17_grow.go:96", after := #[], guard := none }) (v := ?_) rfl (by kernel_rfl) (by kernel_rfl) (by kernel_rfl) (fun _ _ _ h => leaves_any Hres.out _ _ _ _ _ h) (Or.inl ⟨by rfl, ?_⟩) (by assumption) ?_
      rotate_left
      · (intro w hSw; (try dsimp only at hSw); go_simp; try with_reducible rfl)
      try simp only [Act.put, List.setIfInBounds_toArray, List.set_cons_zero, List.set_cons_succ]
      refine wpAnyH_take (i := 13) (oi := { dst := some 37, op := Go.Op.move (Go.Operand.tmp 7), type := 3, pos := "l17_grow.go:96", after := #[], guard := none }) (v := ?_) rfl (by kernel_rfl) (by kernel_rfl) (by kernel_rfl) (fun _ _ _ h => leaves_any Hres.out _ _ _ _ _ h) (Or.inl ⟨by rfl, ?_⟩) (by assumption) ?_
      rotate_left
      · (intro w hSw; (try dsimp only at hSw); go_simp; try with_reducible rfl)
      try simp only [Act.put, List.setIfInBounds_toArray, List.set_cons_zero, List.set_cons_succ]
      refine wpAnyH_take (i := 14) (oi := { dst := some 38, op := Go.Op.move (Go.Operand.tmp 6), type := 3, pos := "l17_grow.go:96", after := #[], guard := none }) (v := ?_) rfl (by kernel_rfl) (by kernel_rfl) (by kernel_rfl) (fun _ _ _ h => leaves_any Hres.out _ _ _ _ _ h) (Or.inl ⟨by rfl, ?_⟩) (by assumption) ?_
      rotate_left
      · (intro w hSw; (try dsimp only at hSw); go_simp; try with_reducible rfl)
      try simp only [Act.put, List.setIfInBounds_toArray, List.set_cons_zero, List.set_cons_succ]
      refine wpAnyH_take (i := 15) (oi := { dst := some 39, op := Go.Op.binOp Go.BinOp.eql 3 (Go.Operand.tmp 37) (Go.Operand.tmp 38) 3, type := 4, pos := "l17_grow.go:96", after := #[{ on := 13, ground := Go.Ground.data }, { on := 14, ground := Go.Ground.data }], guard := none }) (v := ?_) rfl (by kernel_rfl) (by kernel_rfl) (by kernel_rfl) (fun _ _ _ h => leaves_any Hres.out _ _ _ _ _ h) (Or.inl ⟨by rfl, ?_⟩) (by assumption) ?_
      rotate_left
      · (intro w hSw; (try dsimp only at hSw); go_simp; try with_reducible rfl)
      try simp only [Act.put, List.setIfInBounds_toArray, List.set_cons_zero, List.set_cons_succ]
      refine wpAnyH_ready (rs := [4, 12]) (by kernel_rfl) (by simp) ?_
      refine (AllReadyH.cons (o := { dst := some 28, op := Go.Op.load 30 (Go.Operand.tmp 27), type := 30, pos := "l17_grow.go:96", after := #[{ on := 3, ground := Go.Ground.data }], guard := none }) rfl (fun K4 hK4 => ?_) (AllReadyH.cons (o := { dst := some 36, op := Go.Op.call { callee := Go.Callee.value (Go.Operand.func 71), args := #[Go.Operand.tmp 33, Go.Operand.tmp 34, Go.Operand.tmp 35], argTypes := #[25, 3, 3] }, type := 3, pos := "l17_grow.go:96", after := #[{ on := 9, ground := Go.Ground.data }, { on := 10, ground := Go.Ground.data }, { on := 11, ground := Go.Ground.data }], guard := none }) rfl (fun K12 hK12 => ?_) AllReadyH.nil))
      · as_aux_lemma =>
          go_simp
          refine hK4.out _ _ ?_ (fun hHeld1 => ?_)
          · (try dsimp only); (first | go_keep | exact ⟨(blk5_cells (hdz3.out.put o3).2.1).1.1, (blk5_cells (hdz3.out.put o3).2.1).1.2.1⟩)
          clear hK4 K4 hHeld0
          try simp only [Act.put, List.setIfInBounds_toArray, List.set_cons_zero, List.set_cons_succ]
          refine wpAnyH_ready (rs := [12]) (by kernel_rfl) (by simp) ?_
          refine AllReadyH.cons (o := { dst := some 36, op := Go.Op.call { callee := Go.Callee.value (Go.Operand.func 71), args := #[Go.Operand.tmp 33, Go.Operand.tmp 34, Go.Operand.tmp 35], argTypes := #[25, 3, 3] }, type := 3, pos := "l17_grow.go:96", after := #[{ on := 9, ground := Go.Ground.data }, { on := 10, ground := Go.Ground.data }, { on := 11, ground := Go.Ground.data }], guard := none }) rfl (fun K12 hK12 => ?_) AllReadyH.nil
          go_simp
          (refine (HG1.out _).mono ?_; rintro e v1' ⟨rfl, hb1⟩; have hdz2 := Lib.hid (hdz.out.dr.call hb1); have ho2 := Lib.hid (own_call (own_call ho.out (w' := wr.drew) ⟨rfl, rfl, rfl, Nat.le_refl _, fun _ _ => rfl⟩) hb1); obtain ⟨⟨p0, p1, p2, p3, p4⟩, -⟩ := blk5_cells hdz2.out.2.1)
          go_wp2_with fail
          refine hK12.out _ _ ?_ (fun hHeld2 => ?_)
          · (try dsimp only); (first | go_keep | exact ⟨(blk5_cells (hdz3.out.put o3).2.1).1.1, (blk5_cells (hdz3.out.put o3).2.1).1.2.1⟩)
          clear hK12 K12 hHeld1
          try simp only [Act.put, List.setIfInBounds_toArray, List.set_cons_zero, List.set_cons_succ]
          refine wpAnyH_ready (rs := [16]) (by kernel_rfl) (by simp) ?_
          refine AllReadyH.cons (o := { dst := some 40, op := Go.Op.call { callee := Go.Callee.value (Go.Operand.func 28), args := #[Go.Operand.tmp 28, Go.Operand.tmp 36, Go.Operand.tmp 39], argTypes := #[30, 3, 4] }, type := 54, pos := "l17_grow.go:96", after := #[{ on := 4, ground := Go.Ground.data }, { on := 12, ground := Go.Ground.data }, { on := 15, ground := Go.Ground.data }, { on := 12, ground := Go.Ground.chain }], guard := none }) rfl (fun K16 hK16 => ?_) AllReadyH.nil
          go_simp
          (refine (HSg1.out _).mono ?_; rintro e v2 ⟨rfl, hb2⟩; have hdz3 := Lib.hid (hdz2.out.call hb2); have ho3 := Lib.hid (own_call ho2.out hb2); obtain ⟨⟨p0, p1, p2, p3, p4⟩, t0, t1, t2, t3, t4⟩ := blk5_cells hdz3.out.2.1)
          go_wp2_with fail
          refine hK16.out _ _ ?_ (fun hHeld3 => ?_)
          · (try dsimp only); (first | go_keep | exact ⟨(blk5_cells (hdz3.out.put o3).2.1).1.1, (blk5_cells (hdz3.out.put o3).2.1).1.2.1⟩)
          clear hK16 K16 hHeld2
          try simp only [Act.put, List.setIfInBounds_toArray, List.set_cons_zero, List.set_cons_succ]
          refine wpAnyH_take (i := 17) (oi := { dst := some 23, op := Go.Op.move (Go.Operand.tmp 40), type := 54, pos := "l17_grow.go:96", after := #[{ on := 16, ground := Go.Ground.data }], guard := none }) (v := ?_) rfl (by kernel_rfl) (by kernel_rfl) (by kernel_rfl) (fun _ _ _ h => leaves_any Hres.out _ _ _ _ _ h) (Or.inl ⟨by rfl, ?_⟩) (by assumption) ?_
          rotate_left
          · (intro w hSw; (try dsimp only at hSw); go_simp; try with_reducible rfl)
          try simp only [Act.put, List.setIfInBounds_toArray, List.set_cons_zero, List.set_cons_succ]
          refine wpAnyH_take (i := 18) (oi := { dst := some 41, op := Go.Op.extract (Go.Operand.tmp 23) 0, type := 30, pos := "l17_grow.go:96", after := #[{ on := 17, ground := Go.Ground.data }], guard := none }) (v := ?_) rfl (by kernel_rfl) (by kernel_rfl) (by kernel_rfl) (fun _ _ _ h => leaves_any Hres.out _ _ _ _ _ h) (Or.inl ⟨by rfl, ?_⟩) (by assumption) ?_
          rotate_left
          · (intro w hSw; (try dsimp only at hSw); go_simp; try with_reducible rfl)
          try simp only [Act.put, List.setIfInBounds_toArray, List.set_cons_zero, List.set_cons_succ]
          refine wpAnyH_take (i := 19) (oi := { dst := some 42, op := Go.Op.extract (Go.Operand.tmp 23) 1, type := 4, pos := "l17_grow.go:96", after := #[{ on := 17, ground := Go.Ground.data }, { on := 22, ground := Go.Ground.gcOnly Go.Departure.lateStores }], guard := none }) (v := ?_) rfl (by kernel_rfl) (by kernel_rfl) (by kernel_rfl) (fun _ _ _ h => leaves_any Hres.out _ _ _ _ _ h) (Or.inl ⟨by rfl, ?_⟩) (by assumption) ?_
          rotate_left
          · (intro w hSw; (try dsimp only at hSw); go_simp; try with_reducible rfl)
          try simp only [Act.put, List.setIfInBounds_toArray, List.set_cons_zero, List.set_cons_succ]
          refine wpAnyH_take (i := 20) (oi := { dst := some 43, op := Go.Op.nilCheck (Go.Operand.tmp 24), type := 0, pos := "l17_grow.go:96", after := #[{ on := 0, ground := Go.Ground.data }, { on := 0, ground := Go.Ground.phase }, { on := 1, ground := Go.Ground.phase }, { on := 2, ground := Go.Ground.phase }, { on := 3, ground := Go.Ground.phase }, { on := 4, ground := Go.Ground.phase }, { on := 5, ground := Go.Ground.phase }, { on := 6, ground := Go.Ground.phase }, { on := 7, ground := Go.Ground.phase }, { on := 8, ground := Go.Ground.phase }, { on := 9, ground := Go.Ground.phase }, { on := 10, ground := Go.Ground.phase }, { on := 11, ground := Go.Ground.phase }, { on := 12, ground := Go.Ground.phase }, { on := 13, ground := Go.Ground.phase }, { on := 14, ground := Go.Ground.phase }, { on := 15, ground := Go.Ground.phase }, { on := 16, ground := Go.Ground.phase }, { on := 17, ground := Go.Ground.phase }, { on := 18, ground := Go.Ground.phase }, { on := 19, ground := Go.Ground.textOnly Go.Departure.lateStores }], guard := none }) (v := ?_) rfl (by kernel_rfl) (by kernel_rfl) (by kernel_rfl) (fun _ _ _ h => leaves_any Hres.out _ _ _ _ _ h) (Or.inl ⟨by rfl, ?_⟩) (by assumption) ?_
          rotate_left
          · (intro w hSw; (try dsimp only at hSw); go_simp; try with_reducible rfl)
          try simp only [Act.put, List.setIfInBounds_toArray, List.set_cons_zero, List.set_cons_succ]
          refine wpAnyH_take (i := 21) (oi := { dst := some 44, op := Go.Op.fieldAddr 59 (Go.Operand.tmp 43) 0, type := 0, pos := "l17_grow.go:96", after := #[{ on := 20, ground := Go.Ground.data }, { on := 0, ground := Go.Ground.phase }, { on := 1, ground := Go.Ground.phase }, { on := 2, ground := Go.Ground.phase }, { on := 3, ground := Go.Ground.phase }, { on := 4, ground := Go.Ground.phase }, { on := 5, ground := Go.Ground.phase }, { on := 6, ground := Go.Ground.phase }, { on := 7, ground := Go.Ground.phase }, { on := 8, ground := Go.Ground.phase }, { on := 9, ground := Go.Ground.phase }, { on := 10, ground := Go.Ground.phase }, { on := 11, ground := Go.Ground.phase }, { on := 12, ground := Go.Ground.phase }, { on := 13, ground := Go.Ground.phase }, { on := 14, ground := Go.Ground.phase }, { on := 15, ground := Go.Ground.phase }, { on := 16, ground := Go.Ground.phase }, { on := 17, ground := Go.Ground.phase }, { on := 18, ground := Go.Ground.phase }, { on := 19, ground := Go.Ground.textOnly Go.Departure.lateStores }], guard := none }) (v := ?_) rfl (by kernel_rfl) (by kernel_rfl) (by kernel_rfl) (fun _ _ _ h => leaves_any Hres.out _ _ _ _ _ h) (Or.inl ⟨by rfl, ?_⟩) (by assumption) ?_
          rotate_left
          · (intro w hSw; (try dsimp only at hSw); go_simp; try with_reducible rfl)
          try simp only [Act.put, List.setIfInBounds_toArray, List.set_cons_zero, List.set_cons_succ]
          refine wpAnyH_ready (rs := [22]) (by kernel_rfl) (by simp) ?_
          refine AllReadyH.cons (o := { dst := none, op := Go.Op.store 30 (Go.Operand.tmp 44) (Go.Operand.tmp 41), type := 0, pos := "l17_grow.go:96", after := #[{ on := 21, ground := Go.Ground.data }, { on := 18, ground := Go.Ground.data }, { on := 16, ground := Go.Ground.chain }, { on := 0, ground := Go.Ground.phase }, { on := 1, ground := Go.Ground.phase }, { on := 2, ground := Go.Ground.phase }, { on := 3, ground := Go.Ground.phase }, { on := 4, ground := Go.Ground.phase }, { on := 5, ground := Go.Ground.phase }, { on := 6, ground := Go.Ground.phase }, { on := 7, ground := Go.Ground.phase }, { on := 8, ground := Go.Ground.phase }, { on := 9, ground := Go.Ground.phase }, { on := 10, ground := Go.Ground.phase }, { on := 11, ground := Go.Ground.phase }, { on := 12, ground := Go.Ground.phase }, { on := 13, ground := Go.Ground.phase }, { on := 14, ground := Go.Ground.phase }, { on := 15, ground := Go.Ground.phase }, { on := 16, ground := Go.Ground.phase }, { on := 17, ground := Go.Ground.phase }, { on := 18, ground := Go.Ground.phase }, { on := 19, ground := Go.Ground.textOnly Go.Departure.lateStores }], guard := none }) rfl (fun K22 hK22 => ?_) AllReadyH.nil
          go_simp
          refine hK22.out _ _ ?_ (fun hHeld4 => ?_)
          · (try dsimp only); (first | go_keep | exact ⟨(blk5_cells (hdz3.out.put o3).2.1).1.1, (blk5_cells (hdz3.out.put o3).2.1).1.2.1⟩)
          clear hK22 K22 hHeld3
          try simp only [Act.put, List.setIfInBounds_toArray, List.set_cons_zero, List.set_cons_succ]
          refine wpAnyH_done (by kernel_rfl) ?_ _
          (have hdz4 := Lib.hid (hdz3.out.put o3); have ho4 := Lib.hid (row_put3 ho3.out hgD (.int .i64 x) (.int .i64 y) (.int .i64 o3)); go_wp2_with fail; go_roundw; (case rel => exact ⟨i + 1, by omega, by go_num, by rw [HO3.out]; exact hdz4.out, ho4.out⟩); (case measure => (simp [intOf]; omega)))
      · as_aux_lemma =>
          go_simp
          (refine (HG1.out _).mono ?_; rintro e v1' ⟨rfl, hb1⟩; have hdz2 := Lib.hid (hdz.out.dr.call hb1); have ho2 := Lib.hid (own_call (own_call ho.out (w' := wr.drew) ⟨rfl, rfl, rfl, Nat.le_refl _, fun _ _ => rfl⟩) hb1); obtain ⟨⟨p0, p1, p2, p3, p4⟩, -⟩ := blk5_cells hdz2.out.2.1)
          go_wp2_with fail
          refine hK12.out _ _ ?_ (fun hHeld1 => ?_)
          · (try dsimp only); (first | go_keep | exact ⟨(blk5_cells (hdz3.out.put o3).2.1).1.1, (blk5_cells (hdz3.out.put o3).2.1).1.2.1⟩)
          clear hK12 K12 hHeld0
          try simp only [Act.put, List.setIfInBounds_toArray, List.set_cons_zero, List.set_cons_succ]
          refine wpAnyH_ready (rs := [4]) (by kernel_rfl) (by simp) ?_
          refine AllReadyH.cons (o := { dst := some 28, op := Go.Op.load 30 (Go.Operand.tmp 27), type := 30, pos := "l17_grow.go:96", after := #[{ on := 3, ground := Go.Ground.data }], guard := none }) rfl (fun K4 hK4 => ?_) AllReadyH.nil
          go_simp
          refine hK4.out _ _ ?_ (fun hHeld2 => ?_)
          · (try dsimp only); (first | go_keep | exact ⟨(blk5_cells (hdz3.out.put o3).2.1).1.1, (blk5_cells (hdz3.out.put o3).2.1).1.2.1⟩)
          clear hK4 K4 hHeld1
          try simp only [Act.put, List.setIfInBounds_toArray, List.set_cons_zero, List.set_cons_succ]
          refine wpAnyH_ready (rs := [16]) (by kernel_rfl) (by simp) ?_
          refine AllReadyH.cons (o := { dst := some 40, op := Go.Op.call { callee := Go.Callee.value (Go.Operand.func 28), args := #[Go.Operand.tmp 28, Go.Operand.tmp 36, Go.Operand.tmp 39], argTypes := #[30, 3, 4] }, type := 54, pos := "l17_grow.go:96", after := #[{ on := 4, ground := Go.Ground.data }, { on := 12, ground := Go.Ground.data }, { on := 15, ground := Go.Ground.data }, { on := 12, ground := Go.Ground.chain }], guard := none }) rfl (fun K16 hK16 => ?_) AllReadyH.nil
          go_simp
          (refine (HSg1.out _).mono ?_; rintro e v2 ⟨rfl, hb2⟩; have hdz3 := Lib.hid (hdz2.out.call hb2); have ho3 := Lib.hid (own_call ho2.out hb2); obtain ⟨⟨p0, p1, p2, p3, p4⟩, t0, t1, t2, t3, t4⟩ := blk5_cells hdz3.out.2.1)
          go_wp2_with fail
          refine hK16.out _ _ ?_ (fun hHeld3 => ?_)
          · (try dsimp only); (first | go_keep | exact ⟨(blk5_cells (hdz3.out.put o3).2.1).1.1, (blk5_cells (hdz3.out.put o3).2.1).1.2.1⟩)
          clear hK16 K16 hHeld2
          try simp only [Act.put, List.setIfInBounds_toArray, List.set_cons_zero, List.set_cons_succ]
          refine wpAnyH_take (i := 17) (oi := { dst := some 23, op := Go.Op.move (Go.Operand.tmp 40), type := 54, pos := "l17_grow.go:96", after := #[{ on := 16, ground := Go.Ground.data }], guard := none }) (v := ?_) rfl (by kernel_rfl) (by kernel_rfl) (by kernel_rfl) (fun _ _ _ h => leaves_any Hres.out _ _ _ _ _ h) (Or.inl ⟨by rfl, ?_⟩) (by assumption) ?_
          rotate_left
          · (intro w hSw; (try dsimp only at hSw); go_simp; try with_reducible rfl)
          try simp only [Act.put, List.setIfInBounds_toArray, List.set_cons_zero, List.set_cons_succ]
          refine wpAnyH_take (i := 18) (oi := { dst := some 41, op := Go.Op.extract (Go.Operand.tmp 23) 0, type := 30, pos := "l17_grow.go:96", after := #[{ on := 17, ground := Go.Ground.data }], guard := none }) (v := ?_) rfl (by kernel_rfl) (by kernel_rfl) (by kernel_rfl) (fun _ _ _ h => leaves_any Hres.out _ _ _ _ _ h) (Or.inl ⟨by rfl, ?_⟩) (by assumption) ?_
          rotate_left
          · (intro w hSw; (try dsimp only at hSw); go_simp; try with_reducible rfl)
          try simp only [Act.put, List.setIfInBounds_toArray, List.set_cons_zero, List.set_cons_succ]
          refine wpAnyH_take (i := 19) (oi := { dst := some 42, op := Go.Op.extract (Go.Operand.tmp 23) 1, type := 4, pos := "l17_grow.go:96", after := #[{ on := 17, ground := Go.Ground.data }, { on := 22, ground := Go.Ground.gcOnly Go.Departure.lateStores }], guard := none }) (v := ?_) rfl (by kernel_rfl) (by kernel_rfl) (by kernel_rfl) (fun _ _ _ h => leaves_any Hres.out _ _ _ _ _ h) (Or.inl ⟨by rfl, ?_⟩) (by assumption) ?_
          rotate_left
          · (intro w hSw; (try dsimp only at hSw); go_simp; try with_reducible rfl)
          try simp only [Act.put, List.setIfInBounds_toArray, List.set_cons_zero, List.set_cons_succ]
          refine wpAnyH_take (i := 20) (oi := { dst := some 43, op := Go.Op.nilCheck (Go.Operand.tmp 24), type := 0, pos := "l17_grow.go:96", after := #[{ on := 0, ground := Go.Ground.data }, { on := 0, ground := Go.Ground.phase }, { on := 1, ground := Go.Ground.phase }, { on := 2, ground := Go.Ground.phase }, { on := 3, ground := Go.Ground.phase }, { on := 4, ground := Go.Ground.phase }, { on := 5, ground := Go.Ground.phase }, { on := 6, ground := Go.Ground.phase }, { on := 7, ground := Go.Ground.phase }, { on := 8, ground := Go.Ground.phase }, { on := 9, ground := Go.Ground.phase }, { on := 10, ground := Go.Ground.phase }, { on := 11, ground := Go.Ground.phase }, { on := 12, ground := Go.Ground.phase }, { on := 13, ground := Go.Ground.phase }, { on := 14, ground := Go.Ground.phase }, { on := 15, ground := Go.Ground.phase }, { on := 16, ground := Go.Ground.phase }, { on := 17, ground := Go.Ground.phase }, { on := 18, ground := Go.Ground.phase }, { on := 19, ground := Go.Ground.textOnly Go.Departure.lateStores }], guard := none }) (v := ?_) rfl (by kernel_rfl) (by kernel_rfl) (by kernel_rfl) (fun _ _ _ h => leaves_any Hres.out _ _ _ _ _ h) (Or.inl ⟨by rfl, ?_⟩) (by assumption) ?_
          rotate_left
          · (intro w hSw; (try dsimp only at hSw); go_simp; try with_reducible rfl)
          try simp only [Act.put, List.setIfInBounds_toArray, List.set_cons_zero, List.set_cons_succ]
          refine wpAnyH_take (i := 21) (oi := { dst := some 44, op := Go.Op.fieldAddr 59 (Go.Operand.tmp 43) 0, type := 0, pos := "l17_grow.go:96", after := #[{ on := 20, ground := Go.Ground.data }, { on := 0, ground := Go.Ground.phase }, { on := 1, ground := Go.Ground.phase }, { on := 2, ground := Go.Ground.phase }, { on := 3, ground := Go.Ground.phase }, { on := 4, ground := Go.Ground.phase }, { on := 5, ground := Go.Ground.phase }, { on := 6, ground := Go.Ground.phase }, { on := 7, ground := Go.Ground.phase }, { on := 8, ground := Go.Ground.phase }, { on := 9, ground := Go.Ground.phase }, { on := 10, ground := Go.Ground.phase }, { on := 11, ground := Go.Ground.phase }, { on := 12, ground := Go.Ground.phase }, { on := 13, ground := Go.Ground.phase }, { on := 14, ground := Go.Ground.phase }, { on := 15, ground := Go.Ground.phase }, { on := 16, ground := Go.Ground.phase }, { on := 17, ground := Go.Ground.phase }, { on := 18, ground := Go.Ground.phase }, { on := 19, ground := Go.Ground.textOnly Go.Departure.lateStores }], guard := none }) (v := ?_) rfl (by kernel_rfl) (by kernel_rfl) (by kernel_rfl) (fun _ _ _ h => leaves_any Hres.out _ _ _ _ _ h) (Or.inl ⟨by rfl, ?_⟩) (by assumption) ?_
          rotate_left
          · (intro w hSw; (try dsimp only at hSw); go_simp; try with_reducible rfl)
          try simp only [Act.put, List.setIfInBounds_toArray, List.set_cons_zero, List.set_cons_succ]
          refine wpAnyH_ready (rs := [22]) (by kernel_rfl) (by simp) ?_
          refine AllReadyH.cons (o := { dst := none, op := Go.Op.store 30 (Go.Operand.tmp 44) (Go.Operand.tmp 41), type := 0, pos := "l17_grow.go:96", after := #[{ on := 21, ground := Go.Ground.data }, { on := 18, ground := Go.Ground.data }, { on := 16, ground := Go.Ground.chain }, { on := 0, ground := Go.Ground.phase }, { on := 1, ground := Go.Ground.phase }, { on := 2, ground := Go.Ground.phase }, { on := 3, ground := Go.Ground.phase }, { on := 4, ground := Go.Ground.phase }, { on := 5, ground := Go.Ground.phase }, { on := 6, ground := Go.Ground.phase }, { on := 7, ground := Go.Ground.phase }, { on := 8, ground := Go.Ground.phase }, { on := 9, ground := Go.Ground.phase }, { on := 10, ground := Go.Ground.phase }, { on := 11, ground := Go.Ground.phase }, { on := 12, ground := Go.Ground.phase }, { on := 13, ground := Go.Ground.phase }, { on := 14, ground := Go.Ground.phase }, { on := 15, ground := Go.Ground.phase }, { on := 16, ground := Go.Ground.phase }, { on := 17, ground := Go.Ground.phase }, { on := 18, ground := Go.Ground.phase }, { on := 19, ground := Go.Ground.textOnly Go.Departure.lateStores }], guard := none }) rfl (fun K22 hK22 => ?_) AllReadyH.nil
          go_simp
          refine hK22.out _ _ ?_ (fun hHeld4 => ?_)
          · (try dsimp only); (first | go_keep | exact ⟨(blk5_cells (hdz3.out.put o3).2.1).1.1, (blk5_cells (hdz3.out.put o3).2.1).1.2.1⟩)
          clear hK22 K22 hHeld3
          try simp only [Act.put, List.setIfInBounds_toArray, List.set_cons_zero, List.set_cons_succ]
          refine wpAnyH_done (by kernel_rfl) ?_ _
          (have hdz4 := Lib.hid (hdz3.out.put o3); have ho4 := Lib.hid (row_put3 ho3.out hgD (.int .i64 x) (.int .i64 y) (.int .i64 o3)); go_wp2_with fail; go_roundw; (case rel => exact ⟨i + 1, by omega, by go_num, by rw [HO3.out]; exact hdz4.out, ho4.out⟩); (case measure => (simp [intOf]; omega)))
    · obtain rfl : i = n := by omega
      obtain ⟨⟨m0, m1, m2, m3, m4⟩, f0, f1, f2, f3, f4⟩ := blk5_cells hdz0.2.1
      clear hdz0 ho0
      go_wp2_with fail
      refine leaves_cons (f := 70) (args := #[.pointer (some ⟨D, 0, none⟩)]) (by simp) (by simp [go_sem]) ?_
      refine (countWall_d D k .returning _ m4 f4 hk).mono ?_
      rintro e u' w'' ⟨rfl, rfl, rfl⟩
      exact ⟨_, results_none rfl _ _ _, rfl, v1, hdz.out.wall (k + 1)⟩
end Go.Proofs.Ythakbjdkcdppjaa.grwJ
