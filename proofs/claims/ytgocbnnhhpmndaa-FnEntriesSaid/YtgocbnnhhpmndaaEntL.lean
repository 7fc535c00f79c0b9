/- The law of first entries: its walk, over the contracts of the program's functions. -/
import Derived.Test.YtgocbnnhhpmndaaEntQ
import Derived.Test.YtgocbnnhhpmndaaEntD
import Derived.Test.YtgocbnnhhpmndaaWayM
import Derived.Deep.CutRange
namespace Go.Proofs.Ytgocbnnhhpmndaa.fnEntries
open Go.ChangeShapes Go.WideShapes Go.ChangeAt Go.RowKit
open draw gridP gridC gridE bitP mazeP mazeC mazeM mazeR mazeE mazeS intsP intA intK bigK reachP reachM reachN reachD listK listW perfP wayP ersP ersO entP entQ entD
set_option linter.unusedVariables false
set_option linter.unusedSimpArgs false

/-- The law's answer. -/
def Yes (w : World) (e : Ending) (w' : World) : Prop := e = .returned (.bool true) ∧ Below w.heap.size w w'
theorem yes_mk {w w' : World} (h : Below w.heap.size w w') : Yes w (.returned (.bool true)) w' := ⟨rfl, h⟩

/-- While the law goes on: the grid, the way, the first maze. -/
def LE (w1 : World) (G : Nat) (x y : Int) (A : Option Addr) (l : List Int) (M : Option (Nat × Int)) (X : World) : Prop :=
  Below w1.heap.size w1 X ∧ Row2 G x y X ∧ IntsIn X w1.heap.size A l ∧ ∀ q, M = some q → Row3 q.1 x y q.2 X
section
variable {w1 X X' : World} {G : Nat} {x y z : Int} {A : Option Addr} {l r : List Int} {M : Option (Nat × Int)} {v : Value} {ov : Option (Value × List Int)} {oP : Option Nat} {P : Nat}
theorem LE.call (h : LE w1 G x y A l M X) (hb : Below X.heap.size X X') : LE w1 G x y A l M X' := ⟨below_call h.1 hb, h.2.1.call hb, h.2.2.1.below (hb.mono h.1.size), fun q hq => (h.2.2.2 q hq).call hb⟩
theorem LE.ints (h : LE w1 G x y A l M X) : IntsIn X X.heap.size A l := h.2.2.1.more h.1.size
theorem LE.maze (h : LE w1 G x y A l none X) (z : Int) (T : TypeId) : LE w1 G x y A l (some (X.heap.size, z)) (X.alloc (.cells #[.int .i64 x, .int .i64 y, .int .i64 z] T)) := by
  obtain ⟨h1, h2, h3, -⟩ := h.call (below_box X (.cells #[.int .i64 x, .int .i64 y, .int .i64 z] T))
  exact ⟨h1, h2, h3, fun q hq => by cases hq; exact row3_new x y z X T⟩
theorem LE.cells (h : LE w1 G x y A l M X) : X.cell? ⟨G, 0, none⟩ = some (.int .i64 x) ∧ X.cell? ⟨G, 1, none⟩ = some (.int .i64 y) := (row2_cells h.2.1).1
/-- While the second maze is made: the way back, its variable. -/
def LM (w1 : World) (G : Nat) (x y : Int) (A : Option Addr) (l : List Int) (M : Option (Nat × Int)) (ov : Option (Value × List Int)) (oP : Option Nat) (X : World) : Prop :=
  LE w1 G x y A l M X ∧ (∀ v r, ov = some (v, r) → X.ownsRow w1.heap.size 3 1 v r.length (icells r)) ∧ ∀ P, oP = some P → Row3 P 0 0 0 X ∧ w1.heap.size ≤ P ∧ P ≠ G ∧ ∀ q, M = some q → P ≠ q.1
theorem LM.call (h : LM w1 G x y A l M ov oP X) (hb : Below X.heap.size X X') : LM w1 G x y A l M ov oP X' :=
  ⟨h.1.call hb, fun v r e => own_call (h.2.1 v r e) hb, fun P e => ⟨(h.2.2 P e).1.call hb, (h.2.2 P e).2⟩⟩
theorem LM.dr (h : LM w1 G x y A l M ov oP X) : LM w1 G x y A l M ov oP X.drew := h.call ⟨rfl, rfl, rfl, Nat.le_refl _, fun _ _ => rfl⟩
theorem LM.rev (h : LM w1 G x y A l M none oP X) (ho : X'.ownsRow X.heap.size 3 1 v r.length (icells r)) (hb : Below X.heap.size X X') : LM w1 G x y A l M (some (v, r)) oP X' :=
  ⟨h.1.call hb, fun v' r' e => by cases e; exact own_base ho h.1.1.size, fun P e => ⟨(h.2.2 P e).1.call hb, (h.2.2 P e).2⟩⟩
theorem LM.zero (h : LM w1 G x y A l M ov none X) (T : TypeId) : LM w1 G x y A l M ov (some X.heap.size) (X.alloc (.cells #[.int .i64 0, .int .i64 0, .int .i64 0] T)) := by
  obtain ⟨h1, h2, -⟩ := h.call (below_box X (.cells #[.int .i64 0, .int .i64 0, .int .i64 0] T))
  refine ⟨h1, h2, fun P e => ?_⟩
  cases e
  exact ⟨row3_new 0 0 0 X T, h.1.1.size, by have := row2_lt h.1.2.1; omega, fun q hq => by have := row3_lt (h.1.2.2.2 q hq); omega⟩
theorem LM.put (h : LM w1 G x y A l M ov (some P) X) (a b c : Int) :
    LE w1 G x y A l M (((X.setCell ⟨P, 0, none⟩ (.int .i64 a)).setCell ⟨P, 1, none⟩ (.int .i64 b)).setCell ⟨P, 2, none⟩ (.int .i64 c)) ∧ Row3 P a b c (((X.setCell ⟨P, 0, none⟩ (.int .i64 a)).setCell ⟨P, 1, none⟩ (.int .i64 b)).setCell ⟨P, 2, none⟩ (.int .i64 c)) := by
  obtain ⟨⟨h1, h2, h3, h4⟩, -, h5⟩ := h
  obtain ⟨g1, g2, g3, g4⟩ := h5 P rfl
  have hb : Below w1.heap.size X (((X.setCell ⟨P, 0, none⟩ (.int .i64 a)).setCell ⟨P, 1, none⟩ (.int .i64 b)).setCell ⟨P, 2, none⟩ (.int .i64 c)) := (((Below.refl _ _).setCell g2 _).setCell g2 _).setCell g2 _
  exact ⟨⟨h1.trans hb, row2_far (row2_far (row2_far h2 (by exact g3) _) (by exact g3) _) (by exact g3) _, h3.below hb, fun q hq => entO.row3_far (entO.row3_far (entO.row3_far (h4 q hq) (by exact g4 q hq) _) (by exact g4 q hq) _) (by exact g4 q hq) _⟩, entO.row3_set g1⟩
theorem lm_new (h : LE w1 G x y A l M X) : LM w1 G x y A l M none none X := ⟨h, fun _ _ e => (by cases e), fun _ e => (by cases e)⟩

theorem st_mz {ops : Array Oper} {a : Act} {w : World} {K : Act → World → Prop} {Q : Exit → Act → World → Prop} {E : Prop} {d : Tmp} {t : TypeId} {p : String} {af : Array Edge} (hL : Hid (LM w1 G x y A l M ov none w))
    (hK : ∀ g X, Hid (LM w1 G x y A l M ov (some g) X) → K (a.put (some d) (.pointer (some ⟨g, 0, none⟩))) X) :
    if Region.wanted { dst := some d, op := Op.alloc 30, type := t, pos := p, after := af, guard := none } (yielded ops a.tmps) = true then Oper.wp Try.prog { dst := some d, op := Op.alloc 30, type := t, pos := p, after := af, guard := none } a w K Q else E := by
  have q := hK _ _ (Lib.hid (LM.zero hL.out 30))
  go_simp
  exact q
theorem st_put {ops : Array Oper} {a : Act} {w : World} {K : Act → World → Prop} {Q : Exit → Act → World → Prop} {E : Prop} {t : TypeId} {p : String} {af : Array Edge} {i j : Nat} {b0 b1 b2 : Int} (hL : Hid (LM w1 G x y A l M ov (some P) w))
    (hi : a.eval (.tmp i) = .pointer (some ⟨P, 0, none⟩)) (hj : a.eval (.tmp j) = .agg #[.int .i64 b0, .int .i64 b1, .int .i64 b2])
    (hK : ∀ Y, LE w1 G x y A l M Y ∧ Row3 P b0 b1 b2 Y → K a Y) :
    if Region.wanted { dst := none, op := Op.store 30 (.tmp i) (.tmp j), type := t, pos := p, after := af, guard := none } (yielded ops a.tmps) = true then Oper.wp Try.prog { dst := none, op := Op.store 30 (.tmp i) (.tmp j), type := t, pos := p, after := af, guard := none } a w K Q else E := by
  have q := hK _ (LM.put hL.out b0 b1 b2)
  obtain ⟨⟨y0, y1, y2⟩, f0, f1, f2⟩ := row3_cells (hL.out.2.2 P rfl).1
  simp [Act.eval] at hi hj
  go_simp
  exact q
end

set_option maxRecDepth 100000 in
set_option maxHeartbeats 8000000 in
theorem walk_at (A : Option Addr) (n c : Nat) (w : World) (hn : n ≤ maxLen) (hb : BytesIn w w.heap.size A n)
    (HFe : Hid (∀ x y a A n c l X, l.length = n → n ≤ 1048576 → IntsIn X X.heap.size A l → Calls Try.prog 10 #[.agg #[.int .i64 x, .int .i64 y], .int .i64 a, .slice A n c] X (MzB (feX x y a l) (feY x y a l) (feZ x y a l) (feB x y a l) X)))
    (HLe : Hid (∀ x y a A n c l X, l.length = n → n ≤ 1048576 → IntsIn X X.heap.size A l → Calls Try.prog 14 #[.agg #[.int .i64 x, .int .i64 y], .int .i64 a, .slice A n c] X (MzB (feX x y a l) (feY x y a l) (leZ x y a l) (leB x y a l) X)))
    (HCt : Hid (∀ x y a A n c l X, l.length = n → n ≤ 1048576 → IntsIn X X.heap.size A l → Calls Try.prog 11 #[.agg #[.int .i64 x, .int .i64 y], .int .i64 a, .slice A n c] X (Nm (ctZ x y a l) X)))
    (HSn : Hid (∀ x y X, Calls Try.prog 17 #[.agg #[.int .i64 x, .int .i64 y]] X (Ints (snL x y) X))) :
    Calls Try.prog 3 #[.slice A n c] w (Yes w) := by
  have HK := @Lib.hid _ (fun w' h => @yes_mk w w' h)
  have HR := Lib.hid (Below.refl w.heap.size w)
  have HD := Lib.hid (drawTour_any A n c w hn hb)
  have HN := Lib.hid hn
  unfold maxLen at hn
  clear hb
  by_cases hbig : 1048576 < n
  · clear HFe HLe HCt HSn HD
    go_enter Try.func3, Try.ntmps3
    go_wp2_with fail
    refine (big_yes A n c w HN.out hbig).mono ?_
    rintro e w' ⟨rfl, rfl⟩
    go_wp2_with fail
    go_ret
    exact HK.out _ HR.out
  · go_enter Try.func3, Try.ntmps3
    go_wp2_with fail
    refine (big_no A n c w HN.out (by omega)).mono ?_
    rintro e w' ⟨rfl, rfl⟩
    go_wp2_with fail
    refine HD.out.mono ?_
    rintro e w1 ⟨x, y, a, l, v, ⟨htw, hl⟩, rfl, ho, hb1⟩
    obtain ⟨A5, c5, rfl⟩ := own_form ho
    obtain ⟨e1, e2, e3, e4, e5, e6, e7, e8, e9, e10, e11, e12, e13⟩ := entries htw
    have hok := tw_ok htw
    have hcb := (mul_bd x y hok.1 hok.2.1 hok.2.2.1 hok.2.2.2).1
    have P1 : Hid (∀ X, IntsIn X X.heap.size A5 l → Calls Try.prog 10 #[.agg #[.int .i64 x, .int .i64 y], .int .i64 a, .slice A5 l.length c5] X (MzB x y (feZ x y a l) (feB x y a l) X)) := Lib.hid fun X h => by
      have := HFe.out x y a A5 l.length c5 l X rfl (by omega) h
      rwa [e1, e2] at this
    have P2 := Lib.hid (fun X h => HCt.out x y a A5 l.length c5 l X rfl (by omega) h)
    have P3 : Hid (∀ X, IntsIn X X.heap.size A5 l → Calls Try.prog 12 #[.agg #[.int .i64 (fmX x y), .int .i64 (fmY x y), .int .i64 (fmO x y)], .int .i64 a, .slice A5 l.length c5] X (NmB (twZ x y a l) true X)) := Lib.hid fun X h => by
      have := wayM.walkWay_any (fmX x y) (fmY x y) (fmO x y) a A5 l.length c5 l X rfl (by omega) h
      rwa [show wwB (fmX x y) (fmY x y) (fmO x y) a l = true from htw] at this
    have PF := Lib.hid (fun X => fullMaze_any x y X)
    have P4 : Hid (∀ X, IntsIn X X.heap.size A5 l → Calls Try.prog 15 #[.slice A5 l.length c5] X (Ints (rvL l) X)) := Lib.hid fun X h => by
      have := wayM.reverseWay_any A5 l.length c5 l X rfl (by omega) h
      rwa [e3] at this
    have P5 : Hid (∀ A3 c3 X, IntsIn X X.heap.size A3 (rvL l) → Calls Try.prog 14 #[.agg #[.int .i64 x, .int .i64 y], .int .i64 (twZ x y a l), .slice A3 (rvL l).length c3] X (MzB x y (feZ x y a l) (feB x y a l) X)) := Lib.hid fun A3 c3 X h => by
      have := HLe.out x y (twZ x y a l) A3 (rvL l).length c3 (rvL l) X rfl (by omega) h
      rwa [e6, e7, e8, e9] at this
    have P6 := Lib.hid (fun X => gridS.countCells_yes x y X hok.1 hok.2.1 hok.2.2.1 hok.2.2.2)
    have P7 := Lib.hid (fun X => HSn.out x y X)
    have hsm := sn_most x y
    have P8 : Hid (∀ A3 c3 X, IntsIn X X.heap.size A3 (snL x y) → Calls Try.prog 11 #[.agg #[.int .i64 x, .int .i64 y], .int .i64 0, .slice A3 (snL x y).length c3] X (Nm (x * y - 1) X)) := Lib.hid fun A3 c3 X h => by
      have := HCt.out x y 0 A3 (snL x y).length c3 (snL x y) X rfl (by omega) h
      rwa [e13] at this
    have hL1 : Hid (∀ T, LE w1 w1.heap.size x y A5 l none (w1.alloc (.cells #[.int .i64 x, .int .i64 y] T))) := Lib.hid fun T => ⟨below_box _ _, row2_new x y w1 T, (ints_own ho).1.below (below_box _ _), fun q hq => by cases hq⟩
    have HB1 := Lib.hid hb1
    have hw1 : IntKind.i64.wrap (x * y - 1) = x * y - 1 := IntWalk.i64_in _ (by omega)
    clear HFe HLe HCt HSn HD HR ho hb1 e1 e2 e3 e4 e6 e7 e8 e9 e13 htw hok hcb hsm
    generalize feZ x y a l = fz at *
    generalize feB x y a l = ok at *
    generalize ctZ x y a l = t at *
    generalize twZ x y a l = zz at *
    generalize rvL l = rl at *
    generalize snL x y = sl at *
    generalize fmX x y = fx at *
    generalize fmY x y = fy at *
    generalize fmO x y = fo at *
    generalize x * y = NN at *
    have E5 := Lib.hid e5
    clear e5
    go_wp2_with fail
    have hL := Lib.hid (hL1.out 25)
    clear hL1
    obtain ⟨m0, m1⟩ := hL.out.cells
    go_wp2_with fail
    generalize w1.alloc (.cells #[.int .i64 x, .int .i64 y] 25) = wA at *
    generalize hG : w1.heap.size = G at *
    refine (P1.out _ hL.out.ints).mono ?_
    rintro e w2 ⟨rfl, hb⟩
    have hL2 := Lib.hid ((hL.out.call hb).maze fz 30)
    clear hb hL m0 m1
    obtain ⟨m0, m1⟩ := hL2.out.cells
    go_wp2_with fail
    generalize w2.alloc (.cells #[.int .i64 x, .int .i64 y, .int .i64 fz] 30) = wB at *
    generalize w2.heap.size = M1 at *
    refine (P2.out _ hL2.out.ints).mono ?_
    rintro e w3 ⟨rfl, hb⟩
    have hL3 := Lib.hid (hL2.out.call hb)
    clear hb hL2 m0 m1
    obtain ⟨m0, m1⟩ := hL3.out.cells
    go_wp2_with fail
    refine (PF.out _).mono ?_
    rintro e w4 ⟨rfl, hb⟩
    have hL4 := Lib.hid (hL3.out.call hb)
    clear hb hL3 m0 m1
    go_wp2_with fail
    refine (P3.out _ hL4.out.ints).mono ?_
    rintro e w5 ⟨rfl, hb⟩
    have hL5 := Lib.hid (hL4.out.call hb)
    clear hb hL4
    obtain ⟨m0, m1⟩ := hL5.out.cells
    go_wp2_with fail
    go_cut [11, 12] from 41 to 48 (fun u11 u12 wx => ∃ P : Nat, u11 = .pointer (some ⟨P, 0, none⟩) ∧ u12 = .bool ok ∧ LE w1 G x y A5 l (some (M1, fz)) wx ∧ Row3 P x y fz wx)
    case first =>
      have hL := Lib.hid (lm_new hL5.out)
      try simp only [List.cons_append, List.nil_append, List.append_eq]
      refine wp_region_held_drew (S := (fun w' => w'.cell? ⟨G, 0, none⟩ = some (.int .i64 x) ∧ w'.cell? ⟨G, 1, none⟩ = some (.int .i64 y))) (by kernel_rfl) ?_ (fun hHeld0 => ?_)
      · (try dsimp only); (first | exact LE.cells hL.out.1 | exact LE.cells (LM.dr hL.out).1)
      refine wpAnyH_take (i := 0) (oi := { dst := some 42, op := Go.Op.load 25 (Go.Operand.tmp 3), type := 25, pos := "laws.go:447", after := #[], guard := none }) (v := ?_) rfl (by kernel_rfl) (by kernel_rfl) (by kernel_rfl) (fun _ _ _ h => h) (Or.inl ⟨by rfl, ?_⟩) (by assumption) ?_
      rotate_left
      · (intro w hSw; (try dsimp only at hSw); go_simp; try with_reducible rfl)
      try simp only [Act.put, List.setIfInBounds_toArray, List.set_cons_zero, List.set_cons_succ]
      refine wpAnyH_take (i := 1) (oi := { dst := some 43, op := Go.Op.move (Go.Operand.tmp 9), type := 3, pos := "laws.go:447", after := #[], guard := none }) (v := ?_) rfl (by kernel_rfl) (by kernel_rfl) (by kernel_rfl) (fun _ _ _ h => h) (Or.inl ⟨by rfl, ?_⟩) (by assumption) ?_
      rotate_left
      · (intro w hSw; (try dsimp only at hSw); go_simp; try with_reducible rfl)
      try simp only [Act.put, List.setIfInBounds_toArray, List.set_cons_zero, List.set_cons_succ]
      refine wpAnyH_take (i := 2) (oi := { dst := some 44, op := Go.Op.move (Go.Operand.tmp 5), type := 26, pos := "laws.go:447", after := #[], guard := none }) (v := ?_) rfl (by kernel_rfl) (by kernel_rfl) (by kernel_rfl) (fun _ _ _ h => h) (Or.inl ⟨by rfl, ?_⟩) (by assumption) ?_
      rotate_left
      · (intro w hSw; (try dsimp only at hSw); go_simp; try with_reducible rfl)
      try simp only [Act.put, List.setIfInBounds_toArray, List.set_cons_zero, List.set_cons_succ]
      refine wpAnyH_ready (rs := [3, 8]) (by kernel_rfl) (by simp) ?_
      refine (AllReadyH.cons (o := { dst := some 45, op := Go.Op.call { callee := Go.Callee.value (Go.Operand.func 15), args := #[Go.Operand.tmp 44], argTypes := #[26] }, type := 26, pos := "laws.go:447", after := #[{ on := 2, ground := Go.Ground.data }], guard := none }) rfl (fun K3 hK3 => ?_) (AllReadyH.cons (o := { dst := some 11, op := Go.Op.alloc 30, type := 0, pos := "laws.go:447", after := #[], guard := none }) rfl (fun K8 hK8 => ?_) AllReadyH.nil))
      · as_aux_lemma =>
          go_simp
          (first | (refine (P4.out _ hL.out.1.ints).mono ?_; rintro e v1 ⟨v3, rfl, ho3, hb⟩; have q := LM.rev hL.out ho3 hb) | (have hL' := LM.dr hL.out; refine (P4.out _ hL'.1.ints).mono ?_; rintro e v1 ⟨v3, rfl, ho3, hb⟩; have q := LM.rev hL' ho3 hb; clear hL')); obtain ⟨A3, c3, rfl⟩ := own_form ho3; replace hL := Lib.hid q; clear q hb ho3
          go_wp2_with fail
          refine hK3.out _ _ ?_ (fun hHeld1 => ?_)
          · (try dsimp only); (first | exact LE.cells hL.out.1 | exact LE.cells (LM.dr hL.out).1)
          clear hK3 K3 hHeld0
          try simp only [Act.put, List.setIfInBounds_toArray, List.set_cons_zero, List.set_cons_succ]
          refine wpAnyH_ready (rs := [4, 8]) (by kernel_rfl) (by simp) ?_
          refine (AllReadyH.cons (o := { dst := some 46, op := Go.Op.call { callee := Go.Callee.value (Go.Operand.func 14), args := #[Go.Operand.tmp 42, Go.Operand.tmp 43, Go.Operand.tmp 45], argTypes := #[25, 3, 26] }, type := 31, pos := "laws.go:447", after := #[{ on := 0, ground := Go.Ground.data }, { on := 1, ground := Go.Ground.data }, { on := 3, ground := Go.Ground.data }, { on := 3, ground := Go.Ground.chain }], guard := none }) rfl (fun K4 hK4 => ?_) (AllReadyH.cons (o := { dst := some 11, op := Go.Op.alloc 30, type := 0, pos := "laws.go:447", after := #[], guard := none }) rfl (fun K8 hK8 => ?_) AllReadyH.nil))
          · as_aux_lemma =>
              go_simp
              (first | (refine (P5.out _ _ _ (ints_own (hL.out.2.1 _ _ rfl)).1).mono ?_; rintro e v2 ⟨rfl, hb⟩; have q := LM.call hL.out hb) | (have hL' := LM.dr hL.out; refine (P5.out _ _ _ (ints_own (hL'.2.1 _ _ rfl)).1).mono ?_; rintro e v2 ⟨rfl, hb⟩; have q := LM.call hL' hb; clear hL')); replace hL := Lib.hid q; clear q hb
              go_wp2_with fail
              refine hK4.out _ _ ?_ (fun hHeld2 => ?_)
              · (try dsimp only); (first | exact LE.cells hL.out.1 | exact LE.cells (LM.dr hL.out).1)
              clear hK4 K4 hHeld1
              try simp only [Act.put, List.setIfInBounds_toArray, List.set_cons_zero, List.set_cons_succ]
              refine wpAnyH_take (i := 5) (oi := { dst := some 41, op := Go.Op.move (Go.Operand.tmp 46), type := 31, pos := "laws.go:447", after := #[{ on := 4, ground := Go.Ground.data }], guard := none }) (v := ?_) rfl (by kernel_rfl) (by kernel_rfl) (by kernel_rfl) (fun _ _ _ h => h) (Or.inl ⟨by rfl, ?_⟩) (by assumption) ?_
              rotate_left
              · (intro w hSw; (try dsimp only at hSw); go_simp; try with_reducible rfl)
              try simp only [Act.put, List.setIfInBounds_toArray, List.set_cons_zero, List.set_cons_succ]
              refine wpAnyH_take (i := 6) (oi := { dst := some 47, op := Go.Op.extract (Go.Operand.tmp 41) 0, type := 30, pos := "laws.go:447", after := #[{ on := 5, ground := Go.Ground.data }], guard := none }) (v := ?_) rfl (by kernel_rfl) (by kernel_rfl) (by kernel_rfl) (fun _ _ _ h => h) (Or.inl ⟨by rfl, ?_⟩) (by assumption) ?_
              rotate_left
              · (intro w hSw; (try dsimp only at hSw); go_simp; try with_reducible rfl)
              try simp only [Act.put, List.setIfInBounds_toArray, List.set_cons_zero, List.set_cons_succ]
              refine wpAnyH_take (i := 7) (oi := { dst := some 48, op := Go.Op.extract (Go.Operand.tmp 41) 1, type := 4, pos := "laws.go:447", after := #[{ on := 5, ground := Go.Ground.data }, { on := 9, ground := Go.Ground.gcOnly Go.Departure.lateStores }], guard := none }) (v := ?_) rfl (by kernel_rfl) (by kernel_rfl) (by kernel_rfl) (fun _ _ _ h => h) (Or.inl ⟨by rfl, ?_⟩) (by assumption) ?_
              rotate_left
              · (intro w hSw; (try dsimp only at hSw); go_simp; try with_reducible rfl)
              try simp only [Act.put, List.setIfInBounds_toArray, List.set_cons_zero, List.set_cons_succ]
              refine wpAnyH_ready (rs := [8]) (by kernel_rfl) (by simp) ?_
              refine AllReadyH.cons (o := { dst := some 11, op := Go.Op.alloc 30, type := 0, pos := "laws.go:447", after := #[], guard := none }) rfl (fun K8 hK8 => ?_) AllReadyH.nil
              (first | refine st_mz hL (fun g X hL => ?_) | refine st_mz (Lib.hid (LM.dr hL.out)) (fun g X hL => ?_))
              refine hK8.out _ _ ?_ (fun hHeld3 => ?_)
              · (try dsimp only); (first | exact LE.cells hL.out.1 | exact LE.cells (LM.dr hL.out).1)
              clear hK8 K8 hHeld2
              try simp only [Act.put, List.setIfInBounds_toArray, List.set_cons_zero, List.set_cons_succ]
              refine wpAnyH_ready (rs := [9]) (by kernel_rfl) (by simp) ?_
              refine AllReadyH.cons (o := { dst := none, op := Go.Op.store 30 (Go.Operand.tmp 11) (Go.Operand.tmp 47), type := 0, pos := "laws.go:447", after := #[{ on := 8, ground := Go.Ground.data }, { on := 6, ground := Go.Ground.data }, { on := 4, ground := Go.Ground.chain }, { on := 0, ground := Go.Ground.phase }, { on := 1, ground := Go.Ground.phase }, { on := 2, ground := Go.Ground.phase }, { on := 3, ground := Go.Ground.phase }, { on := 4, ground := Go.Ground.phase }, { on := 5, ground := Go.Ground.phase }, { on := 6, ground := Go.Ground.phase }, { on := 7, ground := Go.Ground.textOnly Go.Departure.lateStores }, { on := 8, ground := Go.Ground.phase }], guard := none }) rfl (fun K9 hK9 => ?_) AllReadyH.nil
              (first | refine st_put (b0 := x) (b1 := y) (b2 := fz) hL rfl rfl (fun Y hY => ?_) | refine st_put (b0 := x) (b1 := y) (b2 := fz) (Lib.hid (LM.dr hL.out)) rfl rfl (fun Y hY => ?_))
              refine hK9.out _ _ ?_ (fun hHeld4 => ?_)
              · (try dsimp only); exact LE.cells hY.1
              clear hK9 K9 hHeld3
              try simp only [Act.put]
              refine wpAnyH_take (i := 10) (oi := { dst := some 12, op := Go.Op.assign (Go.Operand.tmp 48), type := 4, pos := "laws.go:447", after := #[{ on := 7, ground := Go.Ground.data }, { on := 9, ground := Go.Ground.chain }, { on := 0, ground := Go.Ground.phase }, { on := 1, ground := Go.Ground.phase }, { on := 2, ground := Go.Ground.phase }, { on := 3, ground := Go.Ground.phase }, { on := 4, ground := Go.Ground.phase }, { on := 5, ground := Go.Ground.phase }, { on := 6, ground := Go.Ground.phase }, { on := 7, ground := Go.Ground.phase }, { on := 8, ground := Go.Ground.phase }, { on := 9, ground := Go.Ground.phase }], guard := none }) (v := ?_) rfl (by kernel_rfl) (by kernel_rfl) (by kernel_rfl) (fun _ _ _ h => h) (Or.inl ⟨by rfl, ?_⟩) (by assumption) ?_
              rotate_left
              · (intro w hSw; (try dsimp only at hSw); go_simp; try with_reducible rfl)
              try simp only [Act.put, List.setIfInBounds_toArray, List.set_cons_zero, List.set_cons_succ]
              refine wpAnyH_done (by kernel_rfl) ?_ _
              (go_wp2_with fail; go_meet; exact ⟨_, rfl, rfl, hY⟩)
          · as_aux_lemma =>
              (first | refine st_mz hL (fun g X hL => ?_) | refine st_mz (Lib.hid (LM.dr hL.out)) (fun g X hL => ?_))
              refine hK8.out _ _ ?_ (fun hHeld2 => ?_)
              · (try dsimp only); (first | exact LE.cells hL.out.1 | exact LE.cells (LM.dr hL.out).1)
              clear hK8 K8 hHeld1
              try simp only [Act.put, List.setIfInBounds_toArray, List.set_cons_zero, List.set_cons_succ]
              refine wpAnyH_ready (rs := [4]) (by kernel_rfl) (by simp) ?_
              refine AllReadyH.cons (o := { dst := some 46, op := Go.Op.call { callee := Go.Callee.value (Go.Operand.func 14), args := #[Go.Operand.tmp 42, Go.Operand.tmp 43, Go.Operand.tmp 45], argTypes := #[25, 3, 26] }, type := 31, pos := "laws.go:447", after := #[{ on := 0, ground := Go.Ground.data }, { on := 1, ground := Go.Ground.data }, { on := 3, ground := Go.Ground.data }, { on := 3, ground := Go.Ground.chain }], guard := none }) rfl (fun K4 hK4 => ?_) AllReadyH.nil
              go_simp
              (first | (refine (P5.out _ _ _ (ints_own (hL.out.2.1 _ _ rfl)).1).mono ?_; rintro e v2 ⟨rfl, hb⟩; have q := LM.call hL.out hb) | (have hL' := LM.dr hL.out; refine (P5.out _ _ _ (ints_own (hL'.2.1 _ _ rfl)).1).mono ?_; rintro e v2 ⟨rfl, hb⟩; have q := LM.call hL' hb; clear hL')); replace hL := Lib.hid q; clear q hb
              go_wp2_with fail
              refine hK4.out _ _ ?_ (fun hHeld3 => ?_)
              · (try dsimp only); (first | exact LE.cells hL.out.1 | exact LE.cells (LM.dr hL.out).1)
              clear hK4 K4 hHeld2
              try simp only [Act.put, List.setIfInBounds_toArray, List.set_cons_zero, List.set_cons_succ]
              refine wpAnyH_take (i := 5) (oi := { dst := some 41, op := Go.Op.move (Go.Operand.tmp 46), type := 31, pos := "laws.go:447", after := #[{ on := 4, ground := Go.Ground.data }], guard := none }) (v := ?_) rfl (by kernel_rfl) (by kernel_rfl) (by kernel_rfl) (fun _ _ _ h => h) (Or.inl ⟨by rfl, ?_⟩) (by assumption) ?_
              rotate_left
              · (intro w hSw; (try dsimp only at hSw); go_simp; try with_reducible rfl)
              try simp only [Act.put, List.setIfInBounds_toArray, List.set_cons_zero, List.set_cons_succ]
              refine wpAnyH_take (i := 6) (oi := { dst := some 47, op := Go.Op.extract (Go.Operand.tmp 41) 0, type := 30, pos := "laws.go:447", after := #[{ on := 5, ground := Go.Ground.data }], guard := none }) (v := ?_) rfl (by kernel_rfl) (by kernel_rfl) (by kernel_rfl) (fun _ _ _ h => h) (Or.inl ⟨by rfl, ?_⟩) (by assumption) ?_
              rotate_left
              · (intro w hSw; (try dsimp only at hSw); go_simp; try with_reducible rfl)
              try simp only [Act.put, List.setIfInBounds_toArray, List.set_cons_zero, List.set_cons_succ]
              refine wpAnyH_take (i := 7) (oi := { dst := some 48, op := Go.Op.extract (Go.Operand.tmp 41) 1, type := 4, pos := "laws.go:447", after := #[{ on := 5, ground := Go.Ground.data }, { on := 9, ground := Go.Ground.gcOnly Go.Departure.lateStores }], guard := none }) (v := ?_) rfl (by kernel_rfl) (by kernel_rfl) (by kernel_rfl) (fun _ _ _ h => h) (Or.inl ⟨by rfl, ?_⟩) (by assumption) ?_
              rotate_left
              · (intro w hSw; (try dsimp only at hSw); go_simp; try with_reducible rfl)
              try simp only [Act.put, List.setIfInBounds_toArray, List.set_cons_zero, List.set_cons_succ]
              refine wpAnyH_ready (rs := [9]) (by kernel_rfl) (by simp) ?_
              refine AllReadyH.cons (o := { dst := none, op := Go.Op.store 30 (Go.Operand.tmp 11) (Go.Operand.tmp 47), type := 0, pos := "laws.go:447", after := #[{ on := 8, ground := Go.Ground.data }, { on := 6, ground := Go.Ground.data }, { on := 4, ground := Go.Ground.chain }, { on := 0, ground := Go.Ground.phase }, { on := 1, ground := Go.Ground.phase }, { on := 2, ground := Go.Ground.phase }, { on := 3, ground := Go.Ground.phase }, { on := 4, ground := Go.Ground.phase }, { on := 5, ground := Go.Ground.phase }, { on := 6, ground := Go.Ground.phase }, { on := 7, ground := Go.Ground.textOnly Go.Departure.lateStores }, { on := 8, ground := Go.Ground.phase }], guard := none }) rfl (fun K9 hK9 => ?_) AllReadyH.nil
              (first | refine st_put (b0 := x) (b1 := y) (b2 := fz) hL rfl rfl (fun Y hY => ?_) | refine st_put (b0 := x) (b1 := y) (b2 := fz) (Lib.hid (LM.dr hL.out)) rfl rfl (fun Y hY => ?_))
              refine hK9.out _ _ ?_ (fun hHeld4 => ?_)
              · (try dsimp only); exact LE.cells hY.1
              clear hK9 K9 hHeld3
              try simp only [Act.put]
              refine wpAnyH_take (i := 10) (oi := { dst := some 12, op := Go.Op.assign (Go.Operand.tmp 48), type := 4, pos := "laws.go:447", after := #[{ on := 7, ground := Go.Ground.data }, { on := 9, ground := Go.Ground.chain }, { on := 0, ground := Go.Ground.phase }, { on := 1, ground := Go.Ground.phase }, { on := 2, ground := Go.Ground.phase }, { on := 3, ground := Go.Ground.phase }, { on := 4, ground := Go.Ground.phase }, { on := 5, ground := Go.Ground.phase }, { on := 6, ground := Go.Ground.phase }, { on := 7, ground := Go.Ground.phase }, { on := 8, ground := Go.Ground.phase }, { on := 9, ground := Go.Ground.phase }], guard := none }) (v := ?_) rfl (by kernel_rfl) (by kernel_rfl) (by kernel_rfl) (fun _ _ _ h => h) (Or.inl ⟨by rfl, ?_⟩) (by assumption) ?_
              rotate_left
              · (intro w hSw; (try dsimp only at hSw); go_simp; try with_reducible rfl)
              try simp only [Act.put, List.setIfInBounds_toArray, List.set_cons_zero, List.set_cons_succ]
              refine wpAnyH_done (by kernel_rfl) ?_ _
              (go_wp2_with fail; go_meet; exact ⟨_, rfl, rfl, hY⟩)
      · as_aux_lemma =>
          (first | refine st_mz hL (fun g X hL => ?_) | refine st_mz (Lib.hid (LM.dr hL.out)) (fun g X hL => ?_))
          refine hK8.out _ _ ?_ (fun hHeld1 => ?_)
          · (try dsimp only); (first | exact LE.cells hL.out.1 | exact LE.cells (LM.dr hL.out).1)
          clear hK8 K8 hHeld0
          try simp only [Act.put, List.setIfInBounds_toArray, List.set_cons_zero, List.set_cons_succ]
          refine wpAnyH_ready (rs := [3]) (by kernel_rfl) (by simp) ?_
          refine AllReadyH.cons (o := { dst := some 45, op := Go.Op.call { callee := Go.Callee.value (Go.Operand.func 15), args := #[Go.Operand.tmp 44], argTypes := #[26] }, type := 26, pos := "laws.go:447", after := #[{ on := 2, ground := Go.Ground.data }], guard := none }) rfl (fun K3 hK3 => ?_) AllReadyH.nil
          go_simp
          (first | (refine (P4.out _ hL.out.1.ints).mono ?_; rintro e v1 ⟨v3, rfl, ho3, hb⟩; have q := LM.rev hL.out ho3 hb) | (have hL' := LM.dr hL.out; refine (P4.out _ hL'.1.ints).mono ?_; rintro e v1 ⟨v3, rfl, ho3, hb⟩; have q := LM.rev hL' ho3 hb; clear hL')); obtain ⟨A3, c3, rfl⟩ := own_form ho3; replace hL := Lib.hid q; clear q hb ho3
          go_wp2_with fail
          refine hK3.out _ _ ?_ (fun hHeld2 => ?_)
          · (try dsimp only); (first | exact LE.cells hL.out.1 | exact LE.cells (LM.dr hL.out).1)
          clear hK3 K3 hHeld1
          try simp only [Act.put, List.setIfInBounds_toArray, List.set_cons_zero, List.set_cons_succ]
          refine wpAnyH_ready (rs := [4]) (by kernel_rfl) (by simp) ?_
          refine AllReadyH.cons (o := { dst := some 46, op := Go.Op.call { callee := Go.Callee.value (Go.Operand.func 14), args := #[Go.Operand.tmp 42, Go.Operand.tmp 43, Go.Operand.tmp 45], argTypes := #[25, 3, 26] }, type := 31, pos := "laws.go:447", after := #[{ on := 0, ground := Go.Ground.data }, { on := 1, ground := Go.Ground.data }, { on := 3, ground := Go.Ground.data }, { on := 3, ground := Go.Ground.chain }], guard := none }) rfl (fun K4 hK4 => ?_) AllReadyH.nil
          go_simp
          (first | (refine (P5.out _ _ _ (ints_own (hL.out.2.1 _ _ rfl)).1).mono ?_; rintro e v2 ⟨rfl, hb⟩; have q := LM.call hL.out hb) | (have hL' := LM.dr hL.out; refine (P5.out _ _ _ (ints_own (hL'.2.1 _ _ rfl)).1).mono ?_; rintro e v2 ⟨rfl, hb⟩; have q := LM.call hL' hb; clear hL')); replace hL := Lib.hid q; clear q hb
          go_wp2_with fail
          refine hK4.out _ _ ?_ (fun hHeld3 => ?_)
          · (try dsimp only); (first | exact LE.cells hL.out.1 | exact LE.cells (LM.dr hL.out).1)
          clear hK4 K4 hHeld2
          try simp only [Act.put, List.setIfInBounds_toArray, List.set_cons_zero, List.set_cons_succ]
          refine wpAnyH_take (i := 5) (oi := { dst := some 41, op := Go.Op.move (Go.Operand.tmp 46), type := 31, pos := "laws.go:447", after := #[{ on := 4, ground := Go.Ground.data }], guard := none }) (v := ?_) rfl (by kernel_rfl) (by kernel_rfl) (by kernel_rfl) (fun _ _ _ h => h) (Or.inl ⟨by rfl, ?_⟩) (by assumption) ?_
          rotate_left
          · (intro w hSw; (try dsimp only at hSw); go_simp; try with_reducible rfl)
          try simp only [Act.put, List.setIfInBounds_toArray, List.set_cons_zero, List.set_cons_succ]
          refine wpAnyH_take (i := 6) (oi := { dst := some 47, op := Go.Op.extract (Go.Operand.tmp 41) 0, type := 30, pos := "laws.go:447", after := #[{ on := 5, ground := Go.Ground.data }], guard := none }) (v := ?_) rfl (by kernel_rfl) (by kernel_rfl) (by kernel_rfl) (fun _ _ _ h => h) (Or.inl ⟨by rfl, ?_⟩) (by assumption) ?_
          rotate_left
          · (intro w hSw; (try dsimp only at hSw); go_simp; try with_reducible rfl)
          try simp only [Act.put, List.setIfInBounds_toArray, List.set_cons_zero, List.set_cons_succ]
          refine wpAnyH_take (i := 7) (oi := { dst := some 48, op := Go.Op.extract (Go.Operand.tmp 41) 1, type := 4, pos := "laws.go:447", after := #[{ on := 5, ground := Go.Ground.data }, { on := 9, ground := Go.Ground.gcOnly Go.Departure.lateStores }], guard := none }) (v := ?_) rfl (by kernel_rfl) (by kernel_rfl) (by kernel_rfl) (fun _ _ _ h => h) (Or.inl ⟨by rfl, ?_⟩) (by assumption) ?_
          rotate_left
          · (intro w hSw; (try dsimp only at hSw); go_simp; try with_reducible rfl)
          try simp only [Act.put, List.setIfInBounds_toArray, List.set_cons_zero, List.set_cons_succ]
          refine wpAnyH_ready (rs := [9]) (by kernel_rfl) (by simp) ?_
          refine AllReadyH.cons (o := { dst := none, op := Go.Op.store 30 (Go.Operand.tmp 11) (Go.Operand.tmp 47), type := 0, pos := "laws.go:447", after := #[{ on := 8, ground := Go.Ground.data }, { on := 6, ground := Go.Ground.data }, { on := 4, ground := Go.Ground.chain }, { on := 0, ground := Go.Ground.phase }, { on := 1, ground := Go.Ground.phase }, { on := 2, ground := Go.Ground.phase }, { on := 3, ground := Go.Ground.phase }, { on := 4, ground := Go.Ground.phase }, { on := 5, ground := Go.Ground.phase }, { on := 6, ground := Go.Ground.phase }, { on := 7, ground := Go.Ground.textOnly Go.Departure.lateStores }, { on := 8, ground := Go.Ground.phase }], guard := none }) rfl (fun K9 hK9 => ?_) AllReadyH.nil
          (first | refine st_put (b0 := x) (b1 := y) (b2 := fz) hL rfl rfl (fun Y hY => ?_) | refine st_put (b0 := x) (b1 := y) (b2 := fz) (Lib.hid (LM.dr hL.out)) rfl rfl (fun Y hY => ?_))
          refine hK9.out _ _ ?_ (fun hHeld4 => ?_)
          · (try dsimp only); exact LE.cells hY.1
          clear hK9 K9 hHeld3
          try simp only [Act.put]
          refine wpAnyH_take (i := 10) (oi := { dst := some 12, op := Go.Op.assign (Go.Operand.tmp 48), type := 4, pos := "laws.go:447", after := #[{ on := 7, ground := Go.Ground.data }, { on := 9, ground := Go.Ground.chain }, { on := 0, ground := Go.Ground.phase }, { on := 1, ground := Go.Ground.phase }, { on := 2, ground := Go.Ground.phase }, { on := 3, ground := Go.Ground.phase }, { on := 4, ground := Go.Ground.phase }, { on := 5, ground := Go.Ground.phase }, { on := 6, ground := Go.Ground.phase }, { on := 7, ground := Go.Ground.phase }, { on := 8, ground := Go.Ground.phase }, { on := 9, ground := Go.Ground.phase }], guard := none }) (v := ?_) rfl (by kernel_rfl) (by kernel_rfl) (by kernel_rfl) (fun _ _ _ h => h) (Or.inl ⟨by rfl, ?_⟩) (by assumption) ?_
          rotate_left
          · (intro w hSw; (try dsimp only at hSw); go_simp; try with_reducible rfl)
          try simp only [Act.put, List.setIfInBounds_toArray, List.set_cons_zero, List.set_cons_succ]
          refine wpAnyH_done (by kernel_rfl) ?_ _
          (go_wp2_with fail; go_meet; exact ⟨_, rfl, rfl, hY⟩)
    case rest =>
    obtain ⟨M2, rfl, rfl, hle, hr2⟩ := hcut
    have hL6 := Lib.hid hle
    have hR6 := Lib.hid hr2
    clear hle hr2 hL5 m0 m1 P1 P2 P3 P4 P5 PF
    obtain ⟨m0, m1⟩ := hL6.out.cells
    go_wp2_with fail
    refine (P6.out _).mono ?_
    rintro e w7 ⟨rfl, hb⟩
    have hL7 := Lib.hid (hL6.out.call hb)
    have hR7 := Lib.hid (hR6.out.call hb)
    clear hb hL6 hR6 m0 m1 P6
    obtain ⟨m0, m1⟩ := hL7.out.cells
    obtain ⟨⟨p0, p1, p2⟩, -⟩ := row3_cells (hL7.out.2.2.2 _ rfl)
    obtain ⟨⟨q0, q1, q2⟩, -⟩ := row3_cells hR7.out
    have h1 : decide (t ≤ (l.length : Int)) = true := decide_eq_true e11
    by_cases ht : t < 0
    · have h2 : decide (0 ≤ t) = false := decide_eq_false (by omega)
      have h3 : decide (t < 0) = true := decide_eq_true ht
      obtain rfl : ok = false := by rw [E5.out]; exact h2
      clear e10 e11 e12 ht E5
      go_wp2_with fail
      try simp only [List.cons_append, List.nil_append, List.append_eq]
      refine wp_region_held_drew (S := (fun w' => w'.cell? ⟨G, 0, none⟩ = some (.int .i64 x) ∧ w'.cell? ⟨G, 1, none⟩ = some (.int .i64 y) ∧ w'.cell? ⟨M1, 0, none⟩ = some (.int .i64 x) ∧ w'.cell? ⟨M1, 1, none⟩ = some (.int .i64 y) ∧ w'.cell? ⟨M1, 2, none⟩ = some (.int .i64 fz) ∧ w'.cell? ⟨M2, 0, none⟩ = some (.int .i64 x) ∧ w'.cell? ⟨M2, 1, none⟩ = some (.int .i64 y) ∧ w'.cell? ⟨M2, 2, none⟩ = some (.int .i64 fz))) (by kernel_rfl) ?_ (fun hHeld0 => ?_)
      · (try dsimp only); go_keep
      refine wpAnyH_take (i := 0) (oi := { dst := some 51, op := Go.Op.move (Go.Operand.tmp 7), type := 4, pos := "laws.go:449", after := #[], guard := none }) (v := ?_) rfl (by kernel_rfl) (by kernel_rfl) (by kernel_rfl) (fun _ _ _ h => h) (Or.inl ⟨by rfl, ?_⟩) (by assumption) ?_
      rotate_left
      · (intro w hSw; (try dsimp only at hSw); go_simp; try with_reducible rfl)
      try simp only [Act.put, List.setIfInBounds_toArray, List.set_cons_zero, List.set_cons_succ]
      refine wpAnyH_take (i := 1) (oi := { dst := some 52, op := Go.Op.move (Go.Operand.tmp 8), type := 3, pos := "laws.go:449", after := #[], guard := none }) (v := ?_) rfl (by kernel_rfl) (by kernel_rfl) (by kernel_rfl) (fun _ _ _ h => h) (Or.inl ⟨by rfl, ?_⟩) (by assumption) ?_
      rotate_left
      · (intro w hSw; (try dsimp only at hSw); go_simp; try with_reducible rfl)
      try simp only [Act.put, List.setIfInBounds_toArray, List.set_cons_zero, List.set_cons_succ]
      refine wpAnyH_take (i := 2) (oi := { dst := some 53, op := Go.Op.binOp Go.BinOp.geq 3 (Go.Operand.tmp 52) (Go.Operand.const (Go.Value.int Go.IntKind.i64 0)) 3, type := 4, pos := "laws.go:449", after := #[{ on := 1, ground := Go.Ground.data }], guard := none }) (v := ?_) rfl (by kernel_rfl) (by kernel_rfl) (by kernel_rfl) (fun _ _ _ h => h) (Or.inl ⟨by rfl, ?_⟩) (by assumption) ?_
      rotate_left
      · (intro w hSw; (try dsimp only at hSw); go_simp; try with_reducible rfl)
      try simp only [Act.put, List.setIfInBounds_toArray, List.set_cons_zero, List.set_cons_succ]
      refine wpAnyH_take (i := 3) (oi := { dst := some 54, op := Go.Op.binOp Go.BinOp.eql 4 (Go.Operand.tmp 51) (Go.Operand.tmp 53) 4, type := 4, pos := "laws.go:449", after := #[{ on := 0, ground := Go.Ground.data }, { on := 2, ground := Go.Ground.data }], guard := none }) (v := ?_) rfl (by kernel_rfl) (by kernel_rfl) (by kernel_rfl) (fun _ _ _ h => h) (Or.inl ⟨by rfl, ?_⟩) (by assumption) ?_
      rotate_left
      · (intro w hSw; (try dsimp only at hSw); go_simp; try with_reducible rfl)
      try simp only [Act.put, List.setIfInBounds_toArray, List.set_cons_zero, List.set_cons_succ]
      refine wpAnyH_take (i := 4) (oi := { dst := some 55, op := Go.Op.move (Go.Operand.tmp 54), type := 4, pos := "laws.go:449", after := #[{ on := 3, ground := Go.Ground.data }], guard := none }) (v := ?_) rfl (by kernel_rfl) (by kernel_rfl) (by kernel_rfl) (fun _ _ _ h => h) (Or.inl ⟨by rfl, ?_⟩) (by assumption) ?_
      rotate_left
      · (intro w hSw; (try dsimp only at hSw); go_simp; try with_reducible rfl)
      try simp only [Act.put, List.setIfInBounds_toArray, List.set_cons_zero, List.set_cons_succ]
      refine wpAnyH_take (i := 5) (oi := { dst := some 56, op := Go.Op.load 30 (Go.Operand.tmp 6), type := 30, pos := "laws.go:449", after := #[{ on := 4, ground := Go.Ground.guard }], guard := some (4, true) }) (v := ?_) rfl (by kernel_rfl) (by kernel_rfl) (by kernel_rfl) (fun _ _ _ h => h) (Or.inl ⟨by rfl, ?_⟩) (by assumption) ?_
      rotate_left
      · (intro w hSw; (try dsimp only at hSw); go_simp; try with_reducible rfl)
      try simp only [Act.put, List.setIfInBounds_toArray, List.set_cons_zero, List.set_cons_succ]
      refine wpAnyH_take (i := 6) (oi := { dst := some 57, op := Go.Op.load 30 (Go.Operand.tmp 11), type := 30, pos := "laws.go:449", after := #[{ on := 4, ground := Go.Ground.guard }], guard := some (4, true) }) (v := ?_) rfl (by kernel_rfl) (by kernel_rfl) (by kernel_rfl) (fun _ _ _ h => h) (Or.inl ⟨by rfl, ?_⟩) (by assumption) ?_
      rotate_left
      · (intro w hSw; (try dsimp only at hSw); go_simp; try with_reducible rfl)
      try simp only [Act.put, List.setIfInBounds_toArray, List.set_cons_zero, List.set_cons_succ]
      refine wpAnyH_take (i := 7) (oi := { dst := some 58, op := Go.Op.binOp Go.BinOp.eql 30 (Go.Operand.tmp 56) (Go.Operand.tmp 57) 30, type := 4, pos := "laws.go:449", after := #[{ on := 5, ground := Go.Ground.data }, { on := 6, ground := Go.Ground.data }, { on := 4, ground := Go.Ground.guard }], guard := some (4, true) }) (v := ?_) rfl (by kernel_rfl) (by kernel_rfl) (by kernel_rfl) (fun _ _ _ h => h) (Or.inl ⟨by rfl, ?_⟩) (by assumption) ?_
      rotate_left
      · (intro w hSw; (try dsimp only at hSw); go_simp; try with_reducible rfl)
      try simp only [Act.put, List.setIfInBounds_toArray, List.set_cons_zero, List.set_cons_succ]
      refine wpAnyH_take (i := 8) (oi := { dst := some 59, op := Go.Op.pick (Go.Operand.tmp 55) (Go.Operand.tmp 58) (Go.Operand.const (Go.Value.bool false)), type := 4, pos := "laws.go:449", after := #[{ on := 4, ground := Go.Ground.data }, { on := 7, ground := Go.Ground.data }], guard := none }) (v := ?_) rfl (by kernel_rfl) (by kernel_rfl) (by kernel_rfl) (fun _ _ _ h => h) (Or.inl ⟨by rfl, ?_⟩) (by assumption) ?_
      rotate_left
      · (intro w hSw; (try dsimp only at hSw); go_simp; try with_reducible rfl)
      try simp only [Act.put, List.setIfInBounds_toArray, List.set_cons_zero, List.set_cons_succ]
      refine wpAnyH_take (i := 9) (oi := { dst := some 60, op := Go.Op.move (Go.Operand.tmp 59), type := 4, pos := "laws.go:449", after := #[{ on := 8, ground := Go.Ground.data }, { on := 4, ground := Go.Ground.chain }], guard := none }) (v := ?_) rfl (by kernel_rfl) (by kernel_rfl) (by kernel_rfl) (fun _ _ _ h => h) (Or.inl ⟨by rfl, ?_⟩) (by assumption) ?_
      rotate_left
      · (intro w hSw; (try dsimp only at hSw); go_simp; try with_reducible rfl)
      try simp only [Act.put, List.setIfInBounds_toArray, List.set_cons_zero, List.set_cons_succ]
      refine wpAnyH_take (i := 10) (oi := { dst := some 61, op := Go.Op.move (Go.Operand.tmp 12), type := 4, pos := "laws.go:449", after := #[{ on := 9, ground := Go.Ground.guard }], guard := some (9, true) }) (v := ?_) rfl (by kernel_rfl) (by kernel_rfl) (by kernel_rfl) (fun _ _ _ h => h) (Or.inl ⟨by rfl, ?_⟩) (by assumption) ?_
      rotate_left
      · (intro w hSw; (try dsimp only at hSw); go_simp; try with_reducible rfl)
      try simp only [Act.put, List.setIfInBounds_toArray, List.set_cons_zero, List.set_cons_succ]
      refine wpAnyH_take (i := 11) (oi := { dst := some 62, op := Go.Op.move (Go.Operand.tmp 7), type := 4, pos := "laws.go:449", after := #[{ on := 9, ground := Go.Ground.guard }], guard := some (9, true) }) (v := ?_) rfl (by kernel_rfl) (by kernel_rfl) (by kernel_rfl) (fun _ _ _ h => h) (Or.inl ⟨by rfl, ?_⟩) (by assumption) ?_
      rotate_left
      · (intro w hSw; (try dsimp only at hSw); go_simp; try with_reducible rfl)
      try simp only [Act.put, List.setIfInBounds_toArray, List.set_cons_zero, List.set_cons_succ]
      refine wpAnyH_take (i := 12) (oi := { dst := some 63, op := Go.Op.binOp Go.BinOp.eql 4 (Go.Operand.tmp 61) (Go.Operand.tmp 62) 4, type := 4, pos := "laws.go:449", after := #[{ on := 10, ground := Go.Ground.data }, { on := 11, ground := Go.Ground.data }, { on := 9, ground := Go.Ground.guard }], guard := some (9, true) }) (v := ?_) rfl (by kernel_rfl) (by kernel_rfl) (by kernel_rfl) (fun _ _ _ h => h) (Or.inl ⟨by rfl, ?_⟩) (by assumption) ?_
      rotate_left
      · (intro w hSw; (try dsimp only at hSw); go_simp; try with_reducible rfl)
      try simp only [Act.put, List.setIfInBounds_toArray, List.set_cons_zero, List.set_cons_succ]
      refine wpAnyH_take (i := 13) (oi := { dst := some 64, op := Go.Op.pick (Go.Operand.tmp 60) (Go.Operand.tmp 63) (Go.Operand.const (Go.Value.bool false)), type := 4, pos := "laws.go:449", after := #[{ on := 9, ground := Go.Ground.data }, { on := 12, ground := Go.Ground.data }], guard := none }) (v := ?_) rfl (by kernel_rfl) (by kernel_rfl) (by kernel_rfl) (fun _ _ _ h => h) (Or.inl ⟨by rfl, ?_⟩) (by assumption) ?_
      rotate_left
      · (intro w hSw; (try dsimp only at hSw); go_simp; try with_reducible rfl)
      try simp only [Act.put, List.setIfInBounds_toArray, List.set_cons_zero, List.set_cons_succ]
      refine wpAnyH_take (i := 14) (oi := { dst := some 65, op := Go.Op.move (Go.Operand.tmp 64), type := 4, pos := "laws.go:449", after := #[{ on := 13, ground := Go.Ground.data }, { on := 9, ground := Go.Ground.chain }], guard := none }) (v := ?_) rfl (by kernel_rfl) (by kernel_rfl) (by kernel_rfl) (fun _ _ _ h => h) (Or.inl ⟨by rfl, ?_⟩) (by assumption) ?_
      rotate_left
      · (intro w hSw; (try dsimp only at hSw); go_simp; try with_reducible rfl)
      try simp only [Act.put, List.setIfInBounds_toArray, List.set_cons_zero, List.set_cons_succ]
      refine wpAnyH_take (i := 15) (oi := { dst := some 66, op := Go.Op.move (Go.Operand.tmp 8), type := 3, pos := "laws.go:449", after := #[{ on := 14, ground := Go.Ground.guard }], guard := some (14, true) }) (v := ?_) rfl (by kernel_rfl) (by kernel_rfl) (by kernel_rfl) (fun _ _ _ h => h) (Or.inl ⟨by rfl, ?_⟩) (by assumption) ?_
      rotate_left
      · (intro w hSw; (try dsimp only at hSw); go_simp; try with_reducible rfl)
      try simp only [Act.put, List.setIfInBounds_toArray, List.set_cons_zero, List.set_cons_succ]
      refine wpAnyH_take (i := 16) (oi := { dst := some 67, op := Go.Op.move (Go.Operand.tmp 5), type := 26, pos := "laws.go:449", after := #[{ on := 14, ground := Go.Ground.guard }], guard := some (14, true) }) (v := ?_) rfl (by kernel_rfl) (by kernel_rfl) (by kernel_rfl) (fun _ _ _ h => h) (Or.inl ⟨by rfl, ?_⟩) (by assumption) ?_
      rotate_left
      · (intro w hSw; (try dsimp only at hSw); go_simp; try with_reducible rfl)
      try simp only [Act.put, List.setIfInBounds_toArray, List.set_cons_zero, List.set_cons_succ]
      refine wpAnyH_take (i := 17) (oi := { dst := some 68, op := Go.Op.call { callee := Go.Callee.builtin Go.Builtin.len, args := #[Go.Operand.tmp 67], argTypes := #[26] }, type := 3, pos := "laws.go:449", after := #[{ on := 16, ground := Go.Ground.data }, { on := 14, ground := Go.Ground.guard }], guard := some (14, true) }) (v := ?_) rfl (by kernel_rfl) (by kernel_rfl) (by kernel_rfl) (fun _ _ _ h => h) (Or.inl ⟨by rfl, ?_⟩) (by assumption) ?_
      rotate_left
      · (intro w hSw; (try dsimp only at hSw); go_simp; try with_reducible rfl)
      try simp only [Act.put, List.setIfInBounds_toArray, List.set_cons_zero, List.set_cons_succ]
      refine wpAnyH_take (i := 18) (oi := { dst := some 69, op := Go.Op.binOp Go.BinOp.leq 3 (Go.Operand.tmp 66) (Go.Operand.tmp 68) 3, type := 4, pos := "laws.go:449", after := #[{ on := 15, ground := Go.Ground.data }, { on := 17, ground := Go.Ground.data }, { on := 14, ground := Go.Ground.guard }], guard := some (14, true) }) (v := ?_) rfl (by kernel_rfl) (by kernel_rfl) (by kernel_rfl) (fun _ _ _ h => h) (Or.inl ⟨by rfl, ?_⟩) (by assumption) ?_
      rotate_left
      · (intro w hSw; (try dsimp only at hSw); go_simp; try with_reducible rfl)
      try simp only [Act.put, List.setIfInBounds_toArray, List.set_cons_zero, List.set_cons_succ]
      refine wpAnyH_take (i := 19) (oi := { dst := some 70, op := Go.Op.pick (Go.Operand.tmp 65) (Go.Operand.tmp 69) (Go.Operand.const (Go.Value.bool false)), type := 4, pos := "laws.go:449", after := #[{ on := 14, ground := Go.Ground.data }, { on := 18, ground := Go.Ground.data }], guard := none }) (v := ?_) rfl (by kernel_rfl) (by kernel_rfl) (by kernel_rfl) (fun _ _ _ h => h) (Or.inl ⟨by rfl, ?_⟩) (by assumption) ?_
      rotate_left
      · (intro w hSw; (try dsimp only at hSw); go_simp; try with_reducible rfl)
      try simp only [Act.put, List.setIfInBounds_toArray, List.set_cons_zero, List.set_cons_succ]
      refine wpAnyH_take (i := 20) (oi := { dst := some 71, op := Go.Op.move (Go.Operand.tmp 70), type := 4, pos := "laws.go:449", after := #[{ on := 19, ground := Go.Ground.data }, { on := 14, ground := Go.Ground.chain }], guard := none }) (v := ?_) rfl (by kernel_rfl) (by kernel_rfl) (by kernel_rfl) (fun _ _ _ h => h) (Or.inl ⟨by rfl, ?_⟩) (by assumption) ?_
      rotate_left
      · (intro w hSw; (try dsimp only at hSw); go_simp; try with_reducible rfl)
      try simp only [Act.put, List.setIfInBounds_toArray, List.set_cons_zero, List.set_cons_succ]
      refine wpAnyH_take (i := 21) (oi := { dst := some 72, op := Go.Op.move (Go.Operand.tmp 8), type := 3, pos := "laws.go:449", after := #[{ on := 20, ground := Go.Ground.guard }], guard := some (20, true) }) (v := ?_) rfl (by kernel_rfl) (by kernel_rfl) (by kernel_rfl) (fun _ _ _ h => h) (Or.inl ⟨by rfl, ?_⟩) (by assumption) ?_
      rotate_left
      · (intro w hSw; (try dsimp only at hSw); go_simp; try with_reducible rfl)
      try simp only [Act.put, List.setIfInBounds_toArray, List.set_cons_zero, List.set_cons_succ]
      refine wpAnyH_take (i := 22) (oi := { dst := some 73, op := Go.Op.binOp Go.BinOp.lss 3 (Go.Operand.tmp 72) (Go.Operand.const (Go.Value.int Go.IntKind.i64 0)) 3, type := 4, pos := "laws.go:449", after := #[{ on := 21, ground := Go.Ground.data }, { on := 20, ground := Go.Ground.guard }], guard := some (20, true) }) (v := ?_) rfl (by kernel_rfl) (by kernel_rfl) (by kernel_rfl) (fun _ _ _ h => h) (Or.inl ⟨by rfl, ?_⟩) (by assumption) ?_
      rotate_left
      · (intro w hSw; (try dsimp only at hSw); go_simp; try with_reducible rfl)
      try simp only [Act.put, List.setIfInBounds_toArray, List.set_cons_zero, List.set_cons_succ]
      refine wpAnyH_take (i := 23) (oi := { dst := some 74, op := Go.Op.move (Go.Operand.tmp 73), type := 4, pos := "laws.go:449", after := #[{ on := 22, ground := Go.Ground.data }, { on := 20, ground := Go.Ground.chain }, { on := 20, ground := Go.Ground.guard }], guard := some (20, true) }) (v := ?_) rfl (by kernel_rfl) (by kernel_rfl) (by kernel_rfl) (fun _ _ _ h => h) (Or.inl ⟨by rfl, ?_⟩) (by assumption) ?_
      rotate_left
      · (intro w hSw; (try dsimp only at hSw); go_simp; try with_reducible rfl)
      try simp only [Act.put, List.setIfInBounds_toArray, List.set_cons_zero, List.set_cons_succ]
      refine wpAnyH_take (i := 24) (oi := { dst := some 75, op := Go.Op.move (Go.Operand.tmp 8), type := 3, pos := "laws.go:449", after := #[{ on := 23, ground := Go.Ground.guard }], guard := some (23, false) }) (v := undef) rfl (by kernel_rfl) (by kernel_rfl) (by kernel_rfl) (fun _ _ _ h => h) (Or.inr ⟨by rfl, rfl⟩) (by assumption) ?_
      try simp only [Act.put, List.setIfInBounds_toArray, List.set_cons_zero, List.set_cons_succ]
      refine wpAnyH_take (i := 25) (oi := { dst := some 76, op := Go.Op.move (Go.Operand.tmp 13), type := 3, pos := "laws.go:449", after := #[{ on := 23, ground := Go.Ground.guard }], guard := some (23, false) }) (v := undef) rfl (by kernel_rfl) (by kernel_rfl) (by kernel_rfl) (fun _ _ _ h => h) (Or.inr ⟨by rfl, rfl⟩) (by assumption) ?_
      try simp only [Act.put, List.setIfInBounds_toArray, List.set_cons_zero, List.set_cons_succ]
      refine wpAnyH_take (i := 26) (oi := { dst := some 77, op := Go.Op.binOp Go.BinOp.sub 3 (Go.Operand.tmp 76) (Go.Operand.const (Go.Value.int Go.IntKind.i64 1)) 3, type := 3, pos := "laws.go:449", after := #[{ on := 25, ground := Go.Ground.data }, { on := 23, ground := Go.Ground.guard }], guard := some (23, false) }) (v := undef) rfl (by kernel_rfl) (by kernel_rfl) (by kernel_rfl) (fun _ _ _ h => h) (Or.inr ⟨by rfl, rfl⟩) (by assumption) ?_
      try simp only [Act.put, List.setIfInBounds_toArray, List.set_cons_zero, List.set_cons_succ]
      refine wpAnyH_take (i := 27) (oi := { dst := some 78, op := Go.Op.binOp Go.BinOp.geq 3 (Go.Operand.tmp 75) (Go.Operand.tmp 77) 3, type := 4, pos := "laws.go:449", after := #[{ on := 24, ground := Go.Ground.data }, { on := 26, ground := Go.Ground.data }, { on := 23, ground := Go.Ground.guard }], guard := some (23, false) }) (v := undef) rfl (by kernel_rfl) (by kernel_rfl) (by kernel_rfl) (fun _ _ _ h => h) (Or.inr ⟨by rfl, rfl⟩) (by assumption) ?_
      try simp only [Act.put, List.setIfInBounds_toArray, List.set_cons_zero, List.set_cons_succ]
      refine wpAnyH_take (i := 28) (oi := { dst := some 79, op := Go.Op.pick (Go.Operand.tmp 74) (Go.Operand.const (Go.Value.bool true)) (Go.Operand.tmp 78), type := 4, pos := "laws.go:449", after := #[{ on := 23, ground := Go.Ground.data }, { on := 27, ground := Go.Ground.data }, { on := 20, ground := Go.Ground.guard }], guard := some (20, true) }) (v := ?_) rfl (by kernel_rfl) (by kernel_rfl) (by kernel_rfl) (fun _ _ _ h => h) (Or.inl ⟨by rfl, ?_⟩) (by assumption) ?_
      rotate_left
      · (intro w hSw; (try dsimp only at hSw); go_simp; try with_reducible rfl)
      try simp only [Act.put, List.setIfInBounds_toArray, List.set_cons_zero, List.set_cons_succ]
      refine wpAnyH_take (i := 29) (oi := { dst := some 80, op := Go.Op.pick (Go.Operand.tmp 71) (Go.Operand.tmp 79) (Go.Operand.const (Go.Value.bool false)), type := 4, pos := "laws.go:449", after := #[{ on := 20, ground := Go.Ground.data }, { on := 28, ground := Go.Ground.data }], guard := none }) (v := ?_) rfl (by kernel_rfl) (by kernel_rfl) (by kernel_rfl) (fun _ _ _ h => h) (Or.inl ⟨by rfl, ?_⟩) (by assumption) ?_
      rotate_left
      · (intro w hSw; (try dsimp only at hSw); go_simp; try with_reducible rfl)
      try simp only [Act.put, List.setIfInBounds_toArray, List.set_cons_zero, List.set_cons_succ]
      refine wpAnyH_take (i := 30) (oi := { dst := some 81, op := Go.Op.move (Go.Operand.tmp 80), type := 4, pos := "laws.go:449", after := #[{ on := 29, ground := Go.Ground.data }, { on := 23, ground := Go.Ground.chain }], guard := none }) (v := ?_) rfl (by kernel_rfl) (by kernel_rfl) (by kernel_rfl) (fun _ _ _ h => h) (Or.inl ⟨by rfl, ?_⟩) (by assumption) ?_
      rotate_left
      · (intro w hSw; (try dsimp only at hSw); go_simp; try with_reducible rfl)
      try simp only [Act.put, List.setIfInBounds_toArray, List.set_cons_zero, List.set_cons_succ]
      refine wpAnyH_take (i := 31) (oi := { dst := some 82, op := Go.Op.load 25 (Go.Operand.tmp 3), type := 25, pos := "laws.go:449", after := #[{ on := 30, ground := Go.Ground.guard }], guard := some (30, true) }) (v := ?_) rfl (by kernel_rfl) (by kernel_rfl) (by kernel_rfl) (fun _ _ _ h => h) (Or.inl ⟨by rfl, ?_⟩) (by assumption) ?_
      rotate_left
      · (intro w hSw; (try dsimp only at hSw); go_simp; try with_reducible rfl)
      try simp only [Act.put, List.setIfInBounds_toArray, List.set_cons_zero, List.set_cons_succ]
      refine wpAnyH_take (i := 32) (oi := { dst := some 83, op := Go.Op.load 25 (Go.Operand.tmp 3), type := 25, pos := "laws.go:449", after := #[{ on := 30, ground := Go.Ground.guard }], guard := some (30, true) }) (v := ?_) rfl (by kernel_rfl) (by kernel_rfl) (by kernel_rfl) (fun _ _ _ h => h) (Or.inl ⟨by rfl, ?_⟩) (by assumption) ?_
      rotate_left
      · (intro w hSw; (try dsimp only at hSw); go_simp; try with_reducible rfl)
      try simp only [Act.put, List.setIfInBounds_toArray, List.set_cons_zero, List.set_cons_succ]
      refine wpAnyH_take (i := 35) (oi := { dst := some 86, op := Go.Op.move (Go.Operand.tmp 13), type := 3, pos := "laws.go:449", after := #[{ on := 30, ground := Go.Ground.guard }], guard := some (30, true) }) (v := ?_) rfl (by kernel_rfl) (by kernel_rfl) (by kernel_rfl) (fun _ _ _ h => h) (Or.inl ⟨by rfl, ?_⟩) (by assumption) ?_
      rotate_left
      · (intro w hSw; (try dsimp only at hSw); go_simp; try with_reducible rfl)
      try simp only [Act.put, List.setIfInBounds_toArray, List.set_cons_zero, List.set_cons_succ]
      refine wpAnyH_take (i := 36) (oi := { dst := some 87, op := Go.Op.binOp Go.BinOp.sub 3 (Go.Operand.tmp 86) (Go.Operand.const (Go.Value.int Go.IntKind.i64 1)) 3, type := 3, pos := "laws.go:449", after := #[{ on := 35, ground := Go.Ground.data }, { on := 30, ground := Go.Ground.guard }], guard := some (30, true) }) (v := ?_) rfl (by kernel_rfl) (by kernel_rfl) (by kernel_rfl) (fun _ _ _ h => h) (Or.inl ⟨by rfl, ?_⟩) (by assumption) ?_
      rotate_left
      · (intro w hSw; (try dsimp only at hSw); go_simp; try with_reducible rfl)
      try simp only [Act.put, List.setIfInBounds_toArray, List.set_cons_zero, List.set_cons_succ]
      refine wpAnyH_ready (rs := [33]) (by kernel_rfl) (by simp) ?_
      refine AllReadyH.cons (o := { dst := some 84, op := Go.Op.call { callee := Go.Callee.value (Go.Operand.func 17), args := #[Go.Operand.tmp 83], argTypes := #[25] }, type := 26, pos := "laws.go:449", after := #[{ on := 32, ground := Go.Ground.data }, { on := 30, ground := Go.Ground.chain }, { on := 30, ground := Go.Ground.guard }], guard := some (30, true) }) rfl (fun K33 hK33 => ?_) AllReadyH.nil
      go_simp
      (refine (P7.out _).mono ?_; rintro e v1 ⟨vs, rfl, hos, hb⟩; have hL8 := Lib.hid ((LE.call (X' := w7.drew) hL7.out ⟨rfl, rfl, rfl, Nat.le_refl _, fun _ _ => rfl⟩).call hb); have hR8 := Lib.hid ((Row3.call (X' := w7.drew) hR7.out ⟨rfl, rfl, rfl, Nat.le_refl _, fun _ _ => rfl⟩).call hb); obtain ⟨As, cs, rfl⟩ := own_form hos; have HIs := Lib.hid (ints_own hos).1; obtain ⟨n0, n1⟩ := hL8.out.cells; obtain ⟨⟨r0, r1, r2⟩, -⟩ := row3_cells (hL8.out.2.2.2 _ rfl); obtain ⟨⟨s0, s1, s2⟩, -⟩ := row3_cells hR8.out; clear hos hb)
      go_wp2_with fail
      refine hK33.out _ _ ?_ (fun hHeld1 => ?_)
      · (try dsimp only); go_keep
      clear hK33 K33 hHeld0
      try simp only [Act.put, List.setIfInBounds_toArray, List.set_cons_zero, List.set_cons_succ]
      refine wpAnyH_ready (rs := [34]) (by kernel_rfl) (by simp) ?_
      refine AllReadyH.cons (o := { dst := some 85, op := Go.Op.call { callee := Go.Callee.value (Go.Operand.func 11), args := #[Go.Operand.tmp 82, Go.Operand.const (Go.Value.int Go.IntKind.i64 0), Go.Operand.tmp 84], argTypes := #[25, 3, 26] }, type := 3, pos := "laws.go:449", after := #[{ on := 31, ground := Go.Ground.data }, { on := 33, ground := Go.Ground.data }, { on := 33, ground := Go.Ground.chain }, { on := 30, ground := Go.Ground.guard }], guard := some (30, true) }) rfl (fun K34 hK34 => ?_) AllReadyH.nil
      go_simp
      (refine (P8.out _ _ _ HIs.out).mono ?_; rintro e v2 ⟨rfl, hb⟩; have hL9 := Lib.hid (hL8.out.call hb); have hR9 := Lib.hid (hR8.out.call hb); obtain ⟨i0', i1'⟩ := hL9.out.cells; obtain ⟨⟨j0, j1, j2⟩, -⟩ := row3_cells (hL9.out.2.2.2 _ rfl); obtain ⟨⟨k0, k1, k2⟩, -⟩ := row3_cells hR9.out; clear hb)
      go_wp2_with fail
      refine hK34.out _ _ ?_ (fun hHeld2 => ?_)
      · (try dsimp only); go_keep
      clear hK34 K34 hHeld1
      try simp only [Act.put, List.setIfInBounds_toArray, List.set_cons_zero, List.set_cons_succ]
      refine wpAnyH_take (i := 37) (oi := { dst := some 88, op := Go.Op.binOp Go.BinOp.eql 3 (Go.Operand.tmp 85) (Go.Operand.tmp 87) 3, type := 4, pos := "laws.go:449", after := #[{ on := 34, ground := Go.Ground.data }, { on := 36, ground := Go.Ground.data }, { on := 30, ground := Go.Ground.guard }], guard := some (30, true) }) (v := ?_) rfl (by kernel_rfl) (by kernel_rfl) (by kernel_rfl) (fun _ _ _ h => h) (Or.inl ⟨by rfl, ?_⟩) (by assumption) ?_
      rotate_left
      · (intro w hSw; (try dsimp only at hSw); go_simp; try with_reducible rfl)
      try simp only [Act.put, List.setIfInBounds_toArray, List.set_cons_zero, List.set_cons_succ]
      refine wpAnyH_take (i := 38) (oi := { dst := some 89, op := Go.Op.pick (Go.Operand.tmp 81) (Go.Operand.tmp 88) (Go.Operand.const (Go.Value.bool false)), type := 4, pos := "laws.go:449", after := #[{ on := 30, ground := Go.Ground.data }, { on := 37, ground := Go.Ground.data }], guard := none }) (v := ?_) rfl (by kernel_rfl) (by kernel_rfl) (by kernel_rfl) (fun _ _ _ h => h) (Or.inl ⟨by rfl, ?_⟩) (by assumption) ?_
      rotate_left
      · (intro w hSw; (try dsimp only at hSw); go_simp; try with_reducible rfl)
      try simp only [Act.put, List.setIfInBounds_toArray, List.set_cons_zero, List.set_cons_succ]
      refine wpAnyH_take (i := 39) (oi := { dst := some 2, op := Go.Op.assign (Go.Operand.tmp 89), type := 4, pos := "laws.go:449", after := #[{ on := 38, ground := Go.Ground.data }, { on := 34, ground := Go.Ground.chain }, { on := 0, ground := Go.Ground.phase }, { on := 1, ground := Go.Ground.phase }, { on := 2, ground := Go.Ground.phase }, { on := 3, ground := Go.Ground.phase }, { on := 4, ground := Go.Ground.phase }, { on := 5, ground := Go.Ground.phase }, { on := 6, ground := Go.Ground.phase }, { on := 7, ground := Go.Ground.phase }, { on := 8, ground := Go.Ground.phase }, { on := 9, ground := Go.Ground.phase }, { on := 10, ground := Go.Ground.phase }, { on := 11, ground := Go.Ground.phase }, { on := 12, ground := Go.Ground.phase }, { on := 13, ground := Go.Ground.phase }, { on := 14, ground := Go.Ground.phase }, { on := 15, ground := Go.Ground.phase }, { on := 16, ground := Go.Ground.phase }, { on := 17, ground := Go.Ground.phase }, { on := 18, ground := Go.Ground.phase }, { on := 19, ground := Go.Ground.phase }, { on := 20, ground := Go.Ground.phase }, { on := 21, ground := Go.Ground.phase }, { on := 22, ground := Go.Ground.phase }, { on := 23, ground := Go.Ground.phase }, { on := 24, ground := Go.Ground.phase }, { on := 25, ground := Go.Ground.phase }, { on := 26, ground := Go.Ground.phase }, { on := 27, ground := Go.Ground.phase }, { on := 28, ground := Go.Ground.phase }, { on := 29, ground := Go.Ground.phase }, { on := 30, ground := Go.Ground.phase }, { on := 31, ground := Go.Ground.phase }, { on := 32, ground := Go.Ground.phase }, { on := 33, ground := Go.Ground.phase }, { on := 34, ground := Go.Ground.phase }, { on := 35, ground := Go.Ground.phase }, { on := 36, ground := Go.Ground.phase }, { on := 37, ground := Go.Ground.phase }, { on := 38, ground := Go.Ground.phase }], guard := none }) (v := ?_) rfl (by kernel_rfl) (by kernel_rfl) (by kernel_rfl) (fun _ _ _ h => h) (Or.inl ⟨by rfl, ?_⟩) (by assumption) ?_
      rotate_left
      · (intro w hSw; (try dsimp only at hSw); go_simp; try with_reducible rfl)
      try simp only [Act.put, List.setIfInBounds_toArray, List.set_cons_zero, List.set_cons_succ]
      refine wpAnyH_done (by kernel_rfl) ?_ _
      go_wp2_with fail
      go_ret
      exact HK.out _ (below_call HB1.out (by rw [← hG] at *; exact hL9.out.1))
    · have h2 : decide (0 ≤ t) = true := decide_eq_true (by omega)
      have h3 : decide (t < 0) = false := decide_eq_false ht
      have h4 : decide (NN - 1 ≤ t) = true := decide_eq_true (by omega)
      obtain rfl : ok = true := by rw [E5.out]; exact h2
      clear e10 e11 e12 ht E5
      go_wp2_with fail
      try simp only [List.cons_append, List.nil_append, List.append_eq]
      refine wp_region_held_drew (S := (fun w' => w'.cell? ⟨G, 0, none⟩ = some (.int .i64 x) ∧ w'.cell? ⟨G, 1, none⟩ = some (.int .i64 y) ∧ w'.cell? ⟨M1, 0, none⟩ = some (.int .i64 x) ∧ w'.cell? ⟨M1, 1, none⟩ = some (.int .i64 y) ∧ w'.cell? ⟨M1, 2, none⟩ = some (.int .i64 fz) ∧ w'.cell? ⟨M2, 0, none⟩ = some (.int .i64 x) ∧ w'.cell? ⟨M2, 1, none⟩ = some (.int .i64 y) ∧ w'.cell? ⟨M2, 2, none⟩ = some (.int .i64 fz))) (by kernel_rfl) ?_ (fun hHeld0 => ?_)
      · (try dsimp only); go_keep
      refine wpAnyH_take (i := 0) (oi := { dst := some 51, op := Go.Op.move (Go.Operand.tmp 7), type := 4, pos := "laws.go:449", after := #[], guard := none }) (v := ?_) rfl (by kernel_rfl) (by kernel_rfl) (by kernel_rfl) (fun _ _ _ h => h) (Or.inl ⟨by rfl, ?_⟩) (by assumption) ?_
      rotate_left
      · (intro w hSw; (try dsimp only at hSw); go_simp; try with_reducible rfl)
      try simp only [Act.put, List.setIfInBounds_toArray, List.set_cons_zero, List.set_cons_succ]
      refine wpAnyH_take (i := 1) (oi := { dst := some 52, op := Go.Op.move (Go.Operand.tmp 8), type := 3, pos := "laws.go:449", after := #[], guard := none }) (v := ?_) rfl (by kernel_rfl) (by kernel_rfl) (by kernel_rfl) (fun _ _ _ h => h) (Or.inl ⟨by rfl, ?_⟩) (by assumption) ?_
      rotate_left
      · (intro w hSw; (try dsimp only at hSw); go_simp; try with_reducible rfl)
      try simp only [Act.put, List.setIfInBounds_toArray, List.set_cons_zero, List.set_cons_succ]
      refine wpAnyH_take (i := 2) (oi := { dst := some 53, op := Go.Op.binOp Go.BinOp.geq 3 (Go.Operand.tmp 52) (Go.Operand.const (Go.Value.int Go.IntKind.i64 0)) 3, type := 4, pos := "laws.go:449", after := #[{ on := 1, ground := Go.Ground.data }], guard := none }) (v := ?_) rfl (by kernel_rfl) (by kernel_rfl) (by kernel_rfl) (fun _ _ _ h => h) (Or.inl ⟨by rfl, ?_⟩) (by assumption) ?_
      rotate_left
      · (intro w hSw; (try dsimp only at hSw); go_simp; try with_reducible rfl)
      try simp only [Act.put, List.setIfInBounds_toArray, List.set_cons_zero, List.set_cons_succ]
      refine wpAnyH_take (i := 3) (oi := { dst := some 54, op := Go.Op.binOp Go.BinOp.eql 4 (Go.Operand.tmp 51) (Go.Operand.tmp 53) 4, type := 4, pos := "laws.go:449", after := #[{ on := 0, ground := Go.Ground.data }, { on := 2, ground := Go.Ground.data }], guard := none }) (v := ?_) rfl (by kernel_rfl) (by kernel_rfl) (by kernel_rfl) (fun _ _ _ h => h) (Or.inl ⟨by rfl, ?_⟩) (by assumption) ?_
      rotate_left
      · (intro w hSw; (try dsimp only at hSw); go_simp; try with_reducible rfl)
      try simp only [Act.put, List.setIfInBounds_toArray, List.set_cons_zero, List.set_cons_succ]
      refine wpAnyH_take (i := 4) (oi := { dst := some 55, op := Go.Op.move (Go.Operand.tmp 54), type := 4, pos := "laws.go:449", after := #[{ on := 3, ground := Go.Ground.data }], guard := none }) (v := ?_) rfl (by kernel_rfl) (by kernel_rfl) (by kernel_rfl) (fun _ _ _ h => h) (Or.inl ⟨by rfl, ?_⟩) (by assumption) ?_
      rotate_left
      · (intro w hSw; (try dsimp only at hSw); go_simp; try with_reducible rfl)
      try simp only [Act.put, List.setIfInBounds_toArray, List.set_cons_zero, List.set_cons_succ]
      refine wpAnyH_take (i := 5) (oi := { dst := some 56, op := Go.Op.load 30 (Go.Operand.tmp 6), type := 30, pos := "laws.go:449", after := #[{ on := 4, ground := Go.Ground.guard }], guard := some (4, true) }) (v := ?_) rfl (by kernel_rfl) (by kernel_rfl) (by kernel_rfl) (fun _ _ _ h => h) (Or.inl ⟨by rfl, ?_⟩) (by assumption) ?_
      rotate_left
      · (intro w hSw; (try dsimp only at hSw); go_simp; try with_reducible rfl)
      try simp only [Act.put, List.setIfInBounds_toArray, List.set_cons_zero, List.set_cons_succ]
      refine wpAnyH_take (i := 6) (oi := { dst := some 57, op := Go.Op.load 30 (Go.Operand.tmp 11), type := 30, pos := "laws.go:449", after := #[{ on := 4, ground := Go.Ground.guard }], guard := some (4, true) }) (v := ?_) rfl (by kernel_rfl) (by kernel_rfl) (by kernel_rfl) (fun _ _ _ h => h) (Or.inl ⟨by rfl, ?_⟩) (by assumption) ?_
      rotate_left
      · (intro w hSw; (try dsimp only at hSw); go_simp; try with_reducible rfl)
      try simp only [Act.put, List.setIfInBounds_toArray, List.set_cons_zero, List.set_cons_succ]
      refine wpAnyH_take (i := 7) (oi := { dst := some 58, op := Go.Op.binOp Go.BinOp.eql 30 (Go.Operand.tmp 56) (Go.Operand.tmp 57) 30, type := 4, pos := "laws.go:449", after := #[{ on := 5, ground := Go.Ground.data }, { on := 6, ground := Go.Ground.data }, { on := 4, ground := Go.Ground.guard }], guard := some (4, true) }) (v := ?_) rfl (by kernel_rfl) (by kernel_rfl) (by kernel_rfl) (fun _ _ _ h => h) (Or.inl ⟨by rfl, ?_⟩) (by assumption) ?_
      rotate_left
      · (intro w hSw; (try dsimp only at hSw); go_simp; try with_reducible rfl)
      try simp only [Act.put, List.setIfInBounds_toArray, List.set_cons_zero, List.set_cons_succ]
      refine wpAnyH_take (i := 8) (oi := { dst := some 59, op := Go.Op.pick (Go.Operand.tmp 55) (Go.Operand.tmp 58) (Go.Operand.const (Go.Value.bool false)), type := 4, pos := "laws.go:449", after := #[{ on := 4, ground := Go.Ground.data }, { on := 7, ground := Go.Ground.data }], guard := none }) (v := ?_) rfl (by kernel_rfl) (by kernel_rfl) (by kernel_rfl) (fun _ _ _ h => h) (Or.inl ⟨by rfl, ?_⟩) (by assumption) ?_
      rotate_left
      · (intro w hSw; (try dsimp only at hSw); go_simp; try with_reducible rfl)
      try simp only [Act.put, List.setIfInBounds_toArray, List.set_cons_zero, List.set_cons_succ]
      refine wpAnyH_take (i := 9) (oi := { dst := some 60, op := Go.Op.move (Go.Operand.tmp 59), type := 4, pos := "laws.go:449", after := #[{ on := 8, ground := Go.Ground.data }, { on := 4, ground := Go.Ground.chain }], guard := none }) (v := ?_) rfl (by kernel_rfl) (by kernel_rfl) (by kernel_rfl) (fun _ _ _ h => h) (Or.inl ⟨by rfl, ?_⟩) (by assumption) ?_
      rotate_left
      · (intro w hSw; (try dsimp only at hSw); go_simp; try with_reducible rfl)
      try simp only [Act.put, List.setIfInBounds_toArray, List.set_cons_zero, List.set_cons_succ]
      refine wpAnyH_take (i := 10) (oi := { dst := some 61, op := Go.Op.move (Go.Operand.tmp 12), type := 4, pos := "laws.go:449", after := #[{ on := 9, ground := Go.Ground.guard }], guard := some (9, true) }) (v := ?_) rfl (by kernel_rfl) (by kernel_rfl) (by kernel_rfl) (fun _ _ _ h => h) (Or.inl ⟨by rfl, ?_⟩) (by assumption) ?_
      rotate_left
      · (intro w hSw; (try dsimp only at hSw); go_simp; try with_reducible rfl)
      try simp only [Act.put, List.setIfInBounds_toArray, List.set_cons_zero, List.set_cons_succ]
      refine wpAnyH_take (i := 11) (oi := { dst := some 62, op := Go.Op.move (Go.Operand.tmp 7), type := 4, pos := "laws.go:449", after := #[{ on := 9, ground := Go.Ground.guard }], guard := some (9, true) }) (v := ?_) rfl (by kernel_rfl) (by kernel_rfl) (by kernel_rfl) (fun _ _ _ h => h) (Or.inl ⟨by rfl, ?_⟩) (by assumption) ?_
      rotate_left
      · (intro w hSw; (try dsimp only at hSw); go_simp; try with_reducible rfl)
      try simp only [Act.put, List.setIfInBounds_toArray, List.set_cons_zero, List.set_cons_succ]
      refine wpAnyH_take (i := 12) (oi := { dst := some 63, op := Go.Op.binOp Go.BinOp.eql 4 (Go.Operand.tmp 61) (Go.Operand.tmp 62) 4, type := 4, pos := "laws.go:449", after := #[{ on := 10, ground := Go.Ground.data }, { on := 11, ground := Go.Ground.data }, { on := 9, ground := Go.Ground.guard }], guard := some (9, true) }) (v := ?_) rfl (by kernel_rfl) (by kernel_rfl) (by kernel_rfl) (fun _ _ _ h => h) (Or.inl ⟨by rfl, ?_⟩) (by assumption) ?_
      rotate_left
      · (intro w hSw; (try dsimp only at hSw); go_simp; try with_reducible rfl)
      try simp only [Act.put, List.setIfInBounds_toArray, List.set_cons_zero, List.set_cons_succ]
      refine wpAnyH_take (i := 13) (oi := { dst := some 64, op := Go.Op.pick (Go.Operand.tmp 60) (Go.Operand.tmp 63) (Go.Operand.const (Go.Value.bool false)), type := 4, pos := "laws.go:449", after := #[{ on := 9, ground := Go.Ground.data }, { on := 12, ground := Go.Ground.data }], guard := none }) (v := ?_) rfl (by kernel_rfl) (by kernel_rfl) (by kernel_rfl) (fun _ _ _ h => h) (Or.inl ⟨by rfl, ?_⟩) (by assumption) ?_
      rotate_left
      · (intro w hSw; (try dsimp only at hSw); go_simp; try with_reducible rfl)
      try simp only [Act.put, List.setIfInBounds_toArray, List.set_cons_zero, List.set_cons_succ]
      refine wpAnyH_take (i := 14) (oi := { dst := some 65, op := Go.Op.move (Go.Operand.tmp 64), type := 4, pos := "laws.go:449", after := #[{ on := 13, ground := Go.Ground.data }, { on := 9, ground := Go.Ground.chain }], guard := none }) (v := ?_) rfl (by kernel_rfl) (by kernel_rfl) (by kernel_rfl) (fun _ _ _ h => h) (Or.inl ⟨by rfl, ?_⟩) (by assumption) ?_
      rotate_left
      · (intro w hSw; (try dsimp only at hSw); go_simp; try with_reducible rfl)
      try simp only [Act.put, List.setIfInBounds_toArray, List.set_cons_zero, List.set_cons_succ]
      refine wpAnyH_take (i := 15) (oi := { dst := some 66, op := Go.Op.move (Go.Operand.tmp 8), type := 3, pos := "laws.go:449", after := #[{ on := 14, ground := Go.Ground.guard }], guard := some (14, true) }) (v := ?_) rfl (by kernel_rfl) (by kernel_rfl) (by kernel_rfl) (fun _ _ _ h => h) (Or.inl ⟨by rfl, ?_⟩) (by assumption) ?_
      rotate_left
      · (intro w hSw; (try dsimp only at hSw); go_simp; try with_reducible rfl)
      try simp only [Act.put, List.setIfInBounds_toArray, List.set_cons_zero, List.set_cons_succ]
      refine wpAnyH_take (i := 16) (oi := { dst := some 67, op := Go.Op.move (Go.Operand.tmp 5), type := 26, pos := "laws.go:449", after := #[{ on := 14, ground := Go.Ground.guard }], guard := some (14, true) }) (v := ?_) rfl (by kernel_rfl) (by kernel_rfl) (by kernel_rfl) (fun _ _ _ h => h) (Or.inl ⟨by rfl, ?_⟩) (by assumption) ?_
      rotate_left
      · (intro w hSw; (try dsimp only at hSw); go_simp; try with_reducible rfl)
      try simp only [Act.put, List.setIfInBounds_toArray, List.set_cons_zero, List.set_cons_succ]
      refine wpAnyH_take (i := 17) (oi := { dst := some 68, op := Go.Op.call { callee := Go.Callee.builtin Go.Builtin.len, args := #[Go.Operand.tmp 67], argTypes := #[26] }, type := 3, pos := "laws.go:449", after := #[{ on := 16, ground := Go.Ground.data }, { on := 14, ground := Go.Ground.guard }], guard := some (14, true) }) (v := ?_) rfl (by kernel_rfl) (by kernel_rfl) (by kernel_rfl) (fun _ _ _ h => h) (Or.inl ⟨by rfl, ?_⟩) (by assumption) ?_
      rotate_left
      · (intro w hSw; (try dsimp only at hSw); go_simp; try with_reducible rfl)
      try simp only [Act.put, List.setIfInBounds_toArray, List.set_cons_zero, List.set_cons_succ]
      refine wpAnyH_take (i := 18) (oi := { dst := some 69, op := Go.Op.binOp Go.BinOp.leq 3 (Go.Operand.tmp 66) (Go.Operand.tmp 68) 3, type := 4, pos := "laws.go:449", after := #[{ on := 15, ground := Go.Ground.data }, { on := 17, ground := Go.Ground.data }, { on := 14, ground := Go.Ground.guard }], guard := some (14, true) }) (v := ?_) rfl (by kernel_rfl) (by kernel_rfl) (by kernel_rfl) (fun _ _ _ h => h) (Or.inl ⟨by rfl, ?_⟩) (by assumption) ?_
      rotate_left
      · (intro w hSw; (try dsimp only at hSw); go_simp; try with_reducible rfl)
      try simp only [Act.put, List.setIfInBounds_toArray, List.set_cons_zero, List.set_cons_succ]
      refine wpAnyH_take (i := 19) (oi := { dst := some 70, op := Go.Op.pick (Go.Operand.tmp 65) (Go.Operand.tmp 69) (Go.Operand.const (Go.Value.bool false)), type := 4, pos := "laws.go:449", after := #[{ on := 14, ground := Go.Ground.data }, { on := 18, ground := Go.Ground.data }], guard := none }) (v := ?_) rfl (by kernel_rfl) (by kernel_rfl) (by kernel_rfl) (fun _ _ _ h => h) (Or.inl ⟨by rfl, ?_⟩) (by assumption) ?_
      rotate_left
      · (intro w hSw; (try dsimp only at hSw); go_simp; try with_reducible rfl)
      try simp only [Act.put, List.setIfInBounds_toArray, List.set_cons_zero, List.set_cons_succ]
      refine wpAnyH_take (i := 20) (oi := { dst := some 71, op := Go.Op.move (Go.Operand.tmp 70), type := 4, pos := "laws.go:449", after := #[{ on := 19, ground := Go.Ground.data }, { on := 14, ground := Go.Ground.chain }], guard := none }) (v := ?_) rfl (by kernel_rfl) (by kernel_rfl) (by kernel_rfl) (fun _ _ _ h => h) (Or.inl ⟨by rfl, ?_⟩) (by assumption) ?_
      rotate_left
      · (intro w hSw; (try dsimp only at hSw); go_simp; try with_reducible rfl)
      try simp only [Act.put, List.setIfInBounds_toArray, List.set_cons_zero, List.set_cons_succ]
      refine wpAnyH_take (i := 21) (oi := { dst := some 72, op := Go.Op.move (Go.Operand.tmp 8), type := 3, pos := "laws.go:449", after := #[{ on := 20, ground := Go.Ground.guard }], guard := some (20, true) }) (v := ?_) rfl (by kernel_rfl) (by kernel_rfl) (by kernel_rfl) (fun _ _ _ h => h) (Or.inl ⟨by rfl, ?_⟩) (by assumption) ?_
      rotate_left
      · (intro w hSw; (try dsimp only at hSw); go_simp; try with_reducible rfl)
      try simp only [Act.put, List.setIfInBounds_toArray, List.set_cons_zero, List.set_cons_succ]
      refine wpAnyH_take (i := 22) (oi := { dst := some 73, op := Go.Op.binOp Go.BinOp.lss 3 (Go.Operand.tmp 72) (Go.Operand.const (Go.Value.int Go.IntKind.i64 0)) 3, type := 4, pos := "laws.go:449", after := #[{ on := 21, ground := Go.Ground.data }, { on := 20, ground := Go.Ground.guard }], guard := some (20, true) }) (v := ?_) rfl (by kernel_rfl) (by kernel_rfl) (by kernel_rfl) (fun _ _ _ h => h) (Or.inl ⟨by rfl, ?_⟩) (by assumption) ?_
      rotate_left
      · (intro w hSw; (try dsimp only at hSw); go_simp; try with_reducible rfl)
      try simp only [Act.put, List.setIfInBounds_toArray, List.set_cons_zero, List.set_cons_succ]
      refine wpAnyH_take (i := 23) (oi := { dst := some 74, op := Go.Op.move (Go.Operand.tmp 73), type := 4, pos := "laws.go:449", after := #[{ on := 22, ground := Go.Ground.data }, { on := 20, ground := Go.Ground.chain }, { on := 20, ground := Go.Ground.guard }], guard := some (20, true) }) (v := ?_) rfl (by kernel_rfl) (by kernel_rfl) (by kernel_rfl) (fun _ _ _ h => h) (Or.inl ⟨by rfl, ?_⟩) (by assumption) ?_
      rotate_left
      · (intro w hSw; (try dsimp only at hSw); go_simp; try with_reducible rfl)
      try simp only [Act.put, List.setIfInBounds_toArray, List.set_cons_zero, List.set_cons_succ]
      refine wpAnyH_take (i := 24) (oi := { dst := some 75, op := Go.Op.move (Go.Operand.tmp 8), type := 3, pos := "laws.go:449", after := #[{ on := 23, ground := Go.Ground.guard }], guard := some (23, false) }) (v := ?_) rfl (by kernel_rfl) (by kernel_rfl) (by kernel_rfl) (fun _ _ _ h => h) (Or.inl ⟨by rfl, ?_⟩) (by assumption) ?_
      rotate_left
      · (intro w hSw; (try dsimp only at hSw); go_simp; try with_reducible rfl)
      try simp only [Act.put, List.setIfInBounds_toArray, List.set_cons_zero, List.set_cons_succ]
      refine wpAnyH_take (i := 25) (oi := { dst := some 76, op := Go.Op.move (Go.Operand.tmp 13), type := 3, pos := "laws.go:449", after := #[{ on := 23, ground := Go.Ground.guard }], guard := some (23, false) }) (v := ?_) rfl (by kernel_rfl) (by kernel_rfl) (by kernel_rfl) (fun _ _ _ h => h) (Or.inl ⟨by rfl, ?_⟩) (by assumption) ?_
      rotate_left
      · (intro w hSw; (try dsimp only at hSw); go_simp; try with_reducible rfl)
      try simp only [Act.put, List.setIfInBounds_toArray, List.set_cons_zero, List.set_cons_succ]
      refine wpAnyH_take (i := 26) (oi := { dst := some 77, op := Go.Op.binOp Go.BinOp.sub 3 (Go.Operand.tmp 76) (Go.Operand.const (Go.Value.int Go.IntKind.i64 1)) 3, type := 3, pos := "laws.go:449", after := #[{ on := 25, ground := Go.Ground.data }, { on := 23, ground := Go.Ground.guard }], guard := some (23, false) }) (v := ?_) rfl (by kernel_rfl) (by kernel_rfl) (by kernel_rfl) (fun _ _ _ h => h) (Or.inl ⟨by rfl, ?_⟩) (by assumption) ?_
      rotate_left
      · (intro w hSw; (try dsimp only at hSw); go_simp; try with_reducible rfl)
      try simp only [Act.put, List.setIfInBounds_toArray, List.set_cons_zero, List.set_cons_succ]
      refine wpAnyH_take (i := 27) (oi := { dst := some 78, op := Go.Op.binOp Go.BinOp.geq 3 (Go.Operand.tmp 75) (Go.Operand.tmp 77) 3, type := 4, pos := "laws.go:449", after := #[{ on := 24, ground := Go.Ground.data }, { on := 26, ground := Go.Ground.data }, { on := 23, ground := Go.Ground.guard }], guard := some (23, false) }) (v := ?_) rfl (by kernel_rfl) (by kernel_rfl) (by kernel_rfl) (fun _ _ _ h => h) (Or.inl ⟨by rfl, ?_⟩) (by assumption) ?_
      rotate_left
      · (intro w hSw; (try dsimp only at hSw); go_simp; try with_reducible rfl)
      try simp only [Act.put, List.setIfInBounds_toArray, List.set_cons_zero, List.set_cons_succ]
      refine wpAnyH_take (i := 28) (oi := { dst := some 79, op := Go.Op.pick (Go.Operand.tmp 74) (Go.Operand.const (Go.Value.bool true)) (Go.Operand.tmp 78), type := 4, pos := "laws.go:449", after := #[{ on := 23, ground := Go.Ground.data }, { on := 27, ground := Go.Ground.data }, { on := 20, ground := Go.Ground.guard }], guard := some (20, true) }) (v := ?_) rfl (by kernel_rfl) (by kernel_rfl) (by kernel_rfl) (fun _ _ _ h => h) (Or.inl ⟨by rfl, ?_⟩) (by assumption) ?_
      rotate_left
      · (intro w hSw; (try dsimp only at hSw); go_simp; try with_reducible rfl)
      try simp only [Act.put, List.setIfInBounds_toArray, List.set_cons_zero, List.set_cons_succ]
      refine wpAnyH_take (i := 29) (oi := { dst := some 80, op := Go.Op.pick (Go.Operand.tmp 71) (Go.Operand.tmp 79) (Go.Operand.const (Go.Value.bool false)), type := 4, pos := "laws.go:449", after := #[{ on := 20, ground := Go.Ground.data }, { on := 28, ground := Go.Ground.data }], guard := none }) (v := ?_) rfl (by kernel_rfl) (by kernel_rfl) (by kernel_rfl) (fun _ _ _ h => h) (Or.inl ⟨by rfl, ?_⟩) (by assumption) ?_
      rotate_left
      · (intro w hSw; (try dsimp only at hSw); go_simp; try with_reducible rfl)
      try simp only [Act.put, List.setIfInBounds_toArray, List.set_cons_zero, List.set_cons_succ]
      refine wpAnyH_take (i := 30) (oi := { dst := some 81, op := Go.Op.move (Go.Operand.tmp 80), type := 4, pos := "laws.go:449", after := #[{ on := 29, ground := Go.Ground.data }, { on := 23, ground := Go.Ground.chain }], guard := none }) (v := ?_) rfl (by kernel_rfl) (by kernel_rfl) (by kernel_rfl) (fun _ _ _ h => h) (Or.inl ⟨by rfl, ?_⟩) (by assumption) ?_
      rotate_left
      · (intro w hSw; (try dsimp only at hSw); go_simp; try with_reducible rfl)
      try simp only [Act.put, List.setIfInBounds_toArray, List.set_cons_zero, List.set_cons_succ]
      refine wpAnyH_take (i := 31) (oi := { dst := some 82, op := Go.Op.load 25 (Go.Operand.tmp 3), type := 25, pos := "laws.go:449", after := #[{ on := 30, ground := Go.Ground.guard }], guard := some (30, true) }) (v := ?_) rfl (by kernel_rfl) (by kernel_rfl) (by kernel_rfl) (fun _ _ _ h => h) (Or.inl ⟨by rfl, ?_⟩) (by assumption) ?_
      rotate_left
      · (intro w hSw; (try dsimp only at hSw); go_simp; try with_reducible rfl)
      try simp only [Act.put, List.setIfInBounds_toArray, List.set_cons_zero, List.set_cons_succ]
      refine wpAnyH_take (i := 32) (oi := { dst := some 83, op := Go.Op.load 25 (Go.Operand.tmp 3), type := 25, pos := "laws.go:449", after := #[{ on := 30, ground := Go.Ground.guard }], guard := some (30, true) }) (v := ?_) rfl (by kernel_rfl) (by kernel_rfl) (by kernel_rfl) (fun _ _ _ h => h) (Or.inl ⟨by rfl, ?_⟩) (by assumption) ?_
      rotate_left
      · (intro w hSw; (try dsimp only at hSw); go_simp; try with_reducible rfl)
      try simp only [Act.put, List.setIfInBounds_toArray, List.set_cons_zero, List.set_cons_succ]
      refine wpAnyH_take (i := 35) (oi := { dst := some 86, op := Go.Op.move (Go.Operand.tmp 13), type := 3, pos := "laws.go:449", after := #[{ on := 30, ground := Go.Ground.guard }], guard := some (30, true) }) (v := ?_) rfl (by kernel_rfl) (by kernel_rfl) (by kernel_rfl) (fun _ _ _ h => h) (Or.inl ⟨by rfl, ?_⟩) (by assumption) ?_
      rotate_left
      · (intro w hSw; (try dsimp only at hSw); go_simp; try with_reducible rfl)
      try simp only [Act.put, List.setIfInBounds_toArray, List.set_cons_zero, List.set_cons_succ]
      refine wpAnyH_take (i := 36) (oi := { dst := some 87, op := Go.Op.binOp Go.BinOp.sub 3 (Go.Operand.tmp 86) (Go.Operand.const (Go.Value.int Go.IntKind.i64 1)) 3, type := 3, pos := "laws.go:449", after := #[{ on := 35, ground := Go.Ground.data }, { on := 30, ground := Go.Ground.guard }], guard := some (30, true) }) (v := ?_) rfl (by kernel_rfl) (by kernel_rfl) (by kernel_rfl) (fun _ _ _ h => h) (Or.inl ⟨by rfl, ?_⟩) (by assumption) ?_
      rotate_left
      · (intro w hSw; (try dsimp only at hSw); go_simp; try with_reducible rfl)
      try simp only [Act.put, List.setIfInBounds_toArray, List.set_cons_zero, List.set_cons_succ]
      refine wpAnyH_ready (rs := [33]) (by kernel_rfl) (by simp) ?_
      refine AllReadyH.cons (o := { dst := some 84, op := Go.Op.call { callee := Go.Callee.value (Go.Operand.func 17), args := #[Go.Operand.tmp 83], argTypes := #[25] }, type := 26, pos := "laws.go:449", after := #[{ on := 32, ground := Go.Ground.data }, { on := 30, ground := Go.Ground.chain }, { on := 30, ground := Go.Ground.guard }], guard := some (30, true) }) rfl (fun K33 hK33 => ?_) AllReadyH.nil
      go_simp
      (refine (P7.out _).mono ?_; rintro e v1 ⟨vs, rfl, hos, hb⟩; have hL8 := Lib.hid ((LE.call (X' := w7.drew) hL7.out ⟨rfl, rfl, rfl, Nat.le_refl _, fun _ _ => rfl⟩).call hb); have hR8 := Lib.hid ((Row3.call (X' := w7.drew) hR7.out ⟨rfl, rfl, rfl, Nat.le_refl _, fun _ _ => rfl⟩).call hb); obtain ⟨As, cs, rfl⟩ := own_form hos; have HIs := Lib.hid (ints_own hos).1; obtain ⟨n0, n1⟩ := hL8.out.cells; obtain ⟨⟨r0, r1, r2⟩, -⟩ := row3_cells (hL8.out.2.2.2 _ rfl); obtain ⟨⟨s0, s1, s2⟩, -⟩ := row3_cells hR8.out; clear hos hb)
      go_wp2_with fail
      refine hK33.out _ _ ?_ (fun hHeld1 => ?_)
      · (try dsimp only); go_keep
      clear hK33 K33 hHeld0
      try simp only [Act.put, List.setIfInBounds_toArray, List.set_cons_zero, List.set_cons_succ]
      refine wpAnyH_ready (rs := [34]) (by kernel_rfl) (by simp) ?_
      refine AllReadyH.cons (o := { dst := some 85, op := Go.Op.call { callee := Go.Callee.value (Go.Operand.func 11), args := #[Go.Operand.tmp 82, Go.Operand.const (Go.Value.int Go.IntKind.i64 0), Go.Operand.tmp 84], argTypes := #[25, 3, 26] }, type := 3, pos := "laws.go:449", after := #[{ on := 31, ground := Go.Ground.data }, { on := 33, ground := Go.Ground.data }, { on := 33, ground := Go.Ground.chain }, { on := 30, ground := Go.Ground.guard }], guard := some (30, true) }) rfl (fun K34 hK34 => ?_) AllReadyH.nil
      go_simp
      (refine (P8.out _ _ _ HIs.out).mono ?_; rintro e v2 ⟨rfl, hb⟩; have hL9 := Lib.hid (hL8.out.call hb); have hR9 := Lib.hid (hR8.out.call hb); obtain ⟨i0', i1'⟩ := hL9.out.cells; obtain ⟨⟨j0, j1, j2⟩, -⟩ := row3_cells (hL9.out.2.2.2 _ rfl); obtain ⟨⟨k0, k1, k2⟩, -⟩ := row3_cells hR9.out; clear hb)
      go_wp2_with fail
      refine hK34.out _ _ ?_ (fun hHeld2 => ?_)
      · (try dsimp only); go_keep
      clear hK34 K34 hHeld1
      try simp only [Act.put, List.setIfInBounds_toArray, List.set_cons_zero, List.set_cons_succ]
      refine wpAnyH_take (i := 37) (oi := { dst := some 88, op := Go.Op.binOp Go.BinOp.eql 3 (Go.Operand.tmp 85) (Go.Operand.tmp 87) 3, type := 4, pos := "laws.go:449", after := #[{ on := 34, ground := Go.Ground.data }, { on := 36, ground := Go.Ground.data }, { on := 30, ground := Go.Ground.guard }], guard := some (30, true) }) (v := ?_) rfl (by kernel_rfl) (by kernel_rfl) (by kernel_rfl) (fun _ _ _ h => h) (Or.inl ⟨by rfl, ?_⟩) (by assumption) ?_
      rotate_left
      · (intro w hSw; (try dsimp only at hSw); go_simp; try with_reducible rfl)
      try simp only [Act.put, List.setIfInBounds_toArray, List.set_cons_zero, List.set_cons_succ]
      refine wpAnyH_take (i := 38) (oi := { dst := some 89, op := Go.Op.pick (Go.Operand.tmp 81) (Go.Operand.tmp 88) (Go.Operand.const (Go.Value.bool false)), type := 4, pos := "laws.go:449", after := #[{ on := 30, ground := Go.Ground.data }, { on := 37, ground := Go.Ground.data }], guard := none }) (v := ?_) rfl (by kernel_rfl) (by kernel_rfl) (by kernel_rfl) (fun _ _ _ h => h) (Or.inl ⟨by rfl, ?_⟩) (by assumption) ?_
      rotate_left
      · (intro w hSw; (try dsimp only at hSw); go_simp; try with_reducible rfl)
      try simp only [Act.put, List.setIfInBounds_toArray, List.set_cons_zero, List.set_cons_succ]
      refine wpAnyH_take (i := 39) (oi := { dst := some 2, op := Go.Op.assign (Go.Operand.tmp 89), type := 4, pos := "laws.go:449", after := #[{ on := 38, ground := Go.Ground.data }, { on := 34, ground := Go.Ground.chain }, { on := 0, ground := Go.Ground.phase }, { on := 1, ground := Go.Ground.phase }, { on := 2, ground := Go.Ground.phase }, { on := 3, ground := Go.Ground.phase }, { on := 4, ground := Go.Ground.phase }, { on := 5, ground := Go.Ground.phase }, { on := 6, ground := Go.Ground.phase }, { on := 7, ground := Go.Ground.phase }, { on := 8, ground := Go.Ground.phase }, { on := 9, ground := Go.Ground.phase }, { on := 10, ground := Go.Ground.phase }, { on := 11, ground := Go.Ground.phase }, { on := 12, ground := Go.Ground.phase }, { on := 13, ground := Go.Ground.phase }, { on := 14, ground := Go.Ground.phase }, { on := 15, ground := Go.Ground.phase }, { on := 16, ground := Go.Ground.phase }, { on := 17, ground := Go.Ground.phase }, { on := 18, ground := Go.Ground.phase }, { on := 19, ground := Go.Ground.phase }, { on := 20, ground := Go.Ground.phase }, { on := 21, ground := Go.Ground.phase }, { on := 22, ground := Go.Ground.phase }, { on := 23, ground := Go.Ground.phase }, { on := 24, ground := Go.Ground.phase }, { on := 25, ground := Go.Ground.phase }, { on := 26, ground := Go.Ground.phase }, { on := 27, ground := Go.Ground.phase }, { on := 28, ground := Go.Ground.phase }, { on := 29, ground := Go.Ground.phase }, { on := 30, ground := Go.Ground.phase }, { on := 31, ground := Go.Ground.phase }, { on := 32, ground := Go.Ground.phase }, { on := 33, ground := Go.Ground.phase }, { on := 34, ground := Go.Ground.phase }, { on := 35, ground := Go.Ground.phase }, { on := 36, ground := Go.Ground.phase }, { on := 37, ground := Go.Ground.phase }, { on := 38, ground := Go.Ground.phase }], guard := none }) (v := ?_) rfl (by kernel_rfl) (by kernel_rfl) (by kernel_rfl) (fun _ _ _ h => h) (Or.inl ⟨by rfl, ?_⟩) (by assumption) ?_
      rotate_left
      · (intro w hSw; (try dsimp only at hSw); go_simp; try with_reducible rfl)
      try simp only [Act.put, List.setIfInBounds_toArray, List.set_cons_zero, List.set_cons_succ]
      refine wpAnyH_done (by kernel_rfl) ?_ _
      go_wp2_with fail
      go_ret
      exact HK.out _ (below_call HB1.out (by rw [← hG] at *; exact hL9.out.1))
end Go.Proofs.Ytgocbnnhhpmndaa.fnEntries
