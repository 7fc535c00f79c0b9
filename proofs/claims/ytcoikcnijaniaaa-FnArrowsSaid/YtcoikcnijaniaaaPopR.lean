/- The program's popArrows: the region in which a popping is made. -/
import Derived.Test.YtcoikcnijaniaaaPopI4
namespace Go.Proofs.Ytcoikcnijaniaaa.popI
open Go.ChangeShapes Go.WideShapes Go.ChangeAt Go.RowKit Go.Maps
open draw gridP gridC gridE bitP mazeP mazeC mazeM mazeR intsP reachP reachM reachN reachD intA intK listK rowsP setI wayP ersP ersO popP popO popW
set_option linter.unusedVariables false
set_option linter.unusedSimpArgs false

theorem build_pop (x y o : Int) (bi bt : Nat) (A : Option Addr) (n c : Nat) (X : World) : (Instr.build 81 #[(0, .agg #[.int .i64 x, .int .i64 y, .int .i64 o]), (1, .map (some bi)), (2, .slice A n c), (3, .map (some bt))]).run Try.prog X = .ok (.agg #[.int .i64 x, .int .i64 y, .int .i64 o, .map (some bi), .slice A n c, .map (some bt)]) X := by kernel_rfl

theorem LG.done' {S X Y : World} {oB : Option Nat} {bi bt P n : Nat} {x y : Int} {va : Value} (h : LG S oB (some bi) (some bt) (some P) X)
    (hY : Y = ((((((X.setCell ⟨P, 0, none⟩ (.int .i64 x)).setCell ⟨P, 1, none⟩ (.int .i64 y)).setCell ⟨P, 2, none⟩ (.int .i64 0)).setCell ⟨P, 3, none⟩ (.map (some bi))).setCell ⟨P, 4, none⟩ va).setCell ⟨P, 5, none⟩ (.map (some bt)))) :
    PS P bi bt n x y va (fun _ => 0) [0] 0 Y ∧ Below S.heap.size S Y ∧ S.heap.size ≤ P ∧ S.heap.size ≤ bi ∧ S.heap.size ≤ bt := by
  subst hY; exact LG.done h
theorem step_build {P : Program} {ops : Array Oper} {o : Oper} {a : Act} {w : World} {K : Act → World → Prop} {Q : Exit → Act → World → Prop} {E : Prop}
    (hg : o.guard = none) (t : TypeId) (j0 j1 j2 j3 : Nat) (x0 x1 x2 x3 : Operand) (hop : o.op = Op.build t #[(j0, x0), (j1, x1), (j2, x2), (j3, x3)]) (y0 y1 y2 y3 : Value) (h0 : a.eval x0 = y0) (h1 : a.eval x1 = y1) (h2 : a.eval x2 = y2) (h3 : a.eval x3 = y3)
    (v : Value) (hrun : (Instr.build t #[(j0, y0), (j1, y1), (j2, y2), (j3, y3)]).run P w = .ok v w) (hK : K (a.put o.dst v) w) :
    if Region.wanted o (yielded ops a.tmps) = true then Oper.wp P o a w K Q else E := by
  have hw : Region.wanted o (yielded ops a.tmps) = true := by simp [Region.wanted, hg]
  rw [if_pos hw]
  unfold Oper.wp
  simp [execOp, hop, resolve, h0, h1, h2, h3, hrun, Result.andThen]
  exact hK



theorem st_slice {ops : Array Oper} {a : Act} {w : World} {K : Act → World → Prop} {Q : Exit → Act → World → Prop} {E : Prop} {d : Tmp} {t : TypeId} {p : String} {af : Array Edge} {S : World} {oB oI oT oP : Option Nat} (hL : Hid (LG S oB oI oT oP w))
    (hK : ∀ g X, Hid (LG S (some g) oI oT oP X) → K (a.put (some d) (.slice (some ⟨g, 0, none⟩) 1 1)) X) :
    if Region.wanted { dst := some d, op := Op.buildSlice 32 1 #[(0, Operand.const (Value.int IntKind.i64 0))], type := t, pos := p, after := af, guard := none } (yielded ops a.tmps) = true then Oper.wp Try.prog { dst := some d, op := Op.buildSlice 32 1 #[(0, Operand.const (Value.int IntKind.i64 0))], type := t, pos := p, after := af, guard := none } a w K Q else E := by
  have q := hK _ _ (Lib.hid (LG.slice hL.out))
  go_simp
  exact q

theorem st_map {ops : Array Oper} {a : Act} {w : World} {K : Act → World → Prop} {Q : Exit → Act → World → Prop} {E : Prop} {d : Tmp} {t : TypeId} {p : String} {af : Array Edge} {S : World} {oB oI oP : Option Nat} (hL : Hid (LG S oB oI none oP w))
    (hK : ∀ g X, Hid (LG S oB oI (some g) oP X) → K (a.put (some d) (.map (some g))) X) :
    if Region.wanted { dst := some d, op := Op.makeMap 79 none, type := t, pos := p, after := af, guard := none } (yielded ops a.tmps) = true then Oper.wp Try.prog { dst := some d, op := Op.makeMap 79 none, type := t, pos := p, after := af, guard := none } a w K Q else E := by
  have q := hK _ _ (Lib.hid (LG.map hL.out))
  have hmm : ∀ X : World, (Instr.makeMap 79 none).run Try.prog X = .ok (.map (some X.heap.size)) (X.alloc (.map #[] 0)) := fun X => by
    simp [Instr.makeMap, go_sem]
  go_simp
  exact q

theorem st_pop {ops : Array Oper} {a : Act} {w : World} {K : Act → World → Prop} {Q : Exit → Act → World → Prop} {E : Prop} {d : Tmp} {t : TypeId} {p : String} {af : Array Edge} {S : World} {oB oI oT oP : Option Nat} (hL : Hid (LG S oB oI oT oP w))
    (hK : ∀ g X, Hid (LG S oB oI oT (some g) X) → K (a.put (some d) (.pointer (some ⟨g, 0, none⟩))) X) :
    if Region.wanted { dst := some d, op := Op.alloc 81, type := t, pos := p, after := af, guard := none } (yielded ops a.tmps) = true then Oper.wp Try.prog { dst := some d, op := Op.alloc 81, type := t, pos := p, after := af, guard := none } a w K Q else E := by
  have q := hK _ _ (Lib.hid (LG.pop (T := 81) hL.out))
  go_simp
  exact q

theorem st_store {ops : Array Oper} {a : Act} {w : World} {K : Act → World → Prop} {Q : Exit → Act → World → Prop} {E : Prop} {t : TypeId} {p : String} {af : Array Edge} {S : World} {oB : Option Nat} {bi bt P n c : Nat} {A : Option Addr} {x y : Int} {i j : Nat} (hL : Hid (LG S oB (some bi) (some bt) (some P) w))
    (hi : a.eval (.tmp i) = .pointer (some ⟨P, 0, none⟩)) (hj : a.eval (.tmp j) = .agg #[.int .i64 x, .int .i64 y, .int .i64 0, .map (some bi), .slice A n c, .map (some bt)])
    (hK : ∀ Y, PS P bi bt n x y (.slice A n c) (fun _ => 0) [0] 0 Y ∧ Below S.heap.size S Y ∧ S.heap.size ≤ P ∧ S.heap.size ≤ bi ∧ S.heap.size ≤ bt → K a Y) :
    if Region.wanted { dst := none, op := Op.store 81 (.tmp i) (.tmp j), type := t, pos := p, after := af, guard := none } (yielded ops a.tmps) = true then Oper.wp Try.prog { dst := none, op := Op.store 81 (.tmp i) (.tmp j), type := t, pos := p, after := af, guard := none } a w K Q else E := by
  have q := hK _ (LG.done (n := n) (x := x) (y := y) (va := .slice A n c) hL.out)
  obtain ⟨⟨y0, y1, y2, y3, y4, y5⟩, f0, f1, f2, f3, f4, f5⟩ := zero6_cells (LG.zero hL.out)
  simp [Act.eval] at hi hj
  go_simp
  exact q

abbrev popC : Code := Go.Code.region 3 #[{ dst := some 31, op := Go.Op.load 25 (Go.Operand.tmp 3), type := 25, pos := "l15_stack.go:68", after := #[], guard := none }, { dst := some 32, op := Go.Op.build 27 #[(0, Go.Operand.tmp 31)], type := 27, pos := "l15_stack.go:68", after := #[{ on := 0, ground := Go.Ground.data }], guard := none }, { dst := some 33, op := Go.Op.buildSlice 32 1 #[(0, Go.Operand.const (Go.Value.int Go.IntKind.i64 0))], type := 32, pos := "l15_stack.go:68", after := #[], guard := none }, { dst := some 34, op := Go.Op.call { callee := Go.Callee.value (Go.Operand.func 43), args := #[Go.Operand.tmp 33], argTypes := #[32] }, type := 66, pos := "l15_stack.go:68", after := #[{ on := 2, ground := Go.Ground.data }], guard := none }, { dst := some 35, op := Go.Op.move (Go.Operand.tmp 1), type := 37, pos := "l15_stack.go:68", after := #[], guard := none }, { dst := some 36, op := Go.Op.makeMap 79 none, type := 79, pos := "l15_stack.go:68", after := #[], guard := none }, { dst := some 37, op := Go.Op.build 81 #[(0, Go.Operand.tmp 32), (1, Go.Operand.tmp 34), (2, Go.Operand.tmp 35), (3, Go.Operand.tmp 36)], type := 81, pos := "l15_stack.go:68", after := #[{ on := 1, ground := Go.Ground.data }, { on := 3, ground := Go.Ground.data }, { on := 4, ground := Go.Ground.data }, { on := 5, ground := Go.Ground.data }], guard := none }, { dst := some 8, op := Go.Op.alloc 81, type := 0, pos := "l15_stack.go:68", after := #[], guard := none }, { dst := none, op := Go.Op.store 81 (Go.Operand.tmp 8) (Go.Operand.tmp 37), type := 0, pos := "l15_stack.go:68", after := #[{ on := 7, ground := Go.Ground.data }, { on := 6, ground := Go.Ground.data }, { on := 3, ground := Go.Ground.chain }, { on := 0, ground := Go.Ground.phase }, { on := 1, ground := Go.Ground.phase }, { on := 2, ground := Go.Ground.phase }, { on := 3, ground := Go.Ground.phase }, { on := 4, ground := Go.Ground.phase }, { on := 5, ground := Go.Ground.phase }, { on := 6, ground := Go.Ground.phase }, { on := 7, ground := Go.Ground.phase }], guard := none }] true
set_option maxRecDepth 100000 in
set_option maxHeartbeats 20000000 in
/-- A popping is made. -/
theorem pop_made (W w3 : World) (x y : Int) (A A2 : Option Addr) (n c : Nat) (ls : List (List Int)) (l : List Int) (Q : Exit → Act → World → Prop) (u2 u4 u5 u6 u7 u8 u9 u10 u11 u12 u13 u14 u15 u16 u17 u18 u19 u20 u21 u22 u23 u24 u25 u26 u27 u28 u29 u30 u31 u32 u33 u34 u35 u36 u37 u38 u39 u40 u41 u42 u43 u44 u45 u46 u47 u48 u49 u50 u51 u52 u53 u54 u55 u56 u57 u58 u59 u60 u61 u62 u63 u64 u65 u66 u67 : Value) (Hq3 : Hid (AQ W x y A A2 ls l w3))
    (HP : ∀ (d : Option Tmp) (v : Value) c a w, Q (.panic c) (a.put d v) w → Q (.panic c) a w)
    (HQ : Hid (∀ (P bi bt : Nat) (v31 v32 v33 v34 v35 v36 v37 : Value) X, PS P bi bt n x y (.slice A n c) (fun _ => 0) [0] 0 X ∧ Below w3.heap.size w3 X ∧ w3.heap.size ≤ P ∧ w3.heap.size ≤ bi ∧ w3.heap.size ≤ bt → Q .normal { tmps := #[(.agg #[.int .i64 x, .int .i64 y]), (.slice A n c), u2, (.pointer (some ⟨W.heap.size, 0, none⟩)), u4, u5, u6, u7, (.pointer (some ⟨P, 0, none⟩)), u9, u10, u11, u12, u13, u14, u15, u16, u17, u18, u19, u20, u21, u22, u23, u24, u25, u26, u27, u28, u29, u30, v31, v32, v33, v34, v35, v36, v37, u38, u39, u40, u41, u42, u43, u44, u45, u46, u47, u48, u49, u50, u51, u52, u53, u54, u55, u56, u57, u58, u59, u60, u61, u62, u63, u64, u65, u66, u67], defers := [] } X)) :
    Code.wp Try.prog popC Q { tmps := #[(.agg #[.int .i64 x, .int .i64 y]), (.slice A n c), u2, (.pointer (some ⟨W.heap.size, 0, none⟩)), u4, u5, u6, u7, u8, u9, u10, u11, u12, u13, u14, u15, u16, u17, u18, u19, u20, u21, u22, u23, u24, u25, u26, u27, u28, u29, u30, u31, u32, u33, u34, u35, u36, u37, u38, u39, u40, u41, u42, u43, u44, u45, u46, u47, u48, u49, u50, u51, u52, u53, u54, u55, u56, u57, u58, u59, u60, u61, u62, u63, u64, u65, u66, u67], defers := [] } w3 := by
  have HSet : Hid (∀ (X : World) (g : Nat), X.heap[g]? = some (.cells #[.int .i64 0] 3 (0, 0)) → g < X.heap.size → Calls Try.prog 43 #[.slice (some ⟨g, 0, none⟩) 1 1] X (fun e w' => e = .returned (.map (some X.heap.size)) ∧ SetR X.heap.size [(0 : Int)].length [0] w' ∧ Below X.heap.size X w')) := Lib.hid fun X g h hlt => setOf_at (some ⟨g, 0, none⟩) 1 1 [0] X rfl (by omega) (fun _ => ⟨_, rfl, hlt, fun j u hj => news_eqI (l := [.int .i64 0]) rfl h j (.int .i64 u) (by
    rcases j with _ | j
    · simp at hj; subst hj; rfl
    · simp at hj)⟩) (by simp)
  have hmm : ∀ X : World, (Instr.makeMap 79 none).run Try.prog X = .ok (.map (some X.heap.size)) (X.alloc (.map #[] 0)) := fun X => by
    simp [Instr.makeMap, go_sem]
  obtain ⟨c0, c1⟩ := AQ.cells Hq3.out
  have hL := Lib.hid (lg_new w3)
  dsimp only [popC]
  try simp only [List.cons_append, List.nil_append, List.append_eq]
  refine wp_region_held_drew (S := (fun w' => w'.cell? ⟨W.heap.size, 0, none⟩ = some (.int .i64 x) ∧ w'.cell? ⟨W.heap.size, 1, none⟩ = some (.int .i64 y))) (by kernel_rfl) ?_ (fun hHeld0 => ?_)
  · (try dsimp only); (first | exact AQ.cells (AQ.call Hq3.out hL.out.1) | exact AQ.cells (AQ.call Hq3.out (LG.dr hL.out).1))
  refine wpAnyH_take (i := 0) (oi := { dst := some 31, op := Go.Op.load 25 (Go.Operand.tmp 3), type := 25, pos := "l15_stack.go:68", after := #[], guard := none }) (v := ?_) rfl (by kernel_rfl) (by kernel_rfl) (by kernel_rfl) (HP _ _) (Or.inl ⟨by rfl, ?_⟩) (by assumption) ?_
  rotate_left
  · (intro w hSw; (try dsimp only at hSw); go_simp; try with_reducible rfl)
  try simp only [Act.put, List.setIfInBounds_toArray, List.set_cons_zero, List.set_cons_succ]
  refine wpAnyH_take (i := 1) (oi := { dst := some 32, op := Go.Op.build 27 #[(0, Go.Operand.tmp 31)], type := 27, pos := "l15_stack.go:68", after := #[{ on := 0, ground := Go.Ground.data }], guard := none }) (v := ?_) rfl (by kernel_rfl) (by kernel_rfl) (by kernel_rfl) (HP _ _) (Or.inl ⟨by rfl, ?_⟩) (by assumption) ?_
  rotate_left
  · (intro w hSw; (try dsimp only at hSw); go_simp; try with_reducible rfl)
  try simp only [Act.put, List.setIfInBounds_toArray, List.set_cons_zero, List.set_cons_succ]
  refine wpAnyH_take (i := 4) (oi := { dst := some 35, op := Go.Op.move (Go.Operand.tmp 1), type := 37, pos := "l15_stack.go:68", after := #[], guard := none }) (v := ?_) rfl (by kernel_rfl) (by kernel_rfl) (by kernel_rfl) (HP _ _) (Or.inl ⟨by rfl, ?_⟩) (by assumption) ?_
  rotate_left
  · (intro w hSw; (try dsimp only at hSw); go_simp; try with_reducible rfl)
  try simp only [Act.put, List.setIfInBounds_toArray, List.set_cons_zero, List.set_cons_succ]
  refine wpAnyH_ready (rs := [2, 5, 7]) (by kernel_rfl) (by simp) ?_
  refine (AllReadyH.cons (o := { dst := some 33, op := Go.Op.buildSlice 32 1 #[(0, Go.Operand.const (Go.Value.int Go.IntKind.i64 0))], type := 32, pos := "l15_stack.go:68", after := #[], guard := none }) rfl (fun K2 hK2 => ?_) (AllReadyH.cons (o := { dst := some 36, op := Go.Op.makeMap 79 none, type := 79, pos := "l15_stack.go:68", after := #[], guard := none }) rfl (fun K5 hK5 => ?_) (AllReadyH.cons (o := { dst := some 8, op := Go.Op.alloc 81, type := 0, pos := "l15_stack.go:68", after := #[], guard := none }) rfl (fun K7 hK7 => ?_) AllReadyH.nil)))
  · as_aux_lemma =>
      (first | refine st_slice hL (fun g X hL => ?_) | refine st_slice (Lib.hid (LG.dr hL.out)) (fun g X hL => ?_))
      refine hK2.out _ _ ?_ (fun hHeld1 => ?_)
      · (try dsimp only); (first | exact AQ.cells (AQ.call Hq3.out hL.out.1) | exact AQ.cells (AQ.call Hq3.out (LG.dr hL.out).1))
      clear hK2 K2 hHeld0
      try simp only [Act.put, List.setIfInBounds_toArray, List.set_cons_zero, List.set_cons_succ]
      refine wpAnyH_ready (rs := [3, 5, 7]) (by kernel_rfl) (by simp) ?_
      refine (AllReadyH.cons (o := { dst := some 34, op := Go.Op.call { callee := Go.Callee.value (Go.Operand.func 43), args := #[Go.Operand.tmp 33], argTypes := #[32] }, type := 66, pos := "l15_stack.go:68", after := #[{ on := 2, ground := Go.Ground.data }], guard := none }) rfl (fun K3 hK3 => ?_) (AllReadyH.cons (o := { dst := some 36, op := Go.Op.makeMap 79 none, type := 79, pos := "l15_stack.go:68", after := #[], guard := none }) rfl (fun K5 hK5 => ?_) (AllReadyH.cons (o := { dst := some 8, op := Go.Op.alloc 81, type := 0, pos := "l15_stack.go:68", after := #[], guard := none }) rfl (fun K7 hK7 => ?_) AllReadyH.nil)))
      · as_aux_lemma =>
          go_simp
          (first | (refine (HSet.out _ _ (hL.out.2.1 _ rfl).2 (hL.out.2.1 _ rfl).1).mono ?_; rintro e v1 ⟨rfl, hs, hb⟩; have q := LG.set hL.out hs hb) | (have hL' := LG.dr hL.out; refine (HSet.out _ _ (hL'.2.1 _ rfl).2 (hL'.2.1 _ rfl).1).mono ?_; rintro e v1 ⟨rfl, hs, hb⟩; have q := LG.set hL' hs hb; clear hL'; (try simp only [World.size_drew] at q))); replace hL := Lib.hid q; clear q hs hb
          go_wp2_with fail
          refine hK3.out _ _ ?_ (fun hHeld2 => ?_)
          · (try dsimp only); (first | exact AQ.cells (AQ.call Hq3.out hL.out.1) | exact AQ.cells (AQ.call Hq3.out (LG.dr hL.out).1))
          clear hK3 K3 hHeld1
          try simp only [Act.put, List.setIfInBounds_toArray, List.set_cons_zero, List.set_cons_succ]
          refine wpAnyH_ready (rs := [5, 7]) (by kernel_rfl) (by simp) ?_
          refine (AllReadyH.cons (o := { dst := some 36, op := Go.Op.makeMap 79 none, type := 79, pos := "l15_stack.go:68", after := #[], guard := none }) rfl (fun K5 hK5 => ?_) (AllReadyH.cons (o := { dst := some 8, op := Go.Op.alloc 81, type := 0, pos := "l15_stack.go:68", after := #[], guard := none }) rfl (fun K7 hK7 => ?_) AllReadyH.nil))
          · as_aux_lemma =>
              (first | refine st_map hL (fun g X hL => ?_) | refine st_map (Lib.hid (LG.dr hL.out)) (fun g X hL => ?_))
              refine hK5.out _ _ ?_ (fun hHeld3 => ?_)
              · (try dsimp only); (first | exact AQ.cells (AQ.call Hq3.out hL.out.1) | exact AQ.cells (AQ.call Hq3.out (LG.dr hL.out).1))
              clear hK5 K5 hHeld2
              try simp only [Act.put, List.setIfInBounds_toArray, List.set_cons_zero, List.set_cons_succ]
              refine wpAnyH_ready (rs := [6, 7]) (by kernel_rfl) (by simp) ?_
              refine (AllReadyH.cons (o := { dst := some 37, op := Go.Op.build 81 #[(0, Go.Operand.tmp 32), (1, Go.Operand.tmp 34), (2, Go.Operand.tmp 35), (3, Go.Operand.tmp 36)], type := 81, pos := "l15_stack.go:68", after := #[{ on := 1, ground := Go.Ground.data }, { on := 3, ground := Go.Ground.data }, { on := 4, ground := Go.Ground.data }, { on := 5, ground := Go.Ground.data }], guard := none }) rfl (fun K6 hK6 => ?_) (AllReadyH.cons (o := { dst := some 8, op := Go.Op.alloc 81, type := 0, pos := "l15_stack.go:68", after := #[], guard := none }) rfl (fun K7 hK7 => ?_) AllReadyH.nil))
              · as_aux_lemma =>
                  refine step_build rfl _ _ _ _ _ _ _ _ _ rfl _ _ _ _ rfl rfl rfl rfl _ (build_pop x y 0 _ _ A n c _) ?_
                  refine hK6.out _ _ ?_ (fun hHeld4 => ?_)
                  · (try dsimp only); (first | exact AQ.cells (AQ.call Hq3.out hL.out.1) | exact AQ.cells (AQ.call Hq3.out (LG.dr hL.out).1))
                  clear hK6 K6 hHeld3
                  try simp only [Act.put, List.setIfInBounds_toArray, List.set_cons_zero, List.set_cons_succ]
                  refine wpAnyH_ready (rs := [7]) (by kernel_rfl) (by simp) ?_
                  refine AllReadyH.cons (o := { dst := some 8, op := Go.Op.alloc 81, type := 0, pos := "l15_stack.go:68", after := #[], guard := none }) rfl (fun K7 hK7 => ?_) AllReadyH.nil
                  (first | refine st_pop hL (fun g X hL => ?_) | refine st_pop (Lib.hid (LG.dr hL.out)) (fun g X hL => ?_))
                  refine hK7.out _ _ ?_ (fun hHeld5 => ?_)
                  · (try dsimp only); (first | exact AQ.cells (AQ.call Hq3.out hL.out.1) | exact AQ.cells (AQ.call Hq3.out (LG.dr hL.out).1))
                  clear hK7 K7 hHeld4
                  try simp only [Act.put, List.setIfInBounds_toArray, List.set_cons_zero, List.set_cons_succ]
                  refine wpAnyH_ready (rs := [8]) (by kernel_rfl) (by simp) ?_
                  refine AllReadyH.cons (o := { dst := none, op := Go.Op.store 81 (Go.Operand.tmp 8) (Go.Operand.tmp 37), type := 0, pos := "l15_stack.go:68", after := #[{ on := 7, ground := Go.Ground.data }, { on := 6, ground := Go.Ground.data }, { on := 3, ground := Go.Ground.chain }, { on := 0, ground := Go.Ground.phase }, { on := 1, ground := Go.Ground.phase }, { on := 2, ground := Go.Ground.phase }, { on := 3, ground := Go.Ground.phase }, { on := 4, ground := Go.Ground.phase }, { on := 5, ground := Go.Ground.phase }, { on := 6, ground := Go.Ground.phase }, { on := 7, ground := Go.Ground.phase }], guard := none }) rfl (fun K8 hK8 => ?_) AllReadyH.nil
                  (first | refine st_store (x := x) (y := y) (n := n) (A := A) (c := c) hL rfl rfl (fun Y hY => ?_) | refine st_store (x := x) (y := y) (n := n) (A := A) (c := c) (Lib.hid (LG.dr hL.out)) rfl rfl (fun Y hY => ?_))
                  refine hK8.out _ _ ?_ (fun hHeld6 => ?_)
                  · (try dsimp only); exact AQ.cells (AQ.call Hq3.out hY.2.1)
                  clear hK8 K8 hHeld5
                  try simp only [Act.put]
                  refine wpAnyH_done (by kernel_rfl) ?_ _
                  exact HQ.out _ _ _ _ _ _ _ _ _ _ _ hY
              · as_aux_lemma =>
                  (first | refine st_pop hL (fun g X hL => ?_) | refine st_pop (Lib.hid (LG.dr hL.out)) (fun g X hL => ?_))
                  refine hK7.out _ _ ?_ (fun hHeld4 => ?_)
                  · (try dsimp only); (first | exact AQ.cells (AQ.call Hq3.out hL.out.1) | exact AQ.cells (AQ.call Hq3.out (LG.dr hL.out).1))
                  clear hK7 K7 hHeld3
                  try simp only [Act.put, List.setIfInBounds_toArray, List.set_cons_zero, List.set_cons_succ]
                  refine wpAnyH_ready (rs := [6]) (by kernel_rfl) (by simp) ?_
                  refine AllReadyH.cons (o := { dst := some 37, op := Go.Op.build 81 #[(0, Go.Operand.tmp 32), (1, Go.Operand.tmp 34), (2, Go.Operand.tmp 35), (3, Go.Operand.tmp 36)], type := 81, pos := "l15_stack.go:68", after := #[{ on := 1, ground := Go.Ground.data }, { on := 3, ground := Go.Ground.data }, { on := 4, ground := Go.Ground.data }, { on := 5, ground := Go.Ground.data }], guard := none }) rfl (fun K6 hK6 => ?_) AllReadyH.nil
                  refine step_build rfl _ _ _ _ _ _ _ _ _ rfl _ _ _ _ rfl rfl rfl rfl _ (build_pop x y 0 _ _ A n c _) ?_
                  refine hK6.out _ _ ?_ (fun hHeld5 => ?_)
                  · (try dsimp only); (first | exact AQ.cells (AQ.call Hq3.out hL.out.1) | exact AQ.cells (AQ.call Hq3.out (LG.dr hL.out).1))
                  clear hK6 K6 hHeld4
                  try simp only [Act.put, List.setIfInBounds_toArray, List.set_cons_zero, List.set_cons_succ]
                  refine wpAnyH_ready (rs := [8]) (by kernel_rfl) (by simp) ?_
                  refine AllReadyH.cons (o := { dst := none, op := Go.Op.store 81 (Go.Operand.tmp 8) (Go.Operand.tmp 37), type := 0, pos := "l15_stack.go:68", after := #[{ on := 7, ground := Go.Ground.data }, { on := 6, ground := Go.Ground.data }, { on := 3, ground := Go.Ground.chain }, { on := 0, ground := Go.Ground.phase }, { on := 1, ground := Go.Ground.phase }, { on := 2, ground := Go.Ground.phase }, { on := 3, ground := Go.Ground.phase }, { on := 4, ground := Go.Ground.phase }, { on := 5, ground := Go.Ground.phase }, { on := 6, ground := Go.Ground.phase }, { on := 7, ground := Go.Ground.phase }], guard := none }) rfl (fun K8 hK8 => ?_) AllReadyH.nil
                  (first | refine st_store (x := x) (y := y) (n := n) (A := A) (c := c) hL rfl rfl (fun Y hY => ?_) | refine st_store (x := x) (y := y) (n := n) (A := A) (c := c) (Lib.hid (LG.dr hL.out)) rfl rfl (fun Y hY => ?_))
                  refine hK8.out _ _ ?_ (fun hHeld6 => ?_)
                  · (try dsimp only); exact AQ.cells (AQ.call Hq3.out hY.2.1)
                  clear hK8 K8 hHeld5
                  try simp only [Act.put]
                  refine wpAnyH_done (by kernel_rfl) ?_ _
                  exact HQ.out _ _ _ _ _ _ _ _ _ _ _ hY
          · as_aux_lemma =>
              (first | refine st_pop hL (fun g X hL => ?_) | refine st_pop (Lib.hid (LG.dr hL.out)) (fun g X hL => ?_))
              refine hK7.out _ _ ?_ (fun hHeld3 => ?_)
              · (try dsimp only); (first | exact AQ.cells (AQ.call Hq3.out hL.out.1) | exact AQ.cells (AQ.call Hq3.out (LG.dr hL.out).1))
              clear hK7 K7 hHeld2
              try simp only [Act.put, List.setIfInBounds_toArray, List.set_cons_zero, List.set_cons_succ]
              refine wpAnyH_ready (rs := [5]) (by kernel_rfl) (by simp) ?_
              refine AllReadyH.cons (o := { dst := some 36, op := Go.Op.makeMap 79 none, type := 79, pos := "l15_stack.go:68", after := #[], guard := none }) rfl (fun K5 hK5 => ?_) AllReadyH.nil
              (first | refine st_map hL (fun g X hL => ?_) | refine st_map (Lib.hid (LG.dr hL.out)) (fun g X hL => ?_))
              refine hK5.out _ _ ?_ (fun hHeld4 => ?_)
              · (try dsimp only); (first | exact AQ.cells (AQ.call Hq3.out hL.out.1) | exact AQ.cells (AQ.call Hq3.out (LG.dr hL.out).1))
              clear hK5 K5 hHeld3
              try simp only [Act.put, List.setIfInBounds_toArray, List.set_cons_zero, List.set_cons_succ]
              refine wpAnyH_ready (rs := [6]) (by kernel_rfl) (by simp) ?_
              refine AllReadyH.cons (o := { dst := some 37, op := Go.Op.build 81 #[(0, Go.Operand.tmp 32), (1, Go.Operand.tmp 34), (2, Go.Operand.tmp 35), (3, Go.Operand.tmp 36)], type := 81, pos := "l15_stack.go:68", after := #[{ on := 1, ground := Go.Ground.data }, { on := 3, ground := Go.Ground.data }, { on := 4, ground := Go.Ground.data }, { on := 5, ground := Go.Ground.data }], guard := none }) rfl (fun K6 hK6 => ?_) AllReadyH.nil
              refine step_build rfl _ _ _ _ _ _ _ _ _ rfl _ _ _ _ rfl rfl rfl rfl _ (build_pop x y 0 _ _ A n c _) ?_
              refine hK6.out _ _ ?_ (fun hHeld5 => ?_)
              · (try dsimp only); (first | exact AQ.cells (AQ.call Hq3.out hL.out.1) | exact AQ.cells (AQ.call Hq3.out (LG.dr hL.out).1))
              clear hK6 K6 hHeld4
              try simp only [Act.put, List.setIfInBounds_toArray, List.set_cons_zero, List.set_cons_succ]
              refine wpAnyH_ready (rs := [8]) (by kernel_rfl) (by simp) ?_
              refine AllReadyH.cons (o := { dst := none, op := Go.Op.store 81 (Go.Operand.tmp 8) (Go.Operand.tmp 37), type := 0, pos := "l15_stack.go:68", after := #[{ on := 7, ground := Go.Ground.data }, { on := 6, ground := Go.Ground.data }, { on := 3, ground := Go.Ground.chain }, { on := 0, ground := Go.Ground.phase }, { on := 1, ground := Go.Ground.phase }, { on := 2, ground := Go.Ground.phase }, { on := 3, ground := Go.Ground.phase }, { on := 4, ground := Go.Ground.phase }, { on := 5, ground := Go.Ground.phase }, { on := 6, ground := Go.Ground.phase }, { on := 7, ground := Go.Ground.phase }], guard := none }) rfl (fun K8 hK8 => ?_) AllReadyH.nil
              (first | refine st_store (x := x) (y := y) (n := n) (A := A) (c := c) hL rfl rfl (fun Y hY => ?_) | refine st_store (x := x) (y := y) (n := n) (A := A) (c := c) (Lib.hid (LG.dr hL.out)) rfl rfl (fun Y hY => ?_))
              refine hK8.out _ _ ?_ (fun hHeld6 => ?_)
              · (try dsimp only); exact AQ.cells (AQ.call Hq3.out hY.2.1)
              clear hK8 K8 hHeld5
              try simp only [Act.put]
              refine wpAnyH_done (by kernel_rfl) ?_ _
              exact HQ.out _ _ _ _ _ _ _ _ _ _ _ hY
      · as_aux_lemma =>
          (first | refine st_map hL (fun g X hL => ?_) | refine st_map (Lib.hid (LG.dr hL.out)) (fun g X hL => ?_))
          refine hK5.out _ _ ?_ (fun hHeld2 => ?_)
          · (try dsimp only); (first | exact AQ.cells (AQ.call Hq3.out hL.out.1) | exact AQ.cells (AQ.call Hq3.out (LG.dr hL.out).1))
          clear hK5 K5 hHeld1
          try simp only [Act.put, List.setIfInBounds_toArray, List.set_cons_zero, List.set_cons_succ]
          refine wpAnyH_ready (rs := [3, 7]) (by kernel_rfl) (by simp) ?_
          refine (AllReadyH.cons (o := { dst := some 34, op := Go.Op.call { callee := Go.Callee.value (Go.Operand.func 43), args := #[Go.Operand.tmp 33], argTypes := #[32] }, type := 66, pos := "l15_stack.go:68", after := #[{ on := 2, ground := Go.Ground.data }], guard := none }) rfl (fun K3 hK3 => ?_) (AllReadyH.cons (o := { dst := some 8, op := Go.Op.alloc 81, type := 0, pos := "l15_stack.go:68", after := #[], guard := none }) rfl (fun K7 hK7 => ?_) AllReadyH.nil))
          · as_aux_lemma =>
              go_simp
              (first | (refine (HSet.out _ _ (hL.out.2.1 _ rfl).2 (hL.out.2.1 _ rfl).1).mono ?_; rintro e v1 ⟨rfl, hs, hb⟩; have q := LG.set hL.out hs hb) | (have hL' := LG.dr hL.out; refine (HSet.out _ _ (hL'.2.1 _ rfl).2 (hL'.2.1 _ rfl).1).mono ?_; rintro e v1 ⟨rfl, hs, hb⟩; have q := LG.set hL' hs hb; clear hL'; (try simp only [World.size_drew] at q))); replace hL := Lib.hid q; clear q hs hb
              go_wp2_with fail
              refine hK3.out _ _ ?_ (fun hHeld3 => ?_)
              · (try dsimp only); (first | exact AQ.cells (AQ.call Hq3.out hL.out.1) | exact AQ.cells (AQ.call Hq3.out (LG.dr hL.out).1))
              clear hK3 K3 hHeld2
              try simp only [Act.put, List.setIfInBounds_toArray, List.set_cons_zero, List.set_cons_succ]
              refine wpAnyH_ready (rs := [6, 7]) (by kernel_rfl) (by simp) ?_
              refine (AllReadyH.cons (o := { dst := some 37, op := Go.Op.build 81 #[(0, Go.Operand.tmp 32), (1, Go.Operand.tmp 34), (2, Go.Operand.tmp 35), (3, Go.Operand.tmp 36)], type := 81, pos := "l15_stack.go:68", after := #[{ on := 1, ground := Go.Ground.data }, { on := 3, ground := Go.Ground.data }, { on := 4, ground := Go.Ground.data }, { on := 5, ground := Go.Ground.data }], guard := none }) rfl (fun K6 hK6 => ?_) (AllReadyH.cons (o := { dst := some 8, op := Go.Op.alloc 81, type := 0, pos := "l15_stack.go:68", after := #[], guard := none }) rfl (fun K7 hK7 => ?_) AllReadyH.nil))
              · as_aux_lemma =>
                  refine step_build rfl _ _ _ _ _ _ _ _ _ rfl _ _ _ _ rfl rfl rfl rfl _ (build_pop x y 0 _ _ A n c _) ?_
                  refine hK6.out _ _ ?_ (fun hHeld4 => ?_)
                  · (try dsimp only); (first | exact AQ.cells (AQ.call Hq3.out hL.out.1) | exact AQ.cells (AQ.call Hq3.out (LG.dr hL.out).1))
                  clear hK6 K6 hHeld3
                  try simp only [Act.put, List.setIfInBounds_toArray, List.set_cons_zero, List.set_cons_succ]
                  refine wpAnyH_ready (rs := [7]) (by kernel_rfl) (by simp) ?_
                  refine AllReadyH.cons (o := { dst := some 8, op := Go.Op.alloc 81, type := 0, pos := "l15_stack.go:68", after := #[], guard := none }) rfl (fun K7 hK7 => ?_) AllReadyH.nil
                  (first | refine st_pop hL (fun g X hL => ?_) | refine st_pop (Lib.hid (LG.dr hL.out)) (fun g X hL => ?_))
                  refine hK7.out _ _ ?_ (fun hHeld5 => ?_)
                  · (try dsimp only); (first | exact AQ.cells (AQ.call Hq3.out hL.out.1) | exact AQ.cells (AQ.call Hq3.out (LG.dr hL.out).1))
                  clear hK7 K7 hHeld4
                  try simp only [Act.put, List.setIfInBounds_toArray, List.set_cons_zero, List.set_cons_succ]
                  refine wpAnyH_ready (rs := [8]) (by kernel_rfl) (by simp) ?_
                  refine AllReadyH.cons (o := { dst := none, op := Go.Op.store 81 (Go.Operand.tmp 8) (Go.Operand.tmp 37), type := 0, pos := "l15_stack.go:68", after := #[{ on := 7, ground := Go.Ground.data }, { on := 6, ground := Go.Ground.data }, { on := 3, ground := Go.Ground.chain }, { on := 0, ground := Go.Ground.phase }, { on := 1, ground := Go.Ground.phase }, { on := 2, ground := Go.Ground.phase }, { on := 3, ground := Go.Ground.phase }, { on := 4, ground := Go.Ground.phase }, { on := 5, ground := Go.Ground.phase }, { on := 6, ground := Go.Ground.phase }, { on := 7, ground := Go.Ground.phase }], guard := none }) rfl (fun K8 hK8 => ?_) AllReadyH.nil
                  (first | refine st_store (x := x) (y := y) (n := n) (A := A) (c := c) hL rfl rfl (fun Y hY => ?_) | refine st_store (x := x) (y := y) (n := n) (A := A) (c := c) (Lib.hid (LG.dr hL.out)) rfl rfl (fun Y hY => ?_))
                  refine hK8.out _ _ ?_ (fun hHeld6 => ?_)
                  · (try dsimp only); exact AQ.cells (AQ.call Hq3.out hY.2.1)
                  clear hK8 K8 hHeld5
                  try simp only [Act.put]
                  refine wpAnyH_done (by kernel_rfl) ?_ _
                  exact HQ.out _ _ _ _ _ _ _ _ _ _ _ hY
              · as_aux_lemma =>
                  (first | refine st_pop hL (fun g X hL => ?_) | refine st_pop (Lib.hid (LG.dr hL.out)) (fun g X hL => ?_))
                  refine hK7.out _ _ ?_ (fun hHeld4 => ?_)
                  · (try dsimp only); (first | exact AQ.cells (AQ.call Hq3.out hL.out.1) | exact AQ.cells (AQ.call Hq3.out (LG.dr hL.out).1))
                  clear hK7 K7 hHeld3
                  try simp only [Act.put, List.setIfInBounds_toArray, List.set_cons_zero, List.set_cons_succ]
                  refine wpAnyH_ready (rs := [6]) (by kernel_rfl) (by simp) ?_
                  refine AllReadyH.cons (o := { dst := some 37, op := Go.Op.build 81 #[(0, Go.Operand.tmp 32), (1, Go.Operand.tmp 34), (2, Go.Operand.tmp 35), (3, Go.Operand.tmp 36)], type := 81, pos := "l15_stack.go:68", after := #[{ on := 1, ground := Go.Ground.data }, { on := 3, ground := Go.Ground.data }, { on := 4, ground := Go.Ground.data }, { on := 5, ground := Go.Ground.data }], guard := none }) rfl (fun K6 hK6 => ?_) AllReadyH.nil
                  refine step_build rfl _ _ _ _ _ _ _ _ _ rfl _ _ _ _ rfl rfl rfl rfl _ (build_pop x y 0 _ _ A n c _) ?_
                  refine hK6.out _ _ ?_ (fun hHeld5 => ?_)
                  · (try dsimp only); (first | exact AQ.cells (AQ.call Hq3.out hL.out.1) | exact AQ.cells (AQ.call Hq3.out (LG.dr hL.out).1))
                  clear hK6 K6 hHeld4
                  try simp only [Act.put, List.setIfInBounds_toArray, List.set_cons_zero, List.set_cons_succ]
                  refine wpAnyH_ready (rs := [8]) (by kernel_rfl) (by simp) ?_
                  refine AllReadyH.cons (o := { dst := none, op := Go.Op.store 81 (Go.Operand.tmp 8) (Go.Operand.tmp 37), type := 0, pos := "l15_stack.go:68", after := #[{ on := 7, ground := Go.Ground.data }, { on := 6, ground := Go.Ground.data }, { on := 3, ground := Go.Ground.chain }, { on := 0, ground := Go.Ground.phase }, { on := 1, ground := Go.Ground.phase }, { on := 2, ground := Go.Ground.phase }, { on := 3, ground := Go.Ground.phase }, { on := 4, ground := Go.Ground.phase }, { on := 5, ground := Go.Ground.phase }, { on := 6, ground := Go.Ground.phase }, { on := 7, ground := Go.Ground.phase }], guard := none }) rfl (fun K8 hK8 => ?_) AllReadyH.nil
                  (first | refine st_store (x := x) (y := y) (n := n) (A := A) (c := c) hL rfl rfl (fun Y hY => ?_) | refine st_store (x := x) (y := y) (n := n) (A := A) (c := c) (Lib.hid (LG.dr hL.out)) rfl rfl (fun Y hY => ?_))
                  refine hK8.out _ _ ?_ (fun hHeld6 => ?_)
                  · (try dsimp only); exact AQ.cells (AQ.call Hq3.out hY.2.1)
                  clear hK8 K8 hHeld5
                  try simp only [Act.put]
                  refine wpAnyH_done (by kernel_rfl) ?_ _
                  exact HQ.out _ _ _ _ _ _ _ _ _ _ _ hY
          · as_aux_lemma =>
              (first | refine st_pop hL (fun g X hL => ?_) | refine st_pop (Lib.hid (LG.dr hL.out)) (fun g X hL => ?_))
              refine hK7.out _ _ ?_ (fun hHeld3 => ?_)
              · (try dsimp only); (first | exact AQ.cells (AQ.call Hq3.out hL.out.1) | exact AQ.cells (AQ.call Hq3.out (LG.dr hL.out).1))
              clear hK7 K7 hHeld2
              try simp only [Act.put, List.setIfInBounds_toArray, List.set_cons_zero, List.set_cons_succ]
              refine wpAnyH_ready (rs := [3]) (by kernel_rfl) (by simp) ?_
              refine AllReadyH.cons (o := { dst := some 34, op := Go.Op.call { callee := Go.Callee.value (Go.Operand.func 43), args := #[Go.Operand.tmp 33], argTypes := #[32] }, type := 66, pos := "l15_stack.go:68", after := #[{ on := 2, ground := Go.Ground.data }], guard := none }) rfl (fun K3 hK3 => ?_) AllReadyH.nil
              go_simp
              (first | (refine (HSet.out _ _ (hL.out.2.1 _ rfl).2 (hL.out.2.1 _ rfl).1).mono ?_; rintro e v1 ⟨rfl, hs, hb⟩; have q := LG.set hL.out hs hb) | (have hL' := LG.dr hL.out; refine (HSet.out _ _ (hL'.2.1 _ rfl).2 (hL'.2.1 _ rfl).1).mono ?_; rintro e v1 ⟨rfl, hs, hb⟩; have q := LG.set hL' hs hb; clear hL'; (try simp only [World.size_drew] at q))); replace hL := Lib.hid q; clear q hs hb
              go_wp2_with fail
              refine hK3.out _ _ ?_ (fun hHeld4 => ?_)
              · (try dsimp only); (first | exact AQ.cells (AQ.call Hq3.out hL.out.1) | exact AQ.cells (AQ.call Hq3.out (LG.dr hL.out).1))
              clear hK3 K3 hHeld3
              try simp only [Act.put, List.setIfInBounds_toArray, List.set_cons_zero, List.set_cons_succ]
              refine wpAnyH_ready (rs := [6]) (by kernel_rfl) (by simp) ?_
              refine AllReadyH.cons (o := { dst := some 37, op := Go.Op.build 81 #[(0, Go.Operand.tmp 32), (1, Go.Operand.tmp 34), (2, Go.Operand.tmp 35), (3, Go.Operand.tmp 36)], type := 81, pos := "l15_stack.go:68", after := #[{ on := 1, ground := Go.Ground.data }, { on := 3, ground := Go.Ground.data }, { on := 4, ground := Go.Ground.data }, { on := 5, ground := Go.Ground.data }], guard := none }) rfl (fun K6 hK6 => ?_) AllReadyH.nil
              refine step_build rfl _ _ _ _ _ _ _ _ _ rfl _ _ _ _ rfl rfl rfl rfl _ (build_pop x y 0 _ _ A n c _) ?_
              refine hK6.out _ _ ?_ (fun hHeld5 => ?_)
              · (try dsimp only); (first | exact AQ.cells (AQ.call Hq3.out hL.out.1) | exact AQ.cells (AQ.call Hq3.out (LG.dr hL.out).1))
              clear hK6 K6 hHeld4
              try simp only [Act.put, List.setIfInBounds_toArray, List.set_cons_zero, List.set_cons_succ]
              refine wpAnyH_ready (rs := [8]) (by kernel_rfl) (by simp) ?_
              refine AllReadyH.cons (o := { dst := none, op := Go.Op.store 81 (Go.Operand.tmp 8) (Go.Operand.tmp 37), type := 0, pos := "l15_stack.go:68", after := #[{ on := 7, ground := Go.Ground.data }, { on := 6, ground := Go.Ground.data }, { on := 3, ground := Go.Ground.chain }, { on := 0, ground := Go.Ground.phase }, { on := 1, ground := Go.Ground.phase }, { on := 2, ground := Go.Ground.phase }, { on := 3, ground := Go.Ground.phase }, { on := 4, ground := Go.Ground.phase }, { on := 5, ground := Go.Ground.phase }, { on := 6, ground := Go.Ground.phase }, { on := 7, ground := Go.Ground.phase }], guard := none }) rfl (fun K8 hK8 => ?_) AllReadyH.nil
              (first | refine st_store (x := x) (y := y) (n := n) (A := A) (c := c) hL rfl rfl (fun Y hY => ?_) | refine st_store (x := x) (y := y) (n := n) (A := A) (c := c) (Lib.hid (LG.dr hL.out)) rfl rfl (fun Y hY => ?_))
              refine hK8.out _ _ ?_ (fun hHeld6 => ?_)
              · (try dsimp only); exact AQ.cells (AQ.call Hq3.out hY.2.1)
              clear hK8 K8 hHeld5
              try simp only [Act.put]
              refine wpAnyH_done (by kernel_rfl) ?_ _
              exact HQ.out _ _ _ _ _ _ _ _ _ _ _ hY
      · as_aux_lemma =>
          (first | refine st_pop hL (fun g X hL => ?_) | refine st_pop (Lib.hid (LG.dr hL.out)) (fun g X hL => ?_))
          refine hK7.out _ _ ?_ (fun hHeld2 => ?_)
          · (try dsimp only); (first | exact AQ.cells (AQ.call Hq3.out hL.out.1) | exact AQ.cells (AQ.call Hq3.out (LG.dr hL.out).1))
          clear hK7 K7 hHeld1
          try simp only [Act.put, List.setIfInBounds_toArray, List.set_cons_zero, List.set_cons_succ]
          refine wpAnyH_ready (rs := [3, 5]) (by kernel_rfl) (by simp) ?_
          refine (AllReadyH.cons (o := { dst := some 34, op := Go.Op.call { callee := Go.Callee.value (Go.Operand.func 43), args := #[Go.Operand.tmp 33], argTypes := #[32] }, type := 66, pos := "l15_stack.go:68", after := #[{ on := 2, ground := Go.Ground.data }], guard := none }) rfl (fun K3 hK3 => ?_) (AllReadyH.cons (o := { dst := some 36, op := Go.Op.makeMap 79 none, type := 79, pos := "l15_stack.go:68", after := #[], guard := none }) rfl (fun K5 hK5 => ?_) AllReadyH.nil))
          · as_aux_lemma =>
              go_simp
              (first | (refine (HSet.out _ _ (hL.out.2.1 _ rfl).2 (hL.out.2.1 _ rfl).1).mono ?_; rintro e v1 ⟨rfl, hs, hb⟩; have q := LG.set hL.out hs hb) | (have hL' := LG.dr hL.out; refine (HSet.out _ _ (hL'.2.1 _ rfl).2 (hL'.2.1 _ rfl).1).mono ?_; rintro e v1 ⟨rfl, hs, hb⟩; have q := LG.set hL' hs hb; clear hL'; (try simp only [World.size_drew] at q))); replace hL := Lib.hid q; clear q hs hb
              go_wp2_with fail
              refine hK3.out _ _ ?_ (fun hHeld3 => ?_)
              · (try dsimp only); (first | exact AQ.cells (AQ.call Hq3.out hL.out.1) | exact AQ.cells (AQ.call Hq3.out (LG.dr hL.out).1))
              clear hK3 K3 hHeld2
              try simp only [Act.put, List.setIfInBounds_toArray, List.set_cons_zero, List.set_cons_succ]
              refine wpAnyH_ready (rs := [5]) (by kernel_rfl) (by simp) ?_
              refine AllReadyH.cons (o := { dst := some 36, op := Go.Op.makeMap 79 none, type := 79, pos := "l15_stack.go:68", after := #[], guard := none }) rfl (fun K5 hK5 => ?_) AllReadyH.nil
              (first | refine st_map hL (fun g X hL => ?_) | refine st_map (Lib.hid (LG.dr hL.out)) (fun g X hL => ?_))
              refine hK5.out _ _ ?_ (fun hHeld4 => ?_)
              · (try dsimp only); (first | exact AQ.cells (AQ.call Hq3.out hL.out.1) | exact AQ.cells (AQ.call Hq3.out (LG.dr hL.out).1))
              clear hK5 K5 hHeld3
              try simp only [Act.put, List.setIfInBounds_toArray, List.set_cons_zero, List.set_cons_succ]
              refine wpAnyH_ready (rs := [6]) (by kernel_rfl) (by simp) ?_
              refine AllReadyH.cons (o := { dst := some 37, op := Go.Op.build 81 #[(0, Go.Operand.tmp 32), (1, Go.Operand.tmp 34), (2, Go.Operand.tmp 35), (3, Go.Operand.tmp 36)], type := 81, pos := "l15_stack.go:68", after := #[{ on := 1, ground := Go.Ground.data }, { on := 3, ground := Go.Ground.data }, { on := 4, ground := Go.Ground.data }, { on := 5, ground := Go.Ground.data }], guard := none }) rfl (fun K6 hK6 => ?_) AllReadyH.nil
              refine step_build rfl _ _ _ _ _ _ _ _ _ rfl _ _ _ _ rfl rfl rfl rfl _ (build_pop x y 0 _ _ A n c _) ?_
              refine hK6.out _ _ ?_ (fun hHeld5 => ?_)
              · (try dsimp only); (first | exact AQ.cells (AQ.call Hq3.out hL.out.1) | exact AQ.cells (AQ.call Hq3.out (LG.dr hL.out).1))
              clear hK6 K6 hHeld4
              try simp only [Act.put, List.setIfInBounds_toArray, List.set_cons_zero, List.set_cons_succ]
              refine wpAnyH_ready (rs := [8]) (by kernel_rfl) (by simp) ?_
              refine AllReadyH.cons (o := { dst := none, op := Go.Op.store 81 (Go.Operand.tmp 8) (Go.Operand.tmp 37), type := 0, pos := "l15_stack.go:68", after := #[{ on := 7, ground := Go.Ground.data }, { on := 6, ground := Go.Ground.data }, { on := 3, ground := Go.Ground.chain }, { on := 0, ground := Go.Ground.phase }, { on := 1, ground := Go.Ground.phase }, { on := 2, ground := Go.Ground.phase }, { on := 3, ground := Go.Ground.phase }, { on := 4, ground := Go.Ground.phase }, { on := 5, ground := Go.Ground.phase }, { on := 6, ground := Go.Ground.phase }, { on := 7, ground := Go.Ground.phase }], guard := none }) rfl (fun K8 hK8 => ?_) AllReadyH.nil
              (first | refine st_store (x := x) (y := y) (n := n) (A := A) (c := c) hL rfl rfl (fun Y hY => ?_) | refine st_store (x := x) (y := y) (n := n) (A := A) (c := c) (Lib.hid (LG.dr hL.out)) rfl rfl (fun Y hY => ?_))
              refine hK8.out _ _ ?_ (fun hHeld6 => ?_)
              · (try dsimp only); exact AQ.cells (AQ.call Hq3.out hY.2.1)
              clear hK8 K8 hHeld5
              try simp only [Act.put]
              refine wpAnyH_done (by kernel_rfl) ?_ _
              exact HQ.out _ _ _ _ _ _ _ _ _ _ _ hY
          · as_aux_lemma =>
              (first | refine st_map hL (fun g X hL => ?_) | refine st_map (Lib.hid (LG.dr hL.out)) (fun g X hL => ?_))
              refine hK5.out _ _ ?_ (fun hHeld3 => ?_)
              · (try dsimp only); (first | exact AQ.cells (AQ.call Hq3.out hL.out.1) | exact AQ.cells (AQ.call Hq3.out (LG.dr hL.out).1))
              clear hK5 K5 hHeld2
              try simp only [Act.put, List.setIfInBounds_toArray, List.set_cons_zero, List.set_cons_succ]
              refine wpAnyH_ready (rs := [3]) (by kernel_rfl) (by simp) ?_
              refine AllReadyH.cons (o := { dst := some 34, op := Go.Op.call { callee := Go.Callee.value (Go.Operand.func 43), args := #[Go.Operand.tmp 33], argTypes := #[32] }, type := 66, pos := "l15_stack.go:68", after := #[{ on := 2, ground := Go.Ground.data }], guard := none }) rfl (fun K3 hK3 => ?_) AllReadyH.nil
              go_simp
              (first | (refine (HSet.out _ _ (hL.out.2.1 _ rfl).2 (hL.out.2.1 _ rfl).1).mono ?_; rintro e v1 ⟨rfl, hs, hb⟩; have q := LG.set hL.out hs hb) | (have hL' := LG.dr hL.out; refine (HSet.out _ _ (hL'.2.1 _ rfl).2 (hL'.2.1 _ rfl).1).mono ?_; rintro e v1 ⟨rfl, hs, hb⟩; have q := LG.set hL' hs hb; clear hL'; (try simp only [World.size_drew] at q))); replace hL := Lib.hid q; clear q hs hb
              go_wp2_with fail
              refine hK3.out _ _ ?_ (fun hHeld4 => ?_)
              · (try dsimp only); (first | exact AQ.cells (AQ.call Hq3.out hL.out.1) | exact AQ.cells (AQ.call Hq3.out (LG.dr hL.out).1))
              clear hK3 K3 hHeld3
              try simp only [Act.put, List.setIfInBounds_toArray, List.set_cons_zero, List.set_cons_succ]
              refine wpAnyH_ready (rs := [6]) (by kernel_rfl) (by simp) ?_
              refine AllReadyH.cons (o := { dst := some 37, op := Go.Op.build 81 #[(0, Go.Operand.tmp 32), (1, Go.Operand.tmp 34), (2, Go.Operand.tmp 35), (3, Go.Operand.tmp 36)], type := 81, pos := "l15_stack.go:68", after := #[{ on := 1, ground := Go.Ground.data }, { on := 3, ground := Go.Ground.data }, { on := 4, ground := Go.Ground.data }, { on := 5, ground := Go.Ground.data }], guard := none }) rfl (fun K6 hK6 => ?_) AllReadyH.nil
              refine step_build rfl _ _ _ _ _ _ _ _ _ rfl _ _ _ _ rfl rfl rfl rfl _ (build_pop x y 0 _ _ A n c _) ?_
              refine hK6.out _ _ ?_ (fun hHeld5 => ?_)
              · (try dsimp only); (first | exact AQ.cells (AQ.call Hq3.out hL.out.1) | exact AQ.cells (AQ.call Hq3.out (LG.dr hL.out).1))
              clear hK6 K6 hHeld4
              try simp only [Act.put, List.setIfInBounds_toArray, List.set_cons_zero, List.set_cons_succ]
              refine wpAnyH_ready (rs := [8]) (by kernel_rfl) (by simp) ?_
              refine AllReadyH.cons (o := { dst := none, op := Go.Op.store 81 (Go.Operand.tmp 8) (Go.Operand.tmp 37), type := 0, pos := "l15_stack.go:68", after := #[{ on := 7, ground := Go.Ground.data }, { on := 6, ground := Go.Ground.data }, { on := 3, ground := Go.Ground.chain }, { on := 0, ground := Go.Ground.phase }, { on := 1, ground := Go.Ground.phase }, { on := 2, ground := Go.Ground.phase }, { on := 3, ground := Go.Ground.phase }, { on := 4, ground := Go.Ground.phase }, { on := 5, ground := Go.Ground.phase }, { on := 6, ground := Go.Ground.phase }, { on := 7, ground := Go.Ground.phase }], guard := none }) rfl (fun K8 hK8 => ?_) AllReadyH.nil
              (first | refine st_store (x := x) (y := y) (n := n) (A := A) (c := c) hL rfl rfl (fun Y hY => ?_) | refine st_store (x := x) (y := y) (n := n) (A := A) (c := c) (Lib.hid (LG.dr hL.out)) rfl rfl (fun Y hY => ?_))
              refine hK8.out _ _ ?_ (fun hHeld6 => ?_)
              · (try dsimp only); exact AQ.cells (AQ.call Hq3.out hY.2.1)
              clear hK8 K8 hHeld5
              try simp only [Act.put]
              refine wpAnyH_done (by kernel_rfl) ?_ _
              exact HQ.out _ _ _ _ _ _ _ _ _ _ _ hY
  · as_aux_lemma =>
      (first | refine st_map hL (fun g X hL => ?_) | refine st_map (Lib.hid (LG.dr hL.out)) (fun g X hL => ?_))
      refine hK5.out _ _ ?_ (fun hHeld1 => ?_)
      · (try dsimp only); (first | exact AQ.cells (AQ.call Hq3.out hL.out.1) | exact AQ.cells (AQ.call Hq3.out (LG.dr hL.out).1))
      clear hK5 K5 hHeld0
      try simp only [Act.put, List.setIfInBounds_toArray, List.set_cons_zero, List.set_cons_succ]
      refine wpAnyH_ready (rs := [2, 7]) (by kernel_rfl) (by simp) ?_
      refine (AllReadyH.cons (o := { dst := some 33, op := Go.Op.buildSlice 32 1 #[(0, Go.Operand.const (Go.Value.int Go.IntKind.i64 0))], type := 32, pos := "l15_stack.go:68", after := #[], guard := none }) rfl (fun K2 hK2 => ?_) (AllReadyH.cons (o := { dst := some 8, op := Go.Op.alloc 81, type := 0, pos := "l15_stack.go:68", after := #[], guard := none }) rfl (fun K7 hK7 => ?_) AllReadyH.nil))
      · as_aux_lemma =>
          (first | refine st_slice hL (fun g X hL => ?_) | refine st_slice (Lib.hid (LG.dr hL.out)) (fun g X hL => ?_))
          refine hK2.out _ _ ?_ (fun hHeld2 => ?_)
          · (try dsimp only); (first | exact AQ.cells (AQ.call Hq3.out hL.out.1) | exact AQ.cells (AQ.call Hq3.out (LG.dr hL.out).1))
          clear hK2 K2 hHeld1
          try simp only [Act.put, List.setIfInBounds_toArray, List.set_cons_zero, List.set_cons_succ]
          refine wpAnyH_ready (rs := [3, 7]) (by kernel_rfl) (by simp) ?_
          refine (AllReadyH.cons (o := { dst := some 34, op := Go.Op.call { callee := Go.Callee.value (Go.Operand.func 43), args := #[Go.Operand.tmp 33], argTypes := #[32] }, type := 66, pos := "l15_stack.go:68", after := #[{ on := 2, ground := Go.Ground.data }], guard := none }) rfl (fun K3 hK3 => ?_) (AllReadyH.cons (o := { dst := some 8, op := Go.Op.alloc 81, type := 0, pos := "l15_stack.go:68", after := #[], guard := none }) rfl (fun K7 hK7 => ?_) AllReadyH.nil))
          · as_aux_lemma =>
              go_simp
              (first | (refine (HSet.out _ _ (hL.out.2.1 _ rfl).2 (hL.out.2.1 _ rfl).1).mono ?_; rintro e v1 ⟨rfl, hs, hb⟩; have q := LG.set hL.out hs hb) | (have hL' := LG.dr hL.out; refine (HSet.out _ _ (hL'.2.1 _ rfl).2 (hL'.2.1 _ rfl).1).mono ?_; rintro e v1 ⟨rfl, hs, hb⟩; have q := LG.set hL' hs hb; clear hL'; (try simp only [World.size_drew] at q))); replace hL := Lib.hid q; clear q hs hb
              go_wp2_with fail
              refine hK3.out _ _ ?_ (fun hHeld3 => ?_)
              · (try dsimp only); (first | exact AQ.cells (AQ.call Hq3.out hL.out.1) | exact AQ.cells (AQ.call Hq3.out (LG.dr hL.out).1))
              clear hK3 K3 hHeld2
              try simp only [Act.put, List.setIfInBounds_toArray, List.set_cons_zero, List.set_cons_succ]
              refine wpAnyH_ready (rs := [6, 7]) (by kernel_rfl) (by simp) ?_
              refine (AllReadyH.cons (o := { dst := some 37, op := Go.Op.build 81 #[(0, Go.Operand.tmp 32), (1, Go.Operand.tmp 34), (2, Go.Operand.tmp 35), (3, Go.Operand.tmp 36)], type := 81, pos := "l15_stack.go:68", after := #[{ on := 1, ground := Go.Ground.data }, { on := 3, ground := Go.Ground.data }, { on := 4, ground := Go.Ground.data }, { on := 5, ground := Go.Ground.data }], guard := none }) rfl (fun K6 hK6 => ?_) (AllReadyH.cons (o := { dst := some 8, op := Go.Op.alloc 81, type := 0, pos := "l15_stack.go:68", after := #[], guard := none }) rfl (fun K7 hK7 => ?_) AllReadyH.nil))
              · as_aux_lemma =>
                  refine step_build rfl _ _ _ _ _ _ _ _ _ rfl _ _ _ _ rfl rfl rfl rfl _ (build_pop x y 0 _ _ A n c _) ?_
                  refine hK6.out _ _ ?_ (fun hHeld4 => ?_)
                  · (try dsimp only); (first | exact AQ.cells (AQ.call Hq3.out hL.out.1) | exact AQ.cells (AQ.call Hq3.out (LG.dr hL.out).1))
                  clear hK6 K6 hHeld3
                  try simp only [Act.put, List.setIfInBounds_toArray, List.set_cons_zero, List.set_cons_succ]
                  refine wpAnyH_ready (rs := [7]) (by kernel_rfl) (by simp) ?_
                  refine AllReadyH.cons (o := { dst := some 8, op := Go.Op.alloc 81, type := 0, pos := "l15_stack.go:68", after := #[], guard := none }) rfl (fun K7 hK7 => ?_) AllReadyH.nil
                  (first | refine st_pop hL (fun g X hL => ?_) | refine st_pop (Lib.hid (LG.dr hL.out)) (fun g X hL => ?_))
                  refine hK7.out _ _ ?_ (fun hHeld5 => ?_)
                  · (try dsimp only); (first | exact AQ.cells (AQ.call Hq3.out hL.out.1) | exact AQ.cells (AQ.call Hq3.out (LG.dr hL.out).1))
                  clear hK7 K7 hHeld4
                  try simp only [Act.put, List.setIfInBounds_toArray, List.set_cons_zero, List.set_cons_succ]
                  refine wpAnyH_ready (rs := [8]) (by kernel_rfl) (by simp) ?_
                  refine AllReadyH.cons (o := { dst := none, op := Go.Op.store 81 (Go.Operand.tmp 8) (Go.Operand.tmp 37), type := 0, pos := "l15_stack.go:68", after := #[{ on := 7, ground := Go.Ground.data }, { on := 6, ground := Go.Ground.data }, { on := 3, ground := Go.Ground.chain }, { on := 0, ground := Go.Ground.phase }, { on := 1, ground := Go.Ground.phase }, { on := 2, ground := Go.Ground.phase }, { on := 3, ground := Go.Ground.phase }, { on := 4, ground := Go.Ground.phase }, { on := 5, ground := Go.Ground.phase }, { on := 6, ground := Go.Ground.phase }, { on := 7, ground := Go.Ground.phase }], guard := none }) rfl (fun K8 hK8 => ?_) AllReadyH.nil
                  (first | refine st_store (x := x) (y := y) (n := n) (A := A) (c := c) hL rfl rfl (fun Y hY => ?_) | refine st_store (x := x) (y := y) (n := n) (A := A) (c := c) (Lib.hid (LG.dr hL.out)) rfl rfl (fun Y hY => ?_))
                  refine hK8.out _ _ ?_ (fun hHeld6 => ?_)
                  · (try dsimp only); exact AQ.cells (AQ.call Hq3.out hY.2.1)
                  clear hK8 K8 hHeld5
                  try simp only [Act.put]
                  refine wpAnyH_done (by kernel_rfl) ?_ _
                  exact HQ.out _ _ _ _ _ _ _ _ _ _ _ hY
              · as_aux_lemma =>
                  (first | refine st_pop hL (fun g X hL => ?_) | refine st_pop (Lib.hid (LG.dr hL.out)) (fun g X hL => ?_))
                  refine hK7.out _ _ ?_ (fun hHeld4 => ?_)
                  · (try dsimp only); (first | exact AQ.cells (AQ.call Hq3.out hL.out.1) | exact AQ.cells (AQ.call Hq3.out (LG.dr hL.out).1))
                  clear hK7 K7 hHeld3
                  try simp only [Act.put, List.setIfInBounds_toArray, List.set_cons_zero, List.set_cons_succ]
                  refine wpAnyH_ready (rs := [6]) (by kernel_rfl) (by simp) ?_
                  refine AllReadyH.cons (o := { dst := some 37, op := Go.Op.build 81 #[(0, Go.Operand.tmp 32), (1, Go.Operand.tmp 34), (2, Go.Operand.tmp 35), (3, Go.Operand.tmp 36)], type := 81, pos := "l15_stack.go:68", after := #[{ on := 1, ground := Go.Ground.data }, { on := 3, ground := Go.Ground.data }, { on := 4, ground := Go.Ground.data }, { on := 5, ground := Go.Ground.data }], guard := none }) rfl (fun K6 hK6 => ?_) AllReadyH.nil
                  refine step_build rfl _ _ _ _ _ _ _ _ _ rfl _ _ _ _ rfl rfl rfl rfl _ (build_pop x y 0 _ _ A n c _) ?_
                  refine hK6.out _ _ ?_ (fun hHeld5 => ?_)
                  · (try dsimp only); (first | exact AQ.cells (AQ.call Hq3.out hL.out.1) | exact AQ.cells (AQ.call Hq3.out (LG.dr hL.out).1))
                  clear hK6 K6 hHeld4
                  try simp only [Act.put, List.setIfInBounds_toArray, List.set_cons_zero, List.set_cons_succ]
                  refine wpAnyH_ready (rs := [8]) (by kernel_rfl) (by simp) ?_
                  refine AllReadyH.cons (o := { dst := none, op := Go.Op.store 81 (Go.Operand.tmp 8) (Go.Operand.tmp 37), type := 0, pos := "l15_stack.go:68", after := #[{ on := 7, ground := Go.Ground.data }, { on := 6, ground := Go.Ground.data }, { on := 3, ground := Go.Ground.chain }, { on := 0, ground := Go.Ground.phase }, { on := 1, ground := Go.Ground.phase }, { on := 2, ground := Go.Ground.phase }, { on := 3, ground := Go.Ground.phase }, { on := 4, ground := Go.Ground.phase }, { on := 5, ground := Go.Ground.phase }, { on := 6, ground := Go.Ground.phase }, { on := 7, ground := Go.Ground.phase }], guard := none }) rfl (fun K8 hK8 => ?_) AllReadyH.nil
                  (first | refine st_store (x := x) (y := y) (n := n) (A := A) (c := c) hL rfl rfl (fun Y hY => ?_) | refine st_store (x := x) (y := y) (n := n) (A := A) (c := c) (Lib.hid (LG.dr hL.out)) rfl rfl (fun Y hY => ?_))
                  refine hK8.out _ _ ?_ (fun hHeld6 => ?_)
                  · (try dsimp only); exact AQ.cells (AQ.call Hq3.out hY.2.1)
                  clear hK8 K8 hHeld5
                  try simp only [Act.put]
                  refine wpAnyH_done (by kernel_rfl) ?_ _
                  exact HQ.out _ _ _ _ _ _ _ _ _ _ _ hY
          · as_aux_lemma =>
              (first | refine st_pop hL (fun g X hL => ?_) | refine st_pop (Lib.hid (LG.dr hL.out)) (fun g X hL => ?_))
              refine hK7.out _ _ ?_ (fun hHeld3 => ?_)
              · (try dsimp only); (first | exact AQ.cells (AQ.call Hq3.out hL.out.1) | exact AQ.cells (AQ.call Hq3.out (LG.dr hL.out).1))
              clear hK7 K7 hHeld2
              try simp only [Act.put, List.setIfInBounds_toArray, List.set_cons_zero, List.set_cons_succ]
              refine wpAnyH_ready (rs := [3]) (by kernel_rfl) (by simp) ?_
              refine AllReadyH.cons (o := { dst := some 34, op := Go.Op.call { callee := Go.Callee.value (Go.Operand.func 43), args := #[Go.Operand.tmp 33], argTypes := #[32] }, type := 66, pos := "l15_stack.go:68", after := #[{ on := 2, ground := Go.Ground.data }], guard := none }) rfl (fun K3 hK3 => ?_) AllReadyH.nil
              go_simp
              (first | (refine (HSet.out _ _ (hL.out.2.1 _ rfl).2 (hL.out.2.1 _ rfl).1).mono ?_; rintro e v1 ⟨rfl, hs, hb⟩; have q := LG.set hL.out hs hb) | (have hL' := LG.dr hL.out; refine (HSet.out _ _ (hL'.2.1 _ rfl).2 (hL'.2.1 _ rfl).1).mono ?_; rintro e v1 ⟨rfl, hs, hb⟩; have q := LG.set hL' hs hb; clear hL'; (try simp only [World.size_drew] at q))); replace hL := Lib.hid q; clear q hs hb
              go_wp2_with fail
              refine hK3.out _ _ ?_ (fun hHeld4 => ?_)
              · (try dsimp only); (first | exact AQ.cells (AQ.call Hq3.out hL.out.1) | exact AQ.cells (AQ.call Hq3.out (LG.dr hL.out).1))
              clear hK3 K3 hHeld3
              try simp only [Act.put, List.setIfInBounds_toArray, List.set_cons_zero, List.set_cons_succ]
              refine wpAnyH_ready (rs := [6]) (by kernel_rfl) (by simp) ?_
              refine AllReadyH.cons (o := { dst := some 37, op := Go.Op.build 81 #[(0, Go.Operand.tmp 32), (1, Go.Operand.tmp 34), (2, Go.Operand.tmp 35), (3, Go.Operand.tmp 36)], type := 81, pos := "l15_stack.go:68", after := #[{ on := 1, ground := Go.Ground.data }, { on := 3, ground := Go.Ground.data }, { on := 4, ground := Go.Ground.data }, { on := 5, ground := Go.Ground.data }], guard := none }) rfl (fun K6 hK6 => ?_) AllReadyH.nil
              refine step_build rfl _ _ _ _ _ _ _ _ _ rfl _ _ _ _ rfl rfl rfl rfl _ (build_pop x y 0 _ _ A n c _) ?_
              refine hK6.out _ _ ?_ (fun hHeld5 => ?_)
              · (try dsimp only); (first | exact AQ.cells (AQ.call Hq3.out hL.out.1) | exact AQ.cells (AQ.call Hq3.out (LG.dr hL.out).1))
              clear hK6 K6 hHeld4
              try simp only [Act.put, List.setIfInBounds_toArray, List.set_cons_zero, List.set_cons_succ]
              refine wpAnyH_ready (rs := [8]) (by kernel_rfl) (by simp) ?_
              refine AllReadyH.cons (o := { dst := none, op := Go.Op.store 81 (Go.Operand.tmp 8) (Go.Operand.tmp 37), type := 0, pos := "l15_stack.go:68", after := #[{ on := 7, ground := Go.Ground.data }, { on := 6, ground := Go.Ground.data }, { on := 3, ground := Go.Ground.chain }, { on := 0, ground := Go.Ground.phase }, { on := 1, ground := Go.Ground.phase }, { on := 2, ground := Go.Ground.phase }, { on := 3, ground := Go.Ground.phase }, { on := 4, ground := Go.Ground.phase }, { on := 5, ground := Go.Ground.phase }, { on := 6, ground := Go.Ground.phase }, { on := 7, ground := Go.Ground.phase }], guard := none }) rfl (fun K8 hK8 => ?_) AllReadyH.nil
              (first | refine st_store (x := x) (y := y) (n := n) (A := A) (c := c) hL rfl rfl (fun Y hY => ?_) | refine st_store (x := x) (y := y) (n := n) (A := A) (c := c) (Lib.hid (LG.dr hL.out)) rfl rfl (fun Y hY => ?_))
              refine hK8.out _ _ ?_ (fun hHeld6 => ?_)
              · (try dsimp only); exact AQ.cells (AQ.call Hq3.out hY.2.1)
              clear hK8 K8 hHeld5
              try simp only [Act.put]
              refine wpAnyH_done (by kernel_rfl) ?_ _
              exact HQ.out _ _ _ _ _ _ _ _ _ _ _ hY
      · as_aux_lemma =>
          (first | refine st_pop hL (fun g X hL => ?_) | refine st_pop (Lib.hid (LG.dr hL.out)) (fun g X hL => ?_))
          refine hK7.out _ _ ?_ (fun hHeld2 => ?_)
          · (try dsimp only); (first | exact AQ.cells (AQ.call Hq3.out hL.out.1) | exact AQ.cells (AQ.call Hq3.out (LG.dr hL.out).1))
          clear hK7 K7 hHeld1
          try simp only [Act.put, List.setIfInBounds_toArray, List.set_cons_zero, List.set_cons_succ]
          refine wpAnyH_ready (rs := [2]) (by kernel_rfl) (by simp) ?_
          refine AllReadyH.cons (o := { dst := some 33, op := Go.Op.buildSlice 32 1 #[(0, Go.Operand.const (Go.Value.int Go.IntKind.i64 0))], type := 32, pos := "l15_stack.go:68", after := #[], guard := none }) rfl (fun K2 hK2 => ?_) AllReadyH.nil
          (first | refine st_slice hL (fun g X hL => ?_) | refine st_slice (Lib.hid (LG.dr hL.out)) (fun g X hL => ?_))
          refine hK2.out _ _ ?_ (fun hHeld3 => ?_)
          · (try dsimp only); (first | exact AQ.cells (AQ.call Hq3.out hL.out.1) | exact AQ.cells (AQ.call Hq3.out (LG.dr hL.out).1))
          clear hK2 K2 hHeld2
          try simp only [Act.put, List.setIfInBounds_toArray, List.set_cons_zero, List.set_cons_succ]
          refine wpAnyH_ready (rs := [3]) (by kernel_rfl) (by simp) ?_
          refine AllReadyH.cons (o := { dst := some 34, op := Go.Op.call { callee := Go.Callee.value (Go.Operand.func 43), args := #[Go.Operand.tmp 33], argTypes := #[32] }, type := 66, pos := "l15_stack.go:68", after := #[{ on := 2, ground := Go.Ground.data }], guard := none }) rfl (fun K3 hK3 => ?_) AllReadyH.nil
          go_simp
          (first | (refine (HSet.out _ _ (hL.out.2.1 _ rfl).2 (hL.out.2.1 _ rfl).1).mono ?_; rintro e v1 ⟨rfl, hs, hb⟩; have q := LG.set hL.out hs hb) | (have hL' := LG.dr hL.out; refine (HSet.out _ _ (hL'.2.1 _ rfl).2 (hL'.2.1 _ rfl).1).mono ?_; rintro e v1 ⟨rfl, hs, hb⟩; have q := LG.set hL' hs hb; clear hL'; (try simp only [World.size_drew] at q))); replace hL := Lib.hid q; clear q hs hb
          go_wp2_with fail
          refine hK3.out _ _ ?_ (fun hHeld4 => ?_)
          · (try dsimp only); (first | exact AQ.cells (AQ.call Hq3.out hL.out.1) | exact AQ.cells (AQ.call Hq3.out (LG.dr hL.out).1))
          clear hK3 K3 hHeld3
          try simp only [Act.put, List.setIfInBounds_toArray, List.set_cons_zero, List.set_cons_succ]
          refine wpAnyH_ready (rs := [6]) (by kernel_rfl) (by simp) ?_
          refine AllReadyH.cons (o := { dst := some 37, op := Go.Op.build 81 #[(0, Go.Operand.tmp 32), (1, Go.Operand.tmp 34), (2, Go.Operand.tmp 35), (3, Go.Operand.tmp 36)], type := 81, pos := "l15_stack.go:68", after := #[{ on := 1, ground := Go.Ground.data }, { on := 3, ground := Go.Ground.data }, { on := 4, ground := Go.Ground.data }, { on := 5, ground := Go.Ground.data }], guard := none }) rfl (fun K6 hK6 => ?_) AllReadyH.nil
          refine step_build rfl _ _ _ _ _ _ _ _ _ rfl _ _ _ _ rfl rfl rfl rfl _ (build_pop x y 0 _ _ A n c _) ?_
          refine hK6.out _ _ ?_ (fun hHeld5 => ?_)
          · (try dsimp only); (first | exact AQ.cells (AQ.call Hq3.out hL.out.1) | exact AQ.cells (AQ.call Hq3.out (LG.dr hL.out).1))
          clear hK6 K6 hHeld4
          try simp only [Act.put, List.setIfInBounds_toArray, List.set_cons_zero, List.set_cons_succ]
          refine wpAnyH_ready (rs := [8]) (by kernel_rfl) (by simp) ?_
          refine AllReadyH.cons (o := { dst := none, op := Go.Op.store 81 (Go.Operand.tmp 8) (Go.Operand.tmp 37), type := 0, pos := "l15_stack.go:68", after := #[{ on := 7, ground := Go.Ground.data }, { on := 6, ground := Go.Ground.data }, { on := 3, ground := Go.Ground.chain }, { on := 0, ground := Go.Ground.phase }, { on := 1, ground := Go.Ground.phase }, { on := 2, ground := Go.Ground.phase }, { on := 3, ground := Go.Ground.phase }, { on := 4, ground := Go.Ground.phase }, { on := 5, ground := Go.Ground.phase }, { on := 6, ground := Go.Ground.phase }, { on := 7, ground := Go.Ground.phase }], guard := none }) rfl (fun K8 hK8 => ?_) AllReadyH.nil
          (first | refine st_store (x := x) (y := y) (n := n) (A := A) (c := c) hL rfl rfl (fun Y hY => ?_) | refine st_store (x := x) (y := y) (n := n) (A := A) (c := c) (Lib.hid (LG.dr hL.out)) rfl rfl (fun Y hY => ?_))
          refine hK8.out _ _ ?_ (fun hHeld6 => ?_)
          · (try dsimp only); exact AQ.cells (AQ.call Hq3.out hY.2.1)
          clear hK8 K8 hHeld5
          try simp only [Act.put]
          refine wpAnyH_done (by kernel_rfl) ?_ _
          exact HQ.out _ _ _ _ _ _ _ _ _ _ _ hY
  · as_aux_lemma =>
      (first | refine st_pop hL (fun g X hL => ?_) | refine st_pop (Lib.hid (LG.dr hL.out)) (fun g X hL => ?_))
      refine hK7.out _ _ ?_ (fun hHeld1 => ?_)
      · (try dsimp only); (first | exact AQ.cells (AQ.call Hq3.out hL.out.1) | exact AQ.cells (AQ.call Hq3.out (LG.dr hL.out).1))
      clear hK7 K7 hHeld0
      try simp only [Act.put, List.setIfInBounds_toArray, List.set_cons_zero, List.set_cons_succ]
      refine wpAnyH_ready (rs := [2, 5]) (by kernel_rfl) (by simp) ?_
      refine (AllReadyH.cons (o := { dst := some 33, op := Go.Op.buildSlice 32 1 #[(0, Go.Operand.const (Go.Value.int Go.IntKind.i64 0))], type := 32, pos := "l15_stack.go:68", after := #[], guard := none }) rfl (fun K2 hK2 => ?_) (AllReadyH.cons (o := { dst := some 36, op := Go.Op.makeMap 79 none, type := 79, pos := "l15_stack.go:68", after := #[], guard := none }) rfl (fun K5 hK5 => ?_) AllReadyH.nil))
      · as_aux_lemma =>
          (first | refine st_slice hL (fun g X hL => ?_) | refine st_slice (Lib.hid (LG.dr hL.out)) (fun g X hL => ?_))
          refine hK2.out _ _ ?_ (fun hHeld2 => ?_)
          · (try dsimp only); (first | exact AQ.cells (AQ.call Hq3.out hL.out.1) | exact AQ.cells (AQ.call Hq3.out (LG.dr hL.out).1))
          clear hK2 K2 hHeld1
          try simp only [Act.put, List.setIfInBounds_toArray, List.set_cons_zero, List.set_cons_succ]
          refine wpAnyH_ready (rs := [3, 5]) (by kernel_rfl) (by simp) ?_
          refine (AllReadyH.cons (o := { dst := some 34, op := Go.Op.call { callee := Go.Callee.value (Go.Operand.func 43), args := #[Go.Operand.tmp 33], argTypes := #[32] }, type := 66, pos := "l15_stack.go:68", after := #[{ on := 2, ground := Go.Ground.data }], guard := none }) rfl (fun K3 hK3 => ?_) (AllReadyH.cons (o := { dst := some 36, op := Go.Op.makeMap 79 none, type := 79, pos := "l15_stack.go:68", after := #[], guard := none }) rfl (fun K5 hK5 => ?_) AllReadyH.nil))
          · as_aux_lemma =>
              go_simp
              (first | (refine (HSet.out _ _ (hL.out.2.1 _ rfl).2 (hL.out.2.1 _ rfl).1).mono ?_; rintro e v1 ⟨rfl, hs, hb⟩; have q := LG.set hL.out hs hb) | (have hL' := LG.dr hL.out; refine (HSet.out _ _ (hL'.2.1 _ rfl).2 (hL'.2.1 _ rfl).1).mono ?_; rintro e v1 ⟨rfl, hs, hb⟩; have q := LG.set hL' hs hb; clear hL'; (try simp only [World.size_drew] at q))); replace hL := Lib.hid q; clear q hs hb
              go_wp2_with fail
              refine hK3.out _ _ ?_ (fun hHeld3 => ?_)
              · (try dsimp only); (first | exact AQ.cells (AQ.call Hq3.out hL.out.1) | exact AQ.cells (AQ.call Hq3.out (LG.dr hL.out).1))
              clear hK3 K3 hHeld2
              try simp only [Act.put, List.setIfInBounds_toArray, List.set_cons_zero, List.set_cons_succ]
              refine wpAnyH_ready (rs := [5]) (by kernel_rfl) (by simp) ?_
              refine AllReadyH.cons (o := { dst := some 36, op := Go.Op.makeMap 79 none, type := 79, pos := "l15_stack.go:68", after := #[], guard := none }) rfl (fun K5 hK5 => ?_) AllReadyH.nil
              (first | refine st_map hL (fun g X hL => ?_) | refine st_map (Lib.hid (LG.dr hL.out)) (fun g X hL => ?_))
              refine hK5.out _ _ ?_ (fun hHeld4 => ?_)
              · (try dsimp only); (first | exact AQ.cells (AQ.call Hq3.out hL.out.1) | exact AQ.cells (AQ.call Hq3.out (LG.dr hL.out).1))
              clear hK5 K5 hHeld3
              try simp only [Act.put, List.setIfInBounds_toArray, List.set_cons_zero, List.set_cons_succ]
              refine wpAnyH_ready (rs := [6]) (by kernel_rfl) (by simp) ?_
              refine AllReadyH.cons (o := { dst := some 37, op := Go.Op.build 81 #[(0, Go.Operand.tmp 32), (1, Go.Operand.tmp 34), (2, Go.Operand.tmp 35), (3, Go.Operand.tmp 36)], type := 81, pos := "l15_stack.go:68", after := #[{ on := 1, ground := Go.Ground.data }, { on := 3, ground := Go.Ground.data }, { on := 4, ground := Go.Ground.data }, { on := 5, ground := Go.Ground.data }], guard := none }) rfl (fun K6 hK6 => ?_) AllReadyH.nil
              refine step_build rfl _ _ _ _ _ _ _ _ _ rfl _ _ _ _ rfl rfl rfl rfl _ (build_pop x y 0 _ _ A n c _) ?_
              refine hK6.out _ _ ?_ (fun hHeld5 => ?_)
              · (try dsimp only); (first | exact AQ.cells (AQ.call Hq3.out hL.out.1) | exact AQ.cells (AQ.call Hq3.out (LG.dr hL.out).1))
              clear hK6 K6 hHeld4
              try simp only [Act.put, List.setIfInBounds_toArray, List.set_cons_zero, List.set_cons_succ]
              refine wpAnyH_ready (rs := [8]) (by kernel_rfl) (by simp) ?_
              refine AllReadyH.cons (o := { dst := none, op := Go.Op.store 81 (Go.Operand.tmp 8) (Go.Operand.tmp 37), type := 0, pos := "l15_stack.go:68", after := #[{ on := 7, ground := Go.Ground.data }, { on := 6, ground := Go.Ground.data }, { on := 3, ground := Go.Ground.chain }, { on := 0, ground := Go.Ground.phase }, { on := 1, ground := Go.Ground.phase }, { on := 2, ground := Go.Ground.phase }, { on := 3, ground := Go.Ground.phase }, { on := 4, ground := Go.Ground.phase }, { on := 5, ground := Go.Ground.phase }, { on := 6, ground := Go.Ground.phase }, { on := 7, ground := Go.Ground.phase }], guard := none }) rfl (fun K8 hK8 => ?_) AllReadyH.nil
              (first | refine st_store (x := x) (y := y) (n := n) (A := A) (c := c) hL rfl rfl (fun Y hY => ?_) | refine st_store (x := x) (y := y) (n := n) (A := A) (c := c) (Lib.hid (LG.dr hL.out)) rfl rfl (fun Y hY => ?_))
              refine hK8.out _ _ ?_ (fun hHeld6 => ?_)
              · (try dsimp only); exact AQ.cells (AQ.call Hq3.out hY.2.1)
              clear hK8 K8 hHeld5
              try simp only [Act.put]
              refine wpAnyH_done (by kernel_rfl) ?_ _
              exact HQ.out _ _ _ _ _ _ _ _ _ _ _ hY
          · as_aux_lemma =>
              (first | refine st_map hL (fun g X hL => ?_) | refine st_map (Lib.hid (LG.dr hL.out)) (fun g X hL => ?_))
              refine hK5.out _ _ ?_ (fun hHeld3 => ?_)
              · (try dsimp only); (first | exact AQ.cells (AQ.call Hq3.out hL.out.1) | exact AQ.cells (AQ.call Hq3.out (LG.dr hL.out).1))
              clear hK5 K5 hHeld2
              try simp only [Act.put, List.setIfInBounds_toArray, List.set_cons_zero, List.set_cons_succ]
              refine wpAnyH_ready (rs := [3]) (by kernel_rfl) (by simp) ?_
              refine AllReadyH.cons (o := { dst := some 34, op := Go.Op.call { callee := Go.Callee.value (Go.Operand.func 43), args := #[Go.Operand.tmp 33], argTypes := #[32] }, type := 66, pos := "l15_stack.go:68", after := #[{ on := 2, ground := Go.Ground.data }], guard := none }) rfl (fun K3 hK3 => ?_) AllReadyH.nil
              go_simp
              (first | (refine (HSet.out _ _ (hL.out.2.1 _ rfl).2 (hL.out.2.1 _ rfl).1).mono ?_; rintro e v1 ⟨rfl, hs, hb⟩; have q := LG.set hL.out hs hb) | (have hL' := LG.dr hL.out; refine (HSet.out _ _ (hL'.2.1 _ rfl).2 (hL'.2.1 _ rfl).1).mono ?_; rintro e v1 ⟨rfl, hs, hb⟩; have q := LG.set hL' hs hb; clear hL'; (try simp only [World.size_drew] at q))); replace hL := Lib.hid q; clear q hs hb
              go_wp2_with fail
              refine hK3.out _ _ ?_ (fun hHeld4 => ?_)
              · (try dsimp only); (first | exact AQ.cells (AQ.call Hq3.out hL.out.1) | exact AQ.cells (AQ.call Hq3.out (LG.dr hL.out).1))
              clear hK3 K3 hHeld3
              try simp only [Act.put, List.setIfInBounds_toArray, List.set_cons_zero, List.set_cons_succ]
              refine wpAnyH_ready (rs := [6]) (by kernel_rfl) (by simp) ?_
              refine AllReadyH.cons (o := { dst := some 37, op := Go.Op.build 81 #[(0, Go.Operand.tmp 32), (1, Go.Operand.tmp 34), (2, Go.Operand.tmp 35), (3, Go.Operand.tmp 36)], type := 81, pos := "l15_stack.go:68", after := #[{ on := 1, ground := Go.Ground.data }, { on := 3, ground := Go.Ground.data }, { on := 4, ground := Go.Ground.data }, { on := 5, ground := Go.Ground.data }], guard := none }) rfl (fun K6 hK6 => ?_) AllReadyH.nil
              refine step_build rfl _ _ _ _ _ _ _ _ _ rfl _ _ _ _ rfl rfl rfl rfl _ (build_pop x y 0 _ _ A n c _) ?_
              refine hK6.out _ _ ?_ (fun hHeld5 => ?_)
              · (try dsimp only); (first | exact AQ.cells (AQ.call Hq3.out hL.out.1) | exact AQ.cells (AQ.call Hq3.out (LG.dr hL.out).1))
              clear hK6 K6 hHeld4
              try simp only [Act.put, List.setIfInBounds_toArray, List.set_cons_zero, List.set_cons_succ]
              refine wpAnyH_ready (rs := [8]) (by kernel_rfl) (by simp) ?_
              refine AllReadyH.cons (o := { dst := none, op := Go.Op.store 81 (Go.Operand.tmp 8) (Go.Operand.tmp 37), type := 0, pos := "l15_stack.go:68", after := #[{ on := 7, ground := Go.Ground.data }, { on := 6, ground := Go.Ground.data }, { on := 3, ground := Go.Ground.chain }, { on := 0, ground := Go.Ground.phase }, { on := 1, ground := Go.Ground.phase }, { on := 2, ground := Go.Ground.phase }, { on := 3, ground := Go.Ground.phase }, { on := 4, ground := Go.Ground.phase }, { on := 5, ground := Go.Ground.phase }, { on := 6, ground := Go.Ground.phase }, { on := 7, ground := Go.Ground.phase }], guard := none }) rfl (fun K8 hK8 => ?_) AllReadyH.nil
              (first | refine st_store (x := x) (y := y) (n := n) (A := A) (c := c) hL rfl rfl (fun Y hY => ?_) | refine st_store (x := x) (y := y) (n := n) (A := A) (c := c) (Lib.hid (LG.dr hL.out)) rfl rfl (fun Y hY => ?_))
              refine hK8.out _ _ ?_ (fun hHeld6 => ?_)
              · (try dsimp only); exact AQ.cells (AQ.call Hq3.out hY.2.1)
              clear hK8 K8 hHeld5
              try simp only [Act.put]
              refine wpAnyH_done (by kernel_rfl) ?_ _
              exact HQ.out _ _ _ _ _ _ _ _ _ _ _ hY
      · as_aux_lemma =>
          (first | refine st_map hL (fun g X hL => ?_) | refine st_map (Lib.hid (LG.dr hL.out)) (fun g X hL => ?_))
          refine hK5.out _ _ ?_ (fun hHeld2 => ?_)
          · (try dsimp only); (first | exact AQ.cells (AQ.call Hq3.out hL.out.1) | exact AQ.cells (AQ.call Hq3.out (LG.dr hL.out).1))
          clear hK5 K5 hHeld1
          try simp only [Act.put, List.setIfInBounds_toArray, List.set_cons_zero, List.set_cons_succ]
          refine wpAnyH_ready (rs := [2]) (by kernel_rfl) (by simp) ?_
          refine AllReadyH.cons (o := { dst := some 33, op := Go.Op.buildSlice 32 1 #[(0, Go.Operand.const (Go.Value.int Go.IntKind.i64 0))], type := 32, pos := "l15_stack.go:68", after := #[], guard := none }) rfl (fun K2 hK2 => ?_) AllReadyH.nil
          (first | refine st_slice hL (fun g X hL => ?_) | refine st_slice (Lib.hid (LG.dr hL.out)) (fun g X hL => ?_))
          refine hK2.out _ _ ?_ (fun hHeld3 => ?_)
          · (try dsimp only); (first | exact AQ.cells (AQ.call Hq3.out hL.out.1) | exact AQ.cells (AQ.call Hq3.out (LG.dr hL.out).1))
          clear hK2 K2 hHeld2
          try simp only [Act.put, List.setIfInBounds_toArray, List.set_cons_zero, List.set_cons_succ]
          refine wpAnyH_ready (rs := [3]) (by kernel_rfl) (by simp) ?_
          refine AllReadyH.cons (o := { dst := some 34, op := Go.Op.call { callee := Go.Callee.value (Go.Operand.func 43), args := #[Go.Operand.tmp 33], argTypes := #[32] }, type := 66, pos := "l15_stack.go:68", after := #[{ on := 2, ground := Go.Ground.data }], guard := none }) rfl (fun K3 hK3 => ?_) AllReadyH.nil
          go_simp
          (first | (refine (HSet.out _ _ (hL.out.2.1 _ rfl).2 (hL.out.2.1 _ rfl).1).mono ?_; rintro e v1 ⟨rfl, hs, hb⟩; have q := LG.set hL.out hs hb) | (have hL' := LG.dr hL.out; refine (HSet.out _ _ (hL'.2.1 _ rfl).2 (hL'.2.1 _ rfl).1).mono ?_; rintro e v1 ⟨rfl, hs, hb⟩; have q := LG.set hL' hs hb; clear hL'; (try simp only [World.size_drew] at q))); replace hL := Lib.hid q; clear q hs hb
          go_wp2_with fail
          refine hK3.out _ _ ?_ (fun hHeld4 => ?_)
          · (try dsimp only); (first | exact AQ.cells (AQ.call Hq3.out hL.out.1) | exact AQ.cells (AQ.call Hq3.out (LG.dr hL.out).1))
          clear hK3 K3 hHeld3
          try simp only [Act.put, List.setIfInBounds_toArray, List.set_cons_zero, List.set_cons_succ]
          refine wpAnyH_ready (rs := [6]) (by kernel_rfl) (by simp) ?_
          refine AllReadyH.cons (o := { dst := some 37, op := Go.Op.build 81 #[(0, Go.Operand.tmp 32), (1, Go.Operand.tmp 34), (2, Go.Operand.tmp 35), (3, Go.Operand.tmp 36)], type := 81, pos := "l15_stack.go:68", after := #[{ on := 1, ground := Go.Ground.data }, { on := 3, ground := Go.Ground.data }, { on := 4, ground := Go.Ground.data }, { on := 5, ground := Go.Ground.data }], guard := none }) rfl (fun K6 hK6 => ?_) AllReadyH.nil
          refine step_build rfl _ _ _ _ _ _ _ _ _ rfl _ _ _ _ rfl rfl rfl rfl _ (build_pop x y 0 _ _ A n c _) ?_
          refine hK6.out _ _ ?_ (fun hHeld5 => ?_)
          · (try dsimp only); (first | exact AQ.cells (AQ.call Hq3.out hL.out.1) | exact AQ.cells (AQ.call Hq3.out (LG.dr hL.out).1))
          clear hK6 K6 hHeld4
          try simp only [Act.put, List.setIfInBounds_toArray, List.set_cons_zero, List.set_cons_succ]
          refine wpAnyH_ready (rs := [8]) (by kernel_rfl) (by simp) ?_
          refine AllReadyH.cons (o := { dst := none, op := Go.Op.store 81 (Go.Operand.tmp 8) (Go.Operand.tmp 37), type := 0, pos := "l15_stack.go:68", after := #[{ on := 7, ground := Go.Ground.data }, { on := 6, ground := Go.Ground.data }, { on := 3, ground := Go.Ground.chain }, { on := 0, ground := Go.Ground.phase }, { on := 1, ground := Go.Ground.phase }, { on := 2, ground := Go.Ground.phase }, { on := 3, ground := Go.Ground.phase }, { on := 4, ground := Go.Ground.phase }, { on := 5, ground := Go.Ground.phase }, { on := 6, ground := Go.Ground.phase }, { on := 7, ground := Go.Ground.phase }], guard := none }) rfl (fun K8 hK8 => ?_) AllReadyH.nil
          (first | refine st_store (x := x) (y := y) (n := n) (A := A) (c := c) hL rfl rfl (fun Y hY => ?_) | refine st_store (x := x) (y := y) (n := n) (A := A) (c := c) (Lib.hid (LG.dr hL.out)) rfl rfl (fun Y hY => ?_))
          refine hK8.out _ _ ?_ (fun hHeld6 => ?_)
          · (try dsimp only); exact AQ.cells (AQ.call Hq3.out hY.2.1)
          clear hK8 K8 hHeld5
          try simp only [Act.put]
          refine wpAnyH_done (by kernel_rfl) ?_ _
          exact HQ.out _ _ _ _ _ _ _ _ _ _ _ hY
end Go.Proofs.Ytcoikcnijaniaaa.popI
