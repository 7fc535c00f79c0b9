/- The contract of the model's filling of dead ends. -/
import Derived.Test.YtcoikcnijaniaaaDeadM
namespace Go.Proofs.Ytcoikcnijaniaaa.deadN
open Go.ChangeShapes Go.WideShapes Go.ChangeAt Go.RowKit
open draw gridP gridC gridE bitP mazeP mazeC mazeM mazeR mazeS intsP reachP reachM reachN reachD intA listK forest deadP deadR deadM
set_option linter.unusedVariables false

theorem bq_mk {a b : Bool} {w : World} (h : b = a) : Ending.returned (.bool a) = Ending.returned (.bool b) ∧ w = w := ⟨by rw [h], rfl⟩

set_option maxRecDepth 100000 in
/-- Whether a number is in a list. -/
theorem in_any (A : Option Addr) (n c : Nat) (l : List Int) (u : Int) (W : World) (hn : l.length = n) (hm : n ≤ 1048576) (hi : IntsIn W W.heap.size A l) :
    Calls Try.prog 66 #[.slice A n c, .int .i64 u] W fun e w' => e = .returned (.bool (decide (u ∈ l))) ∧ W = w' := by
  have HY := Lib.hid hi
  have Hn := Lib.hid hn
  clear hi hn
  go_enter Try.func66, Try.ntmps66
  go_wp2_with fail
  go_loopw [5] (fun u5 wr => ∃ k : Nat, k ≤ n ∧ u5 = .int .i64 k ∧ (∀ j d, j < k → l[j]? = some d → d ≠ u) ∧ wr = W) (fun u5 _ => n - (intOf u5).toNat)
  case atStart => exact ⟨0, Nat.zero_le _, rfl, fun j d hj => absurd hj (by omega), rfl⟩
  case round =>
    obtain ⟨k, hk, rfl, hin, rfl⟩ := hrel
    have HIn := Lib.hid hin
    clear hin
    by_cases hkn : k < n
    · obtain ⟨v, hv, hmem⟩ : ∃ v, l[k]? = some v ∧ v ∈ l := by
        have hkl : k < l.length := by have := Hn.out; omega
        exact ⟨l[k], List.getElem?_eq_getElem hkl, List.getElem_mem hkl⟩
      obtain ⟨ad, rfl, hab, hcell⟩ := ints_cell HY.out hv
      have hk0 : (0 : Int) ≤ (k : Int) := Int.natCast_nonneg _
      have hk1 : (k : Int) < (n : Int) := by omega
      by_cases hd : v = u
      · have hc : (v == u) = true := by simpa using hd
        have HE : Hid (decide (u ∈ l) = true) := Lib.hid (decide_eq_true (by rw [← hd]; exact hmem))
        clear hd hv hmem
        go_wp2_with fail
        go_ret
        exact bq_mk HE.out
      · have hc : (v == u) = false := by simpa using hd
        have HN : Hid (∀ j d, j < k + 1 → l[j]? = some d → d ≠ u) := fun j d hj hl => by
          rcases Nat.lt_or_ge j k with h | h
          · exact HIn.out j d h hl
          · obtain rfl : j = k := by omega
            rw [hv] at hl; cases hl; exact hd
        clear hd hv hmem
        go_wp2_with fail
        go_roundw
        case rel => exact ⟨k + 1, by omega, by go_num, HN.out, by trivial⟩
        case measure => simp [intOf]; omega
    · obtain rfl : k = n := by omega
      have HE : Hid (decide (u ∈ l) = false) := Lib.hid (decide_eq_false fun h => by
        obtain ⟨j, hj⟩ := List.getElem?_of_mem h
        have := (List.getElem?_eq_some_iff.1 hj).1
        exact HIn.out j u (by have := Hn.out; omega) hj rfl)
      go_wp2_with fail
      go_ret
      exact bq_mk HE.out

/-- What stands while dead ends are filled: the maze, the answer's block, what is kept. -/
def FW (W : World) (x y z : Int) (A : Option Addr) (K : List Int) (X : World) : Prop :=
  Below W.heap.size W X ∧ Row3 W.heap.size x y z X ∧ Row3 (W.heap.size + 1) 0 0 0 X ∧ IntsIn X W.heap.size A K
theorem FW.call {W X X' : World} {x y z : Int} {A : Option Addr} {K : List Int} (h : FW W x y z A K X) (hb : Below X.heap.size X X') : FW W x y z A K X' :=
  ⟨below_call h.1 hb, h.2.1.call hb, h.2.2.1.call hb, h.2.2.2.below (hb.mono h.1.size)⟩
theorem FW.dr {W X : World} {x y z : Int} {A : Option Addr} {K : List Int} (h : FW W x y z A K X) : FW W x y z A K X.drew := h.call ⟨rfl, rfl, rfl, Nat.le_refl _, fun _ _ => rfl⟩
theorem fw_new {W : World} {x y z : Int} {A : Option Addr} {K : List Int} (hi : IntsIn W W.heap.size A K) (T1 T2 : TypeId) :
    FW W x y z A K ((W.alloc (.cells #[.int .i64 x, .int .i64 y, .int .i64 z] T1)).alloc (.cells #[.int .i64 0, .int .i64 0, .int .i64 0] T2)) := by
  have hb : Below W.heap.size W ((W.alloc (.cells #[.int .i64 x, .int .i64 y, .int .i64 z] T1)).alloc (.cells #[.int .i64 0, .int .i64 0, .int .i64 0] T2)) := ((Below.refl _ _).alloc (Nat.le_refl _) _).alloc (by simp) _
  refine ⟨hb, (row3_new x y z W T1).call (below_box _ _), ?_, hi.below hb⟩
  have := row3_new 0 0 0 (W.alloc (.cells #[.int .i64 x, .int .i64 y, .int .i64 z] T1)) T2
  simpa using this
theorem row3_set {b : Nat} {x y z x' y' z' : Int} {X : World} (h : Row3 b x y z X) : Row3 b x' y' z' (((X.setCell ⟨b, 0, none⟩ (.int .i64 x')).setCell ⟨b, 1, none⟩ (.int .i64 y')).setCell ⟨b, 2, none⟩ (.int .i64 z')) := by
  obtain ⟨T, h⟩ := h
  exact ⟨T, by simp [World.setCell, Array.getElem?_modify, h]⟩
theorem row3_far {b : Nat} {x y z : Int} {X : World} (h : Row3 b x y z X) {p : Addr} (hp : p.block ≠ b) (u : Value) : Row3 b x y z (X.setCell p u) := by
  obtain ⟨T, h⟩ := h
  exact ⟨T, (Below.heap_setCell X p u b (fun e => hp e.symm)).trans h⟩
theorem FW.put {W X : World} {x y z : Int} {A : Option Addr} {K : List Int} (h : FW W x y z A K X) (z' : Int) :
    FW W x y z' A K (((X.setCell ⟨W.heap.size, 0, none⟩ (.int .i64 x)).setCell ⟨W.heap.size, 1, none⟩ (.int .i64 y)).setCell ⟨W.heap.size, 2, none⟩ (.int .i64 z')) := by
  obtain ⟨h1, h2, h3, h4⟩ := h
  have hb : Below W.heap.size X (((X.setCell ⟨W.heap.size, 0, none⟩ (.int .i64 x)).setCell ⟨W.heap.size, 1, none⟩ (.int .i64 y)).setCell ⟨W.heap.size, 2, none⟩ (.int .i64 z')) :=
    (((Below.refl _ _).setCell (by simp) _).setCell (by simp) _).setCell (by simp) _
  exact ⟨h1.trans hb, row3_set h2, row3_far (row3_far (row3_far h3 (by simp) _) (by simp) _) (by simp) _, h4.below hb⟩
/-- The answer is the maze at hand. -/
theorem fw_end {W X Y : World} {x y z z' : Int} {A : Option Addr} {K : List Int} (h : FW W x y z A K X) (e : z = z')
    (hY : Y = ((X.setCell ⟨W.heap.size + 1, 0, none⟩ (.int .i64 x)).setCell ⟨W.heap.size + 1, 1, none⟩ (.int .i64 y)).setCell ⟨W.heap.size + 1, 2, none⟩ (.int .i64 z)) : Mz x y z' W (.returned (.agg #[.int .i64 x, .int .i64 y, .int .i64 z])) Y := by
  subst hY; subst e
  exact ⟨rfl, ((h.1.setCell (by simp) _).setCell (by simp) _).setCell (by simp) _⟩
/-- How many passages the maze at hand has. -/
def msr (W : World) (G : Nat) (X : World) : Nat := pcN (intOf ((X.cell? ⟨W.heap.size, 2, none⟩).getD (.int .i64 0))).toNat G
theorem msr_is {W X : World} {x y z : Int} {A : Option Addr} {K : List Int} {G : Nat} (h : FW W x y z A K X) : msr W G X = pcN z.toNat G := by
  obtain ⟨⟨-, -, c2⟩, -⟩ := row3_cells h.2.1
  unfold msr; rw [c2]; rfl

abbrev fillR : Code := Go.Code.region 15 #[{ dst := some 47, op := Go.Op.load 27 (Go.Operand.tmp 2), type := 27, pos := "l07_dead.go:73", after := #[], guard := none }, { dst := some 48, op := Go.Op.fieldAddr 27 (Go.Operand.tmp 2) 0, type := 0, pos := "l07_dead.go:73", after := #[], guard := none }, { dst := some 49, op := Go.Op.load 25 (Go.Operand.tmp 48), type := 25, pos := "l07_dead.go:73", after := #[{ on := 1, ground := Go.Ground.data }], guard := none }, { dst := some 50, op := Go.Op.move (Go.Operand.tmp 7), type := 3, pos := "l07_dead.go:73", after := #[], guard := none }, { dst := some 51, op := Go.Op.load 27 (Go.Operand.tmp 2), type := 27, pos := "l07_dead.go:73", after := #[], guard := none }, { dst := some 52, op := Go.Op.move (Go.Operand.tmp 7), type := 3, pos := "l07_dead.go:73", after := #[], guard := none }, { dst := some 53, op := Go.Op.call { callee := Go.Callee.value (Go.Operand.func 69), args := #[Go.Operand.tmp 51, Go.Operand.tmp 52], argTypes := #[27, 3] }, type := 32, pos := "l07_dead.go:73", after := #[{ on := 4, ground := Go.Ground.data }, { on := 5, ground := Go.Ground.data }], guard := none }, { dst := some 54, op := Go.Op.indexAddr 32 (Go.Operand.tmp 53) (Go.Operand.const (Go.Value.int Go.IntKind.i64 0)), type := 0, pos := "l07_dead.go:73", after := #[{ on := 6, ground := Go.Ground.data }], guard := none }, { dst := some 55, op := Go.Op.load 3 (Go.Operand.tmp 54), type := 3, pos := "l07_dead.go:73", after := #[{ on := 7, ground := Go.Ground.data }], guard := none }, { dst := some 56, op := Go.Op.call { callee := Go.Callee.value (Go.Operand.func 68), args := #[Go.Operand.tmp 49, Go.Operand.tmp 50, Go.Operand.tmp 55], argTypes := #[25, 3, 3] }, type := 3, pos := "l07_dead.go:73", after := #[{ on := 2, ground := Go.Ground.data }, { on := 3, ground := Go.Ground.data }, { on := 8, ground := Go.Ground.data }, { on := 6, ground := Go.Ground.chain }], guard := none }, { dst := some 57, op := Go.Op.call { callee := Go.Callee.value (Go.Operand.func 67), args := #[Go.Operand.tmp 47, Go.Operand.tmp 56, Go.Operand.const (Go.Value.bool false)], argTypes := #[27, 3, 4] }, type := 40, pos := "l07_dead.go:73", after := #[{ on := 0, ground := Go.Ground.data }, { on := 9, ground := Go.Ground.data }, { on := 9, ground := Go.Ground.chain }], guard := none }, { dst := some 46, op := Go.Op.move (Go.Operand.tmp 57), type := 40, pos := "l07_dead.go:73", after := #[{ on := 10, ground := Go.Ground.data }], guard := none }, { dst := some 58, op := Go.Op.extract (Go.Operand.tmp 46) 0, type := 27, pos := "l07_dead.go:73", after := #[{ on := 11, ground := Go.Ground.data }], guard := none }, { dst := some 59, op := Go.Op.extract (Go.Operand.tmp 46) 1, type := 4, pos := "l07_dead.go:73", after := #[{ on := 11, ground := Go.Ground.data }, { on := 14, ground := Go.Ground.gcOnly Go.Departure.lateStores }], guard := none }, { dst := none, op := Go.Op.store 27 (Go.Operand.tmp 2) (Go.Operand.tmp 58), type := 0, pos := "l07_dead.go:73", after := #[{ on := 12, ground := Go.Ground.data }, { on := 10, ground := Go.Ground.chain }, { on := 0, ground := Go.Ground.phase }, { on := 1, ground := Go.Ground.phase }, { on := 2, ground := Go.Ground.phase }, { on := 3, ground := Go.Ground.phase }, { on := 4, ground := Go.Ground.phase }, { on := 5, ground := Go.Ground.phase }, { on := 6, ground := Go.Ground.phase }, { on := 7, ground := Go.Ground.phase }, { on := 8, ground := Go.Ground.phase }, { on := 9, ground := Go.Ground.phase }, { on := 10, ground := Go.Ground.phase }, { on := 11, ground := Go.Ground.phase }, { on := 12, ground := Go.Ground.phase }, { on := 13, ground := Go.Ground.textOnly Go.Departure.lateStores }], guard := none }] true
set_option maxRecDepth 100000 in
set_option maxHeartbeats 4000000 in
/-- A dead end is filled. -/
theorem fill_round (W w : World) (x y : Int) (o o2 c q : Nat) (g : Int) (sb : Bool) (A : Option Addr) (K : List Int) (Q : Exit → Act → World → Prop) (u0 u1 u3 u4 u5 u6 u8 u9 u10 u11 u12 u13 u14 u15 u16 u17 u18 u19 u20 u21 u22 u23 u24 u25 u26 u27 u28 u29 u30 u31 u32 u33 u34 u35 u36 u37 u38 u39 u40 u41 u42 u43 u44 u45 u46 u47 u48 u49 u50 u51 u52 u53 u54 u55 u56 u57 u58 u59 : Value) (hfw : FW W x y o A K w)
    (HW1 : Hid (∀ X, Calls Try.prog 69 #[.agg #[.int .i64 x, .int .i64 y, .int .i64 o], .int .i64 c] X (Ints [(q : Int)] X)))
    (HG1 : Hid (∀ X, Calls Try.prog 68 #[.agg #[.int .i64 x, .int .i64 y], .int .i64 c, .int .i64 q] X (Nm g X)))
    (HS1 : Hid (∀ X, Calls Try.prog 67 #[.agg #[.int .i64 x, .int .i64 y, .int .i64 o], .int .i64 g, .bool false] X (MzB x y o2 sb X)))
    (HP : ∀ (d : Option Tmp) (v : Value) c a w, Q (.panic c) (a.put d v) w → Q (.panic c) a w)
    (HQ : Hid (∀ v46 v47 v48 v49 v50 v51 v52 v53 v54 v55 v56 v57 v58 v59 X, FW W x y o2 A K X → Q .normal { tmps := #[u0, u1, (.pointer (some ⟨W.heap.size, 0, none⟩)), u3, u4, u5, u6, (.int .i64 (c : Int)), u8, u9, u10, u11, u12, u13, u14, u15, u16, u17, u18, u19, u20, u21, u22, u23, u24, u25, u26, u27, u28, u29, u30, u31, u32, u33, u34, u35, u36, u37, u38, u39, u40, u41, u42, u43, u44, u45, v46, v47, v48, v49, v50, v51, v52, v53, v54, v55, v56, v57, v58, v59], defers := [] } X)) :
    Code.wp Try.prog fillR Q { tmps := #[u0, u1, (.pointer (some ⟨W.heap.size, 0, none⟩)), u3, u4, u5, u6, (.int .i64 (c : Int)), u8, u9, u10, u11, u12, u13, u14, u15, u16, u17, u18, u19, u20, u21, u22, u23, u24, u25, u26, u27, u28, u29, u30, u31, u32, u33, u34, u35, u36, u37, u38, u39, u40, u41, u42, u43, u44, u45, u46, u47, u48, u49, u50, u51, u52, u53, u54, u55, u56, u57, u58, u59], defers := [] } w := by
  have hfw' := Lib.hid hfw
  obtain ⟨⟨m0, m1, m2⟩, f0, f1, f2⟩ := row3_cells hfw.2.1
  clear hfw
  dsimp only [fillR]
  try simp only [List.cons_append, List.nil_append, List.append_eq]
  refine wp_region_held_drew (S := (fun w' => w'.cell? ⟨W.heap.size, 0, none⟩ = some (.int .i64 x) ∧ w'.cell? ⟨W.heap.size, 1, none⟩ = some (.int .i64 y))) (by kernel_rfl) ?_ (fun hHeld0 => ?_)
  · (try dsimp only); (first | go_keep | exact ⟨(row3_cells (hw4.out.put (o2 : Int)).2.1).1.1, (row3_cells (hw4.out.put (o2 : Int)).2.1).1.2.1⟩)
  refine wpAnyH_take (i := 1) (oi := { dst := some 48, op := Go.Op.fieldAddr 27 (Go.Operand.tmp 2) 0, type := 0, pos := "l07_dead.go:73", after := #[], guard := none }) (v := ?_) rfl (by kernel_rfl) (by kernel_rfl) (by kernel_rfl) (HP _ _) (Or.inl ⟨by rfl, ?_⟩) (by assumption) ?_
  rotate_left
  · (intro w hSw; (try dsimp only at hSw); go_simp; try with_reducible rfl)
  try simp only [Act.put, List.setIfInBounds_toArray, List.set_cons_zero, List.set_cons_succ]
  refine wpAnyH_take (i := 2) (oi := { dst := some 49, op := Go.Op.load 25 (Go.Operand.tmp 48), type := 25, pos := "l07_dead.go:73", after := #[{ on := 1, ground := Go.Ground.data }], guard := none }) (v := ?_) rfl (by kernel_rfl) (by kernel_rfl) (by kernel_rfl) (HP _ _) (Or.inl ⟨by rfl, ?_⟩) (by assumption) ?_
  rotate_left
  · (intro w hSw; (try dsimp only at hSw); go_simp; try with_reducible rfl)
  try simp only [Act.put, List.setIfInBounds_toArray, List.set_cons_zero, List.set_cons_succ]
  refine wpAnyH_take (i := 3) (oi := { dst := some 50, op := Go.Op.move (Go.Operand.tmp 7), type := 3, pos := "l07_dead.go:73", after := #[], guard := none }) (v := ?_) rfl (by kernel_rfl) (by kernel_rfl) (by kernel_rfl) (HP _ _) (Or.inl ⟨by rfl, ?_⟩) (by assumption) ?_
  rotate_left
  · (intro w hSw; (try dsimp only at hSw); go_simp; try with_reducible rfl)
  try simp only [Act.put, List.setIfInBounds_toArray, List.set_cons_zero, List.set_cons_succ]
  refine wpAnyH_take (i := 5) (oi := { dst := some 52, op := Go.Op.move (Go.Operand.tmp 7), type := 3, pos := "l07_dead.go:73", after := #[], guard := none }) (v := ?_) rfl (by kernel_rfl) (by kernel_rfl) (by kernel_rfl) (HP _ _) (Or.inl ⟨by rfl, ?_⟩) (by assumption) ?_
  rotate_left
  · (intro w hSw; (try dsimp only at hSw); go_simp; try with_reducible rfl)
  try simp only [Act.put, List.setIfInBounds_toArray, List.set_cons_zero, List.set_cons_succ]
  refine wpAnyH_ready (rs := [0, 4]) (by kernel_rfl) (by simp) ?_
  refine (AllReadyH.cons (o := { dst := some 47, op := Go.Op.load 27 (Go.Operand.tmp 2), type := 27, pos := "l07_dead.go:73", after := #[], guard := none }) rfl (fun K0 hK0 => ?_) (AllReadyH.cons (o := { dst := some 51, op := Go.Op.load 27 (Go.Operand.tmp 2), type := 27, pos := "l07_dead.go:73", after := #[], guard := none }) rfl (fun K4 hK4 => ?_) AllReadyH.nil))
  · as_aux_lemma =>
      go_simp
      refine hK0.out _ _ ?_ (fun hHeld1 => ?_)
      · (try dsimp only); (first | go_keep | exact ⟨(row3_cells (hw4.out.put (o2 : Int)).2.1).1.1, (row3_cells (hw4.out.put (o2 : Int)).2.1).1.2.1⟩)
      clear hK0 K0 hHeld0
      try simp only [Act.put, List.setIfInBounds_toArray, List.set_cons_zero, List.set_cons_succ]
      refine wpAnyH_ready (rs := [4]) (by kernel_rfl) (by simp) ?_
      refine AllReadyH.cons (o := { dst := some 51, op := Go.Op.load 27 (Go.Operand.tmp 2), type := 27, pos := "l07_dead.go:73", after := #[], guard := none }) rfl (fun K4 hK4 => ?_) AllReadyH.nil
      go_simp
      refine hK4.out _ _ ?_ (fun hHeld2 => ?_)
      · (try dsimp only); (first | go_keep | exact ⟨(row3_cells (hw4.out.put (o2 : Int)).2.1).1.1, (row3_cells (hw4.out.put (o2 : Int)).2.1).1.2.1⟩)
      clear hK4 K4 hHeld1
      try simp only [Act.put, List.setIfInBounds_toArray, List.set_cons_zero, List.set_cons_succ]
      refine wpAnyH_ready (rs := [6]) (by kernel_rfl) (by simp) ?_
      refine AllReadyH.cons (o := { dst := some 53, op := Go.Op.call { callee := Go.Callee.value (Go.Operand.func 69), args := #[Go.Operand.tmp 51, Go.Operand.tmp 52], argTypes := #[27, 3] }, type := 32, pos := "l07_dead.go:73", after := #[{ on := 4, ground := Go.Ground.data }, { on := 5, ground := Go.Ground.data }], guard := none }) rfl (fun K6 hK6 => ?_) AllReadyH.nil
      go_simp
      (refine (HW1.out _).mono ?_; rintro e v1 ⟨vw, rfl, how, hb1⟩; have hw2 := Lib.hid (hfw'.out.dr.call hb1); obtain ⟨⟨p1, q1, r1⟩, -⟩ := row3_cells hw2.out.2.1; obtain ⟨gw, cw, rfl, -, -⟩ := own_some how (by simp); have hcw : v1.cell? ⟨gw, 0, none⟩ = some (.int .i64 (q : Int)) := own_cellI how rfl)
      go_wp2_with fail
      refine hK6.out _ _ ?_ (fun hHeld3 => ?_)
      · (try dsimp only); (first | go_keep | exact ⟨(row3_cells (hw4.out.put (o2 : Int)).2.1).1.1, (row3_cells (hw4.out.put (o2 : Int)).2.1).1.2.1⟩)
      clear hK6 K6 hHeld2
      try simp only [Act.put, List.setIfInBounds_toArray, List.set_cons_zero, List.set_cons_succ]
      refine wpAnyH_take (i := 7) (oi := { dst := some 54, op := Go.Op.indexAddr 32 (Go.Operand.tmp 53) (Go.Operand.const (Go.Value.int Go.IntKind.i64 0)), type := 0, pos := "l07_dead.go:73", after := #[{ on := 6, ground := Go.Ground.data }], guard := none }) (v := ?_) rfl (by kernel_rfl) (by kernel_rfl) (by kernel_rfl) (HP _ _) (Or.inl ⟨by rfl, ?_⟩) (by assumption) ?_
      rotate_left
      · (intro w hSw; (try dsimp only at hSw); go_simp; try with_reducible rfl)
      try simp only [Act.put, List.setIfInBounds_toArray, List.set_cons_zero, List.set_cons_succ]
      refine wpAnyH_ready (rs := [8]) (by kernel_rfl) (by simp) ?_
      refine AllReadyH.cons (o := { dst := some 55, op := Go.Op.load 3 (Go.Operand.tmp 54), type := 3, pos := "l07_dead.go:73", after := #[{ on := 7, ground := Go.Ground.data }], guard := none }) rfl (fun K8 hK8 => ?_) AllReadyH.nil
      go_simp
      refine hK8.out _ _ ?_ (fun hHeld4 => ?_)
      · (try dsimp only); (first | go_keep | exact ⟨(row3_cells (hw4.out.put (o2 : Int)).2.1).1.1, (row3_cells (hw4.out.put (o2 : Int)).2.1).1.2.1⟩)
      clear hK8 K8 hHeld3
      try simp only [Act.put, List.setIfInBounds_toArray, List.set_cons_zero, List.set_cons_succ]
      refine wpAnyH_ready (rs := [9]) (by kernel_rfl) (by simp) ?_
      refine AllReadyH.cons (o := { dst := some 56, op := Go.Op.call { callee := Go.Callee.value (Go.Operand.func 68), args := #[Go.Operand.tmp 49, Go.Operand.tmp 50, Go.Operand.tmp 55], argTypes := #[25, 3, 3] }, type := 3, pos := "l07_dead.go:73", after := #[{ on := 2, ground := Go.Ground.data }, { on := 3, ground := Go.Ground.data }, { on := 8, ground := Go.Ground.data }, { on := 6, ground := Go.Ground.chain }], guard := none }) rfl (fun K9 hK9 => ?_) AllReadyH.nil
      go_simp
      (refine (HG1.out _).mono ?_; rintro e v2 ⟨rfl, hb2⟩; have hw3 := Lib.hid (hw2.out.call hb2); obtain ⟨⟨p2, q2, r2⟩, -⟩ := row3_cells hw3.out.2.1)
      go_wp2_with fail
      refine hK9.out _ _ ?_ (fun hHeld5 => ?_)
      · (try dsimp only); (first | go_keep | exact ⟨(row3_cells (hw4.out.put (o2 : Int)).2.1).1.1, (row3_cells (hw4.out.put (o2 : Int)).2.1).1.2.1⟩)
      clear hK9 K9 hHeld4
      try simp only [Act.put, List.setIfInBounds_toArray, List.set_cons_zero, List.set_cons_succ]
      refine wpAnyH_ready (rs := [10]) (by kernel_rfl) (by simp) ?_
      refine AllReadyH.cons (o := { dst := some 57, op := Go.Op.call { callee := Go.Callee.value (Go.Operand.func 67), args := #[Go.Operand.tmp 47, Go.Operand.tmp 56, Go.Operand.const (Go.Value.bool false)], argTypes := #[27, 3, 4] }, type := 40, pos := "l07_dead.go:73", after := #[{ on := 0, ground := Go.Ground.data }, { on := 9, ground := Go.Ground.data }, { on := 9, ground := Go.Ground.chain }], guard := none }) rfl (fun K10 hK10 => ?_) AllReadyH.nil
      go_simp
      (refine (HS1.out _).mono ?_; rintro e v3 ⟨rfl, hb3⟩; have hw4 := Lib.hid (hw3.out.call hb3); obtain ⟨⟨p3, q3, r3⟩, y0, y1, y2⟩ := row3_cells hw4.out.2.1)
      go_wp2_with fail
      refine hK10.out _ _ ?_ (fun hHeld6 => ?_)
      · (try dsimp only); (first | go_keep | exact ⟨(row3_cells (hw4.out.put (o2 : Int)).2.1).1.1, (row3_cells (hw4.out.put (o2 : Int)).2.1).1.2.1⟩)
      clear hK10 K10 hHeld5
      try simp only [Act.put, List.setIfInBounds_toArray, List.set_cons_zero, List.set_cons_succ]
      refine wpAnyH_take (i := 11) (oi := { dst := some 46, op := Go.Op.move (Go.Operand.tmp 57), type := 40, pos := "l07_dead.go:73", after := #[{ on := 10, ground := Go.Ground.data }], guard := none }) (v := ?_) rfl (by kernel_rfl) (by kernel_rfl) (by kernel_rfl) (HP _ _) (Or.inl ⟨by rfl, ?_⟩) (by assumption) ?_
      rotate_left
      · (intro w hSw; (try dsimp only at hSw); go_simp; try with_reducible rfl)
      try simp only [Act.put, List.setIfInBounds_toArray, List.set_cons_zero, List.set_cons_succ]
      refine wpAnyH_take (i := 12) (oi := { dst := some 58, op := Go.Op.extract (Go.Operand.tmp 46) 0, type := 27, pos := "l07_dead.go:73", after := #[{ on := 11, ground := Go.Ground.data }], guard := none }) (v := ?_) rfl (by kernel_rfl) (by kernel_rfl) (by kernel_rfl) (HP _ _) (Or.inl ⟨by rfl, ?_⟩) (by assumption) ?_
      rotate_left
      · (intro w hSw; (try dsimp only at hSw); go_simp; try with_reducible rfl)
      try simp only [Act.put, List.setIfInBounds_toArray, List.set_cons_zero, List.set_cons_succ]
      refine wpAnyH_take (i := 13) (oi := { dst := some 59, op := Go.Op.extract (Go.Operand.tmp 46) 1, type := 4, pos := "l07_dead.go:73", after := #[{ on := 11, ground := Go.Ground.data }, { on := 14, ground := Go.Ground.gcOnly Go.Departure.lateStores }], guard := none }) (v := ?_) rfl (by kernel_rfl) (by kernel_rfl) (by kernel_rfl) (HP _ _) (Or.inl ⟨by rfl, ?_⟩) (by assumption) ?_
      rotate_left
      · (intro w hSw; (try dsimp only at hSw); go_simp; try with_reducible rfl)
      try simp only [Act.put, List.setIfInBounds_toArray, List.set_cons_zero, List.set_cons_succ]
      refine wpAnyH_ready (rs := [14]) (by kernel_rfl) (by simp) ?_
      refine AllReadyH.cons (o := { dst := none, op := Go.Op.store 27 (Go.Operand.tmp 2) (Go.Operand.tmp 58), type := 0, pos := "l07_dead.go:73", after := #[{ on := 12, ground := Go.Ground.data }, { on := 10, ground := Go.Ground.chain }, { on := 0, ground := Go.Ground.phase }, { on := 1, ground := Go.Ground.phase }, { on := 2, ground := Go.Ground.phase }, { on := 3, ground := Go.Ground.phase }, { on := 4, ground := Go.Ground.phase }, { on := 5, ground := Go.Ground.phase }, { on := 6, ground := Go.Ground.phase }, { on := 7, ground := Go.Ground.phase }, { on := 8, ground := Go.Ground.phase }, { on := 9, ground := Go.Ground.phase }, { on := 10, ground := Go.Ground.phase }, { on := 11, ground := Go.Ground.phase }, { on := 12, ground := Go.Ground.phase }, { on := 13, ground := Go.Ground.textOnly Go.Departure.lateStores }], guard := none }) rfl (fun K14 hK14 => ?_) AllReadyH.nil
      go_simp
      refine hK14.out _ _ ?_ (fun hHeld7 => ?_)
      · (try dsimp only); (first | go_keep | exact ⟨(row3_cells (hw4.out.put (o2 : Int)).2.1).1.1, (row3_cells (hw4.out.put (o2 : Int)).2.1).1.2.1⟩)
      clear hK14 K14 hHeld6
      try simp only [Act.put, List.setIfInBounds_toArray, List.set_cons_zero, List.set_cons_succ]
      refine wpAnyH_done (by kernel_rfl) ?_ _
      exact HQ.out _ _ _ _ _ _ _ _ _ _ _ _ _ _ _ (hw4.out.put o2)
  · as_aux_lemma =>
      go_simp
      refine hK4.out _ _ ?_ (fun hHeld1 => ?_)
      · (try dsimp only); (first | go_keep | exact ⟨(row3_cells (hw4.out.put (o2 : Int)).2.1).1.1, (row3_cells (hw4.out.put (o2 : Int)).2.1).1.2.1⟩)
      clear hK4 K4 hHeld0
      try simp only [Act.put, List.setIfInBounds_toArray, List.set_cons_zero, List.set_cons_succ]
      refine wpAnyH_ready (rs := [0, 6]) (by kernel_rfl) (by simp) ?_
      refine (AllReadyH.cons (o := { dst := some 47, op := Go.Op.load 27 (Go.Operand.tmp 2), type := 27, pos := "l07_dead.go:73", after := #[], guard := none }) rfl (fun K0 hK0 => ?_) (AllReadyH.cons (o := { dst := some 53, op := Go.Op.call { callee := Go.Callee.value (Go.Operand.func 69), args := #[Go.Operand.tmp 51, Go.Operand.tmp 52], argTypes := #[27, 3] }, type := 32, pos := "l07_dead.go:73", after := #[{ on := 4, ground := Go.Ground.data }, { on := 5, ground := Go.Ground.data }], guard := none }) rfl (fun K6 hK6 => ?_) AllReadyH.nil))
      · as_aux_lemma =>
          go_simp
          refine hK0.out _ _ ?_ (fun hHeld2 => ?_)
          · (try dsimp only); (first | go_keep | exact ⟨(row3_cells (hw4.out.put (o2 : Int)).2.1).1.1, (row3_cells (hw4.out.put (o2 : Int)).2.1).1.2.1⟩)
          clear hK0 K0 hHeld1
          try simp only [Act.put, List.setIfInBounds_toArray, List.set_cons_zero, List.set_cons_succ]
          refine wpAnyH_ready (rs := [6]) (by kernel_rfl) (by simp) ?_
          refine AllReadyH.cons (o := { dst := some 53, op := Go.Op.call { callee := Go.Callee.value (Go.Operand.func 69), args := #[Go.Operand.tmp 51, Go.Operand.tmp 52], argTypes := #[27, 3] }, type := 32, pos := "l07_dead.go:73", after := #[{ on := 4, ground := Go.Ground.data }, { on := 5, ground := Go.Ground.data }], guard := none }) rfl (fun K6 hK6 => ?_) AllReadyH.nil
          go_simp
          (refine (HW1.out _).mono ?_; rintro e v1 ⟨vw, rfl, how, hb1⟩; have hw2 := Lib.hid (hfw'.out.dr.call hb1); obtain ⟨⟨p1, q1, r1⟩, -⟩ := row3_cells hw2.out.2.1; obtain ⟨gw, cw, rfl, -, -⟩ := own_some how (by simp); have hcw : v1.cell? ⟨gw, 0, none⟩ = some (.int .i64 (q : Int)) := own_cellI how rfl)
          go_wp2_with fail
          refine hK6.out _ _ ?_ (fun hHeld3 => ?_)
          · (try dsimp only); (first | go_keep | exact ⟨(row3_cells (hw4.out.put (o2 : Int)).2.1).1.1, (row3_cells (hw4.out.put (o2 : Int)).2.1).1.2.1⟩)
          clear hK6 K6 hHeld2
          try simp only [Act.put, List.setIfInBounds_toArray, List.set_cons_zero, List.set_cons_succ]
          refine wpAnyH_take (i := 7) (oi := { dst := some 54, op := Go.Op.indexAddr 32 (Go.Operand.tmp 53) (Go.Operand.const (Go.Value.int Go.IntKind.i64 0)), type := 0, pos := "l07_dead.go:73", after := #[{ on := 6, ground := Go.Ground.data }], guard := none }) (v := ?_) rfl (by kernel_rfl) (by kernel_rfl) (by kernel_rfl) (HP _ _) (Or.inl ⟨by rfl, ?_⟩) (by assumption) ?_
          rotate_left
          · (intro w hSw; (try dsimp only at hSw); go_simp; try with_reducible rfl)
          try simp only [Act.put, List.setIfInBounds_toArray, List.set_cons_zero, List.set_cons_succ]
          refine wpAnyH_ready (rs := [8]) (by kernel_rfl) (by simp) ?_
          refine AllReadyH.cons (o := { dst := some 55, op := Go.Op.load 3 (Go.Operand.tmp 54), type := 3, pos := "l07_dead.go:73", after := #[{ on := 7, ground := Go.Ground.data }], guard := none }) rfl (fun K8 hK8 => ?_) AllReadyH.nil
          go_simp
          refine hK8.out _ _ ?_ (fun hHeld4 => ?_)
          · (try dsimp only); (first | go_keep | exact ⟨(row3_cells (hw4.out.put (o2 : Int)).2.1).1.1, (row3_cells (hw4.out.put (o2 : Int)).2.1).1.2.1⟩)
          clear hK8 K8 hHeld3
          try simp only [Act.put, List.setIfInBounds_toArray, List.set_cons_zero, List.set_cons_succ]
          refine wpAnyH_ready (rs := [9]) (by kernel_rfl) (by simp) ?_
          refine AllReadyH.cons (o := { dst := some 56, op := Go.Op.call { callee := Go.Callee.value (Go.Operand.func 68), args := #[Go.Operand.tmp 49, Go.Operand.tmp 50, Go.Operand.tmp 55], argTypes := #[25, 3, 3] }, type := 3, pos := "l07_dead.go:73", after := #[{ on := 2, ground := Go.Ground.data }, { on := 3, ground := Go.Ground.data }, { on := 8, ground := Go.Ground.data }, { on := 6, ground := Go.Ground.chain }], guard := none }) rfl (fun K9 hK9 => ?_) AllReadyH.nil
          go_simp
          (refine (HG1.out _).mono ?_; rintro e v2 ⟨rfl, hb2⟩; have hw3 := Lib.hid (hw2.out.call hb2); obtain ⟨⟨p2, q2, r2⟩, -⟩ := row3_cells hw3.out.2.1)
          go_wp2_with fail
          refine hK9.out _ _ ?_ (fun hHeld5 => ?_)
          · (try dsimp only); (first | go_keep | exact ⟨(row3_cells (hw4.out.put (o2 : Int)).2.1).1.1, (row3_cells (hw4.out.put (o2 : Int)).2.1).1.2.1⟩)
          clear hK9 K9 hHeld4
          try simp only [Act.put, List.setIfInBounds_toArray, List.set_cons_zero, List.set_cons_succ]
          refine wpAnyH_ready (rs := [10]) (by kernel_rfl) (by simp) ?_
          refine AllReadyH.cons (o := { dst := some 57, op := Go.Op.call { callee := Go.Callee.value (Go.Operand.func 67), args := #[Go.Operand.tmp 47, Go.Operand.tmp 56, Go.Operand.const (Go.Value.bool false)], argTypes := #[27, 3, 4] }, type := 40, pos := "l07_dead.go:73", after := #[{ on := 0, ground := Go.Ground.data }, { on := 9, ground := Go.Ground.data }, { on := 9, ground := Go.Ground.chain }], guard := none }) rfl (fun K10 hK10 => ?_) AllReadyH.nil
          go_simp
          (refine (HS1.out _).mono ?_; rintro e v3 ⟨rfl, hb3⟩; have hw4 := Lib.hid (hw3.out.call hb3); obtain ⟨⟨p3, q3, r3⟩, y0, y1, y2⟩ := row3_cells hw4.out.2.1)
          go_wp2_with fail
          refine hK10.out _ _ ?_ (fun hHeld6 => ?_)
          · (try dsimp only); (first | go_keep | exact ⟨(row3_cells (hw4.out.put (o2 : Int)).2.1).1.1, (row3_cells (hw4.out.put (o2 : Int)).2.1).1.2.1⟩)
          clear hK10 K10 hHeld5
          try simp only [Act.put, List.setIfInBounds_toArray, List.set_cons_zero, List.set_cons_succ]
          refine wpAnyH_take (i := 11) (oi := { dst := some 46, op := Go.Op.move (Go.Operand.tmp 57), type := 40, pos := "l07_dead.go:73", after := #[{ on := 10, ground := Go.Ground.data }], guard := none }) (v := ?_) rfl (by kernel_rfl) (by kernel_rfl) (by kernel_rfl) (HP _ _) (Or.inl ⟨by rfl, ?_⟩) (by assumption) ?_
          rotate_left
          · (intro w hSw; (try dsimp only at hSw); go_simp; try with_reducible rfl)
          try simp only [Act.put, List.setIfInBounds_toArray, List.set_cons_zero, List.set_cons_succ]
          refine wpAnyH_take (i := 12) (oi := { dst := some 58, op := Go.Op.extract (Go.Operand.tmp 46) 0, type := 27, pos := "l07_dead.go:73", after := #[{ on := 11, ground := Go.Ground.data }], guard := none }) (v := ?_) rfl (by kernel_rfl) (by kernel_rfl) (by kernel_rfl) (HP _ _) (Or.inl ⟨by rfl, ?_⟩) (by assumption) ?_
          rotate_left
          · (intro w hSw; (try dsimp only at hSw); go_simp; try with_reducible rfl)
          try simp only [Act.put, List.setIfInBounds_toArray, List.set_cons_zero, List.set_cons_succ]
          refine wpAnyH_take (i := 13) (oi := { dst := some 59, op := Go.Op.extract (Go.Operand.tmp 46) 1, type := 4, pos := "l07_dead.go:73", after := #[{ on := 11, ground := Go.Ground.data }, { on := 14, ground := Go.Ground.gcOnly Go.Departure.lateStores }], guard := none }) (v := ?_) rfl (by kernel_rfl) (by kernel_rfl) (by kernel_rfl) (HP _ _) (Or.inl ⟨by rfl, ?_⟩) (by assumption) ?_
          rotate_left
          · (intro w hSw; (try dsimp only at hSw); go_simp; try with_reducible rfl)
          try simp only [Act.put, List.setIfInBounds_toArray, List.set_cons_zero, List.set_cons_succ]
          refine wpAnyH_ready (rs := [14]) (by kernel_rfl) (by simp) ?_
          refine AllReadyH.cons (o := { dst := none, op := Go.Op.store 27 (Go.Operand.tmp 2) (Go.Operand.tmp 58), type := 0, pos := "l07_dead.go:73", after := #[{ on := 12, ground := Go.Ground.data }, { on := 10, ground := Go.Ground.chain }, { on := 0, ground := Go.Ground.phase }, { on := 1, ground := Go.Ground.phase }, { on := 2, ground := Go.Ground.phase }, { on := 3, ground := Go.Ground.phase }, { on := 4, ground := Go.Ground.phase }, { on := 5, ground := Go.Ground.phase }, { on := 6, ground := Go.Ground.phase }, { on := 7, ground := Go.Ground.phase }, { on := 8, ground := Go.Ground.phase }, { on := 9, ground := Go.Ground.phase }, { on := 10, ground := Go.Ground.phase }, { on := 11, ground := Go.Ground.phase }, { on := 12, ground := Go.Ground.phase }, { on := 13, ground := Go.Ground.textOnly Go.Departure.lateStores }], guard := none }) rfl (fun K14 hK14 => ?_) AllReadyH.nil
          go_simp
          refine hK14.out _ _ ?_ (fun hHeld7 => ?_)
          · (try dsimp only); (first | go_keep | exact ⟨(row3_cells (hw4.out.put (o2 : Int)).2.1).1.1, (row3_cells (hw4.out.put (o2 : Int)).2.1).1.2.1⟩)
          clear hK14 K14 hHeld6
          try simp only [Act.put, List.setIfInBounds_toArray, List.set_cons_zero, List.set_cons_succ]
          refine wpAnyH_done (by kernel_rfl) ?_ _
          exact HQ.out _ _ _ _ _ _ _ _ _ _ _ _ _ _ _ (hw4.out.put o2)
      · as_aux_lemma =>
          go_simp
          (refine (HW1.out _).mono ?_; rintro e v1 ⟨vw, rfl, how, hb1⟩; have hw2 := Lib.hid (hfw'.out.dr.call hb1); obtain ⟨⟨p1, q1, r1⟩, -⟩ := row3_cells hw2.out.2.1; obtain ⟨gw, cw, rfl, -, -⟩ := own_some how (by simp); have hcw : v1.cell? ⟨gw, 0, none⟩ = some (.int .i64 (q : Int)) := own_cellI how rfl)
          go_wp2_with fail
          refine hK6.out _ _ ?_ (fun hHeld2 => ?_)
          · (try dsimp only); (first | go_keep | exact ⟨(row3_cells (hw4.out.put (o2 : Int)).2.1).1.1, (row3_cells (hw4.out.put (o2 : Int)).2.1).1.2.1⟩)
          clear hK6 K6 hHeld1
          try simp only [Act.put, List.setIfInBounds_toArray, List.set_cons_zero, List.set_cons_succ]
          refine wpAnyH_take (i := 7) (oi := { dst := some 54, op := Go.Op.indexAddr 32 (Go.Operand.tmp 53) (Go.Operand.const (Go.Value.int Go.IntKind.i64 0)), type := 0, pos := "l07_dead.go:73", after := #[{ on := 6, ground := Go.Ground.data }], guard := none }) (v := ?_) rfl (by kernel_rfl) (by kernel_rfl) (by kernel_rfl) (HP _ _) (Or.inl ⟨by rfl, ?_⟩) (by assumption) ?_
          rotate_left
          · (intro w hSw; (try dsimp only at hSw); go_simp; try with_reducible rfl)
          try simp only [Act.put, List.setIfInBounds_toArray, List.set_cons_zero, List.set_cons_succ]
          refine wpAnyH_ready (rs := [0, 8]) (by kernel_rfl) (by simp) ?_
          refine (AllReadyH.cons (o := { dst := some 47, op := Go.Op.load 27 (Go.Operand.tmp 2), type := 27, pos := "l07_dead.go:73", after := #[], guard := none }) rfl (fun K0 hK0 => ?_) (AllReadyH.cons (o := { dst := some 55, op := Go.Op.load 3 (Go.Operand.tmp 54), type := 3, pos := "l07_dead.go:73", after := #[{ on := 7, ground := Go.Ground.data }], guard := none }) rfl (fun K8 hK8 => ?_) AllReadyH.nil))
          · as_aux_lemma =>
              go_simp
              refine hK0.out _ _ ?_ (fun hHeld3 => ?_)
              · (try dsimp only); (first | go_keep | exact ⟨(row3_cells (hw4.out.put (o2 : Int)).2.1).1.1, (row3_cells (hw4.out.put (o2 : Int)).2.1).1.2.1⟩)
              clear hK0 K0 hHeld2
              try simp only [Act.put, List.setIfInBounds_toArray, List.set_cons_zero, List.set_cons_succ]
              refine wpAnyH_ready (rs := [8]) (by kernel_rfl) (by simp) ?_
              refine AllReadyH.cons (o := { dst := some 55, op := Go.Op.load 3 (Go.Operand.tmp 54), type := 3, pos := "l07_dead.go:73", after := #[{ on := 7, ground := Go.Ground.data }], guard := none }) rfl (fun K8 hK8 => ?_) AllReadyH.nil
              go_simp
              refine hK8.out _ _ ?_ (fun hHeld4 => ?_)
              · (try dsimp only); (first | go_keep | exact ⟨(row3_cells (hw4.out.put (o2 : Int)).2.1).1.1, (row3_cells (hw4.out.put (o2 : Int)).2.1).1.2.1⟩)
              clear hK8 K8 hHeld3
              try simp only [Act.put, List.setIfInBounds_toArray, List.set_cons_zero, List.set_cons_succ]
              refine wpAnyH_ready (rs := [9]) (by kernel_rfl) (by simp) ?_
              refine AllReadyH.cons (o := { dst := some 56, op := Go.Op.call { callee := Go.Callee.value (Go.Operand.func 68), args := #[Go.Operand.tmp 49, Go.Operand.tmp 50, Go.Operand.tmp 55], argTypes := #[25, 3, 3] }, type := 3, pos := "l07_dead.go:73", after := #[{ on := 2, ground := Go.Ground.data }, { on := 3, ground := Go.Ground.data }, { on := 8, ground := Go.Ground.data }, { on := 6, ground := Go.Ground.chain }], guard := none }) rfl (fun K9 hK9 => ?_) AllReadyH.nil
              go_simp
              (refine (HG1.out _).mono ?_; rintro e v2 ⟨rfl, hb2⟩; have hw3 := Lib.hid (hw2.out.call hb2); obtain ⟨⟨p2, q2, r2⟩, -⟩ := row3_cells hw3.out.2.1)
              go_wp2_with fail
              refine hK9.out _ _ ?_ (fun hHeld5 => ?_)
              · (try dsimp only); (first | go_keep | exact ⟨(row3_cells (hw4.out.put (o2 : Int)).2.1).1.1, (row3_cells (hw4.out.put (o2 : Int)).2.1).1.2.1⟩)
              clear hK9 K9 hHeld4
              try simp only [Act.put, List.setIfInBounds_toArray, List.set_cons_zero, List.set_cons_succ]
              refine wpAnyH_ready (rs := [10]) (by kernel_rfl) (by simp) ?_
              refine AllReadyH.cons (o := { dst := some 57, op := Go.Op.call { callee := Go.Callee.value (Go.Operand.func 67), args := #[Go.Operand.tmp 47, Go.Operand.tmp 56, Go.Operand.const (Go.Value.bool false)], argTypes := #[27, 3, 4] }, type := 40, pos := "l07_dead.go:73", after := #[{ on := 0, ground := Go.Ground.data }, { on := 9, ground := Go.Ground.data }, { on := 9, ground := Go.Ground.chain }], guard := none }) rfl (fun K10 hK10 => ?_) AllReadyH.nil
              go_simp
              (refine (HS1.out _).mono ?_; rintro e v3 ⟨rfl, hb3⟩; have hw4 := Lib.hid (hw3.out.call hb3); obtain ⟨⟨p3, q3, r3⟩, y0, y1, y2⟩ := row3_cells hw4.out.2.1)
              go_wp2_with fail
              refine hK10.out _ _ ?_ (fun hHeld6 => ?_)
              · (try dsimp only); (first | go_keep | exact ⟨(row3_cells (hw4.out.put (o2 : Int)).2.1).1.1, (row3_cells (hw4.out.put (o2 : Int)).2.1).1.2.1⟩)
              clear hK10 K10 hHeld5
              try simp only [Act.put, List.setIfInBounds_toArray, List.set_cons_zero, List.set_cons_succ]
              refine wpAnyH_take (i := 11) (oi := { dst := some 46, op := Go.Op.move (Go.Operand.tmp 57), type := 40, pos := "l07_dead.go:73", after := #[{ on := 10, ground := Go.Ground.data }], guard := none }) (v := ?_) rfl (by kernel_rfl) (by kernel_rfl) (by kernel_rfl) (HP _ _) (Or.inl ⟨by rfl, ?_⟩) (by assumption) ?_
              rotate_left
              · (intro w hSw; (try dsimp only at hSw); go_simp; try with_reducible rfl)
              try simp only [Act.put, List.setIfInBounds_toArray, List.set_cons_zero, List.set_cons_succ]
              refine wpAnyH_take (i := 12) (oi := { dst := some 58, op := Go.Op.extract (Go.Operand.tmp 46) 0, type := 27, pos := "l07_dead.go:73", after := #[{ on := 11, ground := Go.Ground.data }], guard := none }) (v := ?_) rfl (by kernel_rfl) (by kernel_rfl) (by kernel_rfl) (HP _ _) (Or.inl ⟨by rfl, ?_⟩) (by assumption) ?_
              rotate_left
              · (intro w hSw; (try dsimp only at hSw); go_simp; try with_reducible rfl)
              try simp only [Act.put, List.setIfInBounds_toArray, List.set_cons_zero, List.set_cons_succ]
              refine wpAnyH_take (i := 13) (oi := { dst := some 59, op := Go.Op.extract (Go.Operand.tmp 46) 1, type := 4, pos := "l07_dead.go:73", after := #[{ on := 11, ground := Go.Ground.data }, { on := 14, ground := Go.Ground.gcOnly Go.Departure.lateStores }], guard := none }) (v := ?_) rfl (by kernel_rfl) (by kernel_rfl) (by kernel_rfl) (HP _ _) (Or.inl ⟨by rfl, ?_⟩) (by assumption) ?_
              rotate_left
              · (intro w hSw; (try dsimp only at hSw); go_simp; try with_reducible rfl)
              try simp only [Act.put, List.setIfInBounds_toArray, List.set_cons_zero, List.set_cons_succ]
              refine wpAnyH_ready (rs := [14]) (by kernel_rfl) (by simp) ?_
              refine AllReadyH.cons (o := { dst := none, op := Go.Op.store 27 (Go.Operand.tmp 2) (Go.Operand.tmp 58), type := 0, pos := "l07_dead.go:73", after := #[{ on := 12, ground := Go.Ground.data }, { on := 10, ground := Go.Ground.chain }, { on := 0, ground := Go.Ground.phase }, { on := 1, ground := Go.Ground.phase }, { on := 2, ground := Go.Ground.phase }, { on := 3, ground := Go.Ground.phase }, { on := 4, ground := Go.Ground.phase }, { on := 5, ground := Go.Ground.phase }, { on := 6, ground := Go.Ground.phase }, { on := 7, ground := Go.Ground.phase }, { on := 8, ground := Go.Ground.phase }, { on := 9, ground := Go.Ground.phase }, { on := 10, ground := Go.Ground.phase }, { on := 11, ground := Go.Ground.phase }, { on := 12, ground := Go.Ground.phase }, { on := 13, ground := Go.Ground.textOnly Go.Departure.lateStores }], guard := none }) rfl (fun K14 hK14 => ?_) AllReadyH.nil
              go_simp
              refine hK14.out _ _ ?_ (fun hHeld7 => ?_)
              · (try dsimp only); (first | go_keep | exact ⟨(row3_cells (hw4.out.put (o2 : Int)).2.1).1.1, (row3_cells (hw4.out.put (o2 : Int)).2.1).1.2.1⟩)
              clear hK14 K14 hHeld6
              try simp only [Act.put, List.setIfInBounds_toArray, List.set_cons_zero, List.set_cons_succ]
              refine wpAnyH_done (by kernel_rfl) ?_ _
              exact HQ.out _ _ _ _ _ _ _ _ _ _ _ _ _ _ _ (hw4.out.put o2)
          · as_aux_lemma =>
              go_simp
              refine hK8.out _ _ ?_ (fun hHeld3 => ?_)
              · (try dsimp only); (first | go_keep | exact ⟨(row3_cells (hw4.out.put (o2 : Int)).2.1).1.1, (row3_cells (hw4.out.put (o2 : Int)).2.1).1.2.1⟩)
              clear hK8 K8 hHeld2
              try simp only [Act.put, List.setIfInBounds_toArray, List.set_cons_zero, List.set_cons_succ]
              refine wpAnyH_ready (rs := [0, 9]) (by kernel_rfl) (by simp) ?_
              refine (AllReadyH.cons (o := { dst := some 47, op := Go.Op.load 27 (Go.Operand.tmp 2), type := 27, pos := "l07_dead.go:73", after := #[], guard := none }) rfl (fun K0 hK0 => ?_) (AllReadyH.cons (o := { dst := some 56, op := Go.Op.call { callee := Go.Callee.value (Go.Operand.func 68), args := #[Go.Operand.tmp 49, Go.Operand.tmp 50, Go.Operand.tmp 55], argTypes := #[25, 3, 3] }, type := 3, pos := "l07_dead.go:73", after := #[{ on := 2, ground := Go.Ground.data }, { on := 3, ground := Go.Ground.data }, { on := 8, ground := Go.Ground.data }, { on := 6, ground := Go.Ground.chain }], guard := none }) rfl (fun K9 hK9 => ?_) AllReadyH.nil))
              · as_aux_lemma =>
                  go_simp
                  refine hK0.out _ _ ?_ (fun hHeld4 => ?_)
                  · (try dsimp only); (first | go_keep | exact ⟨(row3_cells (hw4.out.put (o2 : Int)).2.1).1.1, (row3_cells (hw4.out.put (o2 : Int)).2.1).1.2.1⟩)
                  clear hK0 K0 hHeld3
                  try simp only [Act.put, List.setIfInBounds_toArray, List.set_cons_zero, List.set_cons_succ]
                  refine wpAnyH_ready (rs := [9]) (by kernel_rfl) (by simp) ?_
                  refine AllReadyH.cons (o := { dst := some 56, op := Go.Op.call { callee := Go.Callee.value (Go.Operand.func 68), args := #[Go.Operand.tmp 49, Go.Operand.tmp 50, Go.Operand.tmp 55], argTypes := #[25, 3, 3] }, type := 3, pos := "l07_dead.go:73", after := #[{ on := 2, ground := Go.Ground.data }, { on := 3, ground := Go.Ground.data }, { on := 8, ground := Go.Ground.data }, { on := 6, ground := Go.Ground.chain }], guard := none }) rfl (fun K9 hK9 => ?_) AllReadyH.nil
                  go_simp
                  (refine (HG1.out _).mono ?_; rintro e v2 ⟨rfl, hb2⟩; have hw3 := Lib.hid (hw2.out.call hb2); obtain ⟨⟨p2, q2, r2⟩, -⟩ := row3_cells hw3.out.2.1)
                  go_wp2_with fail
                  refine hK9.out _ _ ?_ (fun hHeld5 => ?_)
                  · (try dsimp only); (first | go_keep | exact ⟨(row3_cells (hw4.out.put (o2 : Int)).2.1).1.1, (row3_cells (hw4.out.put (o2 : Int)).2.1).1.2.1⟩)
                  clear hK9 K9 hHeld4
                  try simp only [Act.put, List.setIfInBounds_toArray, List.set_cons_zero, List.set_cons_succ]
                  refine wpAnyH_ready (rs := [10]) (by kernel_rfl) (by simp) ?_
                  refine AllReadyH.cons (o := { dst := some 57, op := Go.Op.call { callee := Go.Callee.value (Go.Operand.func 67), args := #[Go.Operand.tmp 47, Go.Operand.tmp 56, Go.Operand.const (Go.Value.bool false)], argTypes := #[27, 3, 4] }, type := 40, pos := "l07_dead.go:73", after := #[{ on := 0, ground := Go.Ground.data }, { on := 9, ground := Go.Ground.data }, { on := 9, ground := Go.Ground.chain }], guard := none }) rfl (fun K10 hK10 => ?_) AllReadyH.nil
                  go_simp
                  (refine (HS1.out _).mono ?_; rintro e v3 ⟨rfl, hb3⟩; have hw4 := Lib.hid (hw3.out.call hb3); obtain ⟨⟨p3, q3, r3⟩, y0, y1, y2⟩ := row3_cells hw4.out.2.1)
                  go_wp2_with fail
                  refine hK10.out _ _ ?_ (fun hHeld6 => ?_)
                  · (try dsimp only); (first | go_keep | exact ⟨(row3_cells (hw4.out.put (o2 : Int)).2.1).1.1, (row3_cells (hw4.out.put (o2 : Int)).2.1).1.2.1⟩)
                  clear hK10 K10 hHeld5
                  try simp only [Act.put, List.setIfInBounds_toArray, List.set_cons_zero, List.set_cons_succ]
                  refine wpAnyH_take (i := 11) (oi := { dst := some 46, op := Go.Op.move (Go.Operand.tmp 57), type := 40, pos := "l07_dead.go:73", after := #[{ on := 10, ground := Go.Ground.data }], guard := none }) (v := ?_) rfl (by kernel_rfl) (by kernel_rfl) (by kernel_rfl) (HP _ _) (Or.inl ⟨by rfl, ?_⟩) (by assumption) ?_
                  rotate_left
                  · (intro w hSw; (try dsimp only at hSw); go_simp; try with_reducible rfl)
                  try simp only [Act.put, List.setIfInBounds_toArray, List.set_cons_zero, List.set_cons_succ]
                  refine wpAnyH_take (i := 12) (oi := { dst := some 58, op := Go.Op.extract (Go.Operand.tmp 46) 0, type := 27, pos := "l07_dead.go:73", after := #[{ on := 11, ground := Go.Ground.data }], guard := none }) (v := ?_) rfl (by kernel_rfl) (by kernel_rfl) (by kernel_rfl) (HP _ _) (Or.inl ⟨by rfl, ?_⟩) (by assumption) ?_
                  rotate_left
                  · (intro w hSw; (try dsimp only at hSw); go_simp; try with_reducible rfl)
                  try simp only [Act.put, List.setIfInBounds_toArray, List.set_cons_zero, List.set_cons_succ]
                  refine wpAnyH_take (i := 13) (oi := { dst := some 59, op := Go.Op.extract (Go.Operand.tmp 46) 1, type := 4, pos := "l07_dead.go:73", after := #[{ on := 11, ground := Go.Ground.data }, { on := 14, ground := Go.Ground.gcOnly Go.Departure.lateStores }], guard := none }) (v := ?_) rfl (by kernel_rfl) (by kernel_rfl) (by kernel_rfl) (HP _ _) (Or.inl ⟨by rfl, ?_⟩) (by assumption) ?_
                  rotate_left
                  · (intro w hSw; (try dsimp only at hSw); go_simp; try with_reducible rfl)
                  try simp only [Act.put, List.setIfInBounds_toArray, List.set_cons_zero, List.set_cons_succ]
                  refine wpAnyH_ready (rs := [14]) (by kernel_rfl) (by simp) ?_
                  refine AllReadyH.cons (o := { dst := none, op := Go.Op.store 27 (Go.Operand.tmp 2) (Go.Operand.tmp 58), type := 0, pos := "l07_dead.go:73", after := #[{ on := 12, ground := Go.Ground.data }, { on := 10, ground := Go.Ground.chain }, { on := 0, ground := Go.Ground.phase }, { on := 1, ground := Go.Ground.phase }, { on := 2, ground := Go.Ground.phase }, { on := 3, ground := Go.Ground.phase }, { on := 4, ground := Go.Ground.phase }, { on := 5, ground := Go.Ground.phase }, { on := 6, ground := Go.Ground.phase }, { on := 7, ground := Go.Ground.phase }, { on := 8, ground := Go.Ground.phase }, { on := 9, ground := Go.Ground.phase }, { on := 10, ground := Go.Ground.phase }, { on := 11, ground := Go.Ground.phase }, { on := 12, ground := Go.Ground.phase }, { on := 13, ground := Go.Ground.textOnly Go.Departure.lateStores }], guard := none }) rfl (fun K14 hK14 => ?_) AllReadyH.nil
                  go_simp
                  refine hK14.out _ _ ?_ (fun hHeld7 => ?_)
                  · (try dsimp only); (first | go_keep | exact ⟨(row3_cells (hw4.out.put (o2 : Int)).2.1).1.1, (row3_cells (hw4.out.put (o2 : Int)).2.1).1.2.1⟩)
                  clear hK14 K14 hHeld6
                  try simp only [Act.put, List.setIfInBounds_toArray, List.set_cons_zero, List.set_cons_succ]
                  refine wpAnyH_done (by kernel_rfl) ?_ _
                  exact HQ.out _ _ _ _ _ _ _ _ _ _ _ _ _ _ _ (hw4.out.put o2)
              · as_aux_lemma =>
                  go_simp
                  (refine (HG1.out _).mono ?_; rintro e v2 ⟨rfl, hb2⟩; have hw3 := Lib.hid (hw2.out.call hb2); obtain ⟨⟨p2, q2, r2⟩, -⟩ := row3_cells hw3.out.2.1)
                  go_wp2_with fail
                  refine hK9.out _ _ ?_ (fun hHeld4 => ?_)
                  · (try dsimp only); (first | go_keep | exact ⟨(row3_cells (hw4.out.put (o2 : Int)).2.1).1.1, (row3_cells (hw4.out.put (o2 : Int)).2.1).1.2.1⟩)
                  clear hK9 K9 hHeld3
                  try simp only [Act.put, List.setIfInBounds_toArray, List.set_cons_zero, List.set_cons_succ]
                  refine wpAnyH_ready (rs := [0]) (by kernel_rfl) (by simp) ?_
                  refine AllReadyH.cons (o := { dst := some 47, op := Go.Op.load 27 (Go.Operand.tmp 2), type := 27, pos := "l07_dead.go:73", after := #[], guard := none }) rfl (fun K0 hK0 => ?_) AllReadyH.nil
                  go_simp
                  refine hK0.out _ _ ?_ (fun hHeld5 => ?_)
                  · (try dsimp only); (first | go_keep | exact ⟨(row3_cells (hw4.out.put (o2 : Int)).2.1).1.1, (row3_cells (hw4.out.put (o2 : Int)).2.1).1.2.1⟩)
                  clear hK0 K0 hHeld4
                  try simp only [Act.put, List.setIfInBounds_toArray, List.set_cons_zero, List.set_cons_succ]
                  refine wpAnyH_ready (rs := [10]) (by kernel_rfl) (by simp) ?_
                  refine AllReadyH.cons (o := { dst := some 57, op := Go.Op.call { callee := Go.Callee.value (Go.Operand.func 67), args := #[Go.Operand.tmp 47, Go.Operand.tmp 56, Go.Operand.const (Go.Value.bool false)], argTypes := #[27, 3, 4] }, type := 40, pos := "l07_dead.go:73", after := #[{ on := 0, ground := Go.Ground.data }, { on := 9, ground := Go.Ground.data }, { on := 9, ground := Go.Ground.chain }], guard := none }) rfl (fun K10 hK10 => ?_) AllReadyH.nil
                  go_simp
                  (refine (HS1.out _).mono ?_; rintro e v3 ⟨rfl, hb3⟩; have hw4 := Lib.hid (hw3.out.call hb3); obtain ⟨⟨p3, q3, r3⟩, y0, y1, y2⟩ := row3_cells hw4.out.2.1)
                  go_wp2_with fail
                  refine hK10.out _ _ ?_ (fun hHeld6 => ?_)
                  · (try dsimp only); (first | go_keep | exact ⟨(row3_cells (hw4.out.put (o2 : Int)).2.1).1.1, (row3_cells (hw4.out.put (o2 : Int)).2.1).1.2.1⟩)
                  clear hK10 K10 hHeld5
                  try simp only [Act.put, List.setIfInBounds_toArray, List.set_cons_zero, List.set_cons_succ]
                  refine wpAnyH_take (i := 11) (oi := { dst := some 46, op := Go.Op.move (Go.Operand.tmp 57), type := 40, pos := "l07_dead.go:73", after := #[{ on := 10, ground := Go.Ground.data }], guard := none }) (v := ?_) rfl (by kernel_rfl) (by kernel_rfl) (by kernel_rfl) (HP _ _) (Or.inl ⟨by rfl, ?_⟩) (by assumption) ?_
                  rotate_left
                  · (intro w hSw; (try dsimp only at hSw); go_simp; try with_reducible rfl)
                  try simp only [Act.put, List.setIfInBounds_toArray, List.set_cons_zero, List.set_cons_succ]
                  refine wpAnyH_take (i := 12) (oi := { dst := some 58, op := Go.Op.extract (Go.Operand.tmp 46) 0, type := 27, pos := "l07_dead.go:73", after := #[{ on := 11, ground := Go.Ground.data }], guard := none }) (v := ?_) rfl (by kernel_rfl) (by kernel_rfl) (by kernel_rfl) (HP _ _) (Or.inl ⟨by rfl, ?_⟩) (by assumption) ?_
                  rotate_left
                  · (intro w hSw; (try dsimp only at hSw); go_simp; try with_reducible rfl)
                  try simp only [Act.put, List.setIfInBounds_toArray, List.set_cons_zero, List.set_cons_succ]
                  refine wpAnyH_take (i := 13) (oi := { dst := some 59, op := Go.Op.extract (Go.Operand.tmp 46) 1, type := 4, pos := "l07_dead.go:73", after := #[{ on := 11, ground := Go.Ground.data }, { on := 14, ground := Go.Ground.gcOnly Go.Departure.lateStores }], guard := none }) (v := ?_) rfl (by kernel_rfl) (by kernel_rfl) (by kernel_rfl) (HP _ _) (Or.inl ⟨by rfl, ?_⟩) (by assumption) ?_
                  rotate_left
                  · (intro w hSw; (try dsimp only at hSw); go_simp; try with_reducible rfl)
                  try simp only [Act.put, List.setIfInBounds_toArray, List.set_cons_zero, List.set_cons_succ]
                  refine wpAnyH_ready (rs := [14]) (by kernel_rfl) (by simp) ?_
                  refine AllReadyH.cons (o := { dst := none, op := Go.Op.store 27 (Go.Operand.tmp 2) (Go.Operand.tmp 58), type := 0, pos := "l07_dead.go:73", after := #[{ on := 12, ground := Go.Ground.data }, { on := 10, ground := Go.Ground.chain }, { on := 0, ground := Go.Ground.phase }, { on := 1, ground := Go.Ground.phase }, { on := 2, ground := Go.Ground.phase }, { on := 3, ground := Go.Ground.phase }, { on := 4, ground := Go.Ground.phase }, { on := 5, ground := Go.Ground.phase }, { on := 6, ground := Go.Ground.phase }, { on := 7, ground := Go.Ground.phase }, { on := 8, ground := Go.Ground.phase }, { on := 9, ground := Go.Ground.phase }, { on := 10, ground := Go.Ground.phase }, { on := 11, ground := Go.Ground.phase }, { on := 12, ground := Go.Ground.phase }, { on := 13, ground := Go.Ground.textOnly Go.Departure.lateStores }], guard := none }) rfl (fun K14 hK14 => ?_) AllReadyH.nil
                  go_simp
                  refine hK14.out _ _ ?_ (fun hHeld7 => ?_)
                  · (try dsimp only); (first | go_keep | exact ⟨(row3_cells (hw4.out.put (o2 : Int)).2.1).1.1, (row3_cells (hw4.out.put (o2 : Int)).2.1).1.2.1⟩)
                  clear hK14 K14 hHeld6
                  try simp only [Act.put, List.setIfInBounds_toArray, List.set_cons_zero, List.set_cons_succ]
                  refine wpAnyH_done (by kernel_rfl) ?_ _
                  exact HQ.out _ _ _ _ _ _ _ _ _ _ _ _ _ _ _ (hw4.out.put o2)
end Go.Proofs.Ytcoikcnijaniaaa.deadN
