/- The contract of the model's maze that an order of gaps makes. -/
import Derived.Test.YthgnhamokikhkaaPerfM
import Derived.Test.YthgnhamokikhkaaIntA
namespace Go.Proofs.Ythgnhamokikhkaa.perfN
open Go.ChangeShapes Go.WideShapes Go.ChangeAt Go.RowKit
open draw gridP gridC gridE bitP mazeP mazeC mazeM mazeR mazeS intsP reachD forest perfP intA
set_option linter.unusedVariables false

theorem row3_set {b : Nat} {x y z x' y' z' : Int} {X : World} (h : Row3 b x y z X) : Row3 b x' y' z' (((X.setCell ⟨b, 0, none⟩ (.int .i64 x')).setCell ⟨b, 1, none⟩ (.int .i64 y')).setCell ⟨b, 2, none⟩ (.int .i64 z')) := by
  obtain ⟨T, h⟩ := h
  exact ⟨T, by simp [World.setCell, Array.getElem?_modify, h]⟩
theorem row3_far {b : Nat} {x y z : Int} {X : World} (h : Row3 b x y z X) {p : Addr} (hp : p.block ≠ b) (u : Value) : Row3 b x y z (X.setCell p u) := by
  obtain ⟨T, h⟩ := h
  exact ⟨T, (Below.heap_setCell X p u b (fun e => hp e.symm)).trans h⟩
theorem box_far {b : Nat} {x y : Int} {X : World} (h : Box b x y X) {p : Addr} (hp : p.block ≠ b) (u : Value) : Box b x y (X.setCell p u) := by
  obtain ⟨⟨c0, c1⟩, hl⟩ := h
  have n : ∀ k, p ≠ (⟨b, k, none⟩ : Addr) := fun k e => hp (by rw [e])
  exact ⟨⟨(World.cell?_setCell_other _ _ _ _ (n 0)).trans c0, (World.cell?_setCell_other _ _ _ _ (n 1)).trans c1⟩, by simpa [World.setCell] using hl⟩
/-- What stands while a maze is made: the grid's box, the answer's block, the maze. -/
def KS (W : World) (x y z : Int) (A : Option Addr) (l : List Int) (X : World) : Prop :=
  Below W.heap.size W X ∧ Box W.heap.size x y X ∧ Row3 (W.heap.size + 1) 0 0 0 X ∧ Row3 (W.heap.size + 1 + 1) x y z X ∧ IntsIn X W.heap.size A l
theorem KS.call {W X X' : World} {x y z : Int} {A : Option Addr} {l : List Int} (h : KS W x y z A l X) (hb : Below X.heap.size X X') : KS W x y z A l X' := by
  obtain ⟨h1, h2, h3, h4, h5⟩ := h
  have := h1.size
  exact ⟨below_call h1 hb, h2.call hb, h3.call hb, h4.call hb, h5.below (hb.mono this)⟩
theorem KS.dr {W X : World} {x y z : Int} {A : Option Addr} {l : List Int} (h : KS W x y z A l X) : KS W x y z A l X.drew := h.call ⟨rfl, rfl, rfl, Nat.le_refl _, fun _ _ => rfl⟩
theorem ks_new {W : World} {x y : Int} {A : Option Addr} {l : List Int} (hi : IntsIn W W.heap.size A l) (T1 T2 T3 : TypeId) :
    KS W x y 0 A l (((W.alloc (.cells #[.int .i64 x, .int .i64 y] T1)).alloc (.cells #[.int .i64 0, .int .i64 0, .int .i64 0] T2)).alloc (.cells #[.int .i64 x, .int .i64 y, .int .i64 0] T3)) := by
  have hb : Below W.heap.size W (((W.alloc (.cells #[.int .i64 x, .int .i64 y] T1)).alloc (.cells #[.int .i64 0, .int .i64 0, .int .i64 0] T2)).alloc (.cells #[.int .i64 x, .int .i64 y, .int .i64 0] T3)) := (((Below.refl _ _).alloc (Nat.le_refl _) _).alloc (by simp) _).alloc (by simp; omega) _
  refine ⟨hb, ((box_new x y W T1).call (below_box _ _)).call (below_box _ _), ?_, ?_, hi.below hb⟩
  · have := Row3.call (row3_new 0 0 0 (W.alloc (.cells #[.int .i64 x, .int .i64 y] T1)) T2) (below_box _ (.cells #[.int .i64 x, .int .i64 y, .int .i64 0] T3))
    simpa using this
  · have := row3_new x y 0 ((W.alloc (.cells #[.int .i64 x, .int .i64 y] T1)).alloc (.cells #[.int .i64 0, .int .i64 0, .int .i64 0] T2)) T3
    simpa using this
theorem KS.put {W X : World} {x y z : Int} {A : Option Addr} {l : List Int} (h : KS W x y z A l X) (z' : Int) :
    KS W x y z' A l (((X.setCell ⟨W.heap.size + 1 + 1, 0, none⟩ (.int .i64 x)).setCell ⟨W.heap.size + 1 + 1, 1, none⟩ (.int .i64 y)).setCell ⟨W.heap.size + 1 + 1, 2, none⟩ (.int .i64 z')) := by
  obtain ⟨h1, h2, h3, h4, h5⟩ := h
  have hb : Below W.heap.size X (((X.setCell ⟨W.heap.size + 1 + 1, 0, none⟩ (.int .i64 x)).setCell ⟨W.heap.size + 1 + 1, 1, none⟩ (.int .i64 y)).setCell ⟨W.heap.size + 1 + 1, 2, none⟩ (.int .i64 z')) :=
    (((Below.refl _ _).setCell (by simp; omega) _).setCell (by simp; omega) _).setCell (by simp; omega) _
  exact ⟨h1.trans hb, box_far (box_far (box_far h2 (by simp; omega) _) (by simp; omega) _) (by simp; omega) _, row3_far (row3_far (row3_far h3 (by simp) _) (by simp) _) (by simp) _, row3_set h4, h5.below hb⟩
/-- How many gaps a grid has, 0 where there is no such grid. -/
def gpO (x y : Int) : Int := if OkZ x y then gpsZ x y else 0
theorem gpO_bd (x y : Int) : 0 ≤ gpO x y ∧ gpO x y ≤ 24 := by
  unfold gpO; split
  · rename_i h; exact gps_bd h.1 h.2.1 h.2.2.1 h.2.2.2
  · omega
theorem ko_no {x y u : Int} {l : List Int} (hu : u ∈ l) (h : ¬ (0 ≤ u ∧ u < gpO x y)) : koB x y l = false := by
  unfold koB; rw [decide_eq_false_iff_not]
  rintro ⟨h1, h2, h3⟩
  unfold gpO at h; rw [if_pos h1] at h
  exact h (h3 u hu)
theorem kz_take {x y u : Int} {l : List Int} {k : Nat} (hu : l[k]? = some u) : kzL x y (l.take (k + 1)) 0 = kzS x y (kzL x y (l.take k) 0) u := by
  have : l.take (k + 1) = l.take k ++ [u] := by rw [List.take_add_one, hu]; rfl
  rw [this, kzL_snoc]
theorem zero_of {x y : Int} {l : List Int} (h : koB x y l = false) : kmX x y l = 0 ∧ kmY x y l = 0 ∧ kmZ x y l = 0 ∧ kmB x y l = false := by
  unfold kmX kmY kmZ kmB; rw [h]; simp

set_option maxRecDepth 100000 in
set_option maxHeartbeats 4000000 in
theorem kruskal_any (x y : Int) (A : Option Addr) (n c : Nat) (l : List Int) (W : World) (hn : l.length = n) (hm : n ≤ 1048576) (hi : IntsIn W W.heap.size A l) :
    Calls Try.prog 48 #[.agg #[.int .i64 x, .int .i64 y], .slice A n c] W (MzB (kmX x y l) (kmY x y l) (kmZ x y l) (kmB x y l) W) := by
  have HI := Lib.hid (fun x a b X => in_b x a b X)
  have HG : Hid (∀ X, Calls Try.prog 20 #[.agg #[.int .i64 x, .int .i64 y]] X (Nm (gpO x y) X)) := fun X => by
    unfold gpO; split
    · rename_i h; exact gridS.countGaps_yes x y X h.1 h.2.1 h.2.2.1 h.2.2.2
    · rename_i h; exact gridS.countGaps_no x y X h
  obtain ⟨G0, G1⟩ := gpO_bd x y
  have hw1 : IntKind.i64.wrap (gpO x y - 1) = gpO x y - 1 := IntWalk.i64_in _ (by omega)
  have HNo := Lib.hid (fun u hu h => @ko_no x y u l hu h)
  have HZ : Hid (koB x y l = false → ∀ X, Below W.heap.size W X → MzB (kmX x y l) (kmY x y l) (kmZ x y l) (kmB x y l) W (.returned (.tuple #[.agg #[.int .i64 0, .int .i64 0, .int .i64 0], .bool false])) X) := fun h X hb => by
    obtain ⟨e1, e2, e3, e4⟩ := zero_of h
    rw [e1, e2, e3, e4]; exact ⟨rfl, hb⟩
  have HS := @Lib.hid _ (fun T1 T2 T3 => @ks_new W x y A l hi T1 T2 T3)
  clear hi
  go_enter Try.func48, Try.ntmps48
  go_wp2_with fail
  go_loopw [7] (fun u7 wr => ∃ k : Nat, k ≤ n ∧ u7 = .int .i64 k ∧ (∀ j u, j < k → l[j]? = some u → 0 ≤ u ∧ u < gpO x y) ∧ (0 < k → n ≤ 100) ∧ KS W x y 0 A l wr) (fun u7 _ => n - (intOf u7).toNat)
  case atStart => exact ⟨0, Nat.zero_le _, rfl, fun j u hj => absurd hj (by omega), fun h => absurd h (by omega), HS.out _ _ _⟩
  case round =>
    clear HS
    obtain ⟨k, hk, rfl, hin, hle, hks0⟩ := hrel
    have hks := Lib.hid hks0
    have HIn := Lib.hid hin
    have HLe := Lib.hid hle
    have hr := hks0.2.2.1
    clear hks0 hin hle
    by_cases hkn : k < n
    · have hu := List.getElem?_eq_getElem (show k < l.length by omega)
      have hmem := List.getElem_mem (show k < l.length by omega)
      generalize l[k] = u at hu hmem
      obtain ⟨ad, rfl, hab, hcell⟩ := ints_cell hks.out.2.2.2.2 hu
      obtain ⟨⟨b0, b1⟩, -⟩ := hks.out.2.1
      have hk0 : (0 : Int) ≤ (k : Int) := Int.natCast_nonneg _
      have hk1 : (k : Int) < (n : Int) := by omega
      have HU := Lib.hid hu
      clear hu
      by_cases hur : 0 ≤ u ∧ u < gpO x y
      · have hinb : inB u 0 (gpO x y - 1) = true := decide_eq_true (by omega)
        by_cases h100 : n ≤ 100
        · have hd : decide ((100 : Int) < (n : Int)) = false := by simp; omega
          have HN : Hid (∀ j v, j < k + 1 → l[j]? = some v → 0 ≤ v ∧ v < gpO x y) := fun j v hj hv => by
            rcases Nat.lt_or_ge j k with h | h
            · exact HIn.out j v h hv
            · obtain rfl : j = k := by omega
              rw [HU.out] at hv; cases hv; exact hur
          clear hur hr
          generalize gpO x y = G at *
          go_wp2_with fail
          try simp only [List.cons_append, List.nil_append, List.append_eq]
          refine wp_region_held_drew (S := (fun w' => w'.cell? (ad.add k) = some (.int .i64 u) ∧ w'.cell? ⟨W.heap.size, 0, none⟩ = some (.int .i64 x) ∧ w'.cell? ⟨W.heap.size, 1, none⟩ = some (.int .i64 y))) (by kernel_rfl) ?_ (fun hHeld0 => ?_)
          · (try dsimp only); go_keep
          refine wpAnyH_take (i := 0) (oi := { dst := some 17, op := Go.Op.move (Go.Operand.tmp 1), type := 34, pos := "l05_perfect.go:37", after := #[], guard := none }) (v := ?_) rfl (by kernel_rfl) (by kernel_rfl) (by kernel_rfl) (fun _ _ _ h => h) (Or.inl ⟨by rfl, ?_⟩) (by assumption) ?_
          rotate_left
          · (intro w hSw; (try dsimp only at hSw); go_simp; try with_reducible rfl)
          try simp only [Act.put, List.setIfInBounds_toArray, List.set_cons_zero, List.set_cons_succ]
          refine wpAnyH_take (i := 1) (oi := { dst := some 18, op := Go.Op.move (Go.Operand.tmp 7), type := 3, pos := "l05_perfect.go:37", after := #[], guard := none }) (v := ?_) rfl (by kernel_rfl) (by kernel_rfl) (by kernel_rfl) (fun _ _ _ h => h) (Or.inl ⟨by rfl, ?_⟩) (by assumption) ?_
          rotate_left
          · (intro w hSw; (try dsimp only at hSw); go_simp; try with_reducible rfl)
          try simp only [Act.put, List.setIfInBounds_toArray, List.set_cons_zero, List.set_cons_succ]
          refine wpAnyH_take (i := 2) (oi := { dst := some 19, op := Go.Op.indexAddr 34 (Go.Operand.tmp 17) (Go.Operand.tmp 18), type := 0, pos := "l05_perfect.go:37", after := #[{ on := 0, ground := Go.Ground.data }, { on := 1, ground := Go.Ground.data }], guard := none }) (v := ?_) rfl (by kernel_rfl) (by kernel_rfl) (by kernel_rfl) (fun _ _ _ h => h) (Or.inl ⟨by rfl, ?_⟩) (by assumption) ?_
          rotate_left
          · (intro w hSw; (try dsimp only at hSw); go_simp; try with_reducible rfl)
          try simp only [Act.put, List.setIfInBounds_toArray, List.set_cons_zero, List.set_cons_succ]
          refine wpAnyH_take (i := 3) (oi := { dst := some 20, op := Go.Op.load 3 (Go.Operand.tmp 19), type := 3, pos := "l05_perfect.go:37", after := #[{ on := 2, ground := Go.Ground.data }], guard := none }) (v := ?_) rfl (by kernel_rfl) (by kernel_rfl) (by kernel_rfl) (fun _ _ _ h => h) (Or.inl ⟨by rfl, ?_⟩) (by assumption) ?_
          rotate_left
          · (intro w hSw; (try dsimp only at hSw); go_simp; try with_reducible rfl)
          try simp only [Act.put, List.setIfInBounds_toArray, List.set_cons_zero, List.set_cons_succ]
          refine wpAnyH_take (i := 4) (oi := { dst := some 21, op := Go.Op.load 25 (Go.Operand.tmp 2), type := 25, pos := "l05_perfect.go:37", after := #[], guard := none }) (v := ?_) rfl (by kernel_rfl) (by kernel_rfl) (by kernel_rfl) (fun _ _ _ h => h) (Or.inl ⟨by rfl, ?_⟩) (by assumption) ?_
          rotate_left
          · (intro w hSw; (try dsimp only at hSw); go_simp; try with_reducible rfl)
          try simp only [Act.put, List.setIfInBounds_toArray, List.set_cons_zero, List.set_cons_succ]
          refine wpAnyH_ready (rs := [5]) (by kernel_rfl) (by simp) ?_
          refine AllReadyH.cons (o := { dst := some 22, op := Go.Op.call { callee := Go.Callee.value (Go.Operand.func 20), args := #[Go.Operand.tmp 21], argTypes := #[25] }, type := 3, pos := "l05_perfect.go:37", after := #[{ on := 4, ground := Go.Ground.data }], guard := none }) rfl (fun K5 hK5 => ?_) AllReadyH.nil
          go_simp
          (refine (HG.out _).mono ?_; rintro e v1 ⟨rfl, hb1⟩; have hk2 := Lib.hid (hks.out.dr.call hb1); obtain ⟨⟨p1, q1⟩, -⟩ := hk2.out.2.1; obtain ⟨ad', hae, -, hc1⟩ := ints_cell hk2.out.2.2.2.2 HU.out; cases hae)
          go_wp2_with fail
          refine hK5.out _ _ ?_ (fun hHeld1 => ?_)
          · (try dsimp only); go_keep
          clear hK5 K5 hHeld0
          try simp only [Act.put, List.setIfInBounds_toArray, List.set_cons_zero, List.set_cons_succ]
          refine wpAnyH_take (i := 6) (oi := { dst := some 23, op := Go.Op.binOp Go.BinOp.sub 3 (Go.Operand.tmp 22) (Go.Operand.const (Go.Value.int Go.IntKind.i64 1)) 3, type := 3, pos := "l05_perfect.go:37", after := #[{ on := 5, ground := Go.Ground.data }], guard := none }) (v := ?_) rfl (by kernel_rfl) (by kernel_rfl) (by kernel_rfl) (fun _ _ _ h => h) (Or.inl ⟨by rfl, ?_⟩) (by assumption) ?_
          rotate_left
          · (intro w hSw; (try dsimp only at hSw); go_simp; try with_reducible rfl)
          try simp only [Act.put, List.setIfInBounds_toArray, List.set_cons_zero, List.set_cons_succ]
          refine wpAnyH_ready (rs := [7]) (by kernel_rfl) (by simp) ?_
          refine AllReadyH.cons (o := { dst := some 24, op := Go.Op.call { callee := Go.Callee.value (Go.Operand.func 107), args := #[Go.Operand.tmp 20, Go.Operand.const (Go.Value.int Go.IntKind.i64 0), Go.Operand.tmp 23], argTypes := #[3, 3, 3] }, type := 4, pos := "l05_perfect.go:37", after := #[{ on := 3, ground := Go.Ground.data }, { on := 6, ground := Go.Ground.data }, { on := 5, ground := Go.Ground.chain }], guard := none }) rfl (fun K7 hK7 => ?_) AllReadyH.nil
          go_simp
          (refine (HI.out _ _ _ _).mono ?_; rintro e v2 ⟨rfl, rfl⟩)
          go_wp2_with fail
          refine hK7.out _ _ ?_ (fun hHeld2 => ?_)
          · (try dsimp only); go_keep
          clear hK7 K7 hHeld1
          try simp only [Act.put, List.setIfInBounds_toArray, List.set_cons_zero, List.set_cons_succ]
          refine wpAnyH_take (i := 8) (oi := { dst := some 25, op := Go.Op.unOp Go.UnOp.not 4 (Go.Operand.tmp 24), type := 4, pos := "l05_perfect.go:37", after := #[{ on := 7, ground := Go.Ground.data }], guard := none }) (v := ?_) rfl (by kernel_rfl) (by kernel_rfl) (by kernel_rfl) (fun _ _ _ h => h) (Or.inl ⟨by rfl, ?_⟩) (by assumption) ?_
          rotate_left
          · (intro w hSw; (try dsimp only at hSw); go_simp; try with_reducible rfl)
          try simp only [Act.put, List.setIfInBounds_toArray, List.set_cons_zero, List.set_cons_succ]
          refine wpAnyH_take (i := 9) (oi := { dst := some 26, op := Go.Op.move (Go.Operand.tmp 25), type := 4, pos := "l05_perfect.go:37", after := #[{ on := 8, ground := Go.Ground.data }, { on := 7, ground := Go.Ground.chain }], guard := none }) (v := ?_) rfl (by kernel_rfl) (by kernel_rfl) (by kernel_rfl) (fun _ _ _ h => h) (Or.inl ⟨by rfl, ?_⟩) (by assumption) ?_
          rotate_left
          · (intro w hSw; (try dsimp only at hSw); go_simp; try with_reducible rfl)
          try simp only [Act.put, List.setIfInBounds_toArray, List.set_cons_zero, List.set_cons_succ]
          refine wpAnyH_take (i := 10) (oi := { dst := some 27, op := Go.Op.move (Go.Operand.tmp 1), type := 34, pos := "l05_perfect.go:37", after := #[{ on := 9, ground := Go.Ground.guard }], guard := some (9, false) }) (v := ?_) rfl (by kernel_rfl) (by kernel_rfl) (by kernel_rfl) (fun _ _ _ h => h) (Or.inl ⟨by rfl, ?_⟩) (by assumption) ?_
          rotate_left
          · (intro w hSw; (try dsimp only at hSw); go_simp; try with_reducible rfl)
          try simp only [Act.put, List.setIfInBounds_toArray, List.set_cons_zero, List.set_cons_succ]
          refine wpAnyH_take (i := 11) (oi := { dst := some 28, op := Go.Op.call { callee := Go.Callee.builtin Go.Builtin.len, args := #[Go.Operand.tmp 27], argTypes := #[34] }, type := 3, pos := "l05_perfect.go:37", after := #[{ on := 10, ground := Go.Ground.data }, { on := 9, ground := Go.Ground.guard }], guard := some (9, false) }) (v := ?_) rfl (by kernel_rfl) (by kernel_rfl) (by kernel_rfl) (fun _ _ _ h => h) (Or.inl ⟨by rfl, ?_⟩) (by assumption) ?_
          rotate_left
          · (intro w hSw; (try dsimp only at hSw); go_simp; try with_reducible rfl)
          try simp only [Act.put, List.setIfInBounds_toArray, List.set_cons_zero, List.set_cons_succ]
          refine wpAnyH_take (i := 12) (oi := { dst := some 29, op := Go.Op.binOp Go.BinOp.gtr 3 (Go.Operand.tmp 28) (Go.Operand.const (Go.Value.int Go.IntKind.i64 100)) 3, type := 4, pos := "l05_perfect.go:37", after := #[{ on := 11, ground := Go.Ground.data }, { on := 9, ground := Go.Ground.guard }], guard := some (9, false) }) (v := ?_) rfl (by kernel_rfl) (by kernel_rfl) (by kernel_rfl) (fun _ _ _ h => h) (Or.inl ⟨by rfl, ?_⟩) (by assumption) ?_
          rotate_left
          · (intro w hSw; (try dsimp only at hSw); go_simp; try with_reducible rfl)
          try simp only [Act.put, List.setIfInBounds_toArray, List.set_cons_zero, List.set_cons_succ]
          refine wpAnyH_take (i := 13) (oi := { dst := some 30, op := Go.Op.pick (Go.Operand.tmp 26) (Go.Operand.const (Go.Value.bool true)) (Go.Operand.tmp 29), type := 4, pos := "l05_perfect.go:37", after := #[{ on := 9, ground := Go.Ground.data }, { on := 12, ground := Go.Ground.data }], guard := none }) (v := ?_) rfl (by kernel_rfl) (by kernel_rfl) (by kernel_rfl) (fun _ _ _ h => h) (Or.inl ⟨by rfl, ?_⟩) (by assumption) ?_
          rotate_left
          · (intro w hSw; (try dsimp only at hSw); go_simp; try with_reducible rfl)
          try simp only [Act.put, List.setIfInBounds_toArray, List.set_cons_zero, List.set_cons_succ]
          refine wpAnyH_done (by kernel_rfl) ?_ _
          go_wp2_with fail
          go_roundw
          case rel => exact ⟨k + 1, by omega, by go_num, HN.out, fun _ => h100, hk2.out⟩
          case measure => simp [intOf]; omega
        · have hd : decide ((100 : Int) < (n : Int)) = true := by simp; omega
          have hko : koB x y l = false := by
            unfold koB; rw [decide_eq_false_iff_not]; rintro ⟨-, h2, -⟩; omega
          have HE := Lib.hid (HZ.out hko)
          clear hur h100 hko hr
          generalize gpO x y = G at *
          go_wp2_with fail
          try simp only [List.cons_append, List.nil_append, List.append_eq]
          refine wp_region_held_drew (S := (fun w' => w'.cell? (ad.add k) = some (.int .i64 u) ∧ w'.cell? ⟨W.heap.size, 0, none⟩ = some (.int .i64 x) ∧ w'.cell? ⟨W.heap.size, 1, none⟩ = some (.int .i64 y))) (by kernel_rfl) ?_ (fun hHeld0 => ?_)
          · (try dsimp only); go_keep
          refine wpAnyH_take (i := 0) (oi := { dst := some 17, op := Go.Op.move (Go.Operand.tmp 1), type := 34, pos := "l05_perfect.go:37", after := #[], guard := none }) (v := ?_) rfl (by kernel_rfl) (by kernel_rfl) (by kernel_rfl) (fun _ _ _ h => h) (Or.inl ⟨by rfl, ?_⟩) (by assumption) ?_
          rotate_left
          · (intro w hSw; (try dsimp only at hSw); go_simp; try with_reducible rfl)
          try simp only [Act.put, List.setIfInBounds_toArray, List.set_cons_zero, List.set_cons_succ]
          refine wpAnyH_take (i := 1) (oi := { dst := some 18, op := Go.Op.move (Go.Operand.tmp 7), type := 3, pos := "l05_perfect.go:37", after := #[], guard := none }) (v := ?_) rfl (by kernel_rfl) (by kernel_rfl) (by kernel_rfl) (fun _ _ _ h => h) (Or.inl ⟨by rfl, ?_⟩) (by assumption) ?_
          rotate_left
          · (intro w hSw; (try dsimp only at hSw); go_simp; try with_reducible rfl)
          try simp only [Act.put, List.setIfInBounds_toArray, List.set_cons_zero, List.set_cons_succ]
          refine wpAnyH_take (i := 2) (oi := { dst := some 19, op := Go.Op.indexAddr 34 (Go.Operand.tmp 17) (Go.Operand.tmp 18), type := 0, pos := "l05_perfect.go:37", after := #[{ on := 0, ground := Go.Ground.data }, { on := 1, ground := Go.Ground.data }], guard := none }) (v := ?_) rfl (by kernel_rfl) (by kernel_rfl) (by kernel_rfl) (fun _ _ _ h => h) (Or.inl ⟨by rfl, ?_⟩) (by assumption) ?_
          rotate_left
          · (intro w hSw; (try dsimp only at hSw); go_simp; try with_reducible rfl)
          try simp only [Act.put, List.setIfInBounds_toArray, List.set_cons_zero, List.set_cons_succ]
          refine wpAnyH_take (i := 3) (oi := { dst := some 20, op := Go.Op.load 3 (Go.Operand.tmp 19), type := 3, pos := "l05_perfect.go:37", after := #[{ on := 2, ground := Go.Ground.data }], guard := none }) (v := ?_) rfl (by kernel_rfl) (by kernel_rfl) (by kernel_rfl) (fun _ _ _ h => h) (Or.inl ⟨by rfl, ?_⟩) (by assumption) ?_
          rotate_left
          · (intro w hSw; (try dsimp only at hSw); go_simp; try with_reducible rfl)
          try simp only [Act.put, List.setIfInBounds_toArray, List.set_cons_zero, List.set_cons_succ]
          refine wpAnyH_take (i := 4) (oi := { dst := some 21, op := Go.Op.load 25 (Go.Operand.tmp 2), type := 25, pos := "l05_perfect.go:37", after := #[], guard := none }) (v := ?_) rfl (by kernel_rfl) (by kernel_rfl) (by kernel_rfl) (fun _ _ _ h => h) (Or.inl ⟨by rfl, ?_⟩) (by assumption) ?_
          rotate_left
          · (intro w hSw; (try dsimp only at hSw); go_simp; try with_reducible rfl)
          try simp only [Act.put, List.setIfInBounds_toArray, List.set_cons_zero, List.set_cons_succ]
          refine wpAnyH_ready (rs := [5]) (by kernel_rfl) (by simp) ?_
          refine AllReadyH.cons (o := { dst := some 22, op := Go.Op.call { callee := Go.Callee.value (Go.Operand.func 20), args := #[Go.Operand.tmp 21], argTypes := #[25] }, type := 3, pos := "l05_perfect.go:37", after := #[{ on := 4, ground := Go.Ground.data }], guard := none }) rfl (fun K5 hK5 => ?_) AllReadyH.nil
          go_simp
          (refine (HG.out _).mono ?_; rintro e v1 ⟨rfl, hb1⟩; have hk2 := Lib.hid (hks.out.dr.call hb1); obtain ⟨⟨p1, q1⟩, -⟩ := hk2.out.2.1; obtain ⟨ad', hae, -, hc1⟩ := ints_cell hk2.out.2.2.2.2 HU.out; cases hae)
          go_wp2_with fail
          refine hK5.out _ _ ?_ (fun hHeld1 => ?_)
          · (try dsimp only); go_keep
          clear hK5 K5 hHeld0
          try simp only [Act.put, List.setIfInBounds_toArray, List.set_cons_zero, List.set_cons_succ]
          refine wpAnyH_take (i := 6) (oi := { dst := some 23, op := Go.Op.binOp Go.BinOp.sub 3 (Go.Operand.tmp 22) (Go.Operand.const (Go.Value.int Go.IntKind.i64 1)) 3, type := 3, pos := "l05_perfect.go:37", after := #[{ on := 5, ground := Go.Ground.data }], guard := none }) (v := ?_) rfl (by kernel_rfl) (by kernel_rfl) (by kernel_rfl) (fun _ _ _ h => h) (Or.inl ⟨by rfl, ?_⟩) (by assumption) ?_
          rotate_left
          · (intro w hSw; (try dsimp only at hSw); go_simp; try with_reducible rfl)
          try simp only [Act.put, List.setIfInBounds_toArray, List.set_cons_zero, List.set_cons_succ]
          refine wpAnyH_ready (rs := [7]) (by kernel_rfl) (by simp) ?_
          refine AllReadyH.cons (o := { dst := some 24, op := Go.Op.call { callee := Go.Callee.value (Go.Operand.func 107), args := #[Go.Operand.tmp 20, Go.Operand.const (Go.Value.int Go.IntKind.i64 0), Go.Operand.tmp 23], argTypes := #[3, 3, 3] }, type := 4, pos := "l05_perfect.go:37", after := #[{ on := 3, ground := Go.Ground.data }, { on := 6, ground := Go.Ground.data }, { on := 5, ground := Go.Ground.chain }], guard := none }) rfl (fun K7 hK7 => ?_) AllReadyH.nil
          go_simp
          (refine (HI.out _ _ _ _).mono ?_; rintro e v2 ⟨rfl, rfl⟩)
          go_wp2_with fail
          refine hK7.out _ _ ?_ (fun hHeld2 => ?_)
          · (try dsimp only); go_keep
          clear hK7 K7 hHeld1
          try simp only [Act.put, List.setIfInBounds_toArray, List.set_cons_zero, List.set_cons_succ]
          refine wpAnyH_take (i := 8) (oi := { dst := some 25, op := Go.Op.unOp Go.UnOp.not 4 (Go.Operand.tmp 24), type := 4, pos := "l05_perfect.go:37", after := #[{ on := 7, ground := Go.Ground.data }], guard := none }) (v := ?_) rfl (by kernel_rfl) (by kernel_rfl) (by kernel_rfl) (fun _ _ _ h => h) (Or.inl ⟨by rfl, ?_⟩) (by assumption) ?_
          rotate_left
          · (intro w hSw; (try dsimp only at hSw); go_simp; try with_reducible rfl)
          try simp only [Act.put, List.setIfInBounds_toArray, List.set_cons_zero, List.set_cons_succ]
          refine wpAnyH_take (i := 9) (oi := { dst := some 26, op := Go.Op.move (Go.Operand.tmp 25), type := 4, pos := "l05_perfect.go:37", after := #[{ on := 8, ground := Go.Ground.data }, { on := 7, ground := Go.Ground.chain }], guard := none }) (v := ?_) rfl (by kernel_rfl) (by kernel_rfl) (by kernel_rfl) (fun _ _ _ h => h) (Or.inl ⟨by rfl, ?_⟩) (by assumption) ?_
          rotate_left
          · (intro w hSw; (try dsimp only at hSw); go_simp; try with_reducible rfl)
          try simp only [Act.put, List.setIfInBounds_toArray, List.set_cons_zero, List.set_cons_succ]
          refine wpAnyH_take (i := 10) (oi := { dst := some 27, op := Go.Op.move (Go.Operand.tmp 1), type := 34, pos := "l05_perfect.go:37", after := #[{ on := 9, ground := Go.Ground.guard }], guard := some (9, false) }) (v := ?_) rfl (by kernel_rfl) (by kernel_rfl) (by kernel_rfl) (fun _ _ _ h => h) (Or.inl ⟨by rfl, ?_⟩) (by assumption) ?_
          rotate_left
          · (intro w hSw; (try dsimp only at hSw); go_simp; try with_reducible rfl)
          try simp only [Act.put, List.setIfInBounds_toArray, List.set_cons_zero, List.set_cons_succ]
          refine wpAnyH_take (i := 11) (oi := { dst := some 28, op := Go.Op.call { callee := Go.Callee.builtin Go.Builtin.len, args := #[Go.Operand.tmp 27], argTypes := #[34] }, type := 3, pos := "l05_perfect.go:37", after := #[{ on := 10, ground := Go.Ground.data }, { on := 9, ground := Go.Ground.guard }], guard := some (9, false) }) (v := ?_) rfl (by kernel_rfl) (by kernel_rfl) (by kernel_rfl) (fun _ _ _ h => h) (Or.inl ⟨by rfl, ?_⟩) (by assumption) ?_
          rotate_left
          · (intro w hSw; (try dsimp only at hSw); go_simp; try with_reducible rfl)
          try simp only [Act.put, List.setIfInBounds_toArray, List.set_cons_zero, List.set_cons_succ]
          refine wpAnyH_take (i := 12) (oi := { dst := some 29, op := Go.Op.binOp Go.BinOp.gtr 3 (Go.Operand.tmp 28) (Go.Operand.const (Go.Value.int Go.IntKind.i64 100)) 3, type := 4, pos := "l05_perfect.go:37", after := #[{ on := 11, ground := Go.Ground.data }, { on := 9, ground := Go.Ground.guard }], guard := some (9, false) }) (v := ?_) rfl (by kernel_rfl) (by kernel_rfl) (by kernel_rfl) (fun _ _ _ h => h) (Or.inl ⟨by rfl, ?_⟩) (by assumption) ?_
          rotate_left
          · (intro w hSw; (try dsimp only at hSw); go_simp; try with_reducible rfl)
          try simp only [Act.put, List.setIfInBounds_toArray, List.set_cons_zero, List.set_cons_succ]
          refine wpAnyH_take (i := 13) (oi := { dst := some 30, op := Go.Op.pick (Go.Operand.tmp 26) (Go.Operand.const (Go.Value.bool true)) (Go.Operand.tmp 29), type := 4, pos := "l05_perfect.go:37", after := #[{ on := 9, ground := Go.Ground.data }, { on := 12, ground := Go.Ground.data }], guard := none }) (v := ?_) rfl (by kernel_rfl) (by kernel_rfl) (by kernel_rfl) (fun _ _ _ h => h) (Or.inl ⟨by rfl, ?_⟩) (by assumption) ?_
          rotate_left
          · (intro w hSw; (try dsimp only at hSw); go_simp; try with_reducible rfl)
          try simp only [Act.put, List.setIfInBounds_toArray, List.set_cons_zero, List.set_cons_succ]
          refine wpAnyH_done (by kernel_rfl) ?_ _
          obtain ⟨⟨e0, e1, e2⟩, f0, f1, f2⟩ := row3_cells hk2.out.2.2.1
          go_wp2_with fail
          refine bodyPost_ret (v := .tuple #[.agg #[.int .i64 0, .int .i64 0, .int .i64 0], .bool false]) (by simp [results, Try.results48, go_sem, e0, e1, e2]) rfl (HE.out _ ?_)
          exact ((hk2.out.1.setCell (by simp) _).setCell (by simp) _).setCell (by simp) _
      · have hinb : inB u 0 (gpO x y - 1) = false := decide_eq_false (by omega)
        have HE := Lib.hid (HZ.out (HNo.out u hmem hur))
        clear hur hr
        generalize gpO x y = G at *
        go_wp2_with fail
        try simp only [List.cons_append, List.nil_append, List.append_eq]
        refine wp_region_held_drew (S := (fun w' => w'.cell? (ad.add k) = some (.int .i64 u) ∧ w'.cell? ⟨W.heap.size, 0, none⟩ = some (.int .i64 x) ∧ w'.cell? ⟨W.heap.size, 1, none⟩ = some (.int .i64 y))) (by kernel_rfl) ?_ (fun hHeld0 => ?_)
        · (try dsimp only); go_keep
        refine wpAnyH_take (i := 0) (oi := { dst := some 17, op := Go.Op.move (Go.Operand.tmp 1), type := 34, pos := "l05_perfect.go:37", after := #[], guard := none }) (v := ?_) rfl (by kernel_rfl) (by kernel_rfl) (by kernel_rfl) (fun _ _ _ h => h) (Or.inl ⟨by rfl, ?_⟩) (by assumption) ?_
        rotate_left
        · (intro w hSw; (try dsimp only at hSw); go_simp; try with_reducible rfl)
        try simp only [Act.put, List.setIfInBounds_toArray, List.set_cons_zero, List.set_cons_succ]
        refine wpAnyH_take (i := 1) (oi := { dst := some 18, op := Go.Op.move (Go.Operand.tmp 7), type := 3, pos := "l05_perfect.go:37", after := #[], guard := none }) (v := ?_) rfl (by kernel_rfl) (by kernel_rfl) (by kernel_rfl) (fun _ _ _ h => h) (Or.inl ⟨by rfl, ?_⟩) (by assumption) ?_
        rotate_left
        · (intro w hSw; (try dsimp only at hSw); go_simp; try with_reducible rfl)
        try simp only [Act.put, List.setIfInBounds_toArray, List.set_cons_zero, List.set_cons_succ]
        refine wpAnyH_take (i := 2) (oi := { dst := some 19, op := Go.Op.indexAddr 34 (Go.Operand.tmp 17) (Go.Operand.tmp 18), type := 0, pos := "l05_perfect.go:37", after := #[{ on := 0, ground := Go.Ground.data }, { on := 1, ground := Go.Ground.data }], guard := none }) (v := ?_) rfl (by kernel_rfl) (by kernel_rfl) (by kernel_rfl) (fun _ _ _ h => h) (Or.inl ⟨by rfl, ?_⟩) (by assumption) ?_
        rotate_left
        · (intro w hSw; (try dsimp only at hSw); go_simp; try with_reducible rfl)
        try simp only [Act.put, List.setIfInBounds_toArray, List.set_cons_zero, List.set_cons_succ]
        refine wpAnyH_take (i := 3) (oi := { dst := some 20, op := Go.Op.load 3 (Go.Operand.tmp 19), type := 3, pos := "l05_perfect.go:37", after := #[{ on := 2, ground := Go.Ground.data }], guard := none }) (v := ?_) rfl (by kernel_rfl) (by kernel_rfl) (by kernel_rfl) (fun _ _ _ h => h) (Or.inl ⟨by rfl, ?_⟩) (by assumption) ?_
        rotate_left
        · (intro w hSw; (try dsimp only at hSw); go_simp; try with_reducible rfl)
        try simp only [Act.put, List.setIfInBounds_toArray, List.set_cons_zero, List.set_cons_succ]
        refine wpAnyH_take (i := 4) (oi := { dst := some 21, op := Go.Op.load 25 (Go.Operand.tmp 2), type := 25, pos := "l05_perfect.go:37", after := #[], guard := none }) (v := ?_) rfl (by kernel_rfl) (by kernel_rfl) (by kernel_rfl) (fun _ _ _ h => h) (Or.inl ⟨by rfl, ?_⟩) (by assumption) ?_
        rotate_left
        · (intro w hSw; (try dsimp only at hSw); go_simp; try with_reducible rfl)
        try simp only [Act.put, List.setIfInBounds_toArray, List.set_cons_zero, List.set_cons_succ]
        refine wpAnyH_ready (rs := [5]) (by kernel_rfl) (by simp) ?_
        refine AllReadyH.cons (o := { dst := some 22, op := Go.Op.call { callee := Go.Callee.value (Go.Operand.func 20), args := #[Go.Operand.tmp 21], argTypes := #[25] }, type := 3, pos := "l05_perfect.go:37", after := #[{ on := 4, ground := Go.Ground.data }], guard := none }) rfl (fun K5 hK5 => ?_) AllReadyH.nil
        go_simp
        (refine (HG.out _).mono ?_; rintro e v1 ⟨rfl, hb1⟩; have hk2 := Lib.hid (hks.out.dr.call hb1); obtain ⟨⟨p1, q1⟩, -⟩ := hk2.out.2.1; obtain ⟨ad', hae, -, hc1⟩ := ints_cell hk2.out.2.2.2.2 HU.out; cases hae)
        go_wp2_with fail
        refine hK5.out _ _ ?_ (fun hHeld1 => ?_)
        · (try dsimp only); go_keep
        clear hK5 K5 hHeld0
        try simp only [Act.put, List.setIfInBounds_toArray, List.set_cons_zero, List.set_cons_succ]
        refine wpAnyH_take (i := 6) (oi := { dst := some 23, op := Go.Op.binOp Go.BinOp.sub 3 (Go.Operand.tmp 22) (Go.Operand.const (Go.Value.int Go.IntKind.i64 1)) 3, type := 3, pos := "l05_perfect.go:37", after := #[{ on := 5, ground := Go.Ground.data }], guard := none }) (v := ?_) rfl (by kernel_rfl) (by kernel_rfl) (by kernel_rfl) (fun _ _ _ h => h) (Or.inl ⟨by rfl, ?_⟩) (by assumption) ?_
        rotate_left
        · (intro w hSw; (try dsimp only at hSw); go_simp; try with_reducible rfl)
        try simp only [Act.put, List.setIfInBounds_toArray, List.set_cons_zero, List.set_cons_succ]
        refine wpAnyH_ready (rs := [7]) (by kernel_rfl) (by simp) ?_
        refine AllReadyH.cons (o := { dst := some 24, op := Go.Op.call { callee := Go.Callee.value (Go.Operand.func 107), args := #[Go.Operand.tmp 20, Go.Operand.const (Go.Value.int Go.IntKind.i64 0), Go.Operand.tmp 23], argTypes := #[3, 3, 3] }, type := 4, pos := "l05_perfect.go:37", after := #[{ on := 3, ground := Go.Ground.data }, { on := 6, ground := Go.Ground.data }, { on := 5, ground := Go.Ground.chain }], guard := none }) rfl (fun K7 hK7 => ?_) AllReadyH.nil
        go_simp
        (refine (HI.out _ _ _ _).mono ?_; rintro e v2 ⟨rfl, rfl⟩)
        go_wp2_with fail
        refine hK7.out _ _ ?_ (fun hHeld2 => ?_)
        · (try dsimp only); go_keep
        clear hK7 K7 hHeld1
        try simp only [Act.put, List.setIfInBounds_toArray, List.set_cons_zero, List.set_cons_succ]
        refine wpAnyH_take (i := 8) (oi := { dst := some 25, op := Go.Op.unOp Go.UnOp.not 4 (Go.Operand.tmp 24), type := 4, pos := "l05_perfect.go:37", after := #[{ on := 7, ground := Go.Ground.data }], guard := none }) (v := ?_) rfl (by kernel_rfl) (by kernel_rfl) (by kernel_rfl) (fun _ _ _ h => h) (Or.inl ⟨by rfl, ?_⟩) (by assumption) ?_
        rotate_left
        · (intro w hSw; (try dsimp only at hSw); go_simp; try with_reducible rfl)
        try simp only [Act.put, List.setIfInBounds_toArray, List.set_cons_zero, List.set_cons_succ]
        refine wpAnyH_take (i := 9) (oi := { dst := some 26, op := Go.Op.move (Go.Operand.tmp 25), type := 4, pos := "l05_perfect.go:37", after := #[{ on := 8, ground := Go.Ground.data }, { on := 7, ground := Go.Ground.chain }], guard := none }) (v := ?_) rfl (by kernel_rfl) (by kernel_rfl) (by kernel_rfl) (fun _ _ _ h => h) (Or.inl ⟨by rfl, ?_⟩) (by assumption) ?_
        rotate_left
        · (intro w hSw; (try dsimp only at hSw); go_simp; try with_reducible rfl)
        try simp only [Act.put, List.setIfInBounds_toArray, List.set_cons_zero, List.set_cons_succ]
        refine wpAnyH_take (i := 10) (oi := { dst := some 27, op := Go.Op.move (Go.Operand.tmp 1), type := 34, pos := "l05_perfect.go:37", after := #[{ on := 9, ground := Go.Ground.guard }], guard := some (9, false) }) (v := undef) rfl (by kernel_rfl) (by kernel_rfl) (by kernel_rfl) (fun _ _ _ h => h) (Or.inr ⟨by rfl, rfl⟩) (by assumption) ?_
        try simp only [Act.put, List.setIfInBounds_toArray, List.set_cons_zero, List.set_cons_succ]
        refine wpAnyH_take (i := 11) (oi := { dst := some 28, op := Go.Op.call { callee := Go.Callee.builtin Go.Builtin.len, args := #[Go.Operand.tmp 27], argTypes := #[34] }, type := 3, pos := "l05_perfect.go:37", after := #[{ on := 10, ground := Go.Ground.data }, { on := 9, ground := Go.Ground.guard }], guard := some (9, false) }) (v := undef) rfl (by kernel_rfl) (by kernel_rfl) (by kernel_rfl) (fun _ _ _ h => h) (Or.inr ⟨by rfl, rfl⟩) (by assumption) ?_
        try simp only [Act.put, List.setIfInBounds_toArray, List.set_cons_zero, List.set_cons_succ]
        refine wpAnyH_take (i := 12) (oi := { dst := some 29, op := Go.Op.binOp Go.BinOp.gtr 3 (Go.Operand.tmp 28) (Go.Operand.const (Go.Value.int Go.IntKind.i64 100)) 3, type := 4, pos := "l05_perfect.go:37", after := #[{ on := 11, ground := Go.Ground.data }, { on := 9, ground := Go.Ground.guard }], guard := some (9, false) }) (v := undef) rfl (by kernel_rfl) (by kernel_rfl) (by kernel_rfl) (fun _ _ _ h => h) (Or.inr ⟨by rfl, rfl⟩) (by assumption) ?_
        try simp only [Act.put, List.setIfInBounds_toArray, List.set_cons_zero, List.set_cons_succ]
        refine wpAnyH_take (i := 13) (oi := { dst := some 30, op := Go.Op.pick (Go.Operand.tmp 26) (Go.Operand.const (Go.Value.bool true)) (Go.Operand.tmp 29), type := 4, pos := "l05_perfect.go:37", after := #[{ on := 9, ground := Go.Ground.data }, { on := 12, ground := Go.Ground.data }], guard := none }) (v := ?_) rfl (by kernel_rfl) (by kernel_rfl) (by kernel_rfl) (fun _ _ _ h => h) (Or.inl ⟨by rfl, ?_⟩) (by assumption) ?_
        rotate_left
        · (intro w hSw; (try dsimp only at hSw); go_simp; try with_reducible rfl)
        try simp only [Act.put, List.setIfInBounds_toArray, List.set_cons_zero, List.set_cons_succ]
        refine wpAnyH_done (by kernel_rfl) ?_ _
        obtain ⟨⟨e0, e1, e2⟩, f0, f1, f2⟩ := row3_cells hk2.out.2.2.1
        go_wp2_with fail
        refine bodyPost_ret (v := .tuple #[.agg #[.int .i64 0, .int .i64 0, .int .i64 0], .bool false]) (by simp [results, Try.results48, go_sem, e0, e1, e2]) rfl (HE.out _ ?_)
        exact ((hk2.out.1.setCell (by simp) _).setCell (by simp) _).setCell (by simp) _
    · obtain rfl : k = n := by omega
      have h100 : k ≤ 100 := by
        rcases Nat.eq_zero_or_pos k with h | h
        · omega
        · exact HLe.out h
      have hkf : decide ((k : Int) < (k : Int)) = false := by simp
      obtain ⟨⟨b0, b1⟩, -⟩ := hks.out.2.1
      by_cases hok : OkZ x y
      · have HGk : Hid (∀ X, Calls Try.prog 72 #[.agg #[.int .i64 x, .int .i64 y]] X (Bl true X)) := fun X => gridS.gridOk_yes x y X hok.1 hok.2.1 hok.2.2.1 hok.2.2.2
        have hG : gpO x y = gpsZ x y := by unfold gpO; rw [if_pos hok]
        have hko : koB x y l = true := decide_eq_true ⟨hok, by omega, fun u hu => by
          obtain ⟨j, hj⟩ := List.getElem?_of_mem hu
          have := (List.getElem?_eq_some_iff.1 hj).1
          rw [← hG]; exact HIn.out j u (by omega) hj⟩
        have HE : Hid (∀ b X, b = ipB x y (kzL x y l 0) → Below W.heap.size W X → MzB (kmX x y l) (kmY x y l) (kmZ x y l) (kmB x y l) W (.returned (.tuple #[.agg #[.int .i64 x, .int .i64 y, .int .i64 (kzL x y l 0)], .bool b])) X) := fun b X e hb => by
          unfold kmX kmY kmZ kmB; rw [if_pos hko, if_pos hko, if_pos hko, hko, e]; exact ⟨rfl, hb⟩
        have HW := Lib.hid (fun z u X => perfM.wouldJoin_any x y z u X)
        have HSg := Lib.hid (fun z u X => setGap_any x y z u true X)
        have HIp := Lib.hid (fun z X => perfM.isPerfect_any x y z X)
        have HPre : Hid (∀ j z, j ≤ k → z = kzL x y (l.take j) 0 → OkM x y z) := fun j z hj e => by
          rw [e]
          exact kz_ok hok fun g hg => by
            obtain ⟨i, hi⟩ := List.getElem?_of_mem (List.mem_of_mem_take hg)
            have := (List.getElem?_eq_some_iff.1 hi).1
            rw [← hG]; exact HIn.out i g (by omega) hi
        have HStep : Hid (∀ j u z, l[j]? = some u → z = kzL x y (l.take j) 0 → (wjB x y z u = true → sgZ x y z u true = kzL x y (l.take (j + 1)) 0 ∧ sgB x y z u = true) ∧ (wjB x y z u = false → z = kzL x y (l.take (j + 1)) 0)) := fun j u z hu e => by
          rw [kz_take hu, ← e]
          unfold kzS
          refine ⟨fun h => ?_, fun h => by rw [h]; simp⟩
          rw [if_pos h]
          unfold wjB at h
          rw [Bool.and_eq_true, decide_eq_true_iff] at h
          obtain ⟨⟨h1, h2, h3, h4⟩, -⟩ := h
          have hs : sgB x y z u = true := decide_eq_true ⟨h1, h2, h3⟩
          unfold sgZ; rw [if_pos hs, if_neg h4]; exact ⟨rfl, hs⟩
        clear HZ hko hG HNo HIn HLe HI HG G0 G1 hw1 hk
        go_wp2_with fail
        refine (HGk.out _).mono ?_
        rintro e w1 ⟨rfl, hb⟩
        have hk1 := Lib.hid (hks.out.call hb)
        clear hb hks b0 b1 hr
        go_wp2_with fail
        go_loopw [8] (fun u8 wq => ∃ (j : Nat) (z : Int), j ≤ k ∧ u8 = .int .i64 j ∧ z = kzL x y (l.take j) 0 ∧ KS W x y z A l wq) (fun u8 _ => k - (intOf u8).toNat)
        case atStart => exact ⟨0, 0, Nat.zero_le _, rfl, rfl, hk1.out⟩
        case round =>
          clear hk1
          obtain ⟨j, z, hj, rfl, hz, hks0⟩ := hrel
          have hks := Lib.hid hks0
          have Hz := Lib.hid hz
          obtain ⟨⟨m0, m1, m2⟩, f0, f1, f2⟩ := row3_cells hks0.2.2.2.1
          clear hks0 hz
          by_cases hjk : j < k
          · have hu := List.getElem?_eq_getElem (show j < l.length by omega)
            generalize l[j] = u at hu
            obtain ⟨ad, rfl, hab, hcell⟩ := ints_cell hks.out.2.2.2.2 hu
            have hj0 : (0 : Int) ≤ (j : Int) := Int.natCast_nonneg _
            have hj1 : (j : Int) < (k : Int) := by omega
            have HU := Lib.hid hu
            have HS1 := Lib.hid (HStep.out j u z hu Hz.out)
            clear hu f0 f1 f2
            cases hwj : wjB x y z u with
            | true =>
              have HWj := Lib.hid (fun X => HW.out z u X)
              rw [hwj] at HWj
              obtain ⟨hs1, hs2⟩ := HS1.out.1 hwj
              have HSt := Lib.hid (fun X => HSg.out z u X)
              rw [hs2] at HSt
              have Hs1 := Lib.hid hs1
              clear hwj hs1 hs2
              generalize sgZ x y z u true = z' at *
              go_wp2_with fail
              try simp only [List.cons_append, List.nil_append, List.append_eq]
              refine wp_region_held_drew (S := (fun w' => w'.cell? (ad.add j) = some (.int .i64 u) ∧ w'.cell? ⟨W.heap.size + 1 + 1, 0, none⟩ = some (.int .i64 x) ∧ w'.cell? ⟨W.heap.size + 1 + 1, 1, none⟩ = some (.int .i64 y) ∧ w'.cell? ⟨W.heap.size + 1 + 1, 2, none⟩ = some (.int .i64 z))) (by kernel_rfl) ?_ (fun hHeld0 => ?_)
              · (try dsimp only); go_keep
              refine wpAnyH_take (i := 0) (oi := { dst := some 42, op := Go.Op.load 27 (Go.Operand.tmp 6), type := 27, pos := "l05_perfect.go:45", after := #[], guard := none }) (v := ?_) rfl (by kernel_rfl) (by kernel_rfl) (by kernel_rfl) (fun _ _ _ h => h) (Or.inl ⟨by rfl, ?_⟩) (by assumption) ?_
              rotate_left
              · (intro w hSw; (try dsimp only at hSw); go_simp; try with_reducible rfl)
              try simp only [Act.put, List.setIfInBounds_toArray, List.set_cons_zero, List.set_cons_succ]
              refine wpAnyH_take (i := 1) (oi := { dst := some 43, op := Go.Op.move (Go.Operand.tmp 1), type := 34, pos := "l05_perfect.go:45", after := #[], guard := none }) (v := ?_) rfl (by kernel_rfl) (by kernel_rfl) (by kernel_rfl) (fun _ _ _ h => h) (Or.inl ⟨by rfl, ?_⟩) (by assumption) ?_
              rotate_left
              · (intro w hSw; (try dsimp only at hSw); go_simp; try with_reducible rfl)
              try simp only [Act.put, List.setIfInBounds_toArray, List.set_cons_zero, List.set_cons_succ]
              refine wpAnyH_take (i := 2) (oi := { dst := some 44, op := Go.Op.move (Go.Operand.tmp 8), type := 3, pos := "l05_perfect.go:45", after := #[], guard := none }) (v := ?_) rfl (by kernel_rfl) (by kernel_rfl) (by kernel_rfl) (fun _ _ _ h => h) (Or.inl ⟨by rfl, ?_⟩) (by assumption) ?_
              rotate_left
              · (intro w hSw; (try dsimp only at hSw); go_simp; try with_reducible rfl)
              try simp only [Act.put, List.setIfInBounds_toArray, List.set_cons_zero, List.set_cons_succ]
              refine wpAnyH_take (i := 3) (oi := { dst := some 45, op := Go.Op.indexAddr 34 (Go.Operand.tmp 43) (Go.Operand.tmp 44), type := 0, pos := "l05_perfect.go:45", after := #[{ on := 1, ground := Go.Ground.data }, { on := 2, ground := Go.Ground.data }], guard := none }) (v := ?_) rfl (by kernel_rfl) (by kernel_rfl) (by kernel_rfl) (fun _ _ _ h => h) (Or.inl ⟨by rfl, ?_⟩) (by assumption) ?_
              rotate_left
              · (intro w hSw; (try dsimp only at hSw); go_simp; try with_reducible rfl)
              try simp only [Act.put, List.setIfInBounds_toArray, List.set_cons_zero, List.set_cons_succ]
              refine wpAnyH_take (i := 4) (oi := { dst := some 46, op := Go.Op.load 3 (Go.Operand.tmp 45), type := 3, pos := "l05_perfect.go:45", after := #[{ on := 3, ground := Go.Ground.data }], guard := none }) (v := ?_) rfl (by kernel_rfl) (by kernel_rfl) (by kernel_rfl) (fun _ _ _ h => h) (Or.inl ⟨by rfl, ?_⟩) (by assumption) ?_
              rotate_left
              · (intro w hSw; (try dsimp only at hSw); go_simp; try with_reducible rfl)
              try simp only [Act.put, List.setIfInBounds_toArray, List.set_cons_zero, List.set_cons_succ]
              refine wpAnyH_ready (rs := [5]) (by kernel_rfl) (by simp) ?_
              refine AllReadyH.cons (o := { dst := some 47, op := Go.Op.call { callee := Go.Callee.value (Go.Operand.func 108), args := #[Go.Operand.tmp 42, Go.Operand.tmp 46], argTypes := #[27, 3] }, type := 4, pos := "l05_perfect.go:45", after := #[{ on := 0, ground := Go.Ground.data }, { on := 4, ground := Go.Ground.data }], guard := none }) rfl (fun K5 hK5 => ?_) AllReadyH.nil
              go_simp
              (refine (HWj.out _).mono ?_; rintro e v1 ⟨rfl, hb1⟩; have hk2 := Lib.hid (hks.out.dr.call hb1); obtain ⟨⟨p1, q1, r1⟩, -⟩ := row3_cells hk2.out.2.2.2.1; obtain ⟨ad', hae, -, hc1⟩ := ints_cell hk2.out.2.2.2.2 HU.out; cases hae)
              go_wp2_with fail
              refine hK5.out _ _ ?_ (fun hHeld1 => ?_)
              · (try dsimp only); go_keep
              clear hK5 K5 hHeld0
              try simp only [Act.put, List.setIfInBounds_toArray, List.set_cons_zero, List.set_cons_succ]
              refine wpAnyH_done (by kernel_rfl) ?_ _
              clear m0 m1 m2 hcell hks
              go_wp2_with fail
              have hne : W.heap.size + 1 + 1 ≠ (ad.add j).block := by rw [block_of_add]; omega
              try simp only [List.cons_append, List.nil_append, List.append_eq]
              refine wp_region_held_drew (S := (fun w' => w'.cell? (ad.add j) = some (.int .i64 u))) (by kernel_rfl) ?_ (fun hHeld0 => ?_)
              · (try dsimp only); go_keep
              refine wpAnyH_take (i := 1) (oi := { dst := some 50, op := Go.Op.move (Go.Operand.tmp 1), type := 34, pos := "l05_perfect.go:46", after := #[], guard := none }) (v := ?_) rfl (by kernel_rfl) (by kernel_rfl) (by kernel_rfl) (fun _ _ _ h => h) (Or.inl ⟨by rfl, ?_⟩) (by assumption) ?_
              rotate_left
              · (intro w hSw; (try dsimp only at hSw); go_simp; try with_reducible rfl)
              try simp only [Act.put, List.setIfInBounds_toArray, List.set_cons_zero, List.set_cons_succ]
              refine wpAnyH_take (i := 2) (oi := { dst := some 51, op := Go.Op.move (Go.Operand.tmp 8), type := 3, pos := "l05_perfect.go:46", after := #[], guard := none }) (v := ?_) rfl (by kernel_rfl) (by kernel_rfl) (by kernel_rfl) (fun _ _ _ h => h) (Or.inl ⟨by rfl, ?_⟩) (by assumption) ?_
              rotate_left
              · (intro w hSw; (try dsimp only at hSw); go_simp; try with_reducible rfl)
              try simp only [Act.put, List.setIfInBounds_toArray, List.set_cons_zero, List.set_cons_succ]
              refine wpAnyH_take (i := 3) (oi := { dst := some 52, op := Go.Op.indexAddr 34 (Go.Operand.tmp 50) (Go.Operand.tmp 51), type := 0, pos := "l05_perfect.go:46", after := #[{ on := 1, ground := Go.Ground.data }, { on := 2, ground := Go.Ground.data }], guard := none }) (v := ?_) rfl (by kernel_rfl) (by kernel_rfl) (by kernel_rfl) (fun _ _ _ h => h) (Or.inl ⟨by rfl, ?_⟩) (by assumption) ?_
              rotate_left
              · (intro w hSw; (try dsimp only at hSw); go_simp; try with_reducible rfl)
              try simp only [Act.put, List.setIfInBounds_toArray, List.set_cons_zero, List.set_cons_succ]
              refine wpAnyH_take (i := 4) (oi := { dst := some 53, op := Go.Op.load 3 (Go.Operand.tmp 52), type := 3, pos := "l05_perfect.go:46", after := #[{ on := 3, ground := Go.Ground.data }], guard := none }) (v := ?_) rfl (by kernel_rfl) (by kernel_rfl) (by kernel_rfl) (fun _ _ _ h => h) (Or.inl ⟨by rfl, ?_⟩) (by assumption) ?_
              rotate_left
              · (intro w hSw; (try dsimp only at hSw); go_simp; try with_reducible rfl)
              try simp only [Act.put, List.setIfInBounds_toArray, List.set_cons_zero, List.set_cons_succ]
              refine wpAnyH_ready (rs := [0]) (by kernel_rfl) (by simp) ?_
              refine AllReadyH.cons (o := { dst := some 49, op := Go.Op.load 27 (Go.Operand.tmp 6), type := 27, pos := "l05_perfect.go:46", after := #[], guard := none }) rfl (fun K0 hK0 => ?_) AllReadyH.nil
              go_simp
              refine hK0.out _ _ ?_ (fun hHeld1 => ?_)
              · (try dsimp only); go_keep
              clear hK0 K0 hHeld0
              try simp only [Act.put, List.setIfInBounds_toArray, List.set_cons_zero, List.set_cons_succ]
              refine wpAnyH_ready (rs := [5]) (by kernel_rfl) (by simp) ?_
              refine AllReadyH.cons (o := { dst := some 54, op := Go.Op.call { callee := Go.Callee.value (Go.Operand.func 109), args := #[Go.Operand.tmp 49, Go.Operand.tmp 53, Go.Operand.const (Go.Value.bool true)], argTypes := #[27, 3, 4] }, type := 36, pos := "l05_perfect.go:46", after := #[{ on := 0, ground := Go.Ground.data }, { on := 4, ground := Go.Ground.data }], guard := none }) rfl (fun K5 hK5 => ?_) AllReadyH.nil
              go_simp
              (refine (HSt.out _).mono ?_; rintro e v2 ⟨rfl, hb2⟩; have hk3 := Lib.hid (hk2.out.dr.call hb2); obtain ⟨⟨p2, q2, r2⟩, g0, g1, g2⟩ := row3_cells hk3.out.2.2.2.1; obtain ⟨ad', hae, -, hc2⟩ := ints_cell hk3.out.2.2.2.2 HU.out; cases hae)
              go_wp2_with fail
              refine hK5.out _ _ ?_ (fun hHeld2 => ?_)
              · (try dsimp only); go_keep
              clear hK5 K5 hHeld1
              try simp only [Act.put, List.setIfInBounds_toArray, List.set_cons_zero, List.set_cons_succ]
              refine wpAnyH_take (i := 6) (oi := { dst := some 48, op := Go.Op.move (Go.Operand.tmp 54), type := 36, pos := "l05_perfect.go:46", after := #[{ on := 5, ground := Go.Ground.data }], guard := none }) (v := ?_) rfl (by kernel_rfl) (by kernel_rfl) (by kernel_rfl) (fun _ _ _ h => h) (Or.inl ⟨by rfl, ?_⟩) (by assumption) ?_
              rotate_left
              · (intro w hSw; (try dsimp only at hSw); go_simp; try with_reducible rfl)
              try simp only [Act.put, List.setIfInBounds_toArray, List.set_cons_zero, List.set_cons_succ]
              refine wpAnyH_take (i := 7) (oi := { dst := some 55, op := Go.Op.extract (Go.Operand.tmp 48) 0, type := 27, pos := "l05_perfect.go:46", after := #[{ on := 6, ground := Go.Ground.data }], guard := none }) (v := ?_) rfl (by kernel_rfl) (by kernel_rfl) (by kernel_rfl) (fun _ _ _ h => h) (Or.inl ⟨by rfl, ?_⟩) (by assumption) ?_
              rotate_left
              · (intro w hSw; (try dsimp only at hSw); go_simp; try with_reducible rfl)
              try simp only [Act.put, List.setIfInBounds_toArray, List.set_cons_zero, List.set_cons_succ]
              refine wpAnyH_take (i := 8) (oi := { dst := some 56, op := Go.Op.extract (Go.Operand.tmp 48) 1, type := 4, pos := "l05_perfect.go:46", after := #[{ on := 6, ground := Go.Ground.data }, { on := 9, ground := Go.Ground.gcOnly Go.Departure.lateStores }], guard := none }) (v := ?_) rfl (by kernel_rfl) (by kernel_rfl) (by kernel_rfl) (fun _ _ _ h => h) (Or.inl ⟨by rfl, ?_⟩) (by assumption) ?_
              rotate_left
              · (intro w hSw; (try dsimp only at hSw); go_simp; try with_reducible rfl)
              try simp only [Act.put, List.setIfInBounds_toArray, List.set_cons_zero, List.set_cons_succ]
              refine wpAnyH_ready (rs := [9]) (by kernel_rfl) (by simp) ?_
              refine AllReadyH.cons (o := { dst := none, op := Go.Op.store 27 (Go.Operand.tmp 6) (Go.Operand.tmp 55), type := 0, pos := "l05_perfect.go:46", after := #[{ on := 7, ground := Go.Ground.data }, { on := 5, ground := Go.Ground.chain }, { on := 0, ground := Go.Ground.phase }, { on := 1, ground := Go.Ground.phase }, { on := 2, ground := Go.Ground.phase }, { on := 3, ground := Go.Ground.phase }, { on := 4, ground := Go.Ground.phase }, { on := 5, ground := Go.Ground.phase }, { on := 6, ground := Go.Ground.phase }, { on := 7, ground := Go.Ground.phase }, { on := 8, ground := Go.Ground.textOnly Go.Departure.lateStores }], guard := none }) rfl (fun K9 hK9 => ?_) AllReadyH.nil
              go_simp
              refine hK9.out _ _ ?_ (fun hHeld3 => ?_)
              · (try dsimp only); go_keep
              clear hK9 K9 hHeld2
              try simp only [Act.put, List.setIfInBounds_toArray, List.set_cons_zero, List.set_cons_succ]
              refine wpAnyH_done (by kernel_rfl) ?_ _
              have HN := Lib.hid (hk3.out.put z')
              go_wp2_with fail
              go_roundw
              case rel => exact ⟨j + 1, z', by omega, by go_num, Hs1.out, HN.out⟩
              case measure => simp [intOf]; omega
            | false =>
              have HWj := Lib.hid (fun X => HW.out z u X)
              rw [hwj] at HWj
              have Hs1 := Lib.hid (HS1.out.2 hwj)
              clear hwj
              go_wp2_with fail
              try simp only [List.cons_append, List.nil_append, List.append_eq]
              refine wp_region_held_drew (S := (fun w' => w'.cell? (ad.add j) = some (.int .i64 u) ∧ w'.cell? ⟨W.heap.size + 1 + 1, 0, none⟩ = some (.int .i64 x) ∧ w'.cell? ⟨W.heap.size + 1 + 1, 1, none⟩ = some (.int .i64 y) ∧ w'.cell? ⟨W.heap.size + 1 + 1, 2, none⟩ = some (.int .i64 z))) (by kernel_rfl) ?_ (fun hHeld0 => ?_)
              · (try dsimp only); go_keep
              refine wpAnyH_take (i := 0) (oi := { dst := some 42, op := Go.Op.load 27 (Go.Operand.tmp 6), type := 27, pos := "l05_perfect.go:45", after := #[], guard := none }) (v := ?_) rfl (by kernel_rfl) (by kernel_rfl) (by kernel_rfl) (fun _ _ _ h => h) (Or.inl ⟨by rfl, ?_⟩) (by assumption) ?_
              rotate_left
              · (intro w hSw; (try dsimp only at hSw); go_simp; try with_reducible rfl)
              try simp only [Act.put, List.setIfInBounds_toArray, List.set_cons_zero, List.set_cons_succ]
              refine wpAnyH_take (i := 1) (oi := { dst := some 43, op := Go.Op.move (Go.Operand.tmp 1), type := 34, pos := "l05_perfect.go:45", after := #[], guard := none }) (v := ?_) rfl (by kernel_rfl) (by kernel_rfl) (by kernel_rfl) (fun _ _ _ h => h) (Or.inl ⟨by rfl, ?_⟩) (by assumption) ?_
              rotate_left
              · (intro w hSw; (try dsimp only at hSw); go_simp; try with_reducible rfl)
              try simp only [Act.put, List.setIfInBounds_toArray, List.set_cons_zero, List.set_cons_succ]
              refine wpAnyH_take (i := 2) (oi := { dst := some 44, op := Go.Op.move (Go.Operand.tmp 8), type := 3, pos := "l05_perfect.go:45", after := #[], guard := none }) (v := ?_) rfl (by kernel_rfl) (by kernel_rfl) (by kernel_rfl) (fun _ _ _ h => h) (Or.inl ⟨by rfl, ?_⟩) (by assumption) ?_
              rotate_left
              · (intro w hSw; (try dsimp only at hSw); go_simp; try with_reducible rfl)
              try simp only [Act.put, List.setIfInBounds_toArray, List.set_cons_zero, List.set_cons_succ]
              refine wpAnyH_take (i := 3) (oi := { dst := some 45, op := Go.Op.indexAddr 34 (Go.Operand.tmp 43) (Go.Operand.tmp 44), type := 0, pos := "l05_perfect.go:45", after := #[{ on := 1, ground := Go.Ground.data }, { on := 2, ground := Go.Ground.data }], guard := none }) (v := ?_) rfl (by kernel_rfl) (by kernel_rfl) (by kernel_rfl) (fun _ _ _ h => h) (Or.inl ⟨by rfl, ?_⟩) (by assumption) ?_
              rotate_left
              · (intro w hSw; (try dsimp only at hSw); go_simp; try with_reducible rfl)
              try simp only [Act.put, List.setIfInBounds_toArray, List.set_cons_zero, List.set_cons_succ]
              refine wpAnyH_take (i := 4) (oi := { dst := some 46, op := Go.Op.load 3 (Go.Operand.tmp 45), type := 3, pos := "l05_perfect.go:45", after := #[{ on := 3, ground := Go.Ground.data }], guard := none }) (v := ?_) rfl (by kernel_rfl) (by kernel_rfl) (by kernel_rfl) (fun _ _ _ h => h) (Or.inl ⟨by rfl, ?_⟩) (by assumption) ?_
              rotate_left
              · (intro w hSw; (try dsimp only at hSw); go_simp; try with_reducible rfl)
              try simp only [Act.put, List.setIfInBounds_toArray, List.set_cons_zero, List.set_cons_succ]
              refine wpAnyH_ready (rs := [5]) (by kernel_rfl) (by simp) ?_
              refine AllReadyH.cons (o := { dst := some 47, op := Go.Op.call { callee := Go.Callee.value (Go.Operand.func 108), args := #[Go.Operand.tmp 42, Go.Operand.tmp 46], argTypes := #[27, 3] }, type := 4, pos := "l05_perfect.go:45", after := #[{ on := 0, ground := Go.Ground.data }, { on := 4, ground := Go.Ground.data }], guard := none }) rfl (fun K5 hK5 => ?_) AllReadyH.nil
              go_simp
              (refine (HWj.out _).mono ?_; rintro e v1 ⟨rfl, hb1⟩; have hk2 := Lib.hid (hks.out.dr.call hb1); obtain ⟨⟨p1, q1, r1⟩, -⟩ := row3_cells hk2.out.2.2.2.1; obtain ⟨ad', hae, -, hc1⟩ := ints_cell hk2.out.2.2.2.2 HU.out; cases hae)
              go_wp2_with fail
              refine hK5.out _ _ ?_ (fun hHeld1 => ?_)
              · (try dsimp only); go_keep
              clear hK5 K5 hHeld0
              try simp only [Act.put, List.setIfInBounds_toArray, List.set_cons_zero, List.set_cons_succ]
              refine wpAnyH_done (by kernel_rfl) ?_ _
              go_wp2_with fail
              go_roundw
              case rel => exact ⟨j + 1, z, by omega, by go_num, Hs1.out, hk2.out⟩
              case measure => simp [intOf]; omega
          · obtain rfl : j = k := by omega
            have hzl : z = kzL x y l 0 := by rw [Hz.out, List.take_of_length_le (by omega)]
            have HIz := Lib.hid (fun X => HIp.out z X)
            have HEz := Lib.hid (fun X hb => HE.out (ipB x y z) X (by rw [hzl]) hb)
            rw [← hzl] at HEz
            clear f0 f1 f2 hzl HE HIp
            generalize ipB x y z = ip at *
            go_wp2_with fail
            try simp only [List.cons_append, List.nil_append, List.append_eq]
            refine wp_region_held_drew (S := (fun w' => w'.cell? ⟨W.heap.size + 1 + 1, 0, none⟩ = some (.int .i64 x) ∧ w'.cell? ⟨W.heap.size + 1 + 1, 1, none⟩ = some (.int .i64 y) ∧ w'.cell? ⟨W.heap.size + 1 + 1, 2, none⟩ = some (.int .i64 z))) (by kernel_rfl) ?_ (fun hHeld0 => ?_)
            · (try dsimp only); go_keep
            refine wpAnyH_take (i := 0) (oi := { dst := some 57, op := Go.Op.load 27 (Go.Operand.tmp 6), type := 27, pos := "l05_perfect.go:49", after := #[], guard := none }) (v := ?_) rfl (by kernel_rfl) (by kernel_rfl) (by kernel_rfl) (fun _ _ _ h => h) (Or.inl ⟨by rfl, ?_⟩) (by assumption) ?_
            rotate_left
            · (intro w hSw; (try dsimp only at hSw); go_simp; try with_reducible rfl)
            try simp only [Act.put, List.setIfInBounds_toArray, List.set_cons_zero, List.set_cons_succ]
            refine wpAnyH_take (i := 1) (oi := { dst := some 58, op := Go.Op.load 27 (Go.Operand.tmp 6), type := 27, pos := "l05_perfect.go:49", after := #[], guard := none }) (v := ?_) rfl (by kernel_rfl) (by kernel_rfl) (by kernel_rfl) (fun _ _ _ h => h) (Or.inl ⟨by rfl, ?_⟩) (by assumption) ?_
            rotate_left
            · (intro w hSw; (try dsimp only at hSw); go_simp; try with_reducible rfl)
            try simp only [Act.put, List.setIfInBounds_toArray, List.set_cons_zero, List.set_cons_succ]
            refine wpAnyH_ready (rs := [2]) (by kernel_rfl) (by simp) ?_
            refine AllReadyH.cons (o := { dst := some 59, op := Go.Op.call { callee := Go.Callee.value (Go.Operand.func 46), args := #[Go.Operand.tmp 58], argTypes := #[27] }, type := 4, pos := "l05_perfect.go:49", after := #[{ on := 1, ground := Go.Ground.data }], guard := none }) rfl (fun K2 hK2 => ?_) AllReadyH.nil
            go_simp
            (refine (HIz.out _).mono ?_; rintro e v1 ⟨rfl, hb1⟩; have hk2 := Lib.hid (hks.out.dr.call hb1); obtain ⟨⟨p1, q1, r1⟩, -⟩ := row3_cells hk2.out.2.2.2.1; obtain ⟨⟨e0, e1, e2⟩, g0, g1, g2⟩ := row3_cells hk2.out.2.2.1)
            go_wp2_with fail
            refine hK2.out _ _ ?_ (fun hHeld1 => ?_)
            · (try dsimp only); go_keep
            clear hK2 K2 hHeld0
            try simp only [Act.put, List.setIfInBounds_toArray, List.set_cons_zero, List.set_cons_succ]
            refine wpAnyH_ready (rs := [3]) (by kernel_rfl) (by simp) ?_
            refine AllReadyH.cons (o := { dst := none, op := Go.Op.store 27 (Go.Operand.tmp 4) (Go.Operand.tmp 57), type := 0, pos := "l05_perfect.go:49", after := #[{ on := 0, ground := Go.Ground.data }, { on := 2, ground := Go.Ground.chain }, { on := 0, ground := Go.Ground.phase }, { on := 1, ground := Go.Ground.textOnly Go.Departure.lateStores }, { on := 2, ground := Go.Ground.textOnly Go.Departure.lateStoresUnsure }], guard := none }) rfl (fun K3 hK3 => ?_) AllReadyH.nil
            go_simp
            refine hK3.out _ _ ?_ (fun hHeld2 => ?_)
            · (try dsimp only); go_keep
            clear hK3 K3 hHeld1
            try simp only [Act.put, List.setIfInBounds_toArray, List.set_cons_zero, List.set_cons_succ]
            refine wpAnyH_take (i := 4) (oi := { dst := some 5, op := Go.Op.assign (Go.Operand.tmp 59), type := 4, pos := "l05_perfect.go:49", after := #[{ on := 2, ground := Go.Ground.data }, { on := 3, ground := Go.Ground.chain }, { on := 0, ground := Go.Ground.phase }, { on := 1, ground := Go.Ground.phase }, { on := 2, ground := Go.Ground.phase }, { on := 3, ground := Go.Ground.phase }], guard := none }) (v := ?_) rfl (by kernel_rfl) (by kernel_rfl) (by kernel_rfl) (fun _ _ _ h => h) (Or.inl ⟨by rfl, ?_⟩) (by assumption) ?_
            rotate_left
            · (intro w hSw; (try dsimp only at hSw); go_simp; try with_reducible rfl)
            try simp only [Act.put, List.setIfInBounds_toArray, List.set_cons_zero, List.set_cons_succ]
            refine wpAnyH_done (by kernel_rfl) ?_ _
            go_wp2_with fail
            refine bodyPost_ret (v := .tuple #[.agg #[.int .i64 x, .int .i64 y, .int .i64 z], .bool ip]) (by simp [results, Try.results48, go_sem, e0, e1, e2]) rfl (HEz.out _ ?_)
            exact ((hk2.out.1.setCell (by simp) _).setCell (by simp) _).setCell (by simp) _
      · have HGk : Hid (∀ X, Calls Try.prog 72 #[.agg #[.int .i64 x, .int .i64 y]] X (Bl false X)) := fun X => gridS.gridOk_no x y X hok
        have HE := Lib.hid (HZ.out (by unfold koB; rw [decide_eq_false_iff_not]; exact fun h => hok h.1))
        clear hok
        go_wp2_with fail
        refine (HGk.out _).mono ?_
        rintro e w1 ⟨rfl, hb⟩
        have hk1 := Lib.hid (hks.out.call hb)
        obtain ⟨⟨e0, e1, e2⟩, f0, f1, f2⟩ := row3_cells hk1.out.2.2.1
        clear hb b0 b1 hr
        go_wp2_with fail
        refine bodyPost_ret (v := .tuple #[.agg #[.int .i64 0, .int .i64 0, .int .i64 0], .bool false]) (by simp [results, Try.results48, go_sem, e0, e1, e2]) rfl (HE.out _ ?_)
        exact ((hk1.out.1.setCell (by simp) _).setCell (by simp) _).setCell (by simp) _
end Go.Proofs.Ythgnhamokikhkaa.perfN
