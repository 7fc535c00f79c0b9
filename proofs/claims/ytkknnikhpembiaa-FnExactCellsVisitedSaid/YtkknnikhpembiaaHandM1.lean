/- The contracts of the model's functions on walkers: whether one is in a maze, and a step. -/
import Derived.Test.YtkknnikhpembiaaHandQ
import Derived.Test.YtkknnikhpembiaaListW
import Derived.Test.YtkknnikhpembiaaRchM
namespace Go.Proofs.Ytkknnikhpembiaa.handM
open Go.ChangeShapes Go.WideShapes Go.ChangeAt Go.RowKit
open draw gridP gridC gridE bitP mazeP mazeC mazeM mazeR mazeS intsP reachP reachM reachN reachD intA listK forest handP handQ listW
set_option linter.unusedVariables false

theorem box2_new (x y z c f : Int) (W : World) (T1 T2 : TypeId) : MBox W.heap.size x y z ((W.alloc (.cells #[.int .i64 x, .int .i64 y, .int .i64 z] T1)).alloc (.cells #[.int .i64 c, .int .i64 f] T2)) ∧
    Row2 (W.heap.size + 1) c f ((W.alloc (.cells #[.int .i64 x, .int .i64 y, .int .i64 z] T1)).alloc (.cells #[.int .i64 c, .int .i64 f] T2)) ∧
    Below W.heap.size W ((W.alloc (.cells #[.int .i64 x, .int .i64 y, .int .i64 z] T1)).alloc (.cells #[.int .i64 c, .int .i64 f] T2)) := by
  refine ⟨(mbox_new x y z W T1).call (below_box _ _), ?_, below_two _ _ _⟩
  have := row2_new c f (W.alloc (.cells #[.int .i64 x, .int .i64 y, .int .i64 z] T1)) T2
  simpa using this

theorem walkerOk_any (x y z c f : Int) (W : World) :
    Calls Try.prog 19 #[.agg #[.int .i64 x, .int .i64 y, .int .i64 z], .agg #[.int .i64 c, .int .i64 f]] W (Bl (waB x y z c f) W) := by
  have HH := Lib.hid (fun X => reachS.has_any x y z c X)
  have HW := Lib.hid (box2_new x y z c f W)
  have he : waB x y z c f = (hasB x y z c && decide (0 ≤ f ∧ f ≤ 3)) := rfl
  have HE := Lib.hid he
  have HK := @Lib.hid _ (fun b w' h c' => @bl_mk b (waB x y z c f) W w' h c')
  clear he
  generalize waB x y z c f = wb at *
  cases hh : hasB x y z c with
  | false =>
    rw [hh] at HH HE
    go_enter Try.func19, Try.ntmps19
    go_wp2_with fail
    obtain ⟨hx0, hr0, hb0⟩ := HW.out 27 29
    have hb0 := Lib.hid hb0
    obtain ⟨⟨m0, m1, m2⟩, -⟩ := hx0
    obtain ⟨⟨r0, r1⟩, -⟩ := row2_cells hr0
    clear HW hr0
    go_wp2_with fail
    refine (HH.out _).mono ?_
    rintro e w1 ⟨rfl, hb⟩
    have hb1 := Lib.hid (below_call hb0.out hb)
    clear hb hb0 m0 m1 m2 r0 r1
    go_wp2_with fail
    go_ret
    exact HK.out _ _ (by rw [HE.out]; rfl) hb1.out
  | true =>
    rw [hh] at HH HE
    have HI : Hid (∀ X, Calls Try.prog 46 #[.int .i64 f, .int .i64 0, .int .i64 3] X fun e w' => e = .returned (.bool (decide (0 ≤ f ∧ f ≤ 3))) ∧ X = w') := Lib.hid fun X => by
      by_cases h : 0 ≤ f ∧ f ≤ 3
      · rw [decide_eq_true h]; exact gridS.in_yes f 0 3 X h.1 h.2
      · rw [decide_eq_false h]; exact gridS.in_no f 0 3 X h
    generalize decide (0 ≤ f ∧ f ≤ 3) = fb at *
    go_enter Try.func19, Try.ntmps19
    go_wp2_with fail
    obtain ⟨hx0, hr0, hb0⟩ := HW.out 27 29
    have hb0 := Lib.hid hb0
    have hx0 := Lib.hid hx0
    have hr0 := Lib.hid hr0
    obtain ⟨⟨m0, m1, m2⟩, -⟩ := hx0.out
    obtain ⟨⟨r0, r1⟩, -⟩ := row2_cells hr0.out
    clear HW
    go_wp2_with fail
    refine (HH.out _).mono ?_
    rintro e w1 ⟨rfl, hb⟩
    have hb1 := Lib.hid (below_call hb0.out hb)
    have hr1 := Lib.hid (hr0.out.call hb)
    clear hb hb0 hr0 hx0 m0 m1 m2 r0 r1
    obtain ⟨⟨r0, r1⟩, -⟩ := row2_cells hr1.out
    go_wp2_with fail
    refine (HI.out _).mono ?_
    rintro e w' ⟨rfl, rfl⟩
    go_wp2_with fail
    go_ret
    exact HK.out _ _ (by rw [HE.out]; simp) hb1.out

/-! ### one step -/
/-- What is turned by, in their order. -/
def tuN : Nat → Nat
  | 0 => 1
  | 1 => 0
  | 2 => 3
  | _ => 2
def tnN (f k : Nat) : Nat := (f + tuN k) % 4
theorem tn_0 (f : Nat) : tnN f 0 = (f + 1) % 4 := rfl
theorem tn_1 (f : Nat) : tnN f 1 = (f + 0) % 4 := rfl
theorem tn_2 (f : Nat) : tnN f 2 = (f + 3) % 4 := rfl
theorem tn_3 (f : Nat) : tnN f 3 = (f + 2) % 4 := rfl
theorem tu_le (k : Nat) : tuN k ≤ 3 := by unfold tuN; split <;> omega
theorem tn_lt (f k : Nat) : tnN f k < 4 := Nat.mod_lt _ (by decide)
theorem hs_first {st : Nat → Nat → Int} {c f k : Nat} (hf : f < 4) (hk : k < 4) (h0 : ∀ j, j < k → ¬ 0 ≤ st c (tnN f j)) (h : 0 ≤ st c (tnN f k)) : hsP st (c, f) = ((st c (tnN f k)).toNat, tnN f k) := by
  have e : nx (opB st c) ((f + 1) % 4) = tnN f k := by
    unfold nx opB
    have t0 : (f + 1) % 4 = tnN f 0 := rfl
    have t1 : ((f + 1) % 4 + 3) % 4 = tnN f 1 := by rw [tn_1]; omega
    have t2 : ((f + 1) % 4 + 2) % 4 = tnN f 2 := by rw [tn_2]; omega
    have t3 : ((f + 1) % 4 + 1) % 4 = tnN f 3 := by rw [tn_3]; omega
    rw [t1, t2, t3, t0]
    rcases (by omega : k = 0 ∨ k = 1 ∨ k = 2 ∨ k = 3) with rfl | rfl | rfl | rfl
    · rw [if_pos (decide_eq_true h)]
    · rw [if_neg (by simpa using h0 0 (by omega)), if_pos (decide_eq_true h)]
    · rw [if_neg (by simpa using h0 0 (by omega)), if_neg (by simpa using h0 1 (by omega)), if_pos (decide_eq_true h)]
    · rw [if_neg (by simpa using h0 0 (by omega)), if_neg (by simpa using h0 1 (by omega)), if_neg (by simpa using h0 2 (by omega))]
  unfold hsP mv
  simp only
  rw [e, if_pos (show opB st c (tnN f k) = true from decide_eq_true h)]
theorem hs_last {st : Nat → Nat → Int} {c f : Nat} (hf : f < 4) (h0 : ∀ j, j < 4 → ¬ 0 ≤ st c (tnN f j)) : hsP st (c, f) = (c, (f + 2) % 4) := by
  have hall : ∀ q, q < 4 → ¬ 0 ≤ st c q := fun q hq => by
    have key : q = tnN f 0 ∨ q = tnN f 1 ∨ q = tnN f 2 ∨ q = tnN f 3 := by rw [tn_0, tn_1, tn_2, tn_3]; omega
    rcases key with h | h | h | h <;> rw [h]
    · exact h0 0 (by omega)
    · exact h0 1 (by omega)
    · exact h0 2 (by omega)
    · exact h0 3 (by omega)
  unfold hsP
  simp only
  rw [if_neg]
  intro h
  exact hall _ (nx_lt _ (Nat.mod_lt _ (by decide))) (of_decide_eq_true h)
theorem wk_form {x y z c f : Int} (h : waB x y z c f = true) : OkM x y z ∧ ∃ c' f' : Nat, c = c' ∧ f = f' ∧ c' < cN x y ∧ f' < 4 := by
  unfold waB at h
  rw [Bool.and_eq_true] at h
  obtain ⟨h1, h2⟩ := h
  obtain ⟨hv, k, rfl, hk1, hk2, -⟩ := has_form h1
  have := of_decide_eq_true h2
  exact ⟨hv, k, f.toNat, rfl, by omega, hk2, by omega⟩

/-- What stands while a walker looks around: the maze, the walker, the answer's block, the turns. -/
def SW (W : World) (x y z c f : Int) (X : World) : Prop := Below W.heap.size W X ∧ MBox W.heap.size x y z X ∧ Row2 (W.heap.size + 1) c f X ∧ Row2 (W.heap.size + 1 + 1) 0 0 X
theorem SW.call {W X X' : World} {x y z c f : Int} (h : SW W x y z c f X) (hb : Below X.heap.size X X') : SW W x y z c f X' := ⟨below_call h.1 hb, h.2.1.call hb, h.2.2.1.call hb, h.2.2.2.call hb⟩
theorem sw_new (W : World) (x y z c f : Int) (T1 T2 T3 : TypeId) : SW W x y z c f (((W.alloc (.cells #[.int .i64 x, .int .i64 y, .int .i64 z] T1)).alloc (.cells #[.int .i64 c, .int .i64 f] T2)).alloc (.cells #[.int .i64 0, .int .i64 0] T3)) := by
  obtain ⟨h1, h2, h3⟩ := box2_new x y z c f W T1 T2
  have hb := below_box ((W.alloc (.cells #[.int .i64 x, .int .i64 y, .int .i64 z] T1)).alloc (.cells #[.int .i64 c, .int .i64 f] T2)) (.cells #[.int .i64 0, .int .i64 0] T3)
  refine ⟨below_call h3 hb, h1.call hb, h2.call hb, ?_⟩
  have := row2_new 0 0 ((W.alloc (.cells #[.int .i64 x, .int .i64 y, .int .i64 z] T1)).alloc (.cells #[.int .i64 c, .int .i64 f] T2)) T3
  simpa using this
theorem sw_end {W X Y : World} {x y z c f a b a' b' : Int} (h : SW W x y z c f X) (e : a' = a) (e' : b' = b) (hY : Y = (X.setCell ⟨W.heap.size + 1 + 1, 0, none⟩ (.int .i64 a')).setCell ⟨W.heap.size + 1 + 1, 1, none⟩ (.int .i64 b')) : Wk a b W (.returned (.agg #[.int .i64 a', .int .i64 b'])) Y := by
  subst hY; subst e; subst e'
  exact ⟨rfl, (h.1.setCell (by simp; omega) _).setCell (by simp; omega) _⟩
/-- The turns lie in a block of their own. -/
def TurnsAt (b : Nat) (X : World) : Prop := ∀ k, k < 4 → X.cell? ⟨b, k, none⟩ = some (.int .i64 (tuN k : Int))
theorem turns_new (W : World) (T : TypeId) : TurnsAt W.heap.size (W.alloc (.cells #[.int .i64 1, .int .i64 0, .int .i64 3, .int .i64 2] T)) := fun k hk => by
  have h := heap_alloc_new W (.cells #[.int .i64 1, .int .i64 0, .int .i64 3, .int .i64 2] T)
  rcases (by omega : k = 0 ∨ k = 1 ∨ k = 2 ∨ k = 3) with rfl | rfl | rfl | rfl
  · exact cell_of_row _ _ 0 _ _ _ h
  · exact cell_of_row _ _ 1 _ _ _ h
  · exact cell_of_row _ _ 2 _ _ _ h
  · exact cell_of_row _ _ 3 _ _ _ h
theorem TurnsAt.call {b : Nat} {X X' : World} (h : TurnsAt b X) (hlt : b < X.heap.size) (hb : Below X.heap.size X X') : TurnsAt b X' := fun k hk => (hb.cell (p := ⟨b, k, none⟩) hlt).trans (h k hk)

set_option maxRecDepth 100000 in
theorem handStep_any (x y z c f : Int) (W : World) :
    Calls Try.prog 23 #[.agg #[.int .i64 x, .int .i64 y, .int .i64 z], .agg #[.int .i64 c, .int .i64 f]] W (Wk (hsC x y z c f) (hsF x y z c f) W) := by
  have HO := Lib.hid (fun X => walkerOk_any x y z c f X)
  have HW := Lib.hid (fun T1 T2 T3 => sw_new W x y z c f T1 T2 T3)
  cases hw : waB x y z c f with
  | false =>
    rw [hw] at HO
    have e1 : c = hsC x y z c f := by unfold hsC; rw [hw]; rfl
    have e2 : f = hsF x y z c f := by unfold hsF; rw [hw]; rfl
    have HE1 := Lib.hid e1
    have HE2 := Lib.hid e2
    clear e1 e2 hw
    generalize hsC x y z c f = C at *
    generalize hsF x y z c f = F at *
    go_enter Try.func23, Try.ntmps23
    go_wp2_with fail
    have hs0 := Lib.hid (HW.out 27 29 29)
    obtain ⟨⟨m0, m1, m2⟩, -⟩ := hs0.out.2.1
    obtain ⟨⟨r0, r1⟩, -⟩ := row2_cells hs0.out.2.2.1
    clear HW
    go_wp2_with fail
    refine (HO.out _).mono ?_
    rintro e w1 ⟨rfl, hb⟩
    have hs1 := Lib.hid (hs0.out.call hb)
    clear hb hs0 m0 m1 m2 r0 r1
    obtain ⟨⟨r0, r1⟩, -⟩ := row2_cells hs1.out.2.2.1
    obtain ⟨⟨a0, a1⟩, fa0, fa1⟩ := row2_cells hs1.out.2.2.2
    go_wp2_with fail
    refine ret_set2 a0 a1 fun Y g0 g1 hY => ?_
    exact bodyPost_ret (v := .agg #[.int .i64 c, .int .i64 f]) (by simp [results, Try.results23, go_sem, g0, g1]) rfl (sw_end hs1.out HE1.out HE2.out hY)
  | true =>
    rw [hw] at HO
    obtain ⟨hv, c', f', rfl, rfl, hc, hf⟩ := wk_form hw
    have HS := Lib.hid (fun q X => mazeS.step_any x y z c' q X)
    have hC : hsC x y z c' f' = ((hsP (stN x y z) (c', f')).1 : Int) := by unfold hsC; rw [if_pos hw]; unfold hkN; rw [Int.toNat_natCast, Int.toNat_natCast]; rfl
    have hF : hsF x y z c' f' = ((hsP (stN x y z) (c', f')).2 : Int) := by unfold hsF; rw [if_pos hw]; unfold hkN; rw [Int.toNat_natCast, Int.toNat_natCast]; rfl
    have HEy := Lib.hid (fun k (hk : k < 4) (h0 : ∀ j, j < k → stN x y z c' (tnN f' j) < 0) (h : 0 ≤ stN x y z c' (tnN f' k)) => show stN x y z c' (tnN f' k) = hsC x y z c' f' ∧ (tnN f' k : Int) = hsF x y z c' f' from by
      have := hs_first (st := stN x y z) (c := c') hf hk (fun j hj => by have := h0 j hj; omega) h
      rw [hC, hF, this]
      exact ⟨by simp only; omega, rfl⟩)
    have HEn := Lib.hid (fun (h0 : ∀ j, j < 4 → stN x y z c' (tnN f' j) < 0) => show (c' : Int) = hsC x y z c' f' ∧ (((f' + 2) % 4 : Nat) : Int) = hsF x y z c' f' from by
      have := hs_last (st := stN x y z) (c := c') hf (fun j hj => by have := h0 j hj; omega)
      rw [hC, hF, this]
      exact ⟨rfl, rfl⟩)
    have HSt : Hid (∀ q : Nat, stZ x y z c' q = stN x y z c' q) := fun q => rfl
    clear hC hF hw hv hc
    generalize hsC x y z c' f' = C at *
    generalize hsF x y z c' f' = F at *
    go_enter Try.func23, Try.ntmps23
    go_wp2_with fail
    have hs0 := Lib.hid (HW.out 27 29 29)
    obtain ⟨⟨m0, m1, m2⟩, -⟩ := hs0.out.2.1
    obtain ⟨⟨r0, r1⟩, -⟩ := row2_cells hs0.out.2.2.1
    clear HW
    go_wp2_with fail
    refine (HO.out _).mono ?_
    rintro e w1 ⟨rfl, hb⟩
    have hs1 := Lib.hid (hs0.out.call hb)
    clear hb hs0 m0 m1 m2 r0 r1
    go_wp2_with fail
    have hsw0 := Lib.hid (hs1.out.call (below_box w1 (.cells #[.int .i64 1, .int .i64 0, .int .i64 3, .int .i64 2] 3)))
    have htu0 := Lib.hid (turns_new w1 3)
    go_loopw [6] (fun u6 wr => ∃ k : Nat, k ≤ 4 ∧ u6 = .int .i64 k ∧ (∀ j, j < k → stN x y z c' (tnN f' j) < 0) ∧ SW W x y z c' f' wr ∧ TurnsAt w1.heap.size wr ∧ w1.heap.size < wr.heap.size) (fun u6 _ => 4 - (intOf u6).toNat)
    case atStart => exact ⟨0, by omega, rfl, fun j hj => absurd hj (by omega), hsw0.out, htu0.out, by simp⟩
    case round =>
      clear hsw0 htu0 hs1
      obtain ⟨k, hk, rfl, hno, hsw0, htu0, hlt⟩ := hrel
      have hsw := Lib.hid hsw0
      have htu := Lib.hid htu0
      have HNo := Lib.hid hno
      clear hsw0 htu0 hno
      obtain ⟨⟨m0, m1, m2⟩, -⟩ := hsw.out.2.1
      obtain ⟨⟨r0, r1⟩, -⟩ := row2_cells hsw.out.2.2.1
      by_cases hk4 : k < 4
      · have ht := htu.out k hk4
        have htl := tu_le k
        have hk0 : (0 : Int) ≤ (k : Int) := Int.natCast_nonneg _
        have hk1 : (k : Int) < 4 := by omega
        have q1 : IntKind.i64.wrap ((f' : Int) + (tuN k : Int)) = (f' : Int) + (tuN k : Int) := IntWalk.i64_in _ (by omega)
        have q2 : ((f' : Int) + (tuN k : Int)).tmod 4 = (tnN f' k : Int) := by rw [IntWalk.rem_in _ _ (by omega)]; unfold tnN; omega
        have HS1 := Lib.hid (fun X => HS.out (tnN f' k : Nat) X)
        rw [HSt.out] at HS1
        have HE1 := Lib.hid (fun h => HEy.out k hk4 HNo.out h)
        generalize tuN k = tk at *
        generalize hd : tnN f' k = d at *
        go_wp2_with fail
        try simp only [List.cons_append, List.nil_append, List.append_eq]
        refine wp_region_held_drew (S := (fun w' => w'.cell? ⟨W.heap.size + 1, 1, none⟩ = some (.int .i64 (f' : Int)) ∧ w'.cell? ⟨w1.heap.size, k, none⟩ = some (.int .i64 (tk : Int)))) (by kernel_rfl) ?_ (fun hHeld0 => ?_)
        · (try dsimp only); go_keep
        refine wpAnyH_take (i := 0) (oi := { dst := some 19, op := Go.Op.fieldAddr 29 (Go.Operand.tmp 3) 1, type := 0, pos := "l10_hand.go:15", after := #[], guard := none }) (v := ?_) rfl (by kernel_rfl) (by kernel_rfl) (by kernel_rfl) (fun _ _ _ h => h) (Or.inl ⟨by rfl, ?_⟩) (by assumption) ?_
        rotate_left
        · (intro w hSw; (try dsimp only at hSw); go_simp; try with_reducible rfl)
        try simp only [Act.put, List.setIfInBounds_toArray, List.set_cons_zero, List.set_cons_succ]
        refine wpAnyH_take (i := 1) (oi := { dst := some 20, op := Go.Op.load 3 (Go.Operand.tmp 19), type := 3, pos := "l10_hand.go:15", after := #[{ on := 0, ground := Go.Ground.data }], guard := none }) (v := ?_) rfl (by kernel_rfl) (by kernel_rfl) (by kernel_rfl) (fun _ _ _ h => h) (Or.inl ⟨by rfl, ?_⟩) (by assumption) ?_
        rotate_left
        · (intro w hSw; (try dsimp only at hSw); go_simp; try with_reducible rfl)
        try simp only [Act.put, List.setIfInBounds_toArray, List.set_cons_zero, List.set_cons_succ]
        refine wpAnyH_take (i := 2) (oi := { dst := some 21, op := Go.Op.move (Go.Operand.tmp 5), type := 37, pos := "l10_hand.go:15", after := #[], guard := none }) (v := ?_) rfl (by kernel_rfl) (by kernel_rfl) (by kernel_rfl) (fun _ _ _ h => h) (Or.inl ⟨by rfl, ?_⟩) (by assumption) ?_
        rotate_left
        · (intro w hSw; (try dsimp only at hSw); go_simp; try with_reducible rfl)
        try simp only [Act.put, List.setIfInBounds_toArray, List.set_cons_zero, List.set_cons_succ]
        refine wpAnyH_take (i := 3) (oi := { dst := some 22, op := Go.Op.move (Go.Operand.tmp 6), type := 3, pos := "l10_hand.go:15", after := #[], guard := none }) (v := ?_) rfl (by kernel_rfl) (by kernel_rfl) (by kernel_rfl) (fun _ _ _ h => h) (Or.inl ⟨by rfl, ?_⟩) (by assumption) ?_
        rotate_left
        · (intro w hSw; (try dsimp only at hSw); go_simp; try with_reducible rfl)
        try simp only [Act.put, List.setIfInBounds_toArray, List.set_cons_zero, List.set_cons_succ]
        refine wpAnyH_take (i := 4) (oi := { dst := some 23, op := Go.Op.indexAddr 37 (Go.Operand.tmp 21) (Go.Operand.tmp 22), type := 0, pos := "l10_hand.go:15", after := #[{ on := 2, ground := Go.Ground.data }, { on := 3, ground := Go.Ground.data }], guard := none }) (v := ?_) rfl (by kernel_rfl) (by kernel_rfl) (by kernel_rfl) (fun _ _ _ h => h) (Or.inl ⟨by rfl, ?_⟩) (by assumption) ?_
        rotate_left
        · (intro w hSw; (try dsimp only at hSw); go_simp; try with_reducible rfl)
        try simp only [Act.put, List.setIfInBounds_toArray, List.set_cons_zero, List.set_cons_succ]
        refine wpAnyH_take (i := 5) (oi := { dst := some 24, op := Go.Op.load 3 (Go.Operand.tmp 23), type := 3, pos := "l10_hand.go:15", after := #[{ on := 4, ground := Go.Ground.data }], guard := none }) (v := ?_) rfl (by kernel_rfl) (by kernel_rfl) (by kernel_rfl) (fun _ _ _ h => h) (Or.inl ⟨by rfl, ?_⟩) (by assumption) ?_
        rotate_left
        · (intro w hSw; (try dsimp only at hSw); go_simp; try with_reducible rfl)
        try simp only [Act.put, List.setIfInBounds_toArray, List.set_cons_zero, List.set_cons_succ]
        refine wpAnyH_take (i := 6) (oi := { dst := some 25, op := Go.Op.binOp Go.BinOp.add 3 (Go.Operand.tmp 20) (Go.Operand.tmp 24) 3, type := 3, pos := "l10_hand.go:15", after := #[{ on := 1, ground := Go.Ground.data }, { on := 5, ground := Go.Ground.data }], guard := none }) (v := ?_) rfl (by kernel_rfl) (by kernel_rfl) (by kernel_rfl) (fun _ _ _ h => h) (Or.inl ⟨by rfl, ?_⟩) (by assumption) ?_
        rotate_left
        · (intro w hSw; (try dsimp only at hSw); go_simp; try with_reducible rfl)
        try simp only [Act.put, List.setIfInBounds_toArray, List.set_cons_zero, List.set_cons_succ]
        refine wpAnyH_take (i := 7) (oi := { dst := some 26, op := Go.Op.binOp Go.BinOp.rem 3 (Go.Operand.tmp 25) (Go.Operand.const (Go.Value.int Go.IntKind.i64 4)) 3, type := 3, pos := "l10_hand.go:15", after := #[{ on := 6, ground := Go.Ground.data }], guard := none }) (v := ?_) rfl (by kernel_rfl) (by kernel_rfl) (by kernel_rfl) (fun _ _ _ h => h) (Or.inl ⟨by rfl, ?_⟩) (by assumption) ?_
        rotate_left
        · (intro w hSw; (try dsimp only at hSw); go_simp; try with_reducible rfl)
        try simp only [Act.put, List.setIfInBounds_toArray, List.set_cons_zero, List.set_cons_succ]
        refine wpAnyH_take (i := 8) (oi := { dst := some 7, op := Go.Op.assign (Go.Operand.tmp 26), type := 3, pos := "l10_hand.go:15", after := #[{ on := 7, ground := Go.Ground.data }, { on := 0, ground := Go.Ground.phase }, { on := 1, ground := Go.Ground.phase }, { on := 2, ground := Go.Ground.phase }, { on := 3, ground := Go.Ground.phase }, { on := 4, ground := Go.Ground.phase }, { on := 5, ground := Go.Ground.phase }, { on := 6, ground := Go.Ground.phase }, { on := 7, ground := Go.Ground.phase }], guard := none }) (v := ?_) rfl (by kernel_rfl) (by kernel_rfl) (by kernel_rfl) (fun _ _ _ h => h) (Or.inl ⟨by rfl, ?_⟩) (by assumption) ?_
        rotate_left
        · (intro w hSw; (try dsimp only at hSw); go_simp; try with_reducible rfl)
        try simp only [Act.put, List.setIfInBounds_toArray, List.set_cons_zero, List.set_cons_succ]
        refine wpAnyH_done (by kernel_rfl) ?_ _
        go_wp2_with fail
        refine (HS1.out _).mono ?_
        rintro e w2 ⟨rfl, hb⟩
        have hb' : Below wr.heap.size wr w2 := ⟨hb.os, hb.tape, hb.output, hb.size, hb.block⟩
        have hsw2 := Lib.hid (hsw.out.call hb')
        have htu2 := Lib.hid (htu.out.call hlt hb')
        have hlt2 := Nat.lt_of_lt_of_le hlt hb'.size
        clear hb hb' hsw htu m0 m1 m2 r0 r1 ht
        by_cases hst : 0 ≤ stN x y z c' d
        · have hd2 : decide (0 ≤ stN x y z c' d) = true := decide_eq_true hst
          obtain ⟨e1, e2⟩ := HE1.out hst
          have HE2 := Lib.hid e1
          have HE3 := Lib.hid e2
          obtain ⟨⟨a0, a1⟩, fa0, fa1⟩ := row2_cells hsw2.out.2.2.2
          clear e1 e2 hst HE1
          generalize stN x y z c' d = sv at *
          go_wp2_with fail
          refine ret_set2 a0 a1 fun Y g0 g1 hY => ?_
          exact bodyPost_ret (v := .agg #[.int .i64 sv, .int .i64 (d : Int)]) (by simp [results, Try.results23, go_sem, g0, g1]) rfl (sw_end hsw2.out HE2.out HE3.out hY)
        · have hd2 : decide (0 ≤ stN x y z c' d) = false := decide_eq_false hst
          have HN2 : Hid (∀ j, j < k + 1 → stN x y z c' (tnN f' j) < 0) := fun j hj => by
            rcases Nat.lt_or_ge j k with h | h
            · exact HNo.out j h
            · obtain rfl : j = k := by omega
              rw [hd]; omega
          clear hst HE1
          generalize stN x y z c' d = sv at *
          go_wp2_with fail
          go_roundw
          case rel => exact ⟨k + 1, by omega, by go_num, HN2.out, hsw2.out, htu2.out, hlt2⟩
          case measure => simp [intOf]; omega
      · obtain rfl : k = 4 := by omega
        obtain ⟨e1, e2⟩ := HEn.out HNo.out
        have HE2 := Lib.hid e1
        have HE3 := Lib.hid e2
        have q1 : IntKind.i64.wrap ((f' : Int) + 2) = (f' : Int) + 2 := IntWalk.i64_in _ (by omega)
        have q2 : ((f' : Int) + 2).tmod 4 = (((f' + 2) % 4 : Nat) : Int) := by rw [IntWalk.rem_in _ _ (by omega)]; omega
        obtain ⟨⟨a0, a1⟩, fa0, fa1⟩ := row2_cells hsw.out.2.2.2
        clear e1 e2
        generalize (f' + 2) % 4 = d at *
        go_wp2_with fail
        refine ret_set2 a0 a1 fun Y g0 g1 hY => ?_
        exact bodyPost_ret (v := .agg #[.int .i64 (c' : Int), .int .i64 (d : Int)]) (by simp [results, Try.results23, go_sem, g0, g1]) rfl (sw_end hsw.out HE2.out HE3.out hY)
end Go.Proofs.Ytkknnikhpembiaa.handM
