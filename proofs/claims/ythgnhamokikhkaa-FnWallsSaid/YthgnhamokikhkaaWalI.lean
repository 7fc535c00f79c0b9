/- The contracts of the program's functions on walls. -/
import Derived.Test.YthgnhamokikhkaaWalK
import Derived.Test.YthgnhamokikhkaaWalO
namespace Go.Proofs.Ythgnhamokikhkaa.walI
open Go.ChangeShapes Go.WideShapes Go.ChangeAt Go.RowKit
open draw gridP gridC gridE gridI bitP mazeP mazeQ mazeC mazeM mazeR mazeI intsP reachP reachM reachN reachD forest perfP walP walR walS walJ walK
set_option linter.unusedVariables false

/-- What stands while the first numbers are written. -/
def UR (W : World) (x y : Int) (L : Nat → Nat) (X : World) : Prop := Below W.heap.size W X ∧ Box W.heap.size x y X ∧ AB (W.heap.size + 1) (fun _ => 0) X ∧ AB (W.heap.size + 2) L X
theorem UR.call {W X X' : World} {x y : Int} {L : Nat → Nat} (h : UR W x y L X) (hb : Below X.heap.size X X') : UR W x y L X' := ⟨below_call h.1 hb, h.2.1.call hb, h.2.2.1.call hb, h.2.2.2.call hb⟩
theorem box_row {b b' : Nat} {x y : Int} {X : World} (h : Box b x y X) (hne : b ≠ b') (p : Nat) (v : Value) : Box b x y (X.setCell ⟨b', p, none⟩ v) := by
  have e : ∀ o, (X.setCell ⟨b', p, none⟩ v).cell? ⟨b, o, none⟩ = X.cell? ⟨b, o, none⟩ := fun o => by
    simp only [World.cell?]
    rw [Below.heap_setCell X ⟨b', p, none⟩ v b hne]
  exact ⟨⟨(e 0).trans h.1.1, (e 1).trans h.1.2⟩, by simpa [World.setCell] using h.2⟩
theorem AB.farCell {b b' : Nat} {L : Nat → Nat} {X : World} (h : AB b L X) (hne : b ≠ b') (p : Nat) (v : Value) : AB b L (X.setCell ⟨b', p, none⟩ v) := (Below.heap_setCell X ⟨b', p, none⟩ v b hne).trans h
theorem UR.put {W X : World} {x y : Int} {L L' : Nat → Nat} (h : UR W x y L X) {i u : Nat} (hi : i < 25) (hu : L' i = u) (hf : ∀ j, j ≠ i → L' j = L j) : UR W x y L' (X.setCell ⟨W.heap.size + 2, i, none⟩ (.int .i64 (u : Int))) :=
  ⟨h.1.setCell (Nat.le_add_right _ 2) _, box_row h.2.1 (by omega) _ _, AB.farCell h.2.2.1 (by omega) _ _, h.2.2.2.put hi hu hf⟩
theorem ur_new (W : World) (x y : Int) (T : TypeId) : UR W x y (fun _ => 0) (((W.alloc (.cells #[.int .i64 x, .int .i64 y] T)).alloc (.cells (vC (fun _ => 0)) 84)).alloc (.cells (vC (fun _ => 0)) 84)) := by
  have e1 := AB.new (fun _ => 0) (W.alloc (.cells #[.int .i64 x, .int .i64 y] T))
  have e2 := AB.new (fun _ => 0) ((W.alloc (.cells #[.int .i64 x, .int .i64 y] T)).alloc (.cells (vC (fun _ => 0)) 84))
  rw [show (W.alloc (.cells #[.int .i64 x, .int .i64 y] T)).heap.size = W.heap.size + 1 from by simp] at e1
  rw [show ((W.alloc (.cells #[.int .i64 x, .int .i64 y] T)).alloc (.cells (vC (fun _ => 0)) 84)).heap.size = W.heap.size + 2 from by simp] at e2
  exact ⟨below_call (below_call (below_box _ _) (below_box _ _)) (below_box _ _), ((box_new x y W T).call (below_box _ _)).call (below_box _ _), e1.call (below_box _ _), e2⟩

set_option maxRecDepth 100000 in
set_option maxHeartbeats 4000000 in
theorem unjoined_any (x y : Int) (W : World) (hk : OkZ x y) :
    Calls Try.prog 83 #[.agg #[.int .i64 x, .int .i64 y]] W (Ar (p0N x y) W) := by
  have HK := @Lib.hid _ (fun w' b' => @ar_mk (p0N x y) W w' b')
  have HN := Lib.hid (ur_new W x y)
  obtain ⟨-, q1, q2, q3⟩ := co_pos hk
  have HC := Lib.hid (fun X => corners_any x y X hk)
  rw [q3] at HC
  have HE := Lib.hid (fun (k : Nat) X (h : k < coN x y) => isEdgeM_any x y k X hk (Int.natCast_nonneg _) (by omega))
  have HEd := Lib.hid (fun (k : Nat) (h : k < coN x y) => ed_is (x := x) (y := y) (c := k) (by rw [decide_eq_true_iff]; omega))
  have hp0 : p0N x y = u0N x y (coN x y) := rfl
  have HP0 := Lib.hid hp0
  clear hp0 hk q1 q3
  generalize coN x y = N at *
  go_enter Try.func83, Try.ntmps83
  go_wp2_with fail
  rw [zero_cells]
  have HN0 := Lib.hid (HN.out 25)
  clear HN
  generalize ((W.alloc (.cells #[.int .i64 x, .int .i64 y] 25)).alloc (.cells (vC (fun _ => 0)) 84)).alloc (.cells (vC (fun _ => 0)) 84) = w0 at *
  refine (HC.out _).mono ?_
  rintro e w1 ⟨rfl, hb⟩
  have hu1 := Lib.hid (HN0.out.call hb)
  clear hb HN0 HC
  go_wp2_with fail
  go_loopw [7] (fun u7 wr => ∃ k : Nat, k ≤ N ∧ u7 = .int .i64 k ∧ UR W x y (u0N x y k) wr) (fun u7 _ => N - (intOf u7).toNat)
  case atStart => exact ⟨0, Nat.zero_le _, rfl, by rw [u0_zero]; exact hu1.out⟩
  case round =>
    clear hu1
    obtain ⟨k, hkN, rfl, hu⟩ := hrel
    have hur := Lib.hid hu
    clear hu
    by_cases hk : k < N
    · have HE1 := Lib.hid (fun X => HE.out k X hk)
      rw [HEd.out k hk] at HE1
      have hd : decide ((k : Int) < (N : Int)) = true := decide_eq_true (by omega)
      have hk0 : (0 : Int) ≤ (k : Int) := Int.natCast_nonneg _
      have hk1 : (k : Int) < 25 := by omega
      obtain ⟨p0, p1⟩ := hur.out.2.1.1
      cases hed : edB x y (k : Int) with
      | true =>
        rw [hed] at HE1
        have hn0 := hur.out
        rw [← u0_keep hed] at hn0
        have HN := Lib.hid hn0
        clear hn0 hed hur
        go_wp2_with fail
        refine (HE1.out _).mono ?_
        rintro e w2 ⟨rfl, hb⟩
        have HN2 := Lib.hid (HN.out.call hb)
        clear hb HN
        go_wp2_with fail
        go_roundw
        case rel => exact ⟨k + 1, by omega, by go_num, HN2.out⟩
        case measure => simp [intOf]; omega
      | false =>
        rw [hed] at HE1
        have HF := Lib.hid (fun j (h : j ≠ k) => u0_far (x := x) (y := y) h)
        have HA := Lib.hid (u0_at hed)
        clear hed
        go_wp2_with fail
        refine (HE1.out _).mono ?_
        rintro e w2 ⟨rfl, hb⟩
        have hur2 := Lib.hid (hur.out.call hb)
        clear hb hur p0 p1
        obtain ⟨ck, fk⟩ := hur2.out.2.2.2.cell (i := k) (by omega)
        have HN := Lib.hid (hur2.out.put (L' := u0N x y (k + 1)) (by omega) HA.out HF.out)
        go_wp2_with fail
        go_roundw
        case rel => exact ⟨k + 1, by omega, by go_num, HN.out⟩
        case measure => simp [intOf]; omega
    · obtain rfl : k = N := by omega
      have hd : decide ((k : Int) < (k : Int)) = false := by simp
      have hn0 := hur.out
      rw [← HP0.out] at hn0
      have HN := Lib.hid hn0
      have HA := Lib.hid hn0.2.2.2
      have HA2 := Lib.hid hn0.2.2.1
      clear hn0 hur
      go_wp2_with (first | refine at_load HA.out rfl ?_ | refine at_store (p0N x y) HA2.out rfl rfl ?_)
      exact bodyPost_ret (results_arr rfl _ (HA2.out.row _) rfl) rfl (HK.out _ (below_setRow HN.out.1 (Nat.le_succ _) _))

/-! ### the parts of the walls -/
section
variable {P : Program} {ops : Array Oper} {o : Oper} {a : Act} {w : World} {K : Act → World → Prop} {Q : Exit → Act → World → Prop} {E : Prop}
/-- A whole array loaded, stored, as one step of a region that draws. -/
theorem step_loadV (hgd : o.guard = none) (p : Operand) (t : TypeId) (ho : o.op = .load t p) {ad : Addr} {v : Value} (hp : a.eval p = .pointer (some ad)) (hl : (loadVar t ad).run P w = .ok v w) (h : K (a.put o.dst v) w) :
    if Region.wanted o (yielded ops a.tmps) = true then Oper.wp P o a w K Q else E := by
  have hw : Region.wanted o (yielded ops a.tmps) = true := by simp [Region.wanted, hgd]
  rw [if_pos hw]
  exact wp_loadV p t ho hp hl h
theorem step_storeV (hgd : o.guard = none) (p x : Operand) (t : TypeId) (ho : o.op = .store t p x) {ad : Addr} {v : Value} {w' : World} (hp : a.eval p = .pointer (some ad)) (hx : a.eval x = v) (hl : (storeVar t ad v).run P w = .ok () w') (h : K (a.put o.dst undef) w') :
    if Region.wanted o (yielded ops a.tmps) = true then Oper.wp P o a w K Q else E := by
  have hw : Region.wanted o (yielded ops a.tmps) = true := by simp [Region.wanted, hgd]
  rw [if_pos hw]
  exact wp_storeV p x t ho hp hx hl h
end
/-- What stands while walls are walked over. -/
def PR (W : World) (x y z : Int) (q : Nat) (L : Nat → Nat) (X : World) : Prop := Below W.heap.size W X ∧ MBox W.heap.size x y z X ∧ AB q L X ∧ W.heap.size < q
theorem PR.call {W X X' : World} {x y z : Int} {q : Nat} {L : Nat → Nat} (h : PR W x y z q L X) (hb : Below X.heap.size X X') : PR W x y z q L X' := ⟨below_call h.1 hb, h.2.1.call hb, h.2.2.1.call hb, h.2.2.2⟩
theorem PR.dr {W X : World} {x y z : Int} {q : Nat} {L : Nat → Nat} (h : PR W x y z q L X) : PR W x y z q L X.drew := h.call ⟨rfl, rfl, rfl, Nat.le_refl _, fun _ _ => rfl⟩
theorem PR.row {W X : World} {x y z : Int} {q : Nat} {L : Nat → Nat} (h : PR W x y z q L X) (L' : Nat → Nat) : PR W x y z q L' (X.setRow q (vC L')) := by
  have e : ∀ o, (X.setRow q (vC L')).cell? ⟨W.heap.size, o, none⟩ = X.cell? ⟨W.heap.size, o, none⟩ := fun o => by
    simp only [World.cell?, World.setRow, Array.getElem?_modify]
    rw [if_neg (by have := h.2.2.2; omega)]
  exact ⟨below_setRow h.1 (Nat.le_of_lt h.2.2.2) _, ⟨⟨(e 0).trans h.2.1.1.1, (e 1).trans h.2.1.1.2.1, (e 2).trans h.2.1.1.2.2⟩, by simpa [World.setRow] using h.2.1.2⟩, h.2.2.1.row L', h.2.2.2⟩
theorem ab_zero (X : World) : AB X.heap.size (fun _ => 0) (X.alloc (.cells #[Value.int .i64 0, Value.int .i64 0, Value.int .i64 0, Value.int .i64 0, Value.int .i64 0, Value.int .i64 0, Value.int .i64 0, Value.int .i64 0, Value.int .i64 0, Value.int .i64 0, Value.int .i64 0, Value.int .i64 0, Value.int .i64 0, Value.int .i64 0, Value.int .i64 0, Value.int .i64 0, Value.int .i64 0, Value.int .i64 0, Value.int .i64 0, Value.int .i64 0, Value.int .i64 0, Value.int .i64 0, Value.int .i64 0, Value.int .i64 0, Value.int .i64 0] 84)) := by
  rw [zero_cells]; exact AB.new _ _
theorem pr_new {W X : World} {x y z : Int} (hb : Below W.heap.size W X) (hx : MBox W.heap.size x y z X) (L : Nat → Nat) :
    PR W x y z X.heap.size L ((X.alloc (.cells #[Value.int .i64 0, Value.int .i64 0, Value.int .i64 0, Value.int .i64 0, Value.int .i64 0, Value.int .i64 0, Value.int .i64 0, Value.int .i64 0, Value.int .i64 0, Value.int .i64 0, Value.int .i64 0, Value.int .i64 0, Value.int .i64 0, Value.int .i64 0, Value.int .i64 0, Value.int .i64 0, Value.int .i64 0, Value.int .i64 0, Value.int .i64 0, Value.int .i64 0, Value.int .i64 0, Value.int .i64 0, Value.int .i64 0, Value.int .i64 0, Value.int .i64 0] 84)).setRow X.heap.size (vC L)) :=
  PR.row (L := fun _ => 0) ⟨hb.alloc hb.size _, hx.call (below_box _ _), ab_zero _, hx.2⟩ L
theorem ps_bt {x y : Int} {o k : Nat} (hv : OkM x y o) (hk : k < gN x y) : psB x y o (k : Int) = decide (bt o k = 1) := by
  have hk2 : (k : Int) < gpsZ x y := by unfold gN at hk; omega
  unfold psB
  rw [bitZ_bt (by omega) (by omega), Int.toNat_natCast, Int.toNat_natCast, decide_eq_decide]
  exact ⟨fun h => by have := h.2.2.2; omega, fun h => ⟨hv, by omega, hk2, by omega⟩⟩

set_option maxRecDepth 100000 in
set_option maxHeartbeats 8000000 in
theorem wallParts_good (x y : Int) (o : Nat) (W : World) (hk : OkZ x y) (ho : o < 2 ^ gN x y) :
    Calls Try.prog 31 #[.agg #[.int .i64 x, .int .i64 y, .int .i64 o]] W (Nm (wpN x y o : Int) W) := by
  have hv := okm hk ho
  have HO := Lib.hid (fun X => ok_any x y o X)
  rw [show okB x y o = true from decide_eq_true hv] at HO
  have HU := Lib.hid (fun X => unjoined_any x y X hk)
  obtain ⟨-, cp2, cp3, cp4⟩ := co_pos hk
  have HC := Lib.hid (fun X => corners_any x y X hk)
  rw [cp4] at HC
  have HG : Hid (∀ X, Calls Try.prog 84 #[.agg #[.int .i64 x, .int .i64 y]] X (Nm (gN x y : Int) X)) := fun X => by
    have := gaps_any x y X hk.1 hk.2.1 hk.2.2.1 hk.2.2.2
    have e : (x - 1) * y + x * (y - 1) = (gN x y : Int) := by
      have := gps_bd hk.1 hk.2.1 hk.2.2.1 hk.2.2.2
      unfold gN; rw [Int.toNat_of_nonneg this.1]; rfl
    rwa [e] at this
  have hg24 : gN x y ≤ 24 := by have := gps_bd hk.1 hk.2.1 hk.2.2.1 hk.2.2.2; unfold gN; omega
  have HP := Lib.hid (fun (k : Nat) X (h : k < gN x y) => by have := isPassage_any x y o (k : Int) X; rwa [ps_bt hv h] at this)
  have HCs := Lib.hid (fun (k : Nat) X => cornersOf_any x y k X)
  have HF := Lib.hid (fun k (h : k < gN x y) => f3 hk h)
  have HWy := Lib.hid (fun k h => @pl_yes x y o k h)
  have HWn := Lib.hid (fun k h => @pl_no x y o k h)
  have HW0 := Lib.hid (show plN x y o 0 = p0N x y from rfl)
  have HOw := Lib.hid (pl_own hk o)
  have HK := @Lib.hid _ (fun v w' h b => @nm_mk v (wpN x y o : Int) W w' h b)
  have HX0 := Lib.hid (mbox_new x y o W 27)
  have HB0 := Lib.hid (below_box W (.cells #[.int .i64 x, .int .i64 y, .int .i64 o] 27))
  clear hv hk cp4 ho cp2
  generalize coN x y = N at *
  generalize gN x y = G at *
  go_enter Try.func31, Try.ntmps31
  go_wp2_with fail
  refine (HO.out _).mono ?_
  rintro e w1 ⟨rfl, hb⟩
  have hbl1 := Lib.hid (below_call HB0.out hb)
  have hxm1 := Lib.hid (HX0.out.call hb)
  obtain ⟨m0, m1, m2⟩ := hxm1.out.1
  clear hb HX0 HB0
  go_wp2_with fail
  refine (HU.out _).mono ?_
  rintro e w2 ⟨rfl, hb⟩
  have hp0 := Lib.hid (pr_new (below_call hbl1.out hb) (hxm1.out.call hb) (p0N x y))
  clear hb hbl1 hxm1 m0 m1 m2
  obtain ⟨m0, m1, m2⟩ := hp0.out.2.1.1
  go_wp2_with (refine at_store (p0N x y) (ab_zero w2) rfl rfl ?_)
  generalize ((w2.alloc (.cells #[Value.int .i64 0, Value.int .i64 0, Value.int .i64 0, Value.int .i64 0, Value.int .i64 0, Value.int .i64 0, Value.int .i64 0, Value.int .i64 0, Value.int .i64 0, Value.int .i64 0, Value.int .i64 0, Value.int .i64 0, Value.int .i64 0, Value.int .i64 0, Value.int .i64 0, Value.int .i64 0, Value.int .i64 0, Value.int .i64 0, Value.int .i64 0, Value.int .i64 0, Value.int .i64 0, Value.int .i64 0, Value.int .i64 0, Value.int .i64 0, Value.int .i64 0] 84)).setRow w2.heap.size (vC (p0N x y))) = w3 at *
  generalize w2.heap.size = q at *
  refine (HG _).mono ?_
  rintro e w4 ⟨rfl, hb⟩
  have hp1 := Lib.hid (hp0.out.call hb)
  rw [← HW0.out] at hp1
  clear hb hp0 m0 m1 m2
  go_wp2_with fail
  go_loopw [16] (fun u16 wr => ∃ k : Nat, k ≤ G ∧ u16 = .int .i64 k ∧ PR W x y o q (plN x y o k) wr) (fun u16 _ => G - (intOf u16).toNat)
  case atStart => exact ⟨0, Nat.zero_le _, rfl, hp1.out⟩
  case round =>
    clear hp1
    obtain ⟨k, hkG, rfl, hp⟩ := hrel
    have hpr := Lib.hid hp
    clear hp
    obtain ⟨m0, m1, m2⟩ := hpr.out.2.1.1
    by_cases hk : k < G
    · have hd : decide ((k : Int) < (G : Int)) = true := decide_eq_true (by omega)
      have HP1 := Lib.hid (fun X => HP.out k X hk)
      obtain ⟨f1, f2, f3, f4⟩ := HF.out k hk
      have hwy := HWy.out k
      have hwn := HWn.out k
      by_cases hbt : bt o k = 0
      · rw [show decide (bt o k = 1) = false from decide_eq_false (by omega)] at HP1
        have HC1 := Lib.hid (fun X => HCs.out k X)
        rw [f1, f2] at HC1
        have HJ := Lib.hid (fun X => joined_any (plN x y o k) (c1N x y k) (c2N x y k) X (by omega) (by omega))
        rw [← hwy hbt] at HJ
        clear hwy hwn hbt f1 f2 f3 f4
        generalize plN x y o k = L at *
        generalize hL' : plN x y o (k + 1) = L' at *
        generalize c1N x y k = a at *
        generalize c2N x y k = b at *
        go_wp2_with fail
        refine (HP1.out _).mono ?_
        rintro e w5 ⟨rfl, hb⟩
        have hp2 := Lib.hid (hpr.out.call hb)
        clear hb hpr m0 m1 m2
        obtain ⟨m0, m1, m2⟩ := hp2.out.2.1.1
        go_wp2_with fail
        try simp only [List.cons_append, List.nil_append, List.append_eq]
        refine wp_region_held_drew (S := (fun w' => w'.cell? ⟨W.heap.size, 0, none⟩ = some (.int .i64 x) ∧ w'.cell? ⟨W.heap.size, 1, none⟩ = some (.int .i64 y))) (by kernel_rfl) ?_ (fun hHeld0 => ?_)
        · (try dsimp only); go_keep
        refine wpAnyH_take (i := 1) (oi := { dst := some 24, op := Go.Op.fieldAddr 27 (Go.Operand.tmp 1) 0, type := 0, pos := "l09_wall.go:93", after := #[], guard := none }) (v := ?_) rfl (by kernel_rfl) (by kernel_rfl) (by kernel_rfl) (fun _ _ _ h => h) (Or.inl ⟨by rfl, ?_⟩) (by assumption) ?_
        rotate_left
        · (intro w hSw; (try dsimp only at hSw); go_simp; try with_reducible rfl)
        try simp only [Act.put, List.setIfInBounds_toArray, List.set_cons_zero, List.set_cons_succ]
        refine wpAnyH_take (i := 2) (oi := { dst := some 25, op := Go.Op.load 25 (Go.Operand.tmp 24), type := 25, pos := "l09_wall.go:93", after := #[{ on := 1, ground := Go.Ground.data }], guard := none }) (v := ?_) rfl (by kernel_rfl) (by kernel_rfl) (by kernel_rfl) (fun _ _ _ h => h) (Or.inl ⟨by rfl, ?_⟩) (by assumption) ?_
        rotate_left
        · (intro w hSw; (try dsimp only at hSw); go_simp; try with_reducible rfl)
        try simp only [Act.put, List.setIfInBounds_toArray, List.set_cons_zero, List.set_cons_succ]
        refine wpAnyH_take (i := 3) (oi := { dst := some 26, op := Go.Op.move (Go.Operand.tmp 4), type := 3, pos := "l09_wall.go:93", after := #[], guard := none }) (v := ?_) rfl (by kernel_rfl) (by kernel_rfl) (by kernel_rfl) (fun _ _ _ h => h) (Or.inl ⟨by rfl, ?_⟩) (by assumption) ?_
        rotate_left
        · (intro w hSw; (try dsimp only at hSw); go_simp; try with_reducible rfl)
        try simp only [Act.put, List.setIfInBounds_toArray, List.set_cons_zero, List.set_cons_succ]
        refine wpAnyH_ready (rs := [0, 4]) (by kernel_rfl) (by simp) ?_
        refine (AllReadyH.cons (o := { dst := some 23, op := Go.Op.load 84 (Go.Operand.tmp 3), type := 84, pos := "l09_wall.go:93", after := #[], guard := none }) rfl (fun K0 hK0 => ?_) (AllReadyH.cons (o := { dst := some 27, op := Go.Op.call { callee := Go.Callee.value (Go.Operand.func 86), args := #[Go.Operand.tmp 25, Go.Operand.tmp 26], argTypes := #[25, 3] }, type := 78, pos := "l09_wall.go:93", after := #[{ on := 2, ground := Go.Ground.data }, { on := 3, ground := Go.Ground.data }], guard := none }) rfl (fun K4 hK4 => ?_) AllReadyH.nil))
        (first | refine step_loadV rfl _ _ rfl rfl hp3.out.2.2.1.loadV ?_ | refine step_loadV rfl _ _ rfl rfl hp2.out.dr.2.2.1.loadV ?_)
        refine hK0.out _ _ ?_ (fun hHeld1 => ?_)
        · (try dsimp only); go_keep
        clear hK0 K0 hHeld0
        try simp only [Act.put, List.setIfInBounds_toArray, List.set_cons_zero, List.set_cons_succ]
        refine wpAnyH_ready (rs := [4]) (by kernel_rfl) (by simp) ?_
        refine AllReadyH.cons (o := { dst := some 27, op := Go.Op.call { callee := Go.Callee.value (Go.Operand.func 86), args := #[Go.Operand.tmp 25, Go.Operand.tmp 26], argTypes := #[25, 3] }, type := 78, pos := "l09_wall.go:93", after := #[{ on := 2, ground := Go.Ground.data }, { on := 3, ground := Go.Ground.data }], guard := none }) rfl (fun K4 hK4 => ?_) AllReadyH.nil
        go_simp
        (refine (HC1.out _).mono ?_; rintro e v2 ⟨rfl, hb2⟩; have hp3 := Lib.hid (PR.call (X := w5.drew) hp2.out.dr hb2); obtain ⟨p2, q2, r2⟩ := hp3.out.2.1.1)
        go_wp2_with fail
        refine hK4.out _ _ ?_ (fun hHeld2 => ?_)
        · (try dsimp only); go_keep
        clear hK4 K4 hHeld1
        try simp only [Act.put, List.setIfInBounds_toArray, List.set_cons_zero, List.set_cons_succ]
        refine wpAnyH_take (i := 5) (oi := { dst := some 28, op := Go.Op.extract (Go.Operand.tmp 27) 0, type := 3, pos := "l09_wall.go:93", after := #[{ on := 4, ground := Go.Ground.data }], guard := none }) (v := ?_) rfl (by kernel_rfl) (by kernel_rfl) (by kernel_rfl) (fun _ _ _ h => h) (Or.inl ⟨by rfl, ?_⟩) (by assumption) ?_
        rotate_left
        · (intro w hSw; (try dsimp only at hSw); go_simp; try with_reducible rfl)
        try simp only [Act.put, List.setIfInBounds_toArray, List.set_cons_zero, List.set_cons_succ]
        refine wpAnyH_take (i := 6) (oi := { dst := some 29, op := Go.Op.extract (Go.Operand.tmp 27) 1, type := 3, pos := "l09_wall.go:93", after := #[{ on := 4, ground := Go.Ground.data }], guard := none }) (v := ?_) rfl (by kernel_rfl) (by kernel_rfl) (by kernel_rfl) (fun _ _ _ h => h) (Or.inl ⟨by rfl, ?_⟩) (by assumption) ?_
        rotate_left
        · (intro w hSw; (try dsimp only at hSw); go_simp; try with_reducible rfl)
        try simp only [Act.put, List.setIfInBounds_toArray, List.set_cons_zero, List.set_cons_succ]
        refine wpAnyH_ready (rs := [7]) (by kernel_rfl) (by simp) ?_
        refine AllReadyH.cons (o := { dst := some 30, op := Go.Op.call { callee := Go.Callee.value (Go.Operand.func 85), args := #[Go.Operand.tmp 23, Go.Operand.tmp 28, Go.Operand.tmp 29], argTypes := #[84, 3, 3] }, type := 84, pos := "l09_wall.go:93", after := #[{ on := 0, ground := Go.Ground.data }, { on := 5, ground := Go.Ground.data }, { on := 6, ground := Go.Ground.data }, { on := 4, ground := Go.Ground.chain }], guard := none }) rfl (fun K7 hK7 => ?_) AllReadyH.nil
        go_simp
        (refine (HJ.out _).mono ?_; rintro e v3 ⟨rfl, hb3⟩; have hp4 := Lib.hid (hp3.out.call hb3); obtain ⟨p3, q3, r3⟩ := hp4.out.2.1.1)
        go_wp2_with fail
        refine hK7.out _ _ ?_ (fun hHeld3 => ?_)
        · (try dsimp only); go_keep
        clear hK7 K7 hHeld2
        try simp only [Act.put, List.setIfInBounds_toArray, List.set_cons_zero, List.set_cons_succ]
        refine wpAnyH_ready (rs := [8]) (by kernel_rfl) (by simp) ?_
        refine AllReadyH.cons (o := { dst := none, op := Go.Op.store 84 (Go.Operand.tmp 3) (Go.Operand.tmp 30), type := 0, pos := "l09_wall.go:93", after := #[{ on := 7, ground := Go.Ground.data }, { on := 7, ground := Go.Ground.chain }, { on := 0, ground := Go.Ground.phase }, { on := 1, ground := Go.Ground.phase }, { on := 2, ground := Go.Ground.phase }, { on := 3, ground := Go.Ground.phase }, { on := 4, ground := Go.Ground.phase }, { on := 5, ground := Go.Ground.phase }, { on := 6, ground := Go.Ground.phase }, { on := 7, ground := Go.Ground.phase }], guard := none }) rfl (fun K8 hK8 => ?_) AllReadyH.nil
        (have hp5 := Lib.hid (hp4.out.row L'); refine step_storeV rfl _ _ _ rfl rfl rfl (hp4.out.2.2.1.storeV _) ?_)
        refine hK8.out _ _ ?_ (fun hHeld4 => ?_)
        · (try dsimp only); (exact ⟨hp5.out.2.1.1.1, hp5.out.2.1.1.2.1⟩)
        clear hK8 K8 hHeld3
        try simp only [Act.put]
        refine wpAnyH_done (by kernel_rfl) ?_ _
        rotate_left
        go_simp
        (refine (HC1.out _).mono ?_; rintro e v2 ⟨rfl, hb2⟩; have hp3 := Lib.hid (PR.call (X := w5.drew) hp2.out.dr hb2); obtain ⟨p2, q2, r2⟩ := hp3.out.2.1.1)
        go_wp2_with fail
        refine hK4.out _ _ ?_ (fun hHeld1 => ?_)
        · (try dsimp only); go_keep
        clear hK4 K4 hHeld0
        try simp only [Act.put, List.setIfInBounds_toArray, List.set_cons_zero, List.set_cons_succ]
        refine wpAnyH_take (i := 5) (oi := { dst := some 28, op := Go.Op.extract (Go.Operand.tmp 27) 0, type := 3, pos := "l09_wall.go:93", after := #[{ on := 4, ground := Go.Ground.data }], guard := none }) (v := ?_) rfl (by kernel_rfl) (by kernel_rfl) (by kernel_rfl) (fun _ _ _ h => h) (Or.inl ⟨by rfl, ?_⟩) (by assumption) ?_
        rotate_left
        · (intro w hSw; (try dsimp only at hSw); go_simp; try with_reducible rfl)
        try simp only [Act.put, List.setIfInBounds_toArray, List.set_cons_zero, List.set_cons_succ]
        refine wpAnyH_take (i := 6) (oi := { dst := some 29, op := Go.Op.extract (Go.Operand.tmp 27) 1, type := 3, pos := "l09_wall.go:93", after := #[{ on := 4, ground := Go.Ground.data }], guard := none }) (v := ?_) rfl (by kernel_rfl) (by kernel_rfl) (by kernel_rfl) (fun _ _ _ h => h) (Or.inl ⟨by rfl, ?_⟩) (by assumption) ?_
        rotate_left
        · (intro w hSw; (try dsimp only at hSw); go_simp; try with_reducible rfl)
        try simp only [Act.put, List.setIfInBounds_toArray, List.set_cons_zero, List.set_cons_succ]
        refine wpAnyH_ready (rs := [0]) (by kernel_rfl) (by simp) ?_
        refine AllReadyH.cons (o := { dst := some 23, op := Go.Op.load 84 (Go.Operand.tmp 3), type := 84, pos := "l09_wall.go:93", after := #[], guard := none }) rfl (fun K0 hK0 => ?_) AllReadyH.nil
        (first | refine step_loadV rfl _ _ rfl rfl hp3.out.2.2.1.loadV ?_ | refine step_loadV rfl _ _ rfl rfl hp2.out.dr.2.2.1.loadV ?_)
        refine hK0.out _ _ ?_ (fun hHeld2 => ?_)
        · (try dsimp only); go_keep
        clear hK0 K0 hHeld1
        try simp only [Act.put, List.setIfInBounds_toArray, List.set_cons_zero, List.set_cons_succ]
        refine wpAnyH_ready (rs := [7]) (by kernel_rfl) (by simp) ?_
        refine AllReadyH.cons (o := { dst := some 30, op := Go.Op.call { callee := Go.Callee.value (Go.Operand.func 85), args := #[Go.Operand.tmp 23, Go.Operand.tmp 28, Go.Operand.tmp 29], argTypes := #[84, 3, 3] }, type := 84, pos := "l09_wall.go:93", after := #[{ on := 0, ground := Go.Ground.data }, { on := 5, ground := Go.Ground.data }, { on := 6, ground := Go.Ground.data }, { on := 4, ground := Go.Ground.chain }], guard := none }) rfl (fun K7 hK7 => ?_) AllReadyH.nil
        go_simp
        (refine (HJ.out _).mono ?_; rintro e v3 ⟨rfl, hb3⟩; have hp4 := Lib.hid (hp3.out.call hb3); obtain ⟨p3, q3, r3⟩ := hp4.out.2.1.1)
        go_wp2_with fail
        refine hK7.out _ _ ?_ (fun hHeld3 => ?_)
        · (try dsimp only); go_keep
        clear hK7 K7 hHeld2
        try simp only [Act.put, List.setIfInBounds_toArray, List.set_cons_zero, List.set_cons_succ]
        refine wpAnyH_ready (rs := [8]) (by kernel_rfl) (by simp) ?_
        refine AllReadyH.cons (o := { dst := none, op := Go.Op.store 84 (Go.Operand.tmp 3) (Go.Operand.tmp 30), type := 0, pos := "l09_wall.go:93", after := #[{ on := 7, ground := Go.Ground.data }, { on := 7, ground := Go.Ground.chain }, { on := 0, ground := Go.Ground.phase }, { on := 1, ground := Go.Ground.phase }, { on := 2, ground := Go.Ground.phase }, { on := 3, ground := Go.Ground.phase }, { on := 4, ground := Go.Ground.phase }, { on := 5, ground := Go.Ground.phase }, { on := 6, ground := Go.Ground.phase }, { on := 7, ground := Go.Ground.phase }], guard := none }) rfl (fun K8 hK8 => ?_) AllReadyH.nil
        (have hp5 := Lib.hid (hp4.out.row L'); refine step_storeV rfl _ _ _ rfl rfl rfl (hp4.out.2.2.1.storeV _) ?_)
        refine hK8.out _ _ ?_ (fun hHeld4 => ?_)
        · (try dsimp only); (exact ⟨hp5.out.2.1.1.1, hp5.out.2.1.1.2.1⟩)
        clear hK8 K8 hHeld3
        try simp only [Act.put]
        refine wpAnyH_done (by kernel_rfl) ?_ _
        rotate_left
        all_goals go_wp2_with fail
        all_goals go_roundw
        all_goals first | exact ⟨k + 1, by omega, by go_num, by rw [hL']; exact hp5.out⟩ | (simp [intOf]; omega)
      · have hn0 := hpr.out
        rw [← hwn hbt] at hn0
        have HN := Lib.hid hn0
        rw [show decide (bt o k = 1) = true from decide_eq_true (by have := bt_le o k; omega)] at HP1
        clear hn0 hpr hwy hwn hbt f1 f2 f3 f4
        go_wp2_with fail
        refine (HP1.out _).mono ?_
        rintro e w5 ⟨rfl, hb⟩
        have HN2 := Lib.hid (HN.out.call hb)
        clear hb HN
        go_wp2_with fail
        go_roundw
        case rel => exact ⟨k + 1, by omega, by go_num, HN2.out⟩
        case measure => simp [intOf]; omega
    · obtain rfl : k = G := by omega
      have hd : decide ((k : Int) < (k : Int)) = false := by simp
      have hwp := HOw.out
      clear HP HCs HF HWy HWn HW0 HG HU HO
      generalize plN x y o k = L at *
      have hcs : ∀ m, cnt (ownB L) (m + 1) = cnt (ownB L) m + if ownB L m = true then 1 else 0 := fun m => rfl
      have HCs := Lib.hid hcs
      have hcl : ∀ m, cnt (ownB L) m ≤ m := fun m => by
        induction m with
        | zero => exact Nat.le_refl _
        | succ m ih => rw [hcs]; split <;> omega
      have HCl := Lib.hid hcl
      have HEn : Hid (((cnt (ownB L) N : Nat) : Int) = (wpN x y o : Int)) := Lib.hid (by rw [hwp])
      clear hcs hcl hwp HOw hkG
      go_wp2_with fail
      refine (HC.out _).mono ?_
      rintro e w5 ⟨rfl, hb⟩
      have hp2 := Lib.hid (hpr.out.call hb)
      clear hb hpr m0 m1 m2 HC
      go_wp2_with fail
      go_loopw [5, 35] (fun u5 u35 wr => ∃ m : Nat, m ≤ N ∧ u35 = .int .i64 m ∧ u5 = .int .i64 (cnt (ownB L) m : Nat) ∧ PR W x y o q L wr) (fun _ u35 _ => N - (intOf u35).toNat)
      case atStart => exact ⟨0, Nat.zero_le _, rfl, rfl, hp2.out⟩
      case round =>
        clear hp2
        obtain ⟨m, hm, rfl, rfl, hp⟩ := hrel
        have hpr := Lib.hid hp
        clear hp
        have hcm := HCl.out m
        have HCm := Lib.hid (HCs.out m)
        by_cases hmN : m < N
        · have hd2 : decide ((m : Int) < (N : Int)) = true := decide_eq_true (by omega)
          have hm0 : (0 : Int) ≤ (m : Int) := Int.natCast_nonneg _
          have hm1 : (m : Int) < 25 := by omega
          obtain ⟨cm, fm⟩ := hpr.out.2.2.1.cell (i := m) (by omega)
          have hdL : cnt (ownB L) (m + 1) ≤ 25 := by have := HCl.out (m + 1); omega
          generalize hcd : cnt (ownB L) m = d at *
          by_cases he : L m = m
          · have hq : (((L m : Nat) : Int) == (m : Int)) = true := by rw [he]; simp
            have HE2 : Hid (cnt (ownB L) (m + 1) = d + 1) := Lib.hid (by rw [HCm.out, if_pos (show ownB L m = true by unfold ownB; rw [he]; simp)])
            clear hcd HCm he hdL
            go_wp2_with fail
            go_roundw
            case rel => exact ⟨m + 1, by omega, by go_num, by rw [HE2.out]; go_num, hpr.out⟩
            case measure => simp [intOf]; omega
          · have hq : (((L m : Nat) : Int) == (m : Int)) = false := by rw [beq_eq_false_iff_ne]; omega
            have HE2 : Hid (cnt (ownB L) (m + 1) = d) := Lib.hid (by rw [HCm.out, if_neg (show ¬ ownB L m = true by unfold ownB; simpa using he)]; rfl)
            clear hcd HCm he hdL
            go_wp2_with fail
            go_roundw
            case rel => exact ⟨m + 1, by omega, by go_num, by rw [HE2.out], hpr.out⟩
            case measure => simp [intOf]; omega
        · obtain rfl : m = N := by omega
          have hd2 : decide ((m : Int) < (m : Int)) = false := by simp
          clear HCm hcm
          have HEn2 := HEn
          generalize cnt (ownB L) m = d at *
          have HEv := Lib.hid HEn2.out
          clear HEn2 HEn
          go_wp2_with fail
          go_ret
          exact HK.out _ _ HEv.out hpr.out.1

theorem wallParts_any (x y z : Int) (W : World) :
    Calls Try.prog 31 #[.agg #[.int .i64 x, .int .i64 y, .int .i64 z]] W (Nm (wpZ x y z) W) := by
  by_cases hv : OkM x y z
  · obtain ⟨hk, o, rfl, ho⟩ := okm_of hv
    have h := wallParts_good x y o W hk ho
    have e : wpZ x y o = (wpN x y o : Int) := by unfold wpZ; rw [if_pos hv, Int.toNat_natCast]
    rw [e]; exact h
  · have he : 0 = wpZ x y z := by unfold wpZ; rw [if_neg hv]
    have HK := @Lib.hid _ (fun w' b => @nm_mk 0 (wpZ x y z) W w' he b)
    have HB := Lib.hid below_box
    have HO := Lib.hid (fun X => ok_any x y z X)
    rw [show okB x y z = false from decide_eq_false hv] at HO
    clear he hv
    go_enter Try.func31, Try.ntmps31
    go_wp2_with fail
    refine (HO.out _).mono ?_
    rintro e w1 ⟨rfl, hb⟩
    have hbl1 := Lib.hid (below_call (HB.out _ _) hb)
    clear hb
    go_wp2_with fail
    go_ret
    exact HK.out _ hbl1.out

theorem wallPieces_any (x y z : Int) (W : World) (hk : OkZ x y) :
    Calls Try.prog 88 #[.agg #[.int .i64 x, .int .i64 y, .int .i64 z]] W (Nm (gpsZ x y - cpZ x y z) W) := by
  have HG : Hid (∀ X, Calls Try.prog 84 #[.agg #[.int .i64 x, .int .i64 y]] X (Nm (gpsZ x y) X)) := fun X => gaps_any x y X hk.1 hk.2.1 hk.2.2.1 hk.2.2.2
  have HP := Lib.hid (fun X => countPassages_any x y z X)
  have hb1 := gps_bd hk.1 hk.2.1 hk.2.2.1 hk.2.2.2
  have hb2 : 0 ≤ cpZ x y z ∧ cpZ x y z ≤ 24 := by
    unfold cpZ; split
    · have := pcN_le z.toNat 24; omega
    · omega
  have q1 : IntKind.i64.wrap (gpsZ x y - cpZ x y z) = gpsZ x y - cpZ x y z := IntWalk.i64_in _ (by omega)
  have HK := @Lib.hid _ (fun w' b => @nm_mk (gpsZ x y - cpZ x y z) (gpsZ x y - cpZ x y z) W w' rfl b)
  have HB := Lib.hid (fun T => below_box W (.cells #[.int .i64 x, .int .i64 y, .int .i64 z] T))
  have HX := Lib.hid (mbox_new x y z W)
  clear hb1 hb2 hk
  generalize gpsZ x y = g at *
  generalize cpZ x y z = p at *
  go_enter Try.func88, Try.ntmps88
  go_wp2_with fail
  have HB0 := Lib.hid (HB.out 27)
  have HX0 := Lib.hid (HX.out 27)
  clear HB HX
  generalize W.alloc (.cells #[.int .i64 x, .int .i64 y, .int .i64 z] 27) = w0 at *
  obtain ⟨m0, m1, m2⟩ := HX0.out.1
  try simp only [List.cons_append, List.nil_append, List.append_eq]
  refine wp_region_held_drew (S := (fun w' => w'.cell? ⟨W.heap.size, 0, none⟩ = some (.int .i64 x) ∧ w'.cell? ⟨W.heap.size, 1, none⟩ = some (.int .i64 y) ∧ w'.cell? ⟨W.heap.size, 2, none⟩ = some (.int .i64 z))) (by kernel_rfl) ?_ (fun hHeld0 => ?_)
  · (try dsimp only); go_keep
  refine wpAnyH_take (i := 0) (oi := { dst := some 3, op := Go.Op.fieldAddr 27 (Go.Operand.tmp 1) 0, type := 0, pos := "l09_wall.go:57", after := #[], guard := none }) (v := ?_) rfl (by kernel_rfl) (by kernel_rfl) (by kernel_rfl) (fun _ _ _ h => h) (Or.inl ⟨by rfl, ?_⟩) (by assumption) ?_
  rotate_left
  · (intro w hSw; (try dsimp only at hSw); go_simp; try with_reducible rfl)
  try simp only [Act.put, List.setIfInBounds_toArray, List.set_cons_zero, List.set_cons_succ]
  refine wpAnyH_take (i := 1) (oi := { dst := some 4, op := Go.Op.load 25 (Go.Operand.tmp 3), type := 25, pos := "l09_wall.go:57", after := #[{ on := 0, ground := Go.Ground.data }], guard := none }) (v := ?_) rfl (by kernel_rfl) (by kernel_rfl) (by kernel_rfl) (fun _ _ _ h => h) (Or.inl ⟨by rfl, ?_⟩) (by assumption) ?_
  rotate_left
  · (intro w hSw; (try dsimp only at hSw); go_simp; try with_reducible rfl)
  try simp only [Act.put, List.setIfInBounds_toArray, List.set_cons_zero, List.set_cons_succ]
  refine wpAnyH_take (i := 3) (oi := { dst := some 6, op := Go.Op.load 27 (Go.Operand.tmp 1), type := 27, pos := "l09_wall.go:57", after := #[], guard := none }) (v := ?_) rfl (by kernel_rfl) (by kernel_rfl) (by kernel_rfl) (fun _ _ _ h => h) (Or.inl ⟨by rfl, ?_⟩) (by assumption) ?_
  rotate_left
  · (intro w hSw; (try dsimp only at hSw); go_simp; try with_reducible rfl)
  try simp only [Act.put, List.setIfInBounds_toArray, List.set_cons_zero, List.set_cons_succ]
  refine wpAnyH_ready (rs := [2]) (by kernel_rfl) (by simp) ?_
  refine AllReadyH.cons (o := { dst := some 5, op := Go.Op.call { callee := Go.Callee.value (Go.Operand.func 84), args := #[Go.Operand.tmp 4], argTypes := #[25] }, type := 3, pos := "l09_wall.go:57", after := #[{ on := 1, ground := Go.Ground.data }], guard := none }) rfl (fun K2 hK2 => ?_) AllReadyH.nil
  go_simp
  (refine (HG _).mono ?_; rintro e v1 ⟨rfl, hb1⟩; have hM1 := Lib.hid (mbox_after hb1 HX0.out); obtain ⟨p1, q1, r1⟩ := hM1.out.1)
  go_wp2_with fail
  refine hK2.out _ _ ?_ (fun hHeld1 => ?_)
  · (try dsimp only); go_keep
  clear hK2 K2 hHeld0
  try simp only [Act.put, List.setIfInBounds_toArray, List.set_cons_zero, List.set_cons_succ]
  refine wpAnyH_ready (rs := [4]) (by kernel_rfl) (by simp) ?_
  refine AllReadyH.cons (o := { dst := some 7, op := Go.Op.call { callee := Go.Callee.value (Go.Operand.func 70), args := #[Go.Operand.tmp 6], argTypes := #[27] }, type := 3, pos := "l09_wall.go:57", after := #[{ on := 3, ground := Go.Ground.data }, { on := 2, ground := Go.Ground.chain }], guard := none }) rfl (fun K4 hK4 => ?_) AllReadyH.nil
  go_simp
  (refine (HP.out _).mono ?_; rintro e v2 ⟨rfl, hb2⟩; have hM2 := Lib.hid (mbox_after hb2 hM1.out); obtain ⟨p2, q2, r2⟩ := hM2.out.1)
  go_wp2_with fail
  refine hK4.out _ _ ?_ (fun hHeld2 => ?_)
  · (try dsimp only); go_keep
  clear hK4 K4 hHeld1
  try simp only [Act.put, List.setIfInBounds_toArray, List.set_cons_zero, List.set_cons_succ]
  refine wpAnyH_take (i := 5) (oi := { dst := some 8, op := Go.Op.binOp Go.BinOp.sub 3 (Go.Operand.tmp 5) (Go.Operand.tmp 7) 3, type := 3, pos := "l09_wall.go:57", after := #[{ on := 2, ground := Go.Ground.data }, { on := 4, ground := Go.Ground.data }], guard := none }) (v := ?_) rfl (by kernel_rfl) (by kernel_rfl) (by kernel_rfl) (fun _ _ _ h => h) (Or.inl ⟨by rfl, ?_⟩) (by assumption) ?_
  rotate_left
  · (intro w hSw; (try dsimp only at hSw); go_simp; try with_reducible rfl)
  try simp only [Act.put, List.setIfInBounds_toArray, List.set_cons_zero, List.set_cons_succ]
  refine wpAnyH_take (i := 6) (oi := { dst := some 2, op := Go.Op.assign (Go.Operand.tmp 8), type := 3, pos := "l09_wall.go:57", after := #[{ on := 5, ground := Go.Ground.data }, { on := 4, ground := Go.Ground.chain }, { on := 0, ground := Go.Ground.phase }, { on := 1, ground := Go.Ground.phase }, { on := 2, ground := Go.Ground.phase }, { on := 3, ground := Go.Ground.phase }, { on := 4, ground := Go.Ground.phase }, { on := 5, ground := Go.Ground.phase }], guard := none }) (v := ?_) rfl (by kernel_rfl) (by kernel_rfl) (by kernel_rfl) (fun _ _ _ h => h) (Or.inl ⟨by rfl, ?_⟩) (by assumption) ?_
  rotate_left
  · (intro w hSw; (try dsimp only at hSw); go_simp; try with_reducible rfl)
  try simp only [Act.put, List.setIfInBounds_toArray, List.set_cons_zero, List.set_cons_succ]
  refine wpAnyH_done (by kernel_rfl) ?_ _
  go_wp2_with fail
  go_ret
  exact HK.out _ (below_call (below_call (below_dr HB0.out) hb1) hb2)

theorem wallLoops_any (x y z : Int) (W : World) :
    Calls Try.prog 32 #[.agg #[.int .i64 x, .int .i64 y, .int .i64 z]] W (Nm (wlpZ x y z) W) := by
  have HO := Lib.hid (fun X => ok_any x y z X)
  have HB := Lib.hid below_box
  by_cases hv : OkM x y z
  · rw [show okB x y z = true from decide_eq_true hv] at HO
    obtain ⟨hk, -⟩ := id hv
    have HWp := Lib.hid (fun X => wallPieces_any x y z X hk)
    have HI := Lib.hid (fun X => innerCorners_any x y X hk)
    have HP := Lib.hid (fun X => wallParts_any x y z X)
    have hb1 := gps_bd hk.1 hk.2.1 hk.2.2.1 hk.2.2.2
    have hb2 : 0 ≤ cpZ x y z ∧ cpZ x y z ≤ 24 := by
      unfold cpZ; rw [if_pos hv]
      have := pcN_le z.toNat 24; omega
    have hb3 : 0 ≤ (x - 1) * (y - 1) ∧ (x - 1) * (y - 1) ≤ 9 := by
      obtain ⟨h1, h2, h3, h4⟩ := hk
      rcases (by omega : x = 1 ∨ x = 2 ∨ x = 3 ∨ x = 4) with rfl | rfl | rfl | rfl <;> omega
    have hb4 : 0 ≤ wpZ x y z ∧ wpZ x y z ≤ 25 := by
      obtain ⟨-, o, rfl, ho⟩ := okm_of hv
      have e : wpZ x y o = (wpN x y o : Int) := by unfold wpZ; rw [if_pos hv, Int.toNat_natCast]
      have := wp_le x y o
      have := co_pos hk
      omega
    have he : gpsZ x y - cpZ x y z - (x - 1) * (y - 1) - 1 + wpZ x y z = wlpZ x y z := by unfold wlpZ; rw [if_pos hv]
    have HK := @Lib.hid _ (fun w' b => @nm_mk _ _ W w' he b)
    have q1 : IntKind.i64.wrap (gpsZ x y - cpZ x y z - (x - 1) * (y - 1)) = gpsZ x y - cpZ x y z - (x - 1) * (y - 1) := IntWalk.i64_in _ (by omega)
    have q2 : IntKind.i64.wrap (gpsZ x y - cpZ x y z - (x - 1) * (y - 1) - 1) = gpsZ x y - cpZ x y z - (x - 1) * (y - 1) - 1 := IntWalk.i64_in _ (by omega)
    have q3 : IntKind.i64.wrap (gpsZ x y - cpZ x y z - (x - 1) * (y - 1) - 1 + wpZ x y z) = gpsZ x y - cpZ x y z - (x - 1) * (y - 1) - 1 + wpZ x y z := IntWalk.i64_in _ (by omega)
    clear he hv hk hb1 hb2 hb3 hb4
    generalize gpsZ x y - cpZ x y z = wc at *
    generalize (x - 1) * (y - 1) = ic at *
    generalize wpZ x y z = wp at *
    go_enter Try.func32, Try.ntmps32
    go_wp2_with fail
    refine (HO.out _).mono ?_
    rintro e w1 ⟨rfl, hb⟩
    have hbl1 := Lib.hid (below_call (HB.out _ _) hb)
    have hxc1 := Lib.hid ((mbox_new x y z W _).call hb)
    clear hb
    obtain ⟨c0, c1, c2⟩ := hxc1.out.1
    go_wp2_with fail
    try simp only [List.cons_append, List.nil_append, List.append_eq]
    refine wp_region_held_drew (S := (fun w' => w'.cell? ⟨W.heap.size, 0, none⟩ = some (.int .i64 x) ∧ w'.cell? ⟨W.heap.size, 1, none⟩ = some (.int .i64 y) ∧ w'.cell? ⟨W.heap.size, 2, none⟩ = some (.int .i64 z))) (by kernel_rfl) ?_ (fun hHeld0 => ?_)
    · (try dsimp only); go_keep
    refine wpAnyH_take (i := 0) (oi := { dst := some 6, op := Go.Op.load 27 (Go.Operand.tmp 1), type := 27, pos := "l09_wall.go:110", after := #[], guard := none }) (v := ?_) rfl (by kernel_rfl) (by kernel_rfl) (by kernel_rfl) (fun _ _ _ h => h) (Or.inl ⟨by rfl, ?_⟩) (by assumption) ?_
    rotate_left
    · (intro w hSw; (try dsimp only at hSw); go_simp; try with_reducible rfl)
    try simp only [Act.put, List.setIfInBounds_toArray, List.set_cons_zero, List.set_cons_succ]
    refine wpAnyH_take (i := 2) (oi := { dst := some 8, op := Go.Op.fieldAddr 27 (Go.Operand.tmp 1) 0, type := 0, pos := "l09_wall.go:110", after := #[], guard := none }) (v := ?_) rfl (by kernel_rfl) (by kernel_rfl) (by kernel_rfl) (fun _ _ _ h => h) (Or.inl ⟨by rfl, ?_⟩) (by assumption) ?_
    rotate_left
    · (intro w hSw; (try dsimp only at hSw); go_simp; try with_reducible rfl)
    try simp only [Act.put, List.setIfInBounds_toArray, List.set_cons_zero, List.set_cons_succ]
    refine wpAnyH_take (i := 3) (oi := { dst := some 9, op := Go.Op.load 25 (Go.Operand.tmp 8), type := 25, pos := "l09_wall.go:110", after := #[{ on := 2, ground := Go.Ground.data }], guard := none }) (v := ?_) rfl (by kernel_rfl) (by kernel_rfl) (by kernel_rfl) (fun _ _ _ h => h) (Or.inl ⟨by rfl, ?_⟩) (by assumption) ?_
    rotate_left
    · (intro w hSw; (try dsimp only at hSw); go_simp; try with_reducible rfl)
    try simp only [Act.put, List.setIfInBounds_toArray, List.set_cons_zero, List.set_cons_succ]
    refine wpAnyH_take (i := 7) (oi := { dst := some 13, op := Go.Op.load 27 (Go.Operand.tmp 1), type := 27, pos := "l09_wall.go:110", after := #[], guard := none }) (v := ?_) rfl (by kernel_rfl) (by kernel_rfl) (by kernel_rfl) (fun _ _ _ h => h) (Or.inl ⟨by rfl, ?_⟩) (by assumption) ?_
    rotate_left
    · (intro w hSw; (try dsimp only at hSw); go_simp; try with_reducible rfl)
    try simp only [Act.put, List.setIfInBounds_toArray, List.set_cons_zero, List.set_cons_succ]
    refine wpAnyH_ready (rs := [1]) (by kernel_rfl) (by simp) ?_
    refine AllReadyH.cons (o := { dst := some 7, op := Go.Op.call { callee := Go.Callee.value (Go.Operand.func 88), args := #[Go.Operand.tmp 6], argTypes := #[27] }, type := 3, pos := "l09_wall.go:110", after := #[{ on := 0, ground := Go.Ground.data }], guard := none }) rfl (fun K1 hK1 => ?_) AllReadyH.nil
    go_simp
    (refine (HWp.out _).mono ?_; rintro e v1 ⟨rfl, hb1⟩; have hM1 := Lib.hid (mbox_after hb1 hxc1.out); obtain ⟨p1, q1, r1⟩ := hM1.out.1)
    go_wp2_with fail
    refine hK1.out _ _ ?_ (fun hHeld1 => ?_)
    · (try dsimp only); go_keep
    clear hK1 K1 hHeld0
    try simp only [Act.put, List.setIfInBounds_toArray, List.set_cons_zero, List.set_cons_succ]
    refine wpAnyH_ready (rs := [4]) (by kernel_rfl) (by simp) ?_
    refine AllReadyH.cons (o := { dst := some 10, op := Go.Op.call { callee := Go.Callee.value (Go.Operand.func 89), args := #[Go.Operand.tmp 9], argTypes := #[25] }, type := 3, pos := "l09_wall.go:110", after := #[{ on := 3, ground := Go.Ground.data }, { on := 1, ground := Go.Ground.chain }], guard := none }) rfl (fun K4 hK4 => ?_) AllReadyH.nil
    go_simp
    (refine (HI.out _).mono ?_; rintro e v2 ⟨rfl, hb2⟩; have hM2 := Lib.hid (mbox_after hb2 hM1.out); obtain ⟨p2, q2, r2⟩ := hM2.out.1)
    go_wp2_with fail
    refine hK4.out _ _ ?_ (fun hHeld2 => ?_)
    · (try dsimp only); go_keep
    clear hK4 K4 hHeld1
    try simp only [Act.put, List.setIfInBounds_toArray, List.set_cons_zero, List.set_cons_succ]
    refine wpAnyH_take (i := 5) (oi := { dst := some 11, op := Go.Op.binOp Go.BinOp.sub 3 (Go.Operand.tmp 7) (Go.Operand.tmp 10) 3, type := 3, pos := "l09_wall.go:110", after := #[{ on := 1, ground := Go.Ground.data }, { on := 4, ground := Go.Ground.data }], guard := none }) (v := ?_) rfl (by kernel_rfl) (by kernel_rfl) (by kernel_rfl) (fun _ _ _ h => h) (Or.inl ⟨by rfl, ?_⟩) (by assumption) ?_
    rotate_left
    · (intro w hSw; (try dsimp only at hSw); go_simp; try with_reducible rfl)
    try simp only [Act.put, List.setIfInBounds_toArray, List.set_cons_zero, List.set_cons_succ]
    refine wpAnyH_take (i := 6) (oi := { dst := some 12, op := Go.Op.binOp Go.BinOp.sub 3 (Go.Operand.tmp 11) (Go.Operand.const (Go.Value.int Go.IntKind.i64 1)) 3, type := 3, pos := "l09_wall.go:110", after := #[{ on := 5, ground := Go.Ground.data }], guard := none }) (v := ?_) rfl (by kernel_rfl) (by kernel_rfl) (by kernel_rfl) (fun _ _ _ h => h) (Or.inl ⟨by rfl, ?_⟩) (by assumption) ?_
    rotate_left
    · (intro w hSw; (try dsimp only at hSw); go_simp; try with_reducible rfl)
    try simp only [Act.put, List.setIfInBounds_toArray, List.set_cons_zero, List.set_cons_succ]
    refine wpAnyH_ready (rs := [8]) (by kernel_rfl) (by simp) ?_
    refine AllReadyH.cons (o := { dst := some 14, op := Go.Op.call { callee := Go.Callee.value (Go.Operand.func 31), args := #[Go.Operand.tmp 13], argTypes := #[27] }, type := 3, pos := "l09_wall.go:110", after := #[{ on := 7, ground := Go.Ground.data }, { on := 4, ground := Go.Ground.chain }], guard := none }) rfl (fun K8 hK8 => ?_) AllReadyH.nil
    go_simp
    (refine (HP.out _).mono ?_; rintro e v3 ⟨rfl, hb3⟩; have hM3 := Lib.hid (mbox_after hb3 hM2.out); obtain ⟨p3, q3, r3⟩ := hM3.out.1)
    go_wp2_with fail
    refine hK8.out _ _ ?_ (fun hHeld3 => ?_)
    · (try dsimp only); go_keep
    clear hK8 K8 hHeld2
    try simp only [Act.put, List.setIfInBounds_toArray, List.set_cons_zero, List.set_cons_succ]
    refine wpAnyH_take (i := 9) (oi := { dst := some 15, op := Go.Op.binOp Go.BinOp.add 3 (Go.Operand.tmp 12) (Go.Operand.tmp 14) 3, type := 3, pos := "l09_wall.go:110", after := #[{ on := 6, ground := Go.Ground.data }, { on := 8, ground := Go.Ground.data }], guard := none }) (v := ?_) rfl (by kernel_rfl) (by kernel_rfl) (by kernel_rfl) (fun _ _ _ h => h) (Or.inl ⟨by rfl, ?_⟩) (by assumption) ?_
    rotate_left
    · (intro w hSw; (try dsimp only at hSw); go_simp; try with_reducible rfl)
    try simp only [Act.put, List.setIfInBounds_toArray, List.set_cons_zero, List.set_cons_succ]
    refine wpAnyH_take (i := 10) (oi := { dst := some 2, op := Go.Op.assign (Go.Operand.tmp 15), type := 3, pos := "l09_wall.go:110", after := #[{ on := 9, ground := Go.Ground.data }, { on := 8, ground := Go.Ground.chain }, { on := 0, ground := Go.Ground.phase }, { on := 1, ground := Go.Ground.phase }, { on := 2, ground := Go.Ground.phase }, { on := 3, ground := Go.Ground.phase }, { on := 4, ground := Go.Ground.phase }, { on := 5, ground := Go.Ground.phase }, { on := 6, ground := Go.Ground.phase }, { on := 7, ground := Go.Ground.phase }, { on := 8, ground := Go.Ground.phase }, { on := 9, ground := Go.Ground.phase }], guard := none }) (v := ?_) rfl (by kernel_rfl) (by kernel_rfl) (by kernel_rfl) (fun _ _ _ h => h) (Or.inl ⟨by rfl, ?_⟩) (by assumption) ?_
    rotate_left
    · (intro w hSw; (try dsimp only at hSw); go_simp; try with_reducible rfl)
    try simp only [Act.put, List.setIfInBounds_toArray, List.set_cons_zero, List.set_cons_succ]
    refine wpAnyH_done (by kernel_rfl) ?_ _
    go_wp2_with fail
    go_ret
    exact HK.out _ (below_call (below_call (below_call (below_dr hbl1.out) hb1) hb2) hb3)
  · rw [show okB x y z = false from decide_eq_false hv] at HO
    have he : 0 = wlpZ x y z := by unfold wlpZ; rw [if_neg hv]
    have HK := @Lib.hid _ (fun w' b => @nm_mk 0 (wlpZ x y z) W w' he b)
    clear he hv
    go_enter Try.func32, Try.ntmps32
    go_wp2_with fail
    refine (HO.out _).mono ?_
    rintro e w1 ⟨rfl, hb⟩
    have hbl1 := Lib.hid (below_call (HB.out _ _) hb)
    have hxc1 := Lib.hid ((mbox_new x y z W _).call hb)
    clear hb
    obtain ⟨c0, c1, c2⟩ := hxc1.out.1
    go_wp2_with fail
    go_ret
    exact HK.out _ hbl1.out

theorem wt_is (x y z : Int) : (wpZ x y z == 1 && wlpZ x y z == 0) = wtB x y z := by
  unfold wtB
  by_cases hv : OkM x y z
  · rw [decide_eq_true hv, Bool.true_and]
  · rw [decide_eq_false hv, Bool.false_and]
    have e : wpZ x y z = 0 := by unfold wpZ; rw [if_neg hv]
    rw [e]; rfl
theorem isWallTree_any (x y z : Int) (W : World) :
    Calls Try.prog 30 #[.agg #[.int .i64 x, .int .i64 y, .int .i64 z]] W (Bl (wtB x y z) W) := by
  have HP := Lib.hid (fun X => wallParts_any x y z X)
  have HL := Lib.hid (fun X => wallLoops_any x y z X)
  have he := wt_is x y z
  have HB := Lib.hid below_box
  generalize wpZ x y z = p at *
  generalize wlpZ x y z = l at *
  obtain ⟨bp, hbp⟩ : ∃ b, (p == 1) = b := ⟨_, rfl⟩
  obtain ⟨bl, hbl⟩ : ∃ b, (l == 0) = b := ⟨_, rfl⟩
  rw [hbp, hbl] at he
  have HK := @Lib.hid _ (fun w' b => @bl_mk (bp && bl) (wtB x y z) W w' he b)
  clear he
  generalize wtB x y z = r at *
  cases bp with
  | true =>
    go_enter Try.func30, Try.ntmps30
    go_wp2_with fail
    refine (HP.out _).mono ?_
    rintro e w1 ⟨rfl, hb⟩
    have hbl1 := Lib.hid (below_call (HB.out _ _) hb)
    have hxc1 := Lib.hid ((mbox_new x y z W _).call hb)
    clear hb
    obtain ⟨c0, c1, c2⟩ := hxc1.out.1
    go_wp2_with fail
    refine (HL.out _).mono ?_
    rintro e w2 ⟨rfl, hb⟩
    have hbl2 := Lib.hid (below_call hbl1.out hb)
    have hxc2 := Lib.hid (hxc1.out.call hb)
    clear hb hbl1  hxc1 c0 c1 c2
    obtain ⟨c0, c1, c2⟩ := hxc2.out.1
    go_wp2_with fail
    go_ret
    exact HK.out _ hbl2.out
  | false =>
    go_enter Try.func30, Try.ntmps30
    go_wp2_with fail
    refine (HP.out _).mono ?_
    rintro e w1 ⟨rfl, hb⟩
    have hbl1 := Lib.hid (below_call (HB.out _ _) hb)
    have hxc1 := Lib.hid ((mbox_new x y z W _).call hb)
    clear hb
    obtain ⟨c0, c1, c2⟩ := hxc1.out.1
    go_wp2_with fail
    go_ret
    exact HK.out _ hbl1.out
end Go.Proofs.Ythgnhamokikhkaa.walI
