/- The contracts of the model's functions on numbered mazes. -/
import Derived.Test.YtnfnandpcjgmmaaNbrQ
import Derived.Test.YtnfnandpcjgmmaaCntK
import Derived.Test.YtnfnandpcjgmmaaPerfM
namespace Go.Proofs.Ytnfnandpcjgmmaa.nbrM
open Go.ChangeShapes Go.WideShapes Go.ChangeAt Go.RowKit
open draw gridP gridC gridE bitP mazeP mazeQ mazeC mazeM mazeR mazeS reachP reachM reachN forest deadP trcP cntQ cntF cntH nbrP nbrQ
set_option linter.unusedVariables false

theorem countAll_any (x y : Int) (W : World) :
    Calls Try.prog 17 #[.agg #[.int .i64 x, .int .i64 y]] W (Nm (cfZ x y 0 0) W) := by
  have HC := Lib.hid (fun X => cntU.countFixed_any x y 0 0 X)
  have HK := @Lib.hid _ (fun w' b => @nm_mk (cfZ x y 0 0) (cfZ x y 0 0) W w' rfl b)
  have HB := Lib.hid below_box
  generalize cfZ x y 0 0 = T at *
  go_enter Try.func17, Try.ntmps17
  go_wp2_with fail
  refine (HC.out _).mono ?_
  rintro e w1 ⟨rfl, hb⟩
  have hbl1 := Lib.hid (below_call (HB.out _ _) hb)
  clear hb
  go_wp2_with fail
  go_ret
  exact HK.out _ hbl1.out

set_option maxRecDepth 100000 in
set_option maxHeartbeats 2000000 in
theorem numberOf_any (x y z : Int) (W : World) :
    Calls Try.prog 19 #[.agg #[.int .i64 x, .int .i64 y, .int .i64 z]] W (Nm (nuZ x y z) W) := by
  have HP := Lib.hid (fun X => perfM.isPerfect_any x y z X)
  have HB := Lib.hid below_box
  cases hip : perfP.ipB x y z with
  | false =>
    rw [hip] at HP
    have HK := @Lib.hid _ (fun w' b => @nm_mk (-1) (nuZ x y z) W w' (nb_no hip).symm b)
    clear hip
    go_enter Try.func19, Try.ntmps19
    go_wp2_with fail
    refine (HP.out _).mono ?_
    rintro e w1 ⟨rfl, hb⟩
    have hbl1 := Lib.hid (below_call (HB.out _ _) hb)
    clear hb
    go_wp2_with fail
    go_ret
    exact HK.out _ hbl1.out
  | true =>
    rw [hip] at HP
    obtain ⟨hk, o, rfl, ho, h0⟩ := nb_open hip
    obtain ⟨g1, g2, g3⟩ := g24 hk
    have HG : Hid (∀ X, Calls Try.prog 38 #[.agg #[.int .i64 x, .int .i64 y]] X (Nm (gpsZ x y) X)) := fun X => gridS.countGaps_yes x y X hk.1 hk.2.1 hk.2.2.1 hk.2.2.2
    rw [g3] at HG
    have ho24 : o < 16777216 := by omega
    have HBit := Lib.hid (fun (k : Nat) (hg : k < gN x y) X => bit_b (o : Int) (k : Int) X (by omega) (by omega) (by omega) (by omega))
    have HBb : Hid (∀ k : Nat, k < gN x y → btB (o : Int) (k : Int) = decide (bt o k = 1)) := Lib.hid fun k hg => by
      unfold btB; rw [bitZ_bt (by omega) (by omega), Int.toNat_natCast, Int.toNat_natCast]
      have := bt_le o k
      by_cases h : bt o k = 1
      · rw [h]; rfl
      · rw [decide_eq_false h, decide_eq_false (by omega)]
    have HCf : Hid (∀ k : Nat, k < gN x y → ∀ X, Calls Try.prog 36 #[.agg #[.int .i64 x, .int .i64 y], .int .i64 ((o % 2 ^ k : Nat) : Int), .int .i64 ((qN k (o % 2 ^ k) + 2 ^ k : Nat) : Int)] X (Nm (tkN x y (k + 1) (o % 2 ^ k)) X)) := fun k hg X => by
      have := cntU.countFixed_any x y ((o % 2 ^ k : Nat) : Int) ((qN k (o % 2 ^ k) + 2 ^ k : Nat) : Int) X
      rwa [t_cf hk hg (mod_lt2 o k)] at this
    have HY := Lib.hid (fun k (h : bt o k = 1) => (⟨(nu_yes (x := x) (y := y) h).1, (nu_yes (x := x) (y := y) h).2, by rw [(nu_yes (x := x) (y := y) h).1]; exact q_same (mod_lt2 o k)⟩ : _ ∧ _ ∧ qN (k + 1) (o % 2 ^ (k + 1)) = qN k (o % 2 ^ k)))
    have HN := Lib.hid (fun k (h : bt o k ≠ 1) => (⟨(nu_no (x := x) (y := y) h).1, (nu_no (x := x) (y := y) h).2, by rw [(nu_no (x := x) (y := y) h).1]; exact q_more (mod_lt2 o k)⟩ : _ ∧ _ ∧ qN (k + 1) (o % 2 ^ (k + 1)) = qN k (o % 2 ^ k) + 2 ^ k))
    have HOp := Lib.hid (fun k (hg : k < gN x y) => or_new (mod_lt2 o k) (show k < 24 by omega))
    have HOq := Lib.hid (fun k (hg : k < gN x y) => or_new (q_lt k (o % 2 ^ k)) (show k < 24 by omega))
    have HOr := Lib.hid (fun k (hg : k < gN x y) => or_new' (q_lt k (o % 2 ^ k)) (show k < 24 by omega))
    have HNb := Lib.hid (fun k (hg : k ≤ gN x y) => nu_most hk ho h0 hg)
    have HTb := Lib.hid (fun k => t_bd hk (k + 1) (o % 2 ^ k))
    have HK := @Lib.hid _ (fun w' b => @nm_mk (nuN x y o (gN x y) : Int) (nuZ x y o) W w' (nb_yes hip).symm b)
    have HX := Lib.hid (fun T => mbox_new x y o W T)
    have h00 : o % 2 ^ 0 = 0 := by rw [Nat.pow_zero, Nat.mod_one]
    have h01 : qN 0 0 = 0 := rfl
    have h02 : nuN x y o 0 = 0 := rfl
    have H00 := Lib.hid h00
    have H02 := Lib.hid h02
    clear hip hk ho h0 g2 g3 h00 h02
    generalize gN x y = G at *
    go_enter Try.func19, Try.ntmps19
    go_wp2_with fail
    refine (HP.out _).mono ?_
    rintro e w1 ⟨rfl, hb⟩
    have hbl1 := Lib.hid (below_call (HB.out _ _) hb)
    have hxc1 := Lib.hid ((HX.out _).call hb)
    clear hb
    obtain ⟨c0, c1, c2⟩ := hxc1.out.1
    go_wp2_with fail
    go_loopw [3, 4, 5, 6] (fun u3 u4 u5 u6 wr => ∃ k : Nat, k ≤ G ∧ u3 = .int .i64 (nuN x y o k) ∧ u4 = .int .i64 ((o % 2 ^ k : Nat) : Int) ∧ u5 = .int .i64 (qN k (o % 2 ^ k)) ∧ u6 = .int .i64 k ∧ Below W.heap.size W wr ∧ MBox W.heap.size x y o wr) (fun _ _ _ u6 _ => G - (intOf u6).toNat)
    case atStart => exact ⟨0, Nat.zero_le _, by rw [H02.out]; rfl, by rw [H00.out]; rfl, by rw [H00.out]; rfl, rfl, hbl1.out, hxc1.out⟩
    case round =>
      obtain ⟨k, hkG, rfl, rfl, rfl, rfl, hb0, hx0⟩ := hrel
      clear hbl1 hxc1
      have hbl := Lib.hid hb0
      have hx := Lib.hid hx0
      obtain ⟨m0, m1, m2⟩ := hx0.1
      clear hb0 hx0
      go_wp2_with fail
      refine (HG.out _).mono ?_
      rintro e w2 ⟨rfl, hb⟩
      have hbl2 := Lib.hid (below_call hbl.out hb)
      have hx2 := Lib.hid (hx.out.call hb)
      clear hb hbl hx m0 m1 m2
      obtain ⟨m0, m1, m2⟩ := hx2.out.1
      by_cases hkn : k < G
      · have hd : decide ((k : Int) < (G : Int)) = true := decide_eq_true (by omega)
        have hk0 : (0 : Int) ≤ (k : Int) := Int.natCast_nonneg _
        have hk24 : (k : Int) < 24 := by omega
        have HB1 := Lib.hid (HBit.out k hkn)
        rw [HBb.out k hkn] at HB1
        have HC1 := Lib.hid (HCf.out k hkn)
        have hop := HOp.out k hkn
        have hoq := HOq.out k hkn
        have hor := HOr.out k hkn
        have n1 := HNb.out k (by omega)
        have n2 := HTb.out k
        by_cases hbt : bt o k = 1
        · rw [decide_eq_true hbt] at HB1
          have HY1 := Lib.hid (HY.out k hbt)
          clear hbt HY HN HOp HOq HOr HNb HTb HCf HBit HBb H00 H02
          generalize hP : o % 2 ^ k = P at *
          generalize hQ : qN k P = Q at *
          generalize hQ' : Q + 2 ^ k = Q' at *
          generalize hP' : P + 2 ^ k = P' at *
          generalize hT : tkN x y (k + 1) P = T at *
          generalize hN : nuN x y o k = N at *
          have q1 : IntKind.i64.wrap ((N : Int) + (T : Int)) = ((N + T : Nat) : Int) := by rw [IntWalk.i64_in _ (by omega)]; omega
          go_wp2_with fail
          refine (HB1.out _).mono ?_
          rintro e w3 ⟨rfl, rfl⟩
          go_wp2_with fail
          try simp only [List.cons_append, List.nil_append, List.append_eq]
          refine wp_region_held_drew (S := (fun w' => w'.cell? ⟨W.heap.size, 0, none⟩ = some (.int .i64 x) ∧ w'.cell? ⟨W.heap.size, 1, none⟩ = some (.int .i64 y) ∧ w'.cell? ⟨W.heap.size, 2, none⟩ = some (.int .i64 o))) (by kernel_rfl) ?_ (fun hHeld0 => ?_)
          · (try dsimp only); go_keep
          refine wpAnyH_take (i := 0) (oi := { dst := some 21, op := Go.Op.move (Go.Operand.tmp 3), type := 3, pos := "l13_number.go:16", after := #[], guard := none }) (v := ?_) rfl (by kernel_rfl) (by kernel_rfl) (by kernel_rfl) (fun _ _ _ h => h) (Or.inl ⟨by rfl, ?_⟩) (by assumption) ?_
          rotate_left
          · (intro w hSw; (try dsimp only at hSw); go_simp; try with_reducible rfl)
          try simp only [Act.put, List.setIfInBounds_toArray, List.set_cons_zero, List.set_cons_succ]
          refine wpAnyH_take (i := 1) (oi := { dst := some 22, op := Go.Op.fieldAddr 27 (Go.Operand.tmp 1) 0, type := 0, pos := "l13_number.go:16", after := #[], guard := none }) (v := ?_) rfl (by kernel_rfl) (by kernel_rfl) (by kernel_rfl) (fun _ _ _ h => h) (Or.inl ⟨by rfl, ?_⟩) (by assumption) ?_
          rotate_left
          · (intro w hSw; (try dsimp only at hSw); go_simp; try with_reducible rfl)
          try simp only [Act.put, List.setIfInBounds_toArray, List.set_cons_zero, List.set_cons_succ]
          refine wpAnyH_take (i := 2) (oi := { dst := some 23, op := Go.Op.load 25 (Go.Operand.tmp 22), type := 25, pos := "l13_number.go:16", after := #[{ on := 1, ground := Go.Ground.data }], guard := none }) (v := ?_) rfl (by kernel_rfl) (by kernel_rfl) (by kernel_rfl) (fun _ _ _ h => h) (Or.inl ⟨by rfl, ?_⟩) (by assumption) ?_
          rotate_left
          · (intro w hSw; (try dsimp only at hSw); go_simp; try with_reducible rfl)
          try simp only [Act.put, List.setIfInBounds_toArray, List.set_cons_zero, List.set_cons_succ]
          refine wpAnyH_take (i := 3) (oi := { dst := some 24, op := Go.Op.move (Go.Operand.tmp 4), type := 3, pos := "l13_number.go:16", after := #[], guard := none }) (v := ?_) rfl (by kernel_rfl) (by kernel_rfl) (by kernel_rfl) (fun _ _ _ h => h) (Or.inl ⟨by rfl, ?_⟩) (by assumption) ?_
          rotate_left
          · (intro w hSw; (try dsimp only at hSw); go_simp; try with_reducible rfl)
          try simp only [Act.put, List.setIfInBounds_toArray, List.set_cons_zero, List.set_cons_succ]
          refine wpAnyH_take (i := 4) (oi := { dst := some 25, op := Go.Op.move (Go.Operand.tmp 5), type := 3, pos := "l13_number.go:16", after := #[], guard := none }) (v := ?_) rfl (by kernel_rfl) (by kernel_rfl) (by kernel_rfl) (fun _ _ _ h => h) (Or.inl ⟨by rfl, ?_⟩) (by assumption) ?_
          rotate_left
          · (intro w hSw; (try dsimp only at hSw); go_simp; try with_reducible rfl)
          try simp only [Act.put, List.setIfInBounds_toArray, List.set_cons_zero, List.set_cons_succ]
          refine wpAnyH_take (i := 5) (oi := { dst := some 26, op := Go.Op.move (Go.Operand.tmp 6), type := 3, pos := "l13_number.go:16", after := #[], guard := none }) (v := ?_) rfl (by kernel_rfl) (by kernel_rfl) (by kernel_rfl) (fun _ _ _ h => h) (Or.inl ⟨by rfl, ?_⟩) (by assumption) ?_
          rotate_left
          · (intro w hSw; (try dsimp only at hSw); go_simp; try with_reducible rfl)
          try simp only [Act.put, List.setIfInBounds_toArray, List.set_cons_zero, List.set_cons_succ]
          refine wpAnyH_take (i := 6) (oi := { dst := some 27, op := Go.Op.binOp Go.BinOp.shl 3 (Go.Operand.const (Go.Value.int Go.IntKind.i64 1)) (Go.Operand.tmp 26) 3, type := 3, pos := "l13_number.go:16", after := #[{ on := 5, ground := Go.Ground.data }], guard := none }) (v := ?_) rfl (by kernel_rfl) (by kernel_rfl) (by kernel_rfl) (fun _ _ _ h => h) (Or.inl ⟨by rfl, ?_⟩) (by assumption) ?_
          rotate_left
          · (intro w hSw; (try dsimp only at hSw); go_simp; try with_reducible rfl)
          try simp only [Act.put, List.setIfInBounds_toArray, List.set_cons_zero, List.set_cons_succ]
          refine wpAnyH_take (i := 7) (oi := { dst := some 28, op := Go.Op.binOp Go.BinOp.or 3 (Go.Operand.tmp 25) (Go.Operand.tmp 27) 3, type := 3, pos := "l13_number.go:16", after := #[{ on := 4, ground := Go.Ground.data }, { on := 6, ground := Go.Ground.data }], guard := none }) (v := ?_) rfl (by kernel_rfl) (by kernel_rfl) (by kernel_rfl) (fun _ _ _ h => h) (Or.inl ⟨by rfl, ?_⟩) (by assumption) ?_
          rotate_left
          · (intro w hSw; (try dsimp only at hSw); go_simp; try with_reducible rfl)
          try simp only [Act.put, List.setIfInBounds_toArray, List.set_cons_zero, List.set_cons_succ]
          refine wpAnyH_ready (rs := [8]) (by kernel_rfl) (by simp) ?_
          refine AllReadyH.cons (o := { dst := some 29, op := Go.Op.call { callee := Go.Callee.value (Go.Operand.func 36), args := #[Go.Operand.tmp 23, Go.Operand.tmp 24, Go.Operand.tmp 28], argTypes := #[25, 3, 3] }, type := 3, pos := "l13_number.go:16", after := #[{ on := 2, ground := Go.Ground.data }, { on := 3, ground := Go.Ground.data }, { on := 7, ground := Go.Ground.data }], guard := none }) rfl (fun K8 hK8 => ?_) AllReadyH.nil
          go_simp
          ((try simp only [hor]); refine (HC1.out _).mono ?_; rintro e v1 ⟨rfl, hb⟩; have hbl3 := Lib.hid (below_call (below_dr hbl2.out) hb); have hx3 := Lib.hid (mbox_after hb hx2.out); clear hb; obtain ⟨p1, p2, p3⟩ := hx3.out.1)
          go_wp2_with fail
          refine hK8.out _ _ ?_ (fun hHeld1 => ?_)
          · (try dsimp only); go_keep
          clear hK8 K8 hHeld0
          try simp only [Act.put, List.setIfInBounds_toArray, List.set_cons_zero, List.set_cons_succ]
          refine wpAnyH_take (i := 9) (oi := { dst := some 30, op := Go.Op.binOp Go.BinOp.add 3 (Go.Operand.tmp 21) (Go.Operand.tmp 29) 3, type := 3, pos := "l13_number.go:16", after := #[{ on := 0, ground := Go.Ground.data }, { on := 8, ground := Go.Ground.data }], guard := none }) (v := ?_) rfl (by kernel_rfl) (by kernel_rfl) (by kernel_rfl) (fun _ _ _ h => h) (Or.inl ⟨by rfl, ?_⟩) (by assumption) ?_
          rotate_left
          · (intro w hSw; (try dsimp only at hSw); go_simp; try with_reducible rfl)
          try simp only [Act.put, List.setIfInBounds_toArray, List.set_cons_zero, List.set_cons_succ]
          refine wpAnyH_take (i := 10) (oi := { dst := some 3, op := Go.Op.assign (Go.Operand.tmp 30), type := 3, pos := "l13_number.go:16", after := #[{ on := 9, ground := Go.Ground.data }, { on := 8, ground := Go.Ground.chain }, { on := 0, ground := Go.Ground.phase }, { on := 1, ground := Go.Ground.phase }, { on := 2, ground := Go.Ground.phase }, { on := 3, ground := Go.Ground.phase }, { on := 4, ground := Go.Ground.phase }, { on := 5, ground := Go.Ground.phase }, { on := 6, ground := Go.Ground.phase }, { on := 7, ground := Go.Ground.phase }, { on := 8, ground := Go.Ground.phase }, { on := 9, ground := Go.Ground.phase }], guard := none }) (v := ?_) rfl (by kernel_rfl) (by kernel_rfl) (by kernel_rfl) (fun _ _ _ h => h) (Or.inl ⟨by rfl, ?_⟩) (by assumption) ?_
          rotate_left
          · (intro w hSw; (try dsimp only at hSw); go_simp; try with_reducible rfl)
          try simp only [Act.put, List.setIfInBounds_toArray, List.set_cons_zero, List.set_cons_succ]
          refine wpAnyH_done (by kernel_rfl) ?_ _
          go_wp2_with fail
          go_roundw
          case rel => exact ⟨k + 1, by omega, by rw [HY1.out.2.1]; (try go_num), by rw [HY1.out.1]; (try go_num), by rw [HY1.out.2.2], by go_num, hbl3.out, hx3.out⟩
          case measure => simp [intOf]; omega
        · rw [decide_eq_false hbt] at HB1
          have HY1 := Lib.hid (HN.out k hbt)
          clear hbt HY HN HOp HOq HOr HNb HTb HCf HBit HBb H00 H02
          generalize hP : o % 2 ^ k = P at *
          generalize hQ : qN k P = Q at *
          generalize hQ' : Q + 2 ^ k = Q' at *
          generalize hN : nuN x y o k = N at *
          go_wp2_with fail
          refine (HB1.out _).mono ?_
          rintro e w3 ⟨rfl, rfl⟩
          go_wp2_with fail
          go_roundw
          case rel => exact ⟨k + 1, by omega, by rw [HY1.out.2.1], by rw [HY1.out.1], by rw [HY1.out.2.2]; (try go_num), by go_num, hbl2.out, hx2.out⟩
          case measure => simp [intOf]; omega
      · obtain rfl : k = G := by omega
        have hd : decide ((k : Int) < (k : Int)) = false := by simp
        go_wp2_with fail
        go_ret
        exact HK.out _ hbl2.out

/-- What stands: the argument's box, and the block in which the answer is made. -/
def MS (W : World) (x y : Int) (X : World) : Prop := Below W.heap.size W X ∧ Box W.heap.size x y X ∧ Row3 (W.heap.size + 1) 0 0 0 X
theorem MS.call {W X X' : World} {x y : Int} (h : MS W x y X) (hb : Below X.heap.size X X') : MS W x y X' := ⟨below_call h.1 hb, h.2.1.call hb, h.2.2.call hb⟩
theorem MS.dr {W X : World} {x y : Int} (h : MS W x y X) : MS W x y X.drew := h.call ⟨rfl, rfl, rfl, Nat.le_refl _, fun _ _ => rfl⟩
theorem ms_new (x y : Int) (W : World) (T T' : TypeId) : MS W x y ((W.alloc (.cells #[.int .i64 x, .int .i64 y] T)).alloc (.cells #[.int .i64 0, .int .i64 0, .int .i64 0] T')) :=
  ⟨below_two _ _ _, box_two x y W T _, by have := row3_new 0 0 0 (W.alloc (.cells #[.int .i64 x, .int .i64 y] T)) T'; simpa using this⟩
theorem below_set3 {W X Y : World} {b : Nat} {u v w : Value} (h : Below W.heap.size W X) (hb : W.heap.size ≤ b) (hY : Y = ((X.setCell ⟨b, 0, none⟩ u).setCell ⟨b, 1, none⟩ v).setCell ⟨b, 2, none⟩ w) : Below W.heap.size W Y := by
  subst hY
  exact Below.setCell (Below.setCell (Below.setCell h hb _) hb _) hb _
theorem mzb4 {x x' y y' z z' : Int} {b b' : Bool} {w w' : World} (hx : x = x') (hy : y = y') (h : z = z') (h' : b = b') (hb : Below w.heap.size w w') : MzB x' y' z' b' w (.returned (.tuple #[.agg #[.int .i64 x, .int .i64 y, .int .i64 z], .bool b])) w' := ⟨by rw [hx, hy, h, h'], hb⟩

set_option maxRecDepth 100000 in
set_option maxHeartbeats 2000000 in
theorem mazeAt_any (x y n : Int) (W : World) :
    Calls Try.prog 21 #[.agg #[.int .i64 x, .int .i64 y], .int .i64 n] W (MzB (atX x y n) (atY x y n) (atO x y n) (atB x y n) W) := by
  have HA := Lib.hid (fun X => countAll_any x y X)
  have HM := Lib.hid (fun T T' => ms_new x y W T T')
  have hcb := cntU.cf_bd x y 0 0
  have q1 : IntKind.i64.wrap (cfZ x y 0 0 - 1) = cfZ x y 0 0 - 1 := IntWalk.i64_in _ (by omega)
  by_cases h : 0 ≤ n ∧ n < cfZ x y 0 0
  · have HI : Hid (∀ X, Calls Try.prog 40 #[.int .i64 n, .int .i64 0, .int .i64 (cfZ x y 0 0 - 1)] X fun e w' => e = .returned (.bool true) ∧ X = w') := fun X => gridS.in_yes n 0 _ X h.1 (by omega)
    obtain ⟨hk, m, rfl, hm, e1, e2, e3, e4⟩ := at_yes h
    obtain ⟨g1, g2, g3⟩ := g24 hk
    have HG : Hid (∀ X, Calls Try.prog 38 #[.agg #[.int .i64 x, .int .i64 y]] X (Nm (gpsZ x y) X)) := fun X => gridS.countGaps_yes x y X hk.1 hk.2.1 hk.2.2.1 hk.2.2.2
    rw [g3] at HG
    have HCf : Hid (∀ k : Nat, k < gN x y → ∀ X, Calls Try.prog 36 #[.agg #[.int .i64 x, .int .i64 y], .int .i64 (((maS x y m k).1 : Nat) : Int), .int .i64 ((qN k (maS x y m k).1 + 2 ^ k : Nat) : Int)] X (Nm (tkN x y (k + 1) (maS x y m k).1) X)) := fun k hg X => by
      have := cntU.countFixed_any x y (((maS x y m k).1 : Nat) : Int) ((qN k (maS x y m k).1 + 2 ^ k : Nat) : Int) X
      rwa [t_cf hk hg (ma_lt hm (by omega))] at this
    have HY := Lib.hid (fun k (hg : k < gN x y) (h : ¬ (maS x y m k).2 < tkN x y (k + 1) (maS x y m k).1) => (⟨(ma_yes h).1, (ma_yes h).2, by rw [(ma_yes h).1]; exact q_same (ma_lt hm (by omega))⟩ : _ ∧ _ ∧ qN (k + 1) (maS x y m (k + 1)).1 = qN k (maS x y m k).1))
    have HN := Lib.hid (fun k (hg : k < gN x y) (h : (maS x y m k).2 < tkN x y (k + 1) (maS x y m k).1) => (⟨(ma_no h).1, (ma_no h).2, by rw [(ma_no h).1]; exact q_more (ma_lt hm (by omega))⟩ : _ ∧ _ ∧ qN (k + 1) (maS x y m (k + 1)).1 = qN k (maS x y m k).1 + 2 ^ k))
    have HOp := Lib.hid (fun k (hg : k < gN x y) => or_new (ma_lt (x := x) (y := y) hm (show k ≤ gN x y by omega)) (show k < 24 by omega))
    have HOq := Lib.hid (fun k (hg : k < gN x y) => or_new (q_lt k (maS x y m k).1) (show k < 24 by omega))
    have HOr := Lib.hid (fun k (hg : k < gN x y) => or_new' (q_lt k (maS x y m k).1) (show k < 24 by omega))
    have HRb := Lib.hid (fun k (hg : k ≤ gN x y) => ma_bd hk hm hg)
    have HTb := Lib.hid (fun k => t_bd hk (k + 1) (maS x y m k).1)
    have HK := @Lib.hid _ (fun w' b => @mzb4 x (atX x y m) y (atY x y m) _ (atO x y m) true (atB x y m) W w' e2.symm e3.symm e4.symm e1.symm b)
    have h00 : (maS x y m 0).1 = 0 := rfl
    have h01 : qN 0 0 = 0 := rfl
    have h02 : (maS x y m 0).2 = m := rfl
    have H00 := Lib.hid h00
    have H02 := Lib.hid h02
    clear h hk hm e1 e2 e3 e4 g2 g3 h00 h02
    generalize cfZ x y 0 0 = T0 at *
    generalize atX x y m = x' at *
    generalize atY x y m = y' at *
    generalize atO x y m = z' at *
    generalize atB x y m = b' at *
    generalize gN x y = G at *
    generalize hp : (fun k => (maS x y m k).1) = p at *
    generalize hr : (fun k => (maS x y m k).2) = r at *
    have hp' : ∀ k, (maS x y m k).1 = p k := fun k => by rw [← hp]
    have hr' : ∀ k, (maS x y m k).2 = r k := fun k => by rw [← hr]
    simp only [hp', hr'] at *
    clear hp hr hp' hr'
    go_enter Try.func21, Try.ntmps21
    go_wp2_with fail
    refine (HA.out _).mono ?_
    rintro e w1 ⟨rfl, hb⟩
    have hm1 := Lib.hid ((HM.out _ _).call hb)
    clear hb HM
    obtain ⟨c0, c1⟩ := hm1.out.2.1.1
    go_wp2_with fail
    refine (HI.out _).mono ?_
    rintro e w' ⟨rfl, rfl⟩
    go_wp2_with fail
    clear q1
    go_loopw [1, 6, 7, 8] (fun u1 u6 u7 u8 wr => ∃ k : Nat, k ≤ G ∧ u1 = .int .i64 (r k) ∧ u6 = .int .i64 (p k) ∧ u7 = .int .i64 (qN k (p k)) ∧ u8 = .int .i64 k ∧ MS W x y wr) (fun _ _ _ u8 _ => G - (intOf u8).toNat)
    case atStart => exact ⟨0, Nat.zero_le _, by rw [H02.out], by rw [H00.out]; rfl, by rw [H00.out]; rfl, rfl, hm1.out⟩
    case round =>
      obtain ⟨k, hkG, rfl, rfl, rfl, rfl, hm0⟩ := hrel
      clear hm1 c0 c1
      have hms := Lib.hid hm0
      obtain ⟨c0, c1⟩ := hm0.2.1.1
      clear hm0
      go_wp2_with fail
      refine (HG.out _).mono ?_
      rintro e w2 ⟨rfl, hb⟩
      have hm2 := Lib.hid (hms.out.call hb)
      clear hb hms c0 c1
      obtain ⟨c0, c1⟩ := hm2.out.2.1.1
      by_cases hkn : k < G
      · have hd : decide ((k : Int) < (G : Int)) = true := decide_eq_true (by omega)
        have hk0 : (0 : Int) ≤ (k : Int) := Int.natCast_nonneg _
        have hk24 : (k : Int) < 24 := by omega
        have HC1 := Lib.hid (HCf.out k hkn)
        have hop := HOp.out k hkn
        have hoq := HOq.out k hkn
        have hor := HOr.out k hkn
        have n1 := HRb.out k (by omega)
        have n2 := HTb.out k
        have HY1 := Lib.hid (HY.out k hkn)
        have HN1 := Lib.hid (HN.out k hkn)
        clear HY HN HOp HOq HOr HRb HTb HCf H00 H02
        generalize hP : p k = P at *
        generalize hQ : qN k P = Q at *
        generalize hQ' : Q + 2 ^ k = Q' at *
        generalize hP' : P + 2 ^ k = P' at *
        generalize hT : tkN x y (k + 1) P = T at *
        generalize hN : r k = R at *
        go_wp2_with fail
        try simp only [List.cons_append, List.nil_append, List.append_eq]
        refine wp_region_held_drew (S := (fun w' => w'.cell? ⟨W.heap.size, 0, none⟩ = some (.int .i64 x) ∧ w'.cell? ⟨W.heap.size, 1, none⟩ = some (.int .i64 y))) (by kernel_rfl) ?_ (fun hHeld0 => ?_)
        · (try dsimp only); go_keep
        refine wpAnyH_take (i := 0) (oi := { dst := some 23, op := Go.Op.load 25 (Go.Operand.tmp 2), type := 25, pos := "l13_number.go:32", after := #[], guard := none }) (v := ?_) rfl (by kernel_rfl) (by kernel_rfl) (by kernel_rfl) (fun _ _ _ h => h) (Or.inl ⟨by rfl, ?_⟩) (by assumption) ?_
        rotate_left
        · (intro w hSw; (try dsimp only at hSw); go_simp; try with_reducible rfl)
        try simp only [Act.put, List.setIfInBounds_toArray, List.set_cons_zero, List.set_cons_succ]
        refine wpAnyH_take (i := 1) (oi := { dst := some 24, op := Go.Op.move (Go.Operand.tmp 6), type := 3, pos := "l13_number.go:32", after := #[], guard := none }) (v := ?_) rfl (by kernel_rfl) (by kernel_rfl) (by kernel_rfl) (fun _ _ _ h => h) (Or.inl ⟨by rfl, ?_⟩) (by assumption) ?_
        rotate_left
        · (intro w hSw; (try dsimp only at hSw); go_simp; try with_reducible rfl)
        try simp only [Act.put, List.setIfInBounds_toArray, List.set_cons_zero, List.set_cons_succ]
        refine wpAnyH_take (i := 2) (oi := { dst := some 25, op := Go.Op.move (Go.Operand.tmp 7), type := 3, pos := "l13_number.go:32", after := #[], guard := none }) (v := ?_) rfl (by kernel_rfl) (by kernel_rfl) (by kernel_rfl) (fun _ _ _ h => h) (Or.inl ⟨by rfl, ?_⟩) (by assumption) ?_
        rotate_left
        · (intro w hSw; (try dsimp only at hSw); go_simp; try with_reducible rfl)
        try simp only [Act.put, List.setIfInBounds_toArray, List.set_cons_zero, List.set_cons_succ]
        refine wpAnyH_take (i := 3) (oi := { dst := some 26, op := Go.Op.move (Go.Operand.tmp 8), type := 3, pos := "l13_number.go:32", after := #[], guard := none }) (v := ?_) rfl (by kernel_rfl) (by kernel_rfl) (by kernel_rfl) (fun _ _ _ h => h) (Or.inl ⟨by rfl, ?_⟩) (by assumption) ?_
        rotate_left
        · (intro w hSw; (try dsimp only at hSw); go_simp; try with_reducible rfl)
        try simp only [Act.put, List.setIfInBounds_toArray, List.set_cons_zero, List.set_cons_succ]
        refine wpAnyH_take (i := 4) (oi := { dst := some 27, op := Go.Op.binOp Go.BinOp.shl 3 (Go.Operand.const (Go.Value.int Go.IntKind.i64 1)) (Go.Operand.tmp 26) 3, type := 3, pos := "l13_number.go:32", after := #[{ on := 3, ground := Go.Ground.data }], guard := none }) (v := ?_) rfl (by kernel_rfl) (by kernel_rfl) (by kernel_rfl) (fun _ _ _ h => h) (Or.inl ⟨by rfl, ?_⟩) (by assumption) ?_
        rotate_left
        · (intro w hSw; (try dsimp only at hSw); go_simp; try with_reducible rfl)
        try simp only [Act.put, List.setIfInBounds_toArray, List.set_cons_zero, List.set_cons_succ]
        refine wpAnyH_take (i := 5) (oi := { dst := some 28, op := Go.Op.binOp Go.BinOp.or 3 (Go.Operand.tmp 25) (Go.Operand.tmp 27) 3, type := 3, pos := "l13_number.go:32", after := #[{ on := 2, ground := Go.Ground.data }, { on := 4, ground := Go.Ground.data }], guard := none }) (v := ?_) rfl (by kernel_rfl) (by kernel_rfl) (by kernel_rfl) (fun _ _ _ h => h) (Or.inl ⟨by rfl, ?_⟩) (by assumption) ?_
        rotate_left
        · (intro w hSw; (try dsimp only at hSw); go_simp; try with_reducible rfl)
        try simp only [Act.put, List.setIfInBounds_toArray, List.set_cons_zero, List.set_cons_succ]
        refine wpAnyH_ready (rs := [6]) (by kernel_rfl) (by simp) ?_
        refine AllReadyH.cons (o := { dst := some 29, op := Go.Op.call { callee := Go.Callee.value (Go.Operand.func 36), args := #[Go.Operand.tmp 23, Go.Operand.tmp 24, Go.Operand.tmp 28], argTypes := #[25, 3, 3] }, type := 3, pos := "l13_number.go:32", after := #[{ on := 0, ground := Go.Ground.data }, { on := 1, ground := Go.Ground.data }, { on := 5, ground := Go.Ground.data }], guard := none }) rfl (fun K6 hK6 => ?_) AllReadyH.nil
        go_simp
        ((try simp only [hor]); refine (HC1.out _).mono ?_; rintro e v1 ⟨rfl, hb⟩; have hm3 := Lib.hid (hm2.out.dr.call hb); clear hb; obtain ⟨d0, d1⟩ := hm3.out.2.1.1)
        go_wp2_with fail
        refine hK6.out _ _ ?_ (fun hHeld1 => ?_)
        · (try dsimp only); go_keep
        clear hK6 K6 hHeld0
        try simp only [Act.put, List.setIfInBounds_toArray, List.set_cons_zero, List.set_cons_succ]
        refine wpAnyH_take (i := 7) (oi := { dst := some 9, op := Go.Op.assign (Go.Operand.tmp 29), type := 3, pos := "l13_number.go:32", after := #[{ on := 6, ground := Go.Ground.data }, { on := 6, ground := Go.Ground.chain }, { on := 0, ground := Go.Ground.phase }, { on := 1, ground := Go.Ground.phase }, { on := 2, ground := Go.Ground.phase }, { on := 3, ground := Go.Ground.phase }, { on := 4, ground := Go.Ground.phase }, { on := 5, ground := Go.Ground.phase }, { on := 6, ground := Go.Ground.phase }], guard := none }) (v := ?_) rfl (by kernel_rfl) (by kernel_rfl) (by kernel_rfl) (fun _ _ _ h => h) (Or.inl ⟨by rfl, ?_⟩) (by assumption) ?_
        rotate_left
        · (intro w hSw; (try dsimp only at hSw); go_simp; try with_reducible rfl)
        try simp only [Act.put, List.setIfInBounds_toArray, List.set_cons_zero, List.set_cons_succ]
        refine wpAnyH_done (by kernel_rfl) ?_ _
        by_cases hlt : R < T
        · have hd2 : decide ((R : Int) < (T : Int)) = true := decide_eq_true (by omega)
          have HS := Lib.hid (HN1.out hlt)
          clear HN1 HY1
          go_wp2_with fail
          go_roundw
          case rel => exact ⟨k + 1, by omega, by rw [HS.out.2.1], by rw [HS.out.1], by rw [HS.out.2.2]; (try go_num), by go_num, hm3.out⟩
          case measure => simp [intOf]; omega
        · have hd2 : decide ((R : Int) < (T : Int)) = false := decide_eq_false (by omega)
          have HS := Lib.hid (HY1.out hlt)
          have q2 : IntKind.i64.wrap ((R : Int) - (T : Int)) = ((R - T : Nat) : Int) := by rw [IntWalk.i64_in _ (by omega)]; omega
          clear HN1 HY1
          go_wp2_with fail
          go_roundw
          case rel => exact ⟨k + 1, by omega, by rw [HS.out.2.1], by rw [HS.out.1], by rw [HS.out.2.2], by go_num, hm3.out⟩
          case measure => simp [intOf]; omega
      · obtain rfl : k = G := by omega
        have hd : decide ((k : Int) < (k : Int)) = false := by simp
        obtain ⟨⟨e0, e1, e2⟩, f0, f1, f2⟩ := row3_cells hm2.out.2.2
        go_wp2_with fail
        refine ret_set3 e0 e1 e2 fun Y g0 g1 g2 hY => ?_
        exact bodyPost_ret (v := .tuple #[.agg #[.int .i64 x, .int .i64 y, .int .i64 (p k)], .bool true]) (by simp [results, Try.results21, go_sem, g0, g1, g2]) rfl (HK.out _ (below_set3 hm2.out.1 (by omega) hY))
  · have HI : Hid (∀ X, Calls Try.prog 40 #[.int .i64 n, .int .i64 0, .int .i64 (cfZ x y 0 0 - 1)] X fun e w' => e = .returned (.bool false) ∧ X = w') := fun X => gridS.in_no n 0 _ X (by omega)
    obtain ⟨e1, e2, e3, e4⟩ := at_no h
    have HK := @Lib.hid _ (fun w' b => @mzb4 0 (atX x y n) 0 (atY x y n) 0 (atO x y n) false (atB x y n) W w' e2.symm e3.symm e4.symm e1.symm b)
    clear h e1 e2 e3 e4
    generalize cfZ x y 0 0 = T0 at *
    generalize atX x y n = x' at *
    generalize atY x y n = y' at *
    generalize atO x y n = z' at *
    generalize atB x y n = b' at *
    go_enter Try.func21, Try.ntmps21
    go_wp2_with fail
    refine (HA.out _).mono ?_
    rintro e w1 ⟨rfl, hb⟩
    have hm1 := Lib.hid ((HM.out _ _).call hb)
    clear hb HM
    obtain ⟨c0, c1⟩ := hm1.out.2.1.1
    obtain ⟨⟨e0, e1, e2⟩, f0, f1, f2⟩ := row3_cells hm1.out.2.2
    go_wp2_with fail
    refine (HI.out _).mono ?_
    rintro e w' ⟨rfl, rfl⟩
    go_wp2_with fail
    refine ret_set3 e0 e1 e2 fun Y g0 g1 g2 hY => ?_
    exact bodyPost_ret (v := .tuple #[.agg #[.int .i64 0, .int .i64 0, .int .i64 0], .bool false]) (by simp [results, Try.results21, go_sem, g0, g1, g2]) rfl (HK.out _ (below_set3 hm1.out.1 (by omega) hY))

/-- What stands: the argument's box, and the block in which the answer is made. -/
def NS (W : World) (x y z : Int) (X : World) : Prop := Below W.heap.size W X ∧ MBox W.heap.size x y z X ∧ Row3 (W.heap.size + 1) 0 0 0 X
theorem NS.call {W X X' : World} {x y z : Int} (h : NS W x y z X) (hb : Below X.heap.size X X') : NS W x y z X' := ⟨below_call h.1 hb, h.2.1.call hb, h.2.2.call hb⟩
theorem ns_new (x y z : Int) (W : World) (T T' : TypeId) : NS W x y z ((W.alloc (.cells #[.int .i64 x, .int .i64 y, .int .i64 z] T)).alloc (.cells #[.int .i64 0, .int .i64 0, .int .i64 0] T')) :=
  ⟨below_two _ _ _, mbox_two x y z W T _, by have := row3_new 0 0 0 (W.alloc (.cells #[.int .i64 x, .int .i64 y, .int .i64 z] T)) T'; simpa using this⟩

set_option maxRecDepth 100000 in
set_option maxHeartbeats 2000000 in
theorem nextMaze_any (x y z : Int) (W : World) :
    Calls Try.prog 23 #[.agg #[.int .i64 x, .int .i64 y, .int .i64 z]] W (MzB x y (nmO x y z) (nmB x y z) W) := by
  have HNo := Lib.hid (fun X => numberOf_any x y z X)
  have HM := Lib.hid (fun T T' => ns_new x y z W T T')
  have hbd := nb_bd x y z
  have q1 : IntKind.i64.wrap (nuZ x y z + 1) = nuZ x y z + 1 := IntWalk.i64_in _ (by omega)
  by_cases h0 : 0 ≤ nuZ x y z
  · have hd : decide (nuZ x y z < 0) = false := decide_eq_false (by omega)
    have HAt := Lib.hid (fun X => mazeAt_any x y (nuZ x y z + 1) X)
    cases hb' : atB x y (nuZ x y z + 1) with
    | true =>
      obtain ⟨e1, e2⟩ := at_ok hb'
      obtain ⟨e3, e4⟩ := nm_yes h0 hb'
      rw [hb', e1, e2] at HAt
      have HK := @Lib.hid _ (fun w' b => @mzb4 x x y y (atO x y (nuZ x y z + 1)) (nmO x y z) true (nmB x y z) W w' rfl rfl e4.symm e3.symm b)
      clear hb' e1 e2 e3 e4
      generalize atO x y (nuZ x y z + 1) = z1 at *
      generalize nmO x y z = z2 at *
      generalize nmB x y z = b2 at *
      generalize nuZ x y z = N at *
      go_enter Try.func23, Try.ntmps23
      go_wp2_with fail
      refine (HNo.out _).mono ?_
      rintro e w1 ⟨rfl, hb⟩
      have hm1 := Lib.hid ((HM.out _ _).call hb)
      clear hb HM
      obtain ⟨c0, c1, c2⟩ := hm1.out.2.1.1
      go_wp2_with fail
      refine (HAt.out _).mono ?_
      rintro e w2 ⟨rfl, hb⟩
      have hm2 := Lib.hid (hm1.out.call hb)
      clear hb hm1 c0 c1 c2
      have hm3 := Lib.hid (hm2.out.call (below_box _ (.cells #[.int .i64 x, .int .i64 y, .int .i64 z1] 27)))
      obtain ⟨⟨e0, e1, e2⟩, f0, f1, f2⟩ := row3_cells hm3.out.2.2
      go_wp2_with fail
      refine ret_set3 e0 e1 e2 fun Y g0 g1 g2 hY => ?_
      exact bodyPost_ret (v := .tuple #[.agg #[.int .i64 x, .int .i64 y, .int .i64 z1], .bool true]) (by simp [results, Try.results23, go_sem, g0, g1, g2]) rfl (HK.out _ (below_set3 hm3.out.1 (by omega) hY))
    | false =>
      obtain ⟨e3, e4⟩ := nm_no (.inr hb')
      rw [hb'] at HAt
      have HK := @Lib.hid _ (fun w' b => @mzb4 x x y y z (nmO x y z) false (nmB x y z) W w' rfl rfl e4.symm e3.symm b)
      clear hb' e3 e4
      generalize atX x y (nuZ x y z + 1) = x1 at *
      generalize atY x y (nuZ x y z + 1) = y1 at *
      generalize atO x y (nuZ x y z + 1) = z1 at *
      generalize nmO x y z = z2 at *
      generalize nmB x y z = b2 at *
      generalize nuZ x y z = N at *
      go_enter Try.func23, Try.ntmps23
      go_wp2_with fail
      refine (HNo.out _).mono ?_
      rintro e w1 ⟨rfl, hb⟩
      have hm1 := Lib.hid ((HM.out _ _).call hb)
      clear hb HM
      obtain ⟨c0, c1, c2⟩ := hm1.out.2.1.1
      go_wp2_with fail
      refine (HAt.out _).mono ?_
      rintro e w2 ⟨rfl, hb⟩
      have hm2 := Lib.hid (hm1.out.call hb)
      clear hb hm1 c0 c1 c2
      have hm3 := Lib.hid (hm2.out.call (below_box _ (.cells #[.int .i64 x1, .int .i64 y1, .int .i64 z1] 27)))
      obtain ⟨⟨e0, e1, e2⟩, f0, f1, f2⟩ := row3_cells hm3.out.2.2
      obtain ⟨d0, d1, d2⟩ := hm3.out.2.1.1
      go_wp2_with fail
      refine ret_set3 e0 e1 e2 fun Y g0 g1 g2 hY => ?_
      exact bodyPost_ret (v := .tuple #[.agg #[.int .i64 x, .int .i64 y, .int .i64 z], .bool false]) (by simp [results, Try.results23, go_sem, g0, g1, g2]) rfl (HK.out _ (below_set3 hm3.out.1 (by omega) hY))
  · have hd : decide (nuZ x y z < 0) = true := decide_eq_true (by omega)
    obtain ⟨e3, e4⟩ := nm_no (.inl h0)
    have HK := @Lib.hid _ (fun w' b => @mzb4 x x y y z (nmO x y z) false (nmB x y z) W w' rfl rfl e4.symm e3.symm b)
    clear h0 e3 e4
    generalize nmO x y z = z2 at *
    generalize nmB x y z = b2 at *
    generalize nuZ x y z = N at *
    go_enter Try.func23, Try.ntmps23
    go_wp2_with fail
    refine (HNo.out _).mono ?_
    rintro e w1 ⟨rfl, hb⟩
    have hm1 := Lib.hid ((HM.out _ _).call hb)
    clear hb HM
    obtain ⟨c0, c1, c2⟩ := hm1.out.2.1.1
    obtain ⟨⟨e0, e1, e2⟩, f0, f1, f2⟩ := row3_cells hm1.out.2.2
    go_wp2_with fail
    refine ret_set3 e0 e1 e2 fun Y g0 g1 g2 hY => ?_
    exact bodyPost_ret (v := .tuple #[.agg #[.int .i64 x, .int .i64 y, .int .i64 z], .bool false]) (by simp [results, Try.results23, go_sem, g0, g1, g2]) rfl (HK.out _ (below_set3 hm1.out.1 (by omega) hY))
end Go.Proofs.Ytnfnandpcjgmmaa.nbrM
