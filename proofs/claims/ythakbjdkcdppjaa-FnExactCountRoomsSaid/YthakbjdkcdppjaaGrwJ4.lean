/- The contracts of the program's DivideMaze and CountRooms. -/
import Derived.Test.YthakbjdkcdppjaaGrwJ3
namespace Go.Proofs.Ythakbjdkcdppjaa.grwJ
open Go.ChangeShapes Go.WideShapes Go.ChangeAt Go.RowKit
open draw gridP gridC gridE bitP mazeP mazeC mazeM mazeR mazeI intsP reachP reachM reachN reachD intA listK wayP ersP ersO entO grwP grwO grwI
set_option linter.unusedVariables false

/-- The number of walls. -/
def wkZ (x y : Int) (cs : List Int) : Int := if 1 ≤ x ∧ x ≤ 4 ∧ 1 ≤ y ∧ y ≤ 4 then (((dmS x y cs).2 / 2 : Nat) : Int) else 0
theorem wk_rooms (x y : Int) : wkZ x y [] = crZ x y := rfl
/-- A call answers a division and leaves all that was there. -/
def DgR (W : World) (a b c k : Int) (e : Ending) (w' : World) : Prop := ∃ A' n' c', e = .returned (.agg #[.int .i64 a, .int .i64 b, .int .i64 c, .slice A' n' c', .int .i64 k]) ∧ Below W.heap.size W w'
theorem ret_set5 {P : Program} {fn : Func} {R : Ending → World → Prop} {a : Act} {X W : World} {b : Nat} {a0 a1 a2 a3 a4 u0 u1 u2 u3 u4 : Value} (h : Blk b #[a0, a1, a2, a3, a4] X) (hb : Below W.heap.size W X) (hB : W.heap.size ≤ b)
    (K : ∀ Y, Blk b #[u0, u1, u2, u3, u4] Y → Below W.heap.size W Y → bodyPost P fn R .ret a Y) :
    bodyPost P fn R .ret a (((((X.setCell ⟨b, 0, none⟩ u0).setCell ⟨b, 1, none⟩ u1).setCell ⟨b, 2, none⟩ u2).setCell ⟨b, 3, none⟩ u3).setCell ⟨b, 4, none⟩ u4) :=
  K _ (blk_put (blk_put (blk_put (blk_put (blk_put h 0 u0) 1 u1) 2 u2) 3 u3) 4 u4) (((((hb.setCell (by simpa using hB) _).setCell (by simpa using hB) _).setCell (by simpa using hB) _).setCell (by simpa using hB) _).setCell (by simpa using hB) _)

/-- The grid's box, the answer's block, the choices. -/
def DG (W : World) (x y : Int) (cs : List Int) (v : Value) (X : World) : Prop :=
  Below W.heap.size W X ∧ Box W.heap.size x y X ∧ Blk (W.heap.size + 1) #[.int .i64 0, .int .i64 0, .int .i64 0, .slice none 0 0, .int .i64 0] X ∧ ChV X W.heap.size cs 0 v
section
variable {W X X' : World} {x y : Int} {cs : List Int} {v : Value}
theorem DG.call (h : DG W x y cs v X) (hb : Below X.heap.size X X') : DG W x y cs v X' := ⟨below_call h.1 hb, h.2.1.call hb, h.2.2.1.call hb, h.2.2.2.keep (hb.mono h.1.size)⟩
theorem dg_new (hv : ChV W W.heap.size cs 0 v) (T1 T2 : TypeId) : DG W x y cs v ((W.alloc (.cells #[.int .i64 x, .int .i64 y] T1)).alloc (.cells #[.int .i64 0, .int .i64 0, .int .i64 0, .slice none 0 0, .int .i64 0] T2)) := by
  have hb : Below W.heap.size W ((W.alloc (.cells #[.int .i64 x, .int .i64 y] T1)).alloc (.cells #[.int .i64 0, .int .i64 0, .int .i64 0, .slice none 0 0, .int .i64 0] T2)) := ((Below.refl _ _).alloc (Nat.le_refl _) _).alloc (by simp) _
  refine ⟨hb, (box_new x y W T1).call (below_box _ _), ?_, hv.keep hb⟩
  have := blk_new #[.int .i64 0, .int .i64 0, .int .i64 0, .slice none 0 0, .int .i64 0] (W.alloc (.cells #[.int .i64 x, .int .i64 y] T1)) T2
  simpa using this
end

set_option maxRecDepth 100000 in
set_option maxHeartbeats 2000000 in
theorem divideGrid_any (x y : Int) (A : Option Addr) (n c : Nat) (cs : List Int) (W : World) (hn : cs.length = n) (hc : n ≤ c) (hi : IntsIn W W.heap.size A cs) :
    Calls Try.prog 30 #[.agg #[.int .i64 x, .int .i64 y], .slice A n c] W (DgR W (fmX x y) (fmY x y) (dmO x y cs) (wkZ x y cs)) := by
  have HW := Lib.hid (fun T1 T2 => @dg_new W x y cs (.slice A n c) ⟨A, n, c, rfl, hn, hc, hi⟩ T1 T2)
  clear hi hn hc
  by_cases hk : 1 ≤ x ∧ x ≤ 4 ∧ 1 ≤ y ∧ y ≤ 4
  · have HG : Hid (∀ X, Calls Try.prog 23 #[.agg #[.int .i64 x, .int .i64 y]] X (Bl true X)) := Lib.hid fun X => ok_yes x y X hk.1 hk.2.1 hk.2.2.1 hk.2.2.2
    have HF : Hid (∀ X, Calls Try.prog 51 #[.agg #[.int .i64 x, .int .i64 y]] X (Mz x y (topZ x y) X)) := Lib.hid fun X => by
      have := mazeI.fullMaze_any x y X
      unfold fmX fmY fmO at this
      rwa [if_pos hk, if_pos hk, if_pos hk] at this
    have hxy : x.toNat * y.toNat ≤ 4 * 4 := Nat.mul_le_mul (by omega) (by omega)
    have HD : Hid (∀ D B v X, B ≤ D → Blk D #[.int .i64 x, .int .i64 y, .int .i64 (topZ x y), v, .int .i64 0] X → ChV X B cs 0 v → Calls Try.prog 52 #[.pointer (some ⟨D, 0, none⟩), .agg #[.int .i64 0, .int .i64 x, .int .i64 0, .int .i64 y]] X (DvR X D B cs x y 0 0 (dmS x y cs))) := Lib.hid fun D B v X g0 g1 g2 =>
      divideI_any x y hk D B g0 cs 8 (topZ x y) 0 0 0 x.toNat y.toNat v 0 0 0 x y X rfl rfl (by omega) (by omega) g1 g2 (by omega) (by omega) (by omega) (by omega) (by omega) (by omega) (by omega)
    have HE : Hid (∀ t : Nat, (dmS x y cs).2 = 0 + 2 * t → DgR W x y (dmS x y cs).1 (t : Int) = DgR W (fmX x y) (fmY x y) (dmO x y cs) (wkZ x y cs)) := Lib.hid (fun t ht => by
      unfold dmO fmX fmY wkZ; rw [if_pos hk, if_pos hk, if_pos hk, if_pos hk, ht]
      congr 2; omega)
    clear hxy hk
    generalize dmS x y cs = s at *
    generalize topZ x y = tp at *
    generalize DgR W (fmX x y) (fmY x y) (dmO x y cs) (wkZ x y cs) = PR at *
    go_enter Try.func30, Try.ntmps30
    go_wp2_with fail
    have hdg0 := Lib.hid (HW.out 25 59)
    clear HW
    obtain ⟨⟨b0, b1⟩, -⟩ := hdg0.out.2.1
    refine (HG.out _).mono ?_
    rintro e w1 ⟨rfl, hb⟩
    have hdg1 := Lib.hid (hdg0.out.call hb)
    clear hb hdg0 HG b0 b1
    obtain ⟨⟨b0, b1⟩, -⟩ := hdg1.out.2.1
    go_wp2_with fail
    refine (HF.out _).mono ?_
    rintro e w2 ⟨rfl, hb⟩
    have hdg2 := Lib.hid (hdg1.out.call hb)
    clear hb hdg1 HF b0 b1
    have hdg3 := Lib.hid (hdg2.out.call (below_box w2 (.cells #[.int .i64 x, .int .i64 y, .int .i64 tp, .slice A n c, .int .i64 0] 59)))
    have hbl3 := Lib.hid (blk_new #[.int .i64 x, .int .i64 y, .int .i64 tp, .slice A n c, .int .i64 0] w2 59)
    have hsz := (blk_lt hdg2.out.2.2.1)
    obtain ⟨⟨b0, b1⟩, -⟩ := hdg3.out.2.1
    clear hdg2
    go_wp2_with fail
    generalize w2.alloc (.cells #[.int .i64 x, .int .i64 y, .int .i64 tp, .slice A n c, .int .i64 0] 59) = w3 at *
    generalize w2.heap.size = D at *
    refine (HD.out D W.heap.size _ _ (by omega) hbl3.out hdg3.out.2.2.2).mono ?_
    rintro e w4 ⟨rfl, v', t, hz, ht⟩
    obtain ⟨A', n', c', rfl, -⟩ := hz.2.2.1
    have hbd : Below D w3 w4 := below_grw hz.1 (Nat.le_refl _) (Nat.le_of_lt hz.2.2.2.2)
    have hb4 := Lib.hid (hdg3.out.1.trans (hbd.mono (by omega)))
    have hans := Lib.hid (hdg3.out.2.2.1.low hbd (by omega))
    obtain ⟨⟨m0, m1, m2, m3, m4⟩, -⟩ := blk5_cells hz.2.1
    obtain ⟨⟨e0, e1, e2, e3, e4⟩, f0, f1, f2, f3, f4⟩ := blk5_cells hans.out
    rw [Int.zero_add] at m4
    generalize hs1 : s.1 = o2 at *
    have HPR : Hid (∀ Y, Below W.heap.size W Y → PR (.returned (.agg #[.int .i64 x, .int .i64 y, .int .i64 o2, .slice A' n' c', .int .i64 (t : Int)])) Y) := Lib.hid fun Y hY => by
      rw [← HE.out t ht]; exact ⟨A', n', c', rfl, hY⟩
    clear hs1 hbd hz hdg3 hbl3 HD HE ht b0 b1
    go_wp2_with fail
    refine ret_set5 hans.out hb4.out (Nat.le_succ _) fun Y hY hYb => ?_
    obtain ⟨⟨g0, g1, g2, g3, g4⟩, -⟩ := blk5_cells hY
    refine bodyPost_ret (v := .agg #[.int .i64 x, .int .i64 y, .int .i64 o2, .slice A' n' c', .int .i64 (t : Int)]) (by simp [results, Try.results30, go_sem, g0, g1, g2, g3, g4]) rfl ?_
    exact HPR.out Y hYb
  · have HG : Hid (∀ X, Calls Try.prog 23 #[.agg #[.int .i64 x, .int .i64 y]] X (Bl false X)) := Lib.hid fun X => ok_no x y X hk
    have HE : Hid (DgR W 0 0 0 0 = DgR W (fmX x y) (fmY x y) (dmO x y cs) (wkZ x y cs)) := Lib.hid (by
      unfold dmO fmX fmY wkZ; rw [if_neg hk, if_neg hk, if_neg hk, if_neg hk])
    rw [← HE.out]
    clear hk HE
    go_enter Try.func30, Try.ntmps30
    go_wp2_with fail
    have hdg0 := Lib.hid (HW.out 25 59)
    clear HW
    refine (HG.out _).mono ?_
    rintro e w1 ⟨rfl, hb⟩
    have hdg1 := Lib.hid (hdg0.out.call hb)
    clear hb hdg0 HG
    obtain ⟨⟨e0, e1, e2, e3, e4⟩, f0, f1, f2, f3, f4⟩ := blk5_cells hdg1.out.2.2.1
    go_wp2_with fail
    refine bodyPost_ret (v := .agg #[.int .i64 0, .int .i64 0, .int .i64 0, .slice none 0 0, .int .i64 0]) (by simp [results, Try.results30, go_sem, e0, e1, e2, e3, e4]) rfl ?_
    exact ⟨_, _, _, rfl, ((((hdg1.out.1.setCell (by simp) _).setCell (by simp) _).setCell (by simp) _).setCell (by simp) _).setCell (by simp) _⟩

set_option maxRecDepth 100000 in
theorem divideMazeI_any (x y : Int) (A : Option Addr) (n c : Nat) (cs : List Int) (W : World) (hn : cs.length = n) (hm : n ≤ 1048576) (hi : IntsIn W W.heap.size A cs) (hc : n ≤ c) :
    Calls Try.prog 10 #[.agg #[.int .i64 x, .int .i64 y], .slice A n c] W (Mz (fmX x y) (fmY x y) (dmO x y cs) W) := by
  have HW := Lib.hid (fun T1 T2 => @gw_new W x y A cs hi T1 T2)
  have HD := Lib.hid (fun X h => divideGrid_any x y A n c cs X hn hc h)
  clear hi hn hc
  generalize fmX x y = fx at *
  generalize fmY x y = fy at *
  generalize dmO x y cs = o at *
  generalize wkZ x y cs = t at *
  go_enter Try.func10, Try.ntmps10
  go_wp2_with fail
  have hgw0 := Lib.hid (HW.out 25 30)
  refine (HD.out _ (hgw0.out.2.2.2.more hgw0.out.1.size)).mono ?_
  rintro e w1 ⟨A', n', c', rfl, hb⟩
  have hgw1 := Lib.hid (hgw0.out.call hb)
  clear hb HW hgw0 HD
  obtain ⟨⟨e0, e1, e2⟩, f0, f1, f2⟩ := row3_cells hgw1.out.2.2.1
  have hfd : ∀ w : World, (Instr.field 59 (.agg #[.int .i64 fx, .int .i64 fy, .int .i64 o, .slice A' n' c', .int .i64 t]) 0).run Try.prog w = .ok (.agg #[.int .i64 fx, .int .i64 fy, .int .i64 o]) w := fun _ => by kernel_rfl
  go_wp2_with fail
  refine ret_set3 e0 e1 e2 fun Y g0 g1 g2 hY => ?_
  refine bodyPost_ret (v := .agg #[.int .i64 fx, .int .i64 fy, .int .i64 o]) (by simp [results, Try.results10, go_sem, g0, g1, g2]) rfl ?_
  subst hY
  exact ⟨rfl, hgw1.out.ending _ _ _⟩

set_option maxRecDepth 100000 in
theorem countRoomsI_any (x y : Int) (W : World) :
    Calls Try.prog 12 #[.agg #[.int .i64 x, .int .i64 y]] W (Nm (crZ x y) W) := by
  have HD := Lib.hid (fun X => divideGrid_any x y none 0 0 [] X rfl (Nat.le_refl _) (fun h => absurd rfl h))
  have HB := Lib.hid (fun T => below_box W (.cells #[.int .i64 x, .int .i64 y] T))
  rw [wk_rooms] at HD
  generalize fmX x y = fx at *
  generalize fmY x y = fy at *
  generalize dmO x y [] = o at *
  generalize crZ x y = t at *
  go_enter Try.func12, Try.ntmps12
  go_wp2_with fail
  have hb0 := Lib.hid (HB.out 25)
  refine (HD.out _).mono ?_
  rintro e w1 ⟨A', n', c', rfl, hb⟩
  have hb1 := Lib.hid (below_call hb0.out hb)
  clear hb HB hb0 HD
  have hfd : ∀ w : World, (Instr.field 59 (.agg #[.int .i64 fx, .int .i64 fy, .int .i64 o, .slice A' n' c', .int .i64 t]) 2).run Try.prog w = .ok (.int .i64 t) w := fun _ => by kernel_rfl
  go_wp2_with fail
  go_ret
  exact ⟨rfl, hb1.out⟩
end Go.Proofs.Ythakbjdkcdppjaa.grwJ
