/- Reached: for every argument the program's answer is the model's and owns its memory, and the arguments read as before. -/
import Derived.Test.YtomjfcmaoeoigaaReachU
import Derived.Test.YtomjfcmaoeoigaaReachI
import Derived.Test.YtomjfcmaoeoigaaMazeR
import Derived.Test.YtomjfcmaoeoigaaIntK
namespace Go.Proofs.Ytomjfcmaoeoigaa.fnExactReached
open Go.ChangeShapes Go.WideShapes Go.ChangeAt Go.RowKit
open gridC mazeP mazeC mazeM mazeR intsP intK reachD lawKit draw
set_option linter.unusedVariables false

/-- The law's answer. -/
def Yes (w : World) (e : Ending) (w' : World) : Prop := e = .returned (.bool true) ∧ Below w.heap.size w w'
theorem yes_mk {w w' : World} (h : Below w.heap.size w w') : Yes w (.returned (.bool true)) w' := ⟨rfl, h⟩
theorem mbox_below {b B : Nat} {w h o : Int} {X X' : World} (hx : MBox b w h o X) (hb : Below B X X') (hB : b < B) : MBox b w h o X' :=
  ⟨⟨(hb.cell (p := ⟨b, 0, none⟩) hB).trans hx.1.1, (hb.cell (p := ⟨b, 1, none⟩) hB).trans hx.1.2.1, (hb.cell (p := ⟨b, 2, none⟩) hB).trans hx.1.2.2⟩, Nat.lt_of_lt_of_le hx.2 hb.size⟩

theorem rs_len (x y z a : Int) : (rsZ x y z a).length ≤ 16 := by
  unfold rsZ; split
  · rename_i h
    obtain ⟨hv, k, rfl, ha, haN, hak, hN16, hNN⟩ := has_form h
    have := reachN.rlN_len (reachM.stN x y z) (reachM.cN x y) (k : Int).toNat (reachM.cN x y)
    omega
  · simp

set_option maxRecDepth 100000 in
set_option maxHeartbeats 1000000 in
theorem walk_at (x0 y0 z0 a1 : Int) (l : List Int) (W : World) (hl : l.length ≤ 16) (HS : Hid (∀ X, Calls Try.prog 18 #[.agg #[.int .i64 x0, .int .i64 y0, .int .i64 z0], .int .i64 a1] X (Ints l X))) (HI : Hid (∀ X, Calls Try.prog 14 #[.agg #[.int .i64 x0, .int .i64 y0, .int .i64 z0], .int .i64 a1] X (Ints l X))) :
    Calls Try.prog 4 #[.agg #[.int .i64 x0, .int .i64 y0, .int .i64 z0], .int .i64 a1] W (Yes W) := by
  have HK := @Lib.hid _ (fun w' b => @yes_mk W w' b)
  have HB := Lib.hid below_box
  have hnn : ((l.length : Int) != (l.length : Int)) = false := by simp
  go_enter Try.func4, Try.ntmps4
  go_wp2_with fail
  refine (toMaze_any x0 y0 z0 _).mono ?_
  rintro e w1 ⟨rfl, hb⟩
  have hbl1 := Lib.hid (below_call (HB.out _ _) hb)
  have hxc1 := Lib.hid ((mbox_new x0 y0 z0 W _).call hb)
  clear hb
  obtain ⟨c0, c1, c2⟩ := hxc1.out.1
  go_wp2_with fail
  refine (HS.out _).mono ?_
  rintro e w2 ⟨v0, rfl, ho, hb⟩
  have h02 := Lib.hid ho
  clear ho
  have hbl2 := Lib.hid (below_call hbl1.out hb)
  have hxc2 := Lib.hid (hxc1.out.call hb)
  clear hb hbl1  hxc1 c0 c1 c2
  obtain ⟨c0, c1, c2⟩ := hxc2.out.1
  go_wp2_with fail
  refine (toMaze_any x0 y0 z0 _).mono ?_
  rintro e w3 ⟨rfl, hb⟩
  have hbl3 := Lib.hid (below_call hbl2.out hb)
  have hxc3 := Lib.hid (hxc2.out.call hb)
  have h03 := Lib.hid (own_call h02.out hb)
  clear hb hbl2 h02 hxc2 c0 c1 c2
  obtain ⟨c0, c1, c2⟩ := hxc3.out.1
  have L03 := Lib.hid (own_lt h03.out)
  have hz3 := hxc3.out.2
  have hW3 := hbl3.out.size
  go_wp2_with fail
  refine (HI.out _).mono ?_
  rintro e w4 ⟨v1, rfl, ho, hb⟩
  have h14 := Lib.hid ho
  have Z4 := Lib.hid hb.size
  clear ho
  have hbl4 := Lib.hid (below_call hbl3.out hb)
  have hxc4 := Lib.hid (hxc3.out.call hb)
  have h04 := Lib.hid (own_call h03.out hb)
  clear hb hbl3 h03 hxc3 c0 c1 c2
  obtain ⟨c0, c1, c2⟩ := hxc4.out.1
  go_wp2_with fail
  refine (eq_b v1 v0 _ _ l.length l _ rfl (by omega) h14.out h04.out).mono ?_
  rintro e w5 ⟨rfl, hb⟩
  have Z5 := Lib.hid (Nat.le_trans Z4.out hb.size)
  have hbl5 := Lib.hid (below_call hbl4.out hb)
  have hxc5 := Lib.hid (hxc4.out.call hb)
  have h05 := Lib.hid (own_call h04.out hb)
  have h15 := Lib.hid (own_call h14.out hb)
  clear hb hbl4 h04 h14 hxc4 c0 c1 c2
  obtain ⟨c0, c1, c2⟩ := hxc5.out.1
  go_wp2_with fail
  refine (mark_any v1 w3.heap.size l.length 1 1 _ _ rfl (by omega) (by omega) Z5.out h15.out).mono ?_
  rintro e w6 ⟨rfl, ho, hb⟩
  have h16 := Lib.hid ho
  have h06 := Lib.hid (own_below h05.out hb L03.out)
  have hbl6 := Lib.hid (hbl5.out.trans (hb.mono hW3))
  have hxc6 := Lib.hid (mbox_below hxc5.out hb hz3)
  clear ho hb h15 h05 hbl5 hxc5 c0 c1 c2
  obtain ⟨c0, c1, c2⟩ := hxc6.out.1
  go_wp2_with fail
  refine (held_any v1 w3.heap.size l.length 1 1 _ rfl (by omega) (by omega) h16.out).mono ?_
  rintro e w7 ⟨rfl, hb⟩
  have hbl7 := Lib.hid (below_call hbl6.out hb)
  have hxc7 := Lib.hid (hxc6.out.call hb)
  have h07 := Lib.hid (own_call h06.out hb)
  have h17 := Lib.hid (own_call h16.out hb)
  clear hb hbl6 h06 h16 hxc6 c0 c1 c2
  obtain ⟨c0, c1, c2⟩ := hxc7.out.1
  have hne : (((1 + l.length : Nat) : Int) != ((1 + l.length : Nat) : Int)) = false := by simp
  have hne2 : ((1 : Int) + (l.length : Int) != (1 : Int) + (l.length : Int)) = false := by simp
  go_wp2_with fail
  refine (toMaze_any x0 y0 z0 _).mono ?_
  rintro e w8 ⟨rfl, hb⟩
  have hbl8 := Lib.hid (below_call hbl7.out hb)
  have hxc8 := Lib.hid (hxc7.out.call hb)
  have h08 := Lib.hid (own_call h07.out hb)
  have h18 := Lib.hid (own_call h17.out hb)
  clear hb hbl7 h07 h17 hxc7 c0 c1 c2
  obtain ⟨c0, c1, c2⟩ := hxc8.out.1
  go_wp2_with fail
  refine (HI.out _).mono ?_
  rintro e w9 ⟨v2, rfl, ho, hb⟩
  have h29 := Lib.hid ho
  clear ho
  have hbl9 := Lib.hid (below_call hbl8.out hb)
  have hxc9 := Lib.hid (hxc8.out.call hb)
  have h09 := Lib.hid (own_call h08.out hb)
  have h19 := Lib.hid (own_call h18.out hb)
  clear hb hbl8 h08 h18 hxc8 c0 c1 c2
  obtain ⟨c0, c1, c2⟩ := hxc9.out.1
  go_wp2_with fail
  refine (eq_b v2 v0 _ _ l.length l _ rfl (by omega) h29.out h09.out).mono ?_
  rintro e w10 ⟨rfl, hb⟩
  have hbl10 := Lib.hid (below_call hbl9.out hb)
  have hxc10 := Lib.hid (hxc9.out.call hb)
  have h010 := Lib.hid (own_call h09.out hb)
  have h110 := Lib.hid (own_call h19.out hb)
  clear hb hbl9 h09 h19 hxc9 c0 c1 c2
  obtain ⟨c0, c1, c2⟩ := hxc10.out.1
  go_wp2_with fail
  refine (held_any v1 w3.heap.size l.length 1 1 _ rfl (by omega) (by omega) h110.out).mono ?_
  rintro e w11 ⟨rfl, hb⟩
  have hbl11 := Lib.hid (below_call hbl10.out hb)
  have hxc11 := Lib.hid (hxc10.out.call hb)
  have h011 := Lib.hid (own_call h010.out hb)
  have h111 := Lib.hid (own_call h110.out hb)
  clear hb hbl10 h010 h110 hxc10 c0 c1 c2
  obtain ⟨c0, c1, c2⟩ := hxc11.out.1
  go_wp2_with fail
  go_ret
  exact HK.out _ hbl11.out

theorem walk (x0 y0 z0 : Int) (a1 : Int) (W : World) (wx0 : (Lit.int .i64 x0).wf = true) (wy0 : (Lit.int .i64 y0).wf = true) (wz0 : (Lit.int .i64 z0).wf = true) (w1 : (Lit.int .i64 a1).wf = true) :
    Calls Try.prog 4 #[.agg #[.int .i64 x0, .int .i64 y0, .int .i64 z0], .int .i64 a1] W (Yes W) :=
  walk_at x0 y0 z0 a1 (rsZ x0 y0 z0 a1) W (rs_len x0 y0 z0 a1) (Lib.hid fun X => reachS.reached_any x0 y0 z0 a1 X) (Lib.hid fun X => reachI.reached_any x0 y0 z0 a1 X)

set_option maxRecDepth 100000 in
theorem lifted (os : Os) (started : os.Started) (H : Type) (enc : TypeId × Value → H) :
    ReturnsInHanded {} Try.checked os 4 .any (Rows.fnExactReachedSpec.pre6 enc Try.prog Try.f4 Rows.fnExactReachedRow.domain false) (Rows.fnExactReachedSpec.post enc Try.prog Try.f4 false true false false) := by
  refine returnsInHanded_of_change (C := Try.checked) own started (by kernel_rfl) Try.func4
    (ChangeSpec.witness6 (enc := enc) (C := Try.checked) false ⟨#[], #[.agg #[.int .i64 0, .int .i64 0, .int .i64 0], .int .i64 0], []⟩ 8 (by kernel_rfl) (by kernel_rfl) (by kernel_rfl) (by kernel_rfl)) ?_
  intro W base args ds gs before hval0 hW _ _
  have hval : ∀ (j : Nat) t v, Try.f4.params[j]? = some t → args[j]? = some v → Value.okWide Try.prog W .any base t v := hval0
  have hW' := hW
  obtain ⟨p, q, hA0, hV, rfl, hfz, hnd⟩ := hW
  have hA : DataW.TrodAll enc Try.prog W 0 (fun _ => true) true Try.f4.params.toList args.toList ds p := hA0
  rw [Try.params4] at hA hval
  obtain ⟨v0, vs0, d0, ds0, p0, q0, hargs, rfl, rfl, h0, r0⟩ := trodAll_cons hA
  obtain ⟨v1, vs1, d1, ds1, p1, q1, rfl, rfl, rfl, h1, r1⟩ := trodAll_cons r0
  obtain ⟨rfl, rfl, rfl⟩ := trodAll_nil r1
  obtain rfl : args = #[v0, v1] := by cases args; simp_all
  obtain ⟨rfl, rfl⟩ := trodVars_none hV
  clear hA0 hval0
  simp only [List.append_nil] at hW'
  obtain ⟨x0, y0, z0, rfl, rfl, rfl, wx0, wy0, wz0⟩ := mazeR.open_maze (hval 0 40 v0 rfl rfl) h0
  obtain ⟨a1, rfl, rfl, rfl, w1⟩ := open_int Try.underlying3 (hval 1 3 v1 rfl rfl) h1
  refine (walk x0 y0 z0 a1 W wx0 wy0 wz0 w1).mono fun e W' ⟨he, hg⟩ => ?_
  subst he
  exact ⟨_, rfl, post_below (pa := []) (pv := []) hW' (fun _ _ _ => (trodAll_cons_mk (shut_bool Try.underlying4 _) trodAll_mk0)) (fun sp _ => (trodAll_cons_mk (mazeR.shut_maze wx0 wy0 wz0) (trodAll_cons_mk (shut_int Try.underlying3 w1) trodAll_mk0))) (fun _ _ => rfl) (by simp)
    hg (ok_one (by kernel_rfl) rfl (okWide_bool_mk Try.underlying4 _))⟩

theorem over : Rows.fnExactReachedRow.holds Try.pinned (OpenSpec.ofChange Rows.fnExactReachedSpec) :=
  OpenClaim.holds_of_wide 4 Try.f4 rfl rfl rfl rfl rfl rfl rfl ⟨rfl, rfl, rfl, rfl, rfl⟩ rfl rfl rfl rfl rfl (by kernel_rfl) Try.func4 (by kernel_rfl)
    (of_decide_eq_true (by kernel_rfl)) (by unfold Func.isWrapper; first | (rw [if_pos (by decide +kernel)]; kernel_rfl) | (rw [if_neg (by decide +kernel)]; exact ⟨rfl, rfl⟩))
    (fun os started H enc _ => lifted os started H enc)

theorem proved : Rows.FnExactReachedSaid :=
  over
end Go.Proofs.Ytomjfcmaoeoigaa.fnExactReached
