/- KruskalMaze: for every argument the program's answer is the model's, and the arguments read as before. -/
import Derived.Test.YthgnhamokikhkaaPerfN
import Derived.Test.YthgnhamokikhkaaPerfI
namespace Go.Proofs.Ythgnhamokikhkaa.fnExactKruskalMaze
open Go.ChangeShapes Go.WideShapes Go.ChangeAt Go.RowKit
open gridC gridR mazeP mazeC mazeM mazeR intsP intK intA perfP lawKit draw
set_option linter.unusedVariables false

/-- The law's answer. -/
def Yes (w : World) (e : Ending) (w' : World) : Prop := e = .returned (.bool true) ∧ Below w.heap.size w w'
theorem yes_mk {w w' : World} (h : Below w.heap.size w w') : Yes w (.returned (.bool true)) w' := ⟨rfl, h⟩

set_option maxRecDepth 100000 in
set_option maxHeartbeats 2000000 in
theorem walk_at (x0 y0 : Int) (A : Option Addr) (n c : Nat) (l : List Int) (r0 r1 r2 : Int) (r3 : Bool) (W : World) (hn : l.length = n) (hm : n ≤ maxLen) (hi : IntsIn W W.heap.size A l)
    (HS : Hid (∀ A n c l' X, l' = l → l'.length = n → n ≤ 1048576 → IntsIn X X.heap.size A l' → Calls Try.prog 48 #[.agg #[.int .i64 x0, .int .i64 y0], .slice A n c] X (MzB r0 r1 r2 r3 X)))
    (HI : Hid (∀ A n c l' X, l' = l → l'.length = n → n ≤ 1048576 → IntsIn X X.heap.size A l' → Calls Try.prog 28 #[.agg #[.int .i64 x0, .int .i64 y0], .slice A n c] X (MzB r0 r1 r2 r3 X))) :
    Calls Try.prog 10 #[.agg #[.int .i64 x0, .int .i64 y0], .slice A n c] W (Yes W) := by
  have HK := @Lib.hid _ (fun w' b => @yes_mk W w' b)
  have HB := Lib.hid below_box
  have er3 : (r3 != r3) = false := by cases r3 <;> rfl
  have HY := Lib.hid hi
  clear hi
  by_cases hbig : 1048576 < n
  · have hb1 : decide ((1048576 : Int) < (n : Int)) = true := by simp; omega
    go_enter Try.func10, Try.ntmps10
    go_wp2_with fail
    go_ret
    exact HK.out _ (HB.out _ _)
  · have hb1 : decide ((1048576 : Int) < (n : Int)) = false := by simp; omega
    have hn2 : n ≤ 1048576 := by omega
    have Hn := Lib.hid hn
    clear hn
    go_enter Try.func10, Try.ntmps10
    go_wp2_with fail
    refine (toGrid_any x0 y0 _).mono ?_
    rintro e w1 ⟨rfl, hb⟩
    have hbl1 := Lib.hid (below_call (HB.out _ _) hb)
    have hxc01 := Lib.hid ((box_new x0 y0 W _).call hb)
    clear hb
    obtain ⟨c00, c01⟩ := hxc01.out.1
    go_wp2_with fail
    refine (toIntS_any A n c l _ Hn.out.symm hn2 ((HY.out.below hbl1.out).more hbl1.out.size)).mono ?_
    rintro e w2 ⟨v0, rfl, ho, hb⟩
    have h02 := Lib.hid ho
    clear ho
    have hbl2 := Lib.hid (below_call hbl1.out hb)
    have hxc02 := Lib.hid (hxc01.out.call hb)
    clear hb hbl1  hxc01 c00 c01
    obtain ⟨c00, c01⟩ := hxc02.out.1
    obtain ⟨A0, k0, rfl⟩ := own_form h02.out
    go_wp2_with fail
    refine (HS.out A0 _ k0 l _ rfl rfl (by rw [Hn.out]; exact hn2) (ints_own h02.out).1).mono ?_
    rintro e w3 ⟨rfl, hb⟩
    have hbl3 := Lib.hid (below_call (below_call hbl2.out hb) (below_box _ (.cells #[.int .i64 r0, .int .i64 r1, .int .i64 r2] 27)))
    have hxc03 := Lib.hid ((hxc02.out.call hb).call (below_box w3 (.cells #[.int .i64 r0, .int .i64 r1, .int .i64 r2] 27)))
    have hr3 := Lib.hid (row3_new r0 r1 r2 w3 27)
    clear hb hbl2 hxc02 c00 c01 h02
    go_wp2_with fail
    generalize hX3 : w3.alloc (.cells #[.int .i64 r0, .int .i64 r1, .int .i64 r2] 27) = X3 at *
    generalize w3.heap.size = B3 at *
    refine (toIntS_any A n c l _ Hn.out.symm hn2 ((HY.out.below hbl3.out).more hbl3.out.size)).mono ?_
    rintro e w4 ⟨v1, rfl, ho, hb⟩
    have h14 := Lib.hid ho
    have hbl4 := Lib.hid (below_call hbl3.out hb)
    have hxc04 := Lib.hid (hxc03.out.call hb)
    have hr4 := Lib.hid (Row3.call hr3.out hb)
    obtain ⟨A1, k1, rfl⟩ := own_form h14.out
    obtain ⟨c00, c01⟩ := hxc04.out.1
    clear hb ho hbl3 hxc03 hr3
    go_wp2_with fail
    refine (toGrid_any x0 y0 _).mono ?_
    rintro e w5 ⟨rfl, hb⟩
    have h15 := Lib.hid (own_call h14.out hb)
    have hbl5 := Lib.hid (below_call hbl4.out hb)
    have hr5 := Lib.hid (Row3.call hr4.out hb)
    clear hb hbl4 hxc04 hr4 h14 c00 c01
    go_wp2_with fail
    refine (HI.out A1 _ k1 l _ rfl rfl (by rw [Hn.out]; exact hn2) (ints_own h15.out).1).mono ?_
    rintro e w6 ⟨rfl, hb⟩
    have hbl6 := Lib.hid (below_call (below_call hbl5.out hb) (below_box w6 (.cells #[.int .i64 r0, .int .i64 r1, .int .i64 r2] 27)))
    have h16 := Lib.hid (own_call (own_call h15.out hb) (below_box w6 (.cells #[.int .i64 r0, .int .i64 r1, .int .i64 r2] 27)))
    have hr6 := Lib.hid (Row3.call hr5.out hb)
    obtain ⟨⟨d0, d1, d2⟩, -⟩ := row3_cells hr6.out
    have hz6 := row3_lt hr6.out
    clear hb hbl5 hr5 h15
    go_wp2_with fail
    refine (mazeR.eqMaze_same r0 r1 r2 _).mono ?_
    rintro e w7 ⟨rfl, hb⟩
    have hbl7 := Lib.hid (below_call hbl6.out hb)
    have h17 := Lib.hid (own_call h16.out hb)
    clear hb hbl6 h16 hr6 hz6 d0 d1 d2
    go_wp2_with fail
    refine (toIntS_any A n c l _ Hn.out.symm hn2 ((HY.out.below hbl7.out).more hbl7.out.size)).mono ?_
    rintro e w8 ⟨v2, rfl, ho, hb⟩
    have hbl8 := Lib.hid (below_call hbl7.out hb)
    have h18 := Lib.hid (own_call h17.out hb)
    have h28 := Lib.hid ho
    clear hb ho hbl7 h17
    go_wp2_with fail
    refine (eq_b _ v2 _ _ l.length l _ rfl (by rw [Hn.out]; omega) h18.out h28.out).mono ?_
    rintro e w9 ⟨rfl, hb⟩
    have hbl9 := Lib.hid (below_call hbl8.out hb)
    go_wp2_with fail
    go_ret
    exact HK.out _ hbl9.out
theorem walk (x0 y0 : Int) (A : Option Addr) (n c : Nat) (l : List Int) (W : World) (wx0 : (Lit.int .i64 x0).wf = true) (wy0 : (Lit.int .i64 y0).wf = true) (hn : l.length = n) (hm : n ≤ maxLen) (hi : IntsIn W W.heap.size A l) :
    Calls Try.prog 10 #[.agg #[.int .i64 x0, .int .i64 y0], .slice A n c] W (Yes W) :=
  walk_at x0 y0 A n c l (kmX x0 y0 l) (kmY x0 y0 l) (kmZ x0 y0 l) (kmB x0 y0 l) W hn hm hi
    (Lib.hid fun A n c l' X e h1 h2 h3 => by subst e; exact perfN.kruskal_any x0 y0 A n c _ X h1 h2 h3)
    (Lib.hid fun A n c l' X e h1 h2 h3 => by subst e; exact perfI.kruskalMaze_any x0 y0 A n c _ X h1 h2 h3)

set_option maxRecDepth 100000 in
theorem lifted (os : Os) (started : os.Started) (H : Type) (enc : TypeId × Value → H) :
    ReturnsInHanded {} Try.checked os 10 .any (Rows.fnExactKruskalMazeSpec.pre6 enc Try.prog Try.f10 Rows.fnExactKruskalMazeRow.domain false) (Rows.fnExactKruskalMazeSpec.post enc Try.prog Try.f10 false true false false) := by
  refine returnsInHanded_of_change (C := Try.checked) own started (by kernel_rfl) Try.func10
    (ChangeSpec.witness6 (enc := enc) (C := Try.checked) false ⟨#[], #[.agg #[.int .i64 0, .int .i64 0], .slice none 0 0], []⟩ 8 (by kernel_rfl) (by kernel_rfl) (by kernel_rfl) (by kernel_rfl)) ?_
  intro W base args ds gs before hval0 hW _ _
  have hval : ∀ (j : Nat) t v, Try.f10.params[j]? = some t → args[j]? = some v → Value.okWide Try.prog W .any base t v := hval0
  have hW' := hW
  obtain ⟨p, q, hA0, hV, rfl, hfz, hnd⟩ := hW
  have hA : DataW.TrodAll enc Try.prog W 0 (fun _ => true) true Try.f10.params.toList args.toList ds p := hA0
  rw [Try.params10] at hA hval
  obtain ⟨v0, vs0, d0, ds0, p0, q0, hargs, rfl, rfl, h0, r0⟩ := trodAll_cons hA
  obtain ⟨v1, vs1, d1, ds1, p1, q1, rfl, rfl, rfl, h1, r1⟩ := trodAll_cons r0
  obtain ⟨rfl, rfl, rfl⟩ := trodAll_nil r1
  obtain rfl : args = #[v0, v1] := by cases args; simp_all
  obtain ⟨rfl, rfl⟩ := trodVars_none hV
  clear hA0 hval0
  simp only [List.append_nil] at hW'
  obtain ⟨x0, y0, rfl, rfl, rfl, wx0, wy0⟩ := gridR.open_grid (hval 0 49 v0 rfl rfl) h0
  have hlt1 : ∀ x ∈ p1, x.block < W.heap.size := fun x hx => by simpa using hW'.lt x (by simp [hx])
  obtain ⟨A1, c1, l1, rfl, hn1, hb1⟩ := intA.open_intS Try.underlying34 Try.underlying3 mazeR.cellsInt (hval 1 34 v1 rfl rfl) h1 hlt1
  refine (walk x0 y0 A1 l1.length c1 l1 W wx0 wy0 rfl hn1 hb1).mono fun e W' ⟨he, hg⟩ => ?_
  subst he
  exact ⟨_, rfl, post_below (pa := _) (pv := []) hW' (fun _ _ _ => (trodAll_cons_mk (shut_bool Try.underlying4 _) trodAll_mk0)) (fun sp hsp => (trodAll_cons_mk (gridR.shut_grid wx0 wy0) (trodAll_cons_mk (WideElems.Trod_stays laidOut (by kernel_rfl) (of_decide_eq_true (by kernel_rfl)) h1 (fun x hx => hg.same (hlt1 x hx)) (fun p hp => hsp p (by simp [hp]))) trodAll_mk0))) (fun _ _ => rfl) (by simp)
    hg (ok_one (by kernel_rfl) rfl (okWide_bool_mk Try.underlying4 _))⟩

theorem over : Rows.fnExactKruskalMazeRow.holds Try.pinned (OpenSpec.ofChange Rows.fnExactKruskalMazeSpec) :=
  OpenClaim.holds_of_wide 10 Try.f10 rfl rfl rfl rfl rfl rfl rfl ⟨rfl, rfl, rfl, rfl, rfl⟩ rfl rfl rfl rfl rfl (by kernel_rfl) Try.func10 (by kernel_rfl)
    (of_decide_eq_true (by kernel_rfl)) (by unfold Func.isWrapper; first | (rw [if_pos (by decide +kernel)]; kernel_rfl) | (rw [if_neg (by decide +kernel)]; exact ⟨rfl, rfl⟩))
    (fun os started H enc _ => lifted os started H enc)

theorem proved : Rows.FnExactKruskalMazeSaid :=
  over
end Go.Proofs.Ythgnhamokikhkaa.fnExactKruskalMaze
