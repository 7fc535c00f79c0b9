/- ReadMaze: for every argument the program's answer is the model's, and the arguments read as before. -/
import Derived.Test.YtmmdngfhfceefaaLinS
import Derived.Test.YtmmdngfhfceefaaLinK
import Derived.Test.YtmmdngfhfceefaaStrL
import Derived.Test.YtmmdngfhfceefaaListK
import Derived.Test.YtmmdngfhfceefaaBase
import Derived.Test.YtmmdngfhfceefaaMzB
namespace Go.Proofs.Ytmmdngfhfceefaa.fnExactReadMaze
open Go.ChangeShapes Go.WideShapes Go.ChangeAt Go.RowKit
open gridC gridR mazeP mazeC mazeM mazeR linP linR listT gridE intsP intK intA listK lawKit reachD draw
set_option linter.unusedVariables false

/-- The law's answer. -/
def Yes (w : World) (e : Ending) (w' : World) : Prop := e = .returned (.bool true) ∧ Below w.heap.size w w'
theorem yes_mk {w w' : World} (h : Below w.heap.size w w') : Yes w (.returned (.bool true)) w' := ⟨rfl, h⟩

set_option maxRecDepth 100000 in
set_option maxHeartbeats 2000000 in
theorem walk_at (A0 : Option Addr) (n0 c0 : Nat) (l0 : List (List UInt8)) (r0x r0y r0z : Int) (r1 : Bool) (W : World) (hn0 : l0.length = n0) (hmx0 : n0 ≤ maxLen) (hsx0 : ∀ u ∈ l0, u.length ≤ maxLen) (hi0 : TxIn W W.heap.size A0 l0) 
    (HS : Hid (∀ A0 n0 c0 X, l0.length = n0 → n0 ≤ 1048576 → (∀ u ∈ l0, u.length ≤ 1048576) → TxIn X X.heap.size A0 l0 → Calls Try.prog 12 #[.slice A0 n0 c0] X (MzB r0x r0y r0z r1 X)))
    (HI : Hid (∀ A0 n0 c0 X, l0.length = n0 → n0 ≤ 1048576 → (∀ u ∈ l0, u.length ≤ 1048576) → TxIn X X.heap.size A0 l0 → Calls Try.prog 14 #[.slice A0 n0 c0] X (MzB r0x r0y r0z r1 X))) :
    Calls Try.prog 4 #[.slice A0 n0 c0] W (Yes W) := by
  have HK := @Lib.hid _ (fun w' b => @yes_mk W w' b)
  have HY0 := Lib.hid hi0
  have Hn0 := Lib.hid hn0
  have HX0 := Lib.hid hsx0
  clear hsx0
  have er1 : (r1 != r1) = false := by cases r1 <;> rfl
  clear hi0 hn0
  go_enter Try.func4, Try.ntmps4
  have hbl := Lib.hid (Below.refl W.heap.size W)
  go_wp2_with fail
  refine (strL.szStringS_any A0 n0 c0 l0 1048576 _ Hn0.out hmx0 HX0.out (by decide) ((HY0.out.below hbl.out).more hbl.out.size)).mono ?_
  rintro e w1 ⟨q, rfl, hb, hq⟩
  replace hbl := Lib.hid (below_call hbl.out hb)
  clear hb
  rcases hq with hq | ⟨hq, hm0, hsz⟩
  · have hq2 : decide (q < 0) = true := decide_eq_true hq
    clear hq
    go_wp2_with fail
    go_ret
    exact HK.out _ hbl.out
  have hq2 : decide (q < 0) = false := decide_eq_false (by omega)
  have hs0 := Lib.hid hsz
  clear hsz hq
  go_wp2_with fail
  refine (strL.toStringS_any A0 n0 c0 l0 _ Hn0.out.symm hm0 ((HY0.out.below hbl.out).more hbl.out.size)).mono ?_
  rintro e w2 ⟨vt0, rfl, ho, hb⟩
  have h_t0 := Lib.hid ho
  clear ho
  replace hbl := Lib.hid (below_call hbl.out hb)
  clear hb
  obtain ⟨A_t0, k_t0, rfl⟩ := intsP.own_form h_t0.out
  go_wp2_with fail
  refine (HS.out A_t0 _ k_t0 _ rfl (by have := Hn0.out; omega) hs0.out (txs_own h_t0.out).1).mono ?_
  rintro e w3 ⟨rfl, hb⟩
  replace hbl := Lib.hid (below_call hbl.out hb)
  replace h_t0 := Lib.hid (own_call h_t0.out hb)
  clear hb
  have hb := below_box w3 (.cells #[.int .i64 r0x, .int .i64 r0y, .int .i64 r0z] 30)
  replace hbl := Lib.hid (below_call hbl.out hb)
  replace h_t0 := Lib.hid (own_call h_t0.out hb)
  clear hb
  have hr_w0 := Lib.hid (row3_new r0x r0y r0z w3 30)
  obtain ⟨⟨dw00, dw01, dw02⟩, -⟩ := row3_cells hr_w0.out
  go_wp2_with fail
  generalize w3.alloc (.cells #[.int .i64 r0x, .int .i64 r0y, .int .i64 r0z] 30) = X3 at *
  generalize w3.heap.size = B3 at *
  refine (strL.toStringS_any A0 n0 c0 l0 _ Hn0.out.symm hm0 ((HY0.out.below hbl.out).more hbl.out.size)).mono ?_
  rintro e w4 ⟨vx0, rfl, ho, hb⟩
  clear dw00 dw01 dw02
  have NE_t0_x0 := Lib.hid (own_apart h_t0.out ho)
  have h_x0 := Lib.hid ho
  clear ho
  replace hbl := Lib.hid (below_call hbl.out hb)
  replace h_t0 := Lib.hid (own_call h_t0.out hb)
  replace hr_w0 := Lib.hid (Row3.call hr_w0.out hb)
  clear hb
  obtain ⟨A_x0, k_x0, rfl⟩ := intsP.own_form h_x0.out
  obtain ⟨⟨dw00, dw01, dw02⟩, -⟩ := row3_cells hr_w0.out
  go_wp2_with fail
  refine (HI.out A_x0 _ k_x0 _ rfl (by have := Hn0.out; omega) hs0.out (txs_own h_x0.out).1).mono ?_
  rintro e w5 ⟨rfl, hb⟩
  clear dw00 dw01 dw02
  replace hbl := Lib.hid (below_call hbl.out hb)
  replace h_t0 := Lib.hid (own_call h_t0.out hb)
  replace h_x0 := Lib.hid (own_call h_x0.out hb)
  replace hr_w0 := Lib.hid (Row3.call hr_w0.out hb)
  clear hb
  have hb := below_box w5 (.cells #[.int .i64 r0x, .int .i64 r0y, .int .i64 r0z] 30)
  replace hbl := Lib.hid (below_call hbl.out hb)
  replace h_t0 := Lib.hid (own_call h_t0.out hb)
  replace h_x0 := Lib.hid (own_call h_x0.out hb)
  replace hr_w0 := Lib.hid (Row3.call hr_w0.out hb)
  clear hb
  have hr_g0 := Lib.hid (row3_new r0x r0y r0z w5 30)
  obtain ⟨⟨dw00, dw01, dw02⟩, -⟩ := row3_cells hr_w0.out
  obtain ⟨⟨dg00, dg01, dg02⟩, -⟩ := row3_cells hr_g0.out
  go_wp2_with fail
  generalize w5.alloc (.cells #[.int .i64 r0x, .int .i64 r0y, .int .i64 r0z] 30) = X5 at *
  generalize w5.heap.size = B5 at *
  refine (mazeR.eqMaze_same r0x r0y r0z _).mono ?_
  rintro e w6 ⟨rfl, hb⟩
  clear dw00 dw01 dw02
  clear dg00 dg01 dg02
  replace hbl := Lib.hid (below_call hbl.out hb)
  replace h_t0 := Lib.hid (own_call h_t0.out hb)
  replace h_x0 := Lib.hid (own_call h_x0.out hb)
  replace hr_w0 := Lib.hid (Row3.call hr_w0.out hb)
  replace hr_g0 := Lib.hid (Row3.call hr_g0.out hb)
  clear hb
  clear h_t0
  obtain ⟨⟨dw00, dw01, dw02⟩, -⟩ := row3_cells hr_w0.out
  obtain ⟨⟨dg00, dg01, dg02⟩, -⟩ := row3_cells hr_g0.out
  go_wp2_with fail
  refine (strL.toStringS_any A0 n0 c0 l0 _ Hn0.out.symm hm0 ((HY0.out.below hbl.out).more hbl.out.size)).mono ?_
  rintro e w7 ⟨vt2, rfl, ho, hb⟩
  clear dw00 dw01 dw02
  clear dg00 dg01 dg02
  have NE_x0_t2 := Lib.hid (own_apart h_x0.out ho)
  have h_t2 := Lib.hid ho
  clear ho
  replace hbl := Lib.hid (below_call hbl.out hb)
  replace h_x0 := Lib.hid (own_call h_x0.out hb)
  replace hr_w0 := Lib.hid (Row3.call hr_w0.out hb)
  replace hr_g0 := Lib.hid (Row3.call hr_g0.out hb)
  clear hb
  obtain ⟨A_t2, k_t2, rfl⟩ := intsP.own_form h_t2.out
  obtain ⟨⟨dw00, dw01, dw02⟩, -⟩ := row3_cells hr_w0.out
  obtain ⟨⟨dg00, dg01, dg02⟩, -⟩ := row3_cells hr_g0.out
  go_wp2_with fail
  refine (strL.eq_b _ _ _ _ l0.length l0 _ rfl (by have := Hn0.out; omega) h_x0.out h_t2.out).mono ?_
  rintro e w8 ⟨rfl, hb⟩
  clear dw00 dw01 dw02
  clear dg00 dg01 dg02
  replace hbl := Lib.hid (below_call hbl.out hb)
  replace h_x0 := Lib.hid (own_call h_x0.out hb)
  replace h_t2 := Lib.hid (own_call h_t2.out hb)
  replace hr_w0 := Lib.hid (Row3.call hr_w0.out hb)
  replace hr_g0 := Lib.hid (Row3.call hr_g0.out hb)
  clear hb
  clear h_t2
  go_wp2_with fail
  go_ret
  exact HK.out _ hbl.out

set_option maxRecDepth 100000 in
theorem walk (A0 : Option Addr) (n0 c0 : Nat) (l0 : List (List UInt8)) (W : World) (hn0 : l0.length = n0) (hmx0 : n0 ≤ maxLen) (hsx0 : ∀ u ∈ l0, u.length ≤ maxLen) (hi0 : TxIn W W.heap.size A0 l0) :
    Calls Try.prog 4 #[.slice A0 n0 c0] W (Yes W) := by
  exact walk_at A0 n0 c0 l0 (rmC l0 (rmX l0)) (rmC l0 (rmY l0)) (rmC l0 (rmO l0)) (rmB l0) W hn0 hmx0 hsx0 hi0
    (Lib.hid (fun A0 n0 c0 X e0 m0 z0 y0 => linN.readMaze_any A0 n0 c0 l0 X e0 m0 z0 y0))
    (Lib.hid (fun A0 n0 c0 X e0 m0 z0 y0 => linK.readMaze_any A0 n0 c0 l0 X e0 m0 z0 y0))

set_option maxRecDepth 100000 in
theorem lifted (os : Os) (started : os.Started) (H : Type) (enc : TypeId × Value → H) :
    ReturnsInHanded {} Try.checked os 4 .any (Rows.fnExactReadMazeSpec.pre6 enc Try.prog Try.f4 Rows.fnExactReadMazeRow.domain false) (Rows.fnExactReadMazeSpec.post enc Try.prog Try.f4 false true false false) := by
  refine returnsInHanded_of_change (C := Try.checked) own started (by kernel_rfl) Try.func4
    (ChangeSpec.witness6 (enc := enc) (C := Try.checked) false ⟨#[], #[.slice none 0 0], []⟩ 8 (by kernel_rfl) (by kernel_rfl) (by kernel_rfl) (by kernel_rfl)) ?_
  intro W base args ds gs before hval0 hW _ _
  have hval : ∀ (j : Nat) t v, Try.f4.params[j]? = some t → args[j]? = some v → Value.okWide Try.prog W .any base t v := hval0
  have hW' := hW
  obtain ⟨p, q, hA0, hV, rfl, hfz, hnd⟩ := hW
  have hA : DataW.TrodAll enc Try.prog W 0 (fun _ => true) true Try.f4.params.toList args.toList ds p := hA0
  rw [Try.params4] at hA hval
  obtain ⟨v0, d0, rfl, rfl, h0⟩ := trodAll_one hA
  obtain ⟨rfl, rfl⟩ := trodVars_none hV
  clear hA0 hval0
  simp only [List.append_nil] at hW'
  have hlt0 : ∀ x ∈ p, x.block < W.heap.size := fun x hx => by simpa using hW'.lt x (by simp [hx])
  obtain ⟨A0, c0, l0, rfl, hn0, hu0, hb0⟩ := strL.open_strS Try.underlying26 Try.underlying9 strL.cellsStr (hval 0 26 v0 rfl rfl) h0 hlt0
  refine (walk A0 l0.length c0 l0 W rfl hn0 hu0 hb0).mono fun e W' ⟨he, hg⟩ => ?_
  subst he
  exact ⟨_, rfl, post_below (pa := _) (pv := []) hW' (fun _ _ _ => (trodAll_cons_mk (shut_bool Try.underlying4 _) trodAll_mk0)) (fun sp hsp => trodAll_mk1 (WideElems.Trod_stays laidOut (by kernel_rfl) (of_decide_eq_true (by kernel_rfl)) h0 (fun x hx => hg.same (hlt0 x hx)) (fun p hp => hsp p (by simp [hp])))) (fun _ _ => rfl) (by simp)
    hg (ok_one (by kernel_rfl) rfl (okWide_bool_mk Try.underlying4 _))⟩

theorem over : Rows.fnExactReadMazeRow.holds Try.pinned (OpenSpec.ofChange Rows.fnExactReadMazeSpec) :=
  OpenClaim.holds_of_wide 4 Try.f4 rfl rfl rfl rfl rfl rfl rfl ⟨rfl, rfl, rfl, rfl, rfl⟩ rfl rfl rfl rfl rfl (by kernel_rfl) Try.func4 (by kernel_rfl)
    (of_decide_eq_true (by kernel_rfl)) (by unfold Func.isWrapper; first | (rw [if_pos (by decide +kernel)]; kernel_rfl) | (rw [if_neg (by decide +kernel)]; exact ⟨rfl, rfl⟩))
    (fun os started H enc _ => lifted os started H enc)

theorem proved : Rows.FnExactReadMazeSaid :=
  over
end Go.Proofs.Ytmmdngfhfceefaa.fnExactReadMaze
