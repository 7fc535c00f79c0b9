/- Determinant: for every argument the program's answer is the model's, and the arguments read as before. -/
import Derived.Test.YthgnhamokikhkaaRowsL
import Derived.Test.YthgnhamokikhkaaMatR
import Derived.Test.YthgnhamokikhkaaDetI4
import Derived.Test.YthgnhamokikhkaaMatO
namespace Go.Proofs.Ythgnhamokikhkaa.fnExactDeterminant
open Go.ChangeShapes Go.WideShapes Go.ChangeAt Go.RowKit
open gridC mazeC mazeR gridR rowsP rowsL matP matR matQ matM matO detI intsP intK intA listK lawKit reachD draw
set_option linter.unusedVariables false

/-- The law's answer. -/
def Yes (w : World) (e : Ending) (w' : World) : Prop := e = .returned (.bool true) ∧ Below w.heap.size w w'
theorem yes_mk {w w' : World} (h : Below w.heap.size w w') : Yes w (.returned (.bool true)) w' := ⟨rfl, h⟩

set_option maxRecDepth 100000 in
set_option maxHeartbeats 2000000 in
theorem walk_at (A0 : Option Addr) (n0 c0 : Nat) (l0 : List (List Int)) (r0 : Int) (W : World) (hn0 : l0.length = n0) (hmx0 : n0 ≤ maxLen) (hsx0 : ∀ u ∈ l0, u.length ≤ maxLen) (hi0 : MxIn W W.heap.size A0 l0) 
    (HS : Hid (∀ A0 n0 c0 X, l0.length = n0 → n0 ≤ 1048576 → (∀ u ∈ l0, u.length ≤ 1048576) → MxIn X X.heap.size A0 l0 → Calls Try.prog 54 #[.slice A0 n0 c0] X (Nm r0 X)))
    (HI : Hid (∀ A0 n0 c0 X, l0.length = n0 → n0 ≤ 1048576 → (∀ u ∈ l0, u.length ≤ 1048576) → MxIn X X.heap.size A0 l0 → Calls Try.prog 34 #[.slice A0 n0 c0] X (Nm r0 X))) :
    Calls Try.prog 11 #[.slice A0 n0 c0] W (Yes W) := by
  have HK := @Lib.hid _ (fun w' b => @yes_mk W w' b)
  have HY0 := Lib.hid hi0
  have Hn0 := Lib.hid hn0
  have HX0 := Lib.hid hsx0
  clear hsx0
  have er0 : (r0 != r0) = false := by simp
  clear hi0 hn0
  go_enter Try.func11, Try.ntmps11
  have hbl := Lib.hid (Below.refl W.heap.size W)
  go_wp2_with fail
  refine (rowsL.szIntSS_any A0 n0 c0 l0 1048576 _ Hn0.out hmx0 HX0.out (by decide) ((HY0.out.below hbl.out).more hbl.out.size)).mono ?_
  rintro e w1 ⟨q, rfl, hb, hq⟩
  replace hbl := Lib.hid (below_call hbl.out hb)
  clear hb
  rcases hq with hq | ⟨hq, hsz⟩
  · have hq2 : decide (q < 0) = true := decide_eq_true hq
    clear hq
    go_wp2_with fail
    go_ret
    exact HK.out _ hbl.out
  have hq2 : decide (q < 0) = false := decide_eq_false (by omega)
  have hm0 : n0 ≤ 1048576 := by omega
  have hs0 : Hid (∀ u ∈ l0, u.length ≤ 1048576) := Lib.hid fun u hu => by have := len_toN hu; omega
  have HT0l : Hid (1 + toN l0 ≤ 3000000) := Lib.hid (by omega)
  clear hsz hq
  go_wp2_with fail
  refine (rowsL.toIntSS_any A0 n0 c0 l0 _ Hn0.out.symm hm0 hs0.out ((HY0.out.below hbl.out).more hbl.out.size)).mono ?_
  rintro e w2 ⟨vt0, rfl, ho, hb⟩
  have h_t0 := Lib.hid ho
  clear ho
  have UW_t0 := Lib.hid hbl.out.size
  replace hbl := Lib.hid (below_call hbl.out hb)
  clear hb
  have LT_t0 := Lib.hid (Nat.le_refl w2.heap.size)
  obtain ⟨A_t0, k_t0, rfl⟩ := h_t0.out.form
  go_wp2_with fail
  refine (HS.out A_t0 _ k_t0 _ rfl (by have := Hn0.out; omega) hs0.out (MxOw.read h_t0.out)).mono ?_
  rintro e w3 ⟨rfl, hb⟩
  replace hbl := Lib.hid (below_call hbl.out hb)
  replace h_t0 := Lib.hid (MxOw.call h_t0.out hb)
  replace LT_t0 := Lib.hid (Nat.le_trans LT_t0.out hb.size)
  clear hb
  go_wp2_with fail
  refine (rowsL.toIntSS_any A0 n0 c0 l0 _ Hn0.out.symm hm0 hs0.out ((HY0.out.below hbl.out).more hbl.out.size)).mono ?_
  rintro e w4 ⟨vx0, rfl, ho, hb⟩
  have LE_t0_x0 := LT_t0
  have h_x0 := Lib.hid ho
  clear ho
  have UW_x0 := Lib.hid hbl.out.size
  replace hbl := Lib.hid (below_call hbl.out hb)
  replace h_t0 := Lib.hid (MxOw.call h_t0.out hb)
  replace LT_t0 := Lib.hid (Nat.le_trans LT_t0.out hb.size)
  clear hb
  have LT_x0 := Lib.hid (Nat.le_refl w4.heap.size)
  obtain ⟨A_x0, k_x0, rfl⟩ := h_x0.out.form
  go_wp2_with fail
  refine (HI.out A_x0 _ k_x0 _ rfl (by have := Hn0.out; omega) hs0.out (MxOw.read h_x0.out)).mono ?_
  rintro e w5 ⟨rfl, hb⟩
  replace hbl := Lib.hid (below_call hbl.out hb)
  replace h_t0 := Lib.hid (MxOw.call h_t0.out hb)
  replace LT_t0 := Lib.hid (Nat.le_trans LT_t0.out hb.size)
  replace h_x0 := Lib.hid (MxOw.call h_x0.out hb)
  replace LT_x0 := Lib.hid (Nat.le_trans LT_x0.out hb.size)
  clear hb
  clear h_t0 LT_t0
  go_wp2_with fail
  refine (rowsL.toIntSS_any A0 n0 c0 l0 _ Hn0.out.symm hm0 hs0.out ((HY0.out.below hbl.out).more hbl.out.size)).mono ?_
  rintro e w6 ⟨vt2, rfl, ho, hb⟩
  have LE_x0_t2 := LT_x0
  have h_t2 := Lib.hid ho
  clear ho
  have UW_t2 := Lib.hid hbl.out.size
  replace hbl := Lib.hid (below_call hbl.out hb)
  replace h_x0 := Lib.hid (MxOw.call h_x0.out hb)
  replace LT_x0 := Lib.hid (Nat.le_trans LT_x0.out hb.size)
  clear hb
  have LT_t2 := Lib.hid (Nat.le_refl w6.heap.size)
  obtain ⟨A_t2, k_t2, rfl⟩ := h_t2.out.form
  go_wp2_with fail
  refine (rowsL.eq_b _ _ _ _ _ _ l0.length l0 _ rfl (by have := Hn0.out; omega) (fun l h => Nat.le_trans (hs0.out l h) (by decide)) h_x0.out h_t2.out).mono ?_
  rintro e w7 ⟨rfl, hb⟩
  replace hbl := Lib.hid (below_call hbl.out hb)
  replace h_x0 := Lib.hid (MxOw.call h_x0.out hb)
  replace LT_x0 := Lib.hid (Nat.le_trans LT_x0.out hb.size)
  replace h_t2 := Lib.hid (MxOw.call h_t2.out hb)
  replace LT_t2 := Lib.hid (Nat.le_trans LT_t2.out hb.size)
  clear hb
  clear h_t2 LT_t2
  go_wp2_with fail
  go_ret
  exact HK.out _ hbl.out

set_option maxRecDepth 100000 in
theorem walk (A0 : Option Addr) (n0 c0 : Nat) (l0 : List (List Int)) (W : World) (hn0 : l0.length = n0) (hmx0 : n0 ≤ maxLen) (hsx0 : ∀ u ∈ l0, u.length ≤ maxLen) (hi0 : MxIn W W.heap.size A0 l0) :
    Calls Try.prog 11 #[.slice A0 n0 c0] W (Yes W) := by
  exact walk_at A0 n0 c0 l0 (deZ l0) W hn0 hmx0 hsx0 hi0
    (Lib.hid (fun A0 n0 c0 X e0 m0 z0 y0 => determinant_any A0 n0 c0 l0 X e0 m0 z0 y0))
    (Lib.hid (fun A0 n0 c0 X e0 m0 z0 y0 => determinantI_any A0 n0 c0 l0 X e0 m0 z0 y0))

set_option maxRecDepth 100000 in
theorem lifted (os : Os) (started : os.Started) (H : Type) (enc : TypeId × Value → H) :
    ReturnsInHanded {} Try.checked os 11 .any (Rows.fnExactDeterminantSpec.pre6 enc Try.prog Try.f11 Rows.fnExactDeterminantRow.domain false) (Rows.fnExactDeterminantSpec.post enc Try.prog Try.f11 false true false false) := by
  refine returnsInHanded_of_change (C := Try.checked) own started (by kernel_rfl) Try.func11
    (ChangeSpec.witness6 (enc := enc) (C := Try.checked) false ⟨#[], #[.slice none 0 0], []⟩ 8 (by kernel_rfl) (by kernel_rfl) (by kernel_rfl) (by kernel_rfl)) ?_
  intro W base args ds gs before hval0 hW _ _
  have hval : ∀ (j : Nat) t v, Try.f11.params[j]? = some t → args[j]? = some v → Value.okWide Try.prog W .any base t v := hval0
  have hW' := hW
  obtain ⟨p, q, hA0, hV, rfl, hfz, hnd⟩ := hW
  have hA : DataW.TrodAll enc Try.prog W 0 (fun _ => true) true Try.f11.params.toList args.toList ds p := hA0
  rw [Try.params11] at hA hval
  obtain ⟨v0, d0, rfl, rfl, h0⟩ := trodAll_one hA
  obtain ⟨rfl, rfl⟩ := trodVars_none hV
  clear hA0 hval0
  simp only [List.append_nil] at hW'
  have hlt0 : ∀ x ∈ p, x.block < W.heap.size := fun x hx => by simpa using hW'.lt x (by simp [hx])
  obtain ⟨A0, c0, l0, rfl, hn0, hu0, hb0⟩ := rowsP.open_rowS Try.underlying38 Try.underlying34 Try.underlying3 rowsL.cellsRow mazeR.cellsInt (hval 0 38 v0 rfl rfl) h0 hlt0
  refine (walk A0 l0.length c0 l0 W rfl hn0 hu0 hb0).mono fun e W' ⟨he, hg⟩ => ?_
  subst he
  exact ⟨_, rfl, post_below (pa := _) (pv := []) hW' (fun _ _ _ => (trodAll_cons_mk (shut_bool Try.underlying4 _) trodAll_mk0)) (fun sp hsp => trodAll_mk1 (WideElems.Trod_stays laidOut (by kernel_rfl) (of_decide_eq_true (by kernel_rfl)) h0 (fun x hx => hg.same (hlt0 x hx)) (fun p hp => hsp p (by simp [hp])))) (fun _ _ => rfl) (by simp)
    hg (ok_one (by kernel_rfl) rfl (okWide_bool_mk Try.underlying4 _))⟩

theorem over : Rows.fnExactDeterminantRow.holds Try.pinned (OpenSpec.ofChange Rows.fnExactDeterminantSpec) :=
  OpenClaim.holds_of_wide 11 Try.f11 rfl rfl rfl rfl rfl rfl rfl ⟨rfl, rfl, rfl, rfl, rfl⟩ rfl rfl rfl rfl rfl (by kernel_rfl) Try.func11 (by kernel_rfl)
    (of_decide_eq_true (by kernel_rfl)) (by unfold Func.isWrapper; first | (rw [if_pos (by decide +kernel)]; kernel_rfl) | (rw [if_neg (by decide +kernel)]; exact ⟨rfl, rfl⟩))
    (fun os started H enc _ => lifted os started H enc)

theorem proved : Rows.FnExactDeterminantSaid :=
  over
end Go.Proofs.Ythgnhamokikhkaa.fnExactDeterminant
