/- CountErased: for every argument the program's answer is the model's, and the arguments read as before. -/
import Derived.Test.YthfcemihaoijgaaErsM
import Derived.Test.YthfcemihaoijgaaErsI
import Derived.Test.YthfcemihaoijgaaIntR
import Derived.Test.YthfcemihaoijgaaListK
import Derived.Test.YthfcemihaoijgaaBase
import Derived.Test.YthfcemihaoijgaaMzB
namespace Go.Proofs.Ythfcemihaoijgaa.fnExactCountErased
open Go.ChangeShapes Go.WideShapes Go.ChangeAt Go.RowKit
open gridC gridR mazeP mazeC mazeM mazeR wayP ersP ersO gridE intsP intK intA listK lawKit reachD draw
set_option linter.unusedVariables false

/-- The law's answer. -/
def Yes (w : World) (e : Ending) (w' : World) : Prop := e = .returned (.bool true) ∧ Below w.heap.size w w'
theorem yes_mk {w w' : World} (h : Below w.heap.size w w') : Yes w (.returned (.bool true)) w' := ⟨rfl, h⟩

set_option maxRecDepth 100000 in
set_option maxHeartbeats 2000000 in
theorem walk_at (A0 : Option Addr) (n0 c0 : Nat) (l0 : List Int) (r0 : Int) (W : World) (hn0 : l0.length = n0) (hi0 : IntsIn W W.heap.size A0 l0) (hm0 : n0 ≤ 1048576)
    (HS : Hid (∀ A0 n0 c0 X, l0.length = n0 → n0 ≤ 1048576 → IntsIn X X.heap.size A0 l0 → Calls Try.prog 25 #[.slice A0 n0 c0] X (Nm r0 X)))
    (HI : Hid (∀ A0 n0 c0 X, l0.length = n0 → n0 ≤ 1048576 → IntsIn X X.heap.size A0 l0 → Calls Try.prog 14 #[.slice A0 n0 c0] X (Nm r0 X))) :
    Calls Try.prog 6 #[.slice A0 n0 c0] W (Yes W) := by
  have HK := @Lib.hid _ (fun w' b => @yes_mk W w' b)
  have HY0 := Lib.hid hi0
  have Hn0 := Lib.hid hn0
  have hb0 : decide ((1048576 : Int) < (n0 : Int)) = false := by simp; omega
  have er0 : (r0 != r0) = false := by simp
  clear hi0 hn0
  go_enter Try.func6, Try.ntmps6
  have hbl := Lib.hid (Below.refl W.heap.size W)
  go_wp2_with fail
  refine (toIntS_any A0 n0 c0 l0 _ Hn0.out.symm hm0 ((HY0.out.below hbl.out).more hbl.out.size)).mono ?_
  rintro e w1 ⟨vt0, rfl, ho, hb⟩
  have h_t0 := Lib.hid ho
  clear ho
  replace hbl := Lib.hid (below_call hbl.out hb)
  clear hb
  obtain ⟨A_t0, k_t0, rfl⟩ := intsP.own_form h_t0.out
  go_wp2_with fail
  refine (HS.out A_t0 _ k_t0 _ rfl (by have := Hn0.out; omega) (ints_own h_t0.out).1).mono ?_
  rintro e w2 ⟨rfl, hb⟩
  replace hbl := Lib.hid (below_call hbl.out hb)
  replace h_t0 := Lib.hid (own_call h_t0.out hb)
  clear hb
  go_wp2_with fail
  refine (toIntS_any A0 n0 c0 l0 _ Hn0.out.symm hm0 ((HY0.out.below hbl.out).more hbl.out.size)).mono ?_
  rintro e w3 ⟨vx0, rfl, ho, hb⟩
  have NE_t0_x0 := Lib.hid (own_apart h_t0.out ho)
  have h_x0 := Lib.hid ho
  clear ho
  replace hbl := Lib.hid (below_call hbl.out hb)
  replace h_t0 := Lib.hid (own_call h_t0.out hb)
  clear hb
  obtain ⟨A_x0, k_x0, rfl⟩ := intsP.own_form h_x0.out
  go_wp2_with fail
  refine (HI.out A_x0 _ k_x0 _ rfl (by have := Hn0.out; omega) (ints_own h_x0.out).1).mono ?_
  rintro e w4 ⟨rfl, hb⟩
  replace hbl := Lib.hid (below_call hbl.out hb)
  replace h_t0 := Lib.hid (own_call h_t0.out hb)
  replace h_x0 := Lib.hid (own_call h_x0.out hb)
  clear hb
  clear h_t0
  go_wp2_with fail
  refine (toIntS_any A0 n0 c0 l0 _ Hn0.out.symm hm0 ((HY0.out.below hbl.out).more hbl.out.size)).mono ?_
  rintro e w5 ⟨vt2, rfl, ho, hb⟩
  have NE_x0_t2 := Lib.hid (own_apart h_x0.out ho)
  have h_t2 := Lib.hid ho
  clear ho
  replace hbl := Lib.hid (below_call hbl.out hb)
  replace h_x0 := Lib.hid (own_call h_x0.out hb)
  clear hb
  obtain ⟨A_t2, k_t2, rfl⟩ := intsP.own_form h_t2.out
  go_wp2_with fail
  refine (eq_b _ _ _ _ l0.length l0 _ rfl (by have := Hn0.out; omega) h_x0.out h_t2.out).mono ?_
  rintro e w6 ⟨rfl, hb⟩
  replace hbl := Lib.hid (below_call hbl.out hb)
  replace h_x0 := Lib.hid (own_call h_x0.out hb)
  replace h_t2 := Lib.hid (own_call h_t2.out hb)
  clear hb
  clear h_t2
  go_wp2_with fail
  go_ret
  exact HK.out _ hbl.out

set_option maxRecDepth 100000 in
theorem walk (A0 : Option Addr) (n0 c0 : Nat) (l0 : List Int) (W : World) (hn0 : l0.length = n0) (hmx0 : n0 ≤ maxLen) (hi0 : IntsIn W W.heap.size A0 l0) (hr0 : ∀ u ∈ l0, -9223372036854775808 ≤ u ∧ u ≤ 9223372036854775807) :
    Calls Try.prog 6 #[.slice A0 n0 c0] W (Yes W) := by
  by_cases hbig : 1048576 < n0
  · have hb1 : decide ((1048576 : Int) < (n0 : Int)) = true := by simp; omega
    have HB := Lib.hid below_box
    have HR := Lib.hid (Below.refl W.heap.size W)
    have HK := @Lib.hid _ (fun w' b => @yes_mk W w' b)
    clear hn0 hi0
    go_enter Try.func6, Try.ntmps6
    go_wp2_with fail
    go_ret
    exact HK.out _ HR.out
  · have hm0 : n0 ≤ 1048576 := by omega
    exact walk_at A0 n0 c0 l0 (ceZ l0) W hn0 hi0 hm0
      (Lib.hid (fun A0 n0 c0 X e0 m0 y0 => ersM.countErased_any A0 n0 c0 l0 X e0 m0 y0))
      (Lib.hid (fun A0 n0 c0 X e0 m0 y0 => ersI.countErased_any A0 n0 c0 l0 X e0 m0 y0 hr0))

set_option maxRecDepth 100000 in
theorem lifted (os : Os) (started : os.Started) (H : Type) (enc : TypeId × Value → H) :
    ReturnsInHanded {} Try.checked os 6 .any (Rows.fnExactCountErasedSpec.pre6 enc Try.prog Try.f6 Rows.fnExactCountErasedRow.domain false) (Rows.fnExactCountErasedSpec.post enc Try.prog Try.f6 false true false false) := by
  refine returnsInHanded_of_change (C := Try.checked) own started (by kernel_rfl) Try.func6
    (ChangeSpec.witness6 (enc := enc) (C := Try.checked) false ⟨#[], #[.slice none 0 0], []⟩ 8 (by kernel_rfl) (by kernel_rfl) (by kernel_rfl) (by kernel_rfl)) ?_
  intro W base args ds gs before hval0 hW _ _
  have hval : ∀ (j : Nat) t v, Try.f6.params[j]? = some t → args[j]? = some v → Value.okWide Try.prog W .any base t v := hval0
  have hW' := hW
  obtain ⟨p, q, hA0, hV, rfl, hfz, hnd⟩ := hW
  have hA : DataW.TrodAll enc Try.prog W 0 (fun _ => true) true Try.f6.params.toList args.toList ds p := hA0
  rw [Try.params6] at hA hval
  obtain ⟨v0, d0, rfl, rfl, h0⟩ := trodAll_one hA
  obtain ⟨rfl, rfl⟩ := trodVars_none hV
  clear hA0 hval0
  simp only [List.append_nil] at hW'
  have hlt0 : ∀ x ∈ p, x.block < W.heap.size := fun x hx => by simpa using hW'.lt x (by simp [hx])
  obtain ⟨A0, c0, l0, rfl, hn0, hb0, hr0⟩ := intR.open_intSr Try.underlying28 Try.underlying3 mazeR.cellsInt (hval 0 28 v0 rfl rfl) h0 hlt0
  refine (walk A0 l0.length c0 l0 W rfl hn0 hb0 hr0).mono fun e W' ⟨he, hg⟩ => ?_
  subst he
  exact ⟨_, rfl, post_below (pa := _) (pv := []) hW' (fun _ _ _ => (trodAll_cons_mk (shut_bool Try.underlying4 _) trodAll_mk0)) (fun sp hsp => trodAll_mk1 (WideElems.Trod_stays laidOut (by kernel_rfl) (of_decide_eq_true (by kernel_rfl)) h0 (fun x hx => hg.same (hlt0 x hx)) (fun p hp => hsp p (by simp [hp])))) (fun _ _ => rfl) (by simp)
    hg (ok_one (by kernel_rfl) rfl (okWide_bool_mk Try.underlying4 _))⟩

theorem over : Rows.fnExactCountErasedRow.holds Try.pinned (OpenSpec.ofChange Rows.fnExactCountErasedSpec) :=
  OpenClaim.holds_of_wide 6 Try.f6 rfl rfl rfl rfl rfl rfl rfl ⟨rfl, rfl, rfl, rfl, rfl⟩ rfl rfl rfl rfl rfl (by kernel_rfl) Try.func6 (by kernel_rfl)
    (of_decide_eq_true (by kernel_rfl)) (by unfold Func.isWrapper; first | (rw [if_pos (by decide +kernel)]; kernel_rfl) | (rw [if_neg (by decide +kernel)]; exact ⟨rfl, rfl⟩))
    (fun os started H enc _ => lifted os started H enc)

theorem proved : Rows.FnExactCountErasedSaid :=
  over
end Go.Proofs.Ythfcemihaoijgaa.fnExactCountErased
