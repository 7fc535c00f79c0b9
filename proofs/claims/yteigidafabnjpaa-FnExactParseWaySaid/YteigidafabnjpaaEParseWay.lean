/- ParseWay: for every argument the program's answer is the model's and owns its memory, and the arguments read as before. -/
import Derived.Test.YteigidafabnjpaaWayM
import Derived.Test.YteigidafabnjpaaWayI1
import Derived.Test.YteigidafabnjpaaListK
import Derived.Test.YteigidafabnjpaaBase
import Derived.Test.YteigidafabnjpaaMzB
namespace Go.Proofs.Yteigidafabnjpaa.fnExactParseWay
open Go.ChangeShapes Go.WideShapes Go.ChangeAt Go.RowKit
open gridC gridR mazeP mazeC mazeM mazeR wayP intsP intK intA listK lawKit reachD draw
set_option linter.unusedVariables false

/-- The law's answer. -/
def Yes (w : World) (e : Ending) (w' : World) : Prop := e = .returned (.bool true) ∧ Below w.heap.size w w'
theorem yes_mk {w w' : World} (h : Below w.heap.size w w') : Yes w (.returned (.bool true)) w' := ⟨rfl, h⟩

set_option maxRecDepth 100000 in
set_option maxHeartbeats 2000000 in
theorem walk_at (s0 : ByteArray) (r0 : List Int) (r1 : Bool) (W : World) (hm0 : s0.size ≤ 1048576) (hl0 : r0.length ≤ 2000000)
    (HS : Hid (∀  X, Calls Try.prog 30 #[.string s0] X (IntsB r0 r1 X)))
    (HI : Hid (∀  X, Calls Try.prog 17 #[.string s0] X (IntsB r0 r1 X))) :
    Calls Try.prog 9 #[.string s0] W (Yes W) := by
  have HK := @Lib.hid _ (fun w' b => @yes_mk W w' b)
  have hb0 : decide ((1048576 : Int) < (s0.size : Int)) = false := by simp; omega
  have er0 : ((r0.length : Int) != (r0.length : Int)) = false := by simp
  have er1 : (r1 != r1) = false := by cases r1 <;> rfl
  go_enter Try.func9, Try.ntmps9
  have hbl := Lib.hid (Below.refl W.heap.size W)
  go_wp2_with fail
  refine (HS.out _).mono ?_
  rintro e w1 ⟨vw0, rfl, ho, hb⟩
  have h_w0 := Lib.hid ho
  clear ho
  replace hbl := Lib.hid (below_call hbl.out hb)
  clear hb
  obtain ⟨A_w0, k_w0, rfl⟩ := own_form h_w0.out
  go_wp2_with fail
  refine (HI.out _).mono ?_
  rintro e w2 ⟨vg0, rfl, ho, hb⟩
  have NE_w0_g0 := Lib.hid (own_apart h_w0.out ho)
  have h_g0 := Lib.hid ho
  have U_g0 := Lib.hid (fun g e => (ho.lt g e))
  have UW_g0 := Lib.hid hbl.out.size
  clear ho
  replace hbl := Lib.hid (below_call hbl.out hb)
  replace h_w0 := Lib.hid (own_call h_w0.out hb)
  clear hb
  obtain ⟨A_g0, k_g0, rfl⟩ := own_form h_g0.out
  go_wp2_with fail
  refine (eq_b _ _ _ _ r0.length r0 _ rfl (by omega) h_g0.out h_w0.out).mono ?_
  rintro e w3 ⟨rfl, hb⟩
  replace hbl := Lib.hid (below_call hbl.out hb)
  replace h_w0 := Lib.hid (own_call h_w0.out hb)
  replace h_g0 := Lib.hid (own_call h_g0.out hb)
  clear hb
  go_wp2_with fail
  refine (mark_one (.slice A_g0 r0.length k_g0) _ r0.length 1 1 _ _ rfl (by omega) (by omega) h_g0.out).mono ?_
  rintro e w4 ⟨rfl, ho, hg⟩
  replace h_g0 := Lib.hid ho
  clear ho
  replace hbl := Lib.hid (below_marked hbl.out hg (fun g e => Nat.le_trans UW_g0.out (U_g0.out g e).1))
  replace h_w0 := Lib.hid (row_marked h_w0.out hg NE_w0_g0.out)
  clear hg
  go_wp2_with fail
  refine (held_any (.slice A_g0 r0.length k_g0) _ r0.length 1 1 _ rfl (by omega) (by omega) h_g0.out).mono ?_
  rintro e w5 ⟨rfl, hb⟩
  replace hbl := Lib.hid (below_call hbl.out hb)
  replace h_w0 := Lib.hid (own_call h_w0.out hb)
  replace h_g0 := Lib.hid (own_call h_g0.out hb)
  clear hb
  have hne : (((1 + r0.length : Nat) : Int) != ((1 + r0.length : Nat) : Int)) = false := by simp
  have hne2 : ((1 : Int) + (r0.length : Int) != (1 : Int) + (r0.length : Int)) = false := by simp
  go_wp2_with fail
  refine (HI.out _).mono ?_
  rintro e w6 ⟨vh0, rfl, ho, hb⟩
  have NE_w0_h0 := Lib.hid (own_apart h_w0.out ho)
  have NE_g0_h0 := Lib.hid (own_apart h_g0.out ho)
  have h_h0 := Lib.hid ho
  clear ho
  replace hbl := Lib.hid (below_call hbl.out hb)
  replace h_w0 := Lib.hid (own_call h_w0.out hb)
  replace h_g0 := Lib.hid (own_call h_g0.out hb)
  clear hb
  obtain ⟨A_h0, k_h0, rfl⟩ := own_form h_h0.out
  go_wp2_with fail
  refine (eq_b _ _ _ _ r0.length r0 _ rfl (by omega) h_h0.out h_w0.out).mono ?_
  rintro e w7 ⟨rfl, hb⟩
  replace hbl := Lib.hid (below_call hbl.out hb)
  replace h_w0 := Lib.hid (own_call h_w0.out hb)
  replace h_g0 := Lib.hid (own_call h_g0.out hb)
  replace h_h0 := Lib.hid (own_call h_h0.out hb)
  clear hb
  go_wp2_with fail
  refine (held_any (.slice A_g0 r0.length k_g0) _ r0.length 1 1 _ rfl (by omega) (by omega) h_g0.out).mono ?_
  rintro e w8 ⟨rfl, hb⟩
  replace hbl := Lib.hid (below_call hbl.out hb)
  replace h_w0 := Lib.hid (own_call h_w0.out hb)
  replace h_g0 := Lib.hid (own_call h_g0.out hb)
  replace h_h0 := Lib.hid (own_call h_h0.out hb)
  clear hb
  go_wp2_with fail
  go_ret
  exact HK.out _ hbl.out

set_option maxRecDepth 100000 in
theorem walk (s0 : ByteArray) (W : World) (hs0 : s0.size ≤ maxLen) :
    Calls Try.prog 9 #[.string s0] W (Yes W) := by
  by_cases hbig : 1048576 < s0.size
  · have hb1 : decide ((1048576 : Int) < (s0.size : Int)) = true := by simp; omega
    have HB := Lib.hid below_box
    have HR := Lib.hid (Below.refl W.heap.size W)
    have HK := @Lib.hid _ (fun w' b => @yes_mk W w' b)
    go_enter Try.func9, Try.ntmps9
    go_wp2_with fail
    go_ret
    exact HK.out _ HR.out
  · have hm0 : s0.size ≤ 1048576 := by omega
    exact walk_at s0 (pwL s0.data.toList) (pwB s0.data.toList) W hm0 ((by have := wayI.pw_len s0.data.toList; have e : s0.data.toList.length = s0.size := Array.length_toList; omega))
      (Lib.hid (fun  X => wayM.parseWay_any s0 X hm0 ))
      (Lib.hid (fun  X => wayI.parseWay_any s0 X hm0 ))

set_option maxRecDepth 100000 in
theorem lifted (os : Os) (started : os.Started) (H : Type) (enc : TypeId × Value → H) :
    ReturnsInHanded {} Try.checked os 9 .any (Rows.fnExactParseWaySpec.pre6 enc Try.prog Try.f9 Rows.fnExactParseWayRow.domain false) (Rows.fnExactParseWaySpec.post enc Try.prog Try.f9 false true false false) := by
  refine returnsInHanded_of_change (C := Try.checked) own started (by kernel_rfl) Try.func9
    (ChangeSpec.witness6 (enc := enc) (C := Try.checked) false ⟨#[], #[.string ⟨#[]⟩], []⟩ 8 (by kernel_rfl) (by kernel_rfl) (by kernel_rfl) (by kernel_rfl)) ?_
  intro W base args ds gs before hval0 hW _ _
  have hval : ∀ (j : Nat) t v, Try.f9.params[j]? = some t → args[j]? = some v → Value.okWide Try.prog W .any base t v := hval0
  have hW' := hW
  obtain ⟨p, q, hA0, hV, rfl, hfz, hnd⟩ := hW
  have hA : DataW.TrodAll enc Try.prog W 0 (fun _ => true) true Try.f9.params.toList args.toList ds p := hA0
  rw [Try.params9] at hA hval
  obtain ⟨v0, d0, rfl, rfl, h0⟩ := trodAll_one hA
  obtain ⟨rfl, rfl⟩ := trodVars_none hV
  clear hA0 hval0
  simp only [List.append_nil] at hW'
  obtain ⟨s0, rfl, rfl, rfl, hs0⟩ := ChangeMaps.open_string Try.underlying9 (hval 0 9 v0 rfl rfl) h0
  refine (walk s0 W hs0).mono fun e W' ⟨he, hg⟩ => ?_
  subst he
  exact ⟨_, rfl, post_below (pa := []) (pv := []) hW' (fun _ _ _ => (trodAll_cons_mk (shut_bool Try.underlying4 _) trodAll_mk0)) (fun sp _ => (trodAll_cons_mk (ChangeMaps.shut_string Try.underlying9 hs0) trodAll_mk0)) (fun _ _ => rfl) (by simp)
    hg (ok_one (by kernel_rfl) rfl (okWide_bool_mk Try.underlying4 _))⟩

theorem over : Rows.fnExactParseWayRow.holds Try.pinned (OpenSpec.ofChange Rows.fnExactParseWaySpec) :=
  OpenClaim.holds_of_wide 9 Try.f9 rfl rfl rfl rfl rfl rfl rfl ⟨rfl, rfl, rfl, rfl, rfl⟩ rfl rfl rfl rfl rfl (by kernel_rfl) Try.func9 (by kernel_rfl)
    (of_decide_eq_true (by kernel_rfl)) (by unfold Func.isWrapper; first | (rw [if_pos (by decide +kernel)]; kernel_rfl) | (rw [if_neg (by decide +kernel)]; exact ⟨rfl, rfl⟩))
    (fun os started H enc _ => lifted os started H enc)

theorem proved : Rows.FnExactParseWaySaid :=
  over
end Go.Proofs.Yteigidafabnjpaa.fnExactParseWay
