/- For every grid the program's number of gaps is the model's, and the arguments read as before. -/
import Derived.Test.YtjieeonfginkpaaGridI
import Derived.Test.YtjieeonfginkpaaGridS
import Derived.Test.YtjieeonfginkpaaGridR
namespace Go.Proofs.Ytjieeonfginkpaa.fnExactCountGaps
open Go.ChangeShapes Go.WideShapes Go.ChangeAt Go.RowKit
open gridC gridP gridR lawKit draw
set_option linter.unusedVariables false

/-- The law's answer. -/
def Yes (w : World) (e : Ending) (w' : World) : Prop := e = .returned (.bool true) ∧ Below w.heap.size w w'
theorem yes_mk {w w' : World} (h : Below w.heap.size w w') : Yes w (.returned (.bool true)) w' := ⟨rfl, h⟩

theorem walk_at (w h v : Int) (W : World) (HS : Hid (∀ X, Calls Try.prog 24 #[.agg #[.int .i64 w, .int .i64 h]] X (Nm v X))) (HI : Hid (∀ X, Calls Try.prog 18 #[.agg #[.int .i64 w, .int .i64 h]] X (Nm v X))) :
    Calls Try.prog 6 #[.agg #[.int .i64 w, .int .i64 h]] W (Yes W) := by
  have HK := @Lib.hid _ (fun w' b => @yes_mk W w' b)
  have HB := Lib.hid below_box
  have hv : (v != v) = false := by simp
  go_enter Try.func6, Try.ntmps6
  go_wp2_with fail
  refine (toGrid_any w h _).mono ?_
  rintro e w1 ⟨rfl, hb⟩
  have hb1 := below_call (HB.out _ _) hb
  have hx := Lib.hid ((box_new w h W _).call hb)
  clear hb
  obtain ⟨c0, c1⟩ := hx.out.1
  go_wp2_with fail
  refine (HS.out _).mono ?_
  rintro e w2 ⟨rfl, hb⟩
  have hb2 := below_call hb1 hb
  have hx2 := Lib.hid (hx.out.call hb)
  clear hb hx c0 c1 hb1
  obtain ⟨c0, c1⟩ := hx2.out.1
  go_wp2_with fail
  refine (toGrid_any w h _).mono ?_
  rintro e w3 ⟨rfl, hb⟩
  have hb3 := below_call hb2 hb
  have hx3 := Lib.hid (hx2.out.call hb)
  clear hb hx2 c0 c1 hb2
  obtain ⟨c0, c1⟩ := hx3.out.1
  go_wp2_with fail
  refine (HI.out _).mono ?_
  rintro e w4 ⟨rfl, hb⟩
  have hb4 := below_call hb3 hb
  clear hb hx3 c0 c1 hb3
  go_wp2_with fail
  go_ret
  exact HK.out _ hb4

theorem walk (w h : Int) (W : World) (wx : (Lit.int .i64 w).wf = true) (wy : (Lit.int .i64 h).wf = true) :
    Calls Try.prog 6 #[.agg #[.int .i64 w, .int .i64 h]] W (Yes W) := by
  by_cases hn : 1 ≤ w ∧ w ≤ 4 ∧ 1 ≤ h ∧ h ≤ 4
  · exact walk_at w h ((w - 1) * h + w * (h - 1)) W (Lib.hid fun X => gridS.countGaps_yes w h X hn.1 hn.2.1 hn.2.2.1 hn.2.2.2) (Lib.hid fun X => gridI.countGaps_yes w h X hn.1 hn.2.1 hn.2.2.1 hn.2.2.2)
  · exact walk_at w h 0 W (Lib.hid fun X => gridS.countGaps_no w h X hn) (Lib.hid fun X => gridI.countGaps_no w h X hn)
set_option maxRecDepth 100000 in
theorem lifted (os : Os) (started : os.Started) (H : Type) (enc : TypeId × Value → H) :
    ReturnsInHanded {} Try.checked os 6 .any (Rows.fnExactCountGapsSpec.pre6 enc Try.prog Try.f6 Rows.fnExactCountGapsRow.domain false) (Rows.fnExactCountGapsSpec.post enc Try.prog Try.f6 false true false false) := by
  refine returnsInHanded_of_change (C := Try.checked) own started (by kernel_rfl) Try.func6
    (ChangeSpec.witness6 (enc := enc) (C := Try.checked) false ⟨#[], #[.agg #[.int .i64 0, .int .i64 0]], []⟩ 8 (by kernel_rfl) (by kernel_rfl) (by kernel_rfl) (by kernel_rfl)) ?_
  intro W base args ds gs before hval0 hW _ _
  have hval : ∀ (j : Nat) t v, Try.f6.params[j]? = some t → args[j]? = some v → Value.okWide Try.prog W .any base t v := hval0
  have hW' := hW
  obtain ⟨p, q, hA0, hV, rfl, hfz, hnd⟩ := hW
  have hA : DataW.TrodAll enc Try.prog W 0 (fun _ => true) true Try.f6.params.toList args.toList ds p := hA0
  rw [Try.params6] at hA hval
  obtain ⟨v0, d0, rfl, rfl, h0⟩ := trodAll_one hA
  obtain ⟨rfl, rfl⟩ := trodVars_none hV
  clear hA0 hval0
  simp only [List.append_nil] at hW'
  obtain ⟨x0, y0, rfl, rfl, rfl, wx0, wy0⟩ := gridR.open_grid (hval 0 33 v0 rfl rfl) h0
  refine (walk x0 y0 W wx0 wy0).mono fun e W' ⟨he, hg⟩ => ?_
  subst he
  exact ⟨_, rfl, post_below (pa := []) (pv := []) hW' (fun _ _ _ => (trodAll_cons_mk (shut_bool Try.underlying4 _) trodAll_mk0)) (fun sp _ => (trodAll_cons_mk (gridR.shut_grid wx0 wy0) trodAll_mk0)) (fun _ _ => rfl) (by simp)
    hg (ok_one (by kernel_rfl) rfl (okWide_bool_mk Try.underlying4 _))⟩

theorem over : Rows.fnExactCountGapsRow.holds Try.pinned (OpenSpec.ofChange Rows.fnExactCountGapsSpec) :=
  OpenClaim.holds_of_wide 6 Try.f6 rfl rfl rfl rfl rfl rfl rfl ⟨rfl, rfl, rfl, rfl, rfl⟩ rfl rfl rfl rfl rfl (by kernel_rfl) Try.func6 (by kernel_rfl)
    (of_decide_eq_true (by kernel_rfl)) (by unfold Func.isWrapper; first | (rw [if_pos (by decide +kernel)]; kernel_rfl) | (rw [if_neg (by decide +kernel)]; exact ⟨rfl, rfl⟩))
    (fun os started H enc _ => lifted os started H enc)

theorem proved : Rows.FnExactCountGapsSaid :=
  over
end Go.Proofs.Ytjieeonfginkpaa.fnExactCountGaps
