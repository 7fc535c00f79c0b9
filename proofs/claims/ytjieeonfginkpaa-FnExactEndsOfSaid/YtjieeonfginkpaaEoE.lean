/- For every grid and every integer the program's pair of ends is the model's, and the arguments read as before. -/
import Derived.Test.YtjieeonfginkpaaGridK
import Derived.Test.YtjieeonfginkpaaGridN
import Derived.Test.YtjieeonfginkpaaGridU
import Derived.Test.YtjieeonfginkpaaGridR
namespace Go.Proofs.Ytjieeonfginkpaa.fnExactEndsOf
open Go.ChangeShapes Go.WideShapes Go.ChangeAt Go.RowKit
open gridC gridP gridR lawKit draw
set_option linter.unusedVariables false

/-- The law's answer. -/
def Yes (w : World) (e : Ending) (w' : World) : Prop := e = .returned (.bool true) ∧ Below w.heap.size w w'
theorem yes_mk {w w' : World} (h : Below w.heap.size w w') : Yes w (.returned (.bool true)) w' := ⟨rfl, h⟩

theorem walk_at (w h g u v : Int) (W : World) (HS : Hid (∀ X, Calls Try.prog 27 #[.agg #[.int .i64 w, .int .i64 h], .int .i64 g] X (gridE.Nm2 u v X))) (HI : Hid (∀ X, Calls Try.prog 16 #[.agg #[.int .i64 w, .int .i64 h], .int .i64 g] X (gridE.Nm2 u v X))) :
    Calls Try.prog 9 #[.agg #[.int .i64 w, .int .i64 h], .int .i64 g] W (Yes W) := by
  have HK := @Lib.hid _ (fun w' b => @yes_mk W w' b)
  have HB := Lib.hid below_box
  have hu : (u != u) = false := by simp
  have hv : (v != v) = false := by simp
  go_enter Try.func9, Try.ntmps9
  go_wp2_with fail
  refine (toGrid_any w h _).mono ?_
  rintro e w1 ⟨rfl, hb⟩
  have hb1 := below_call (HB.out _ _) hb
  have hx := Lib.hid ((box_new w h W _).call hb)
  clear hb
  obtain ⟨c0, c1⟩ := hx.out.1
  go_wp2_with fail
  refine (HS.out _).mono ?_
  rintro e w2 ⟨rfl, hb⟩
  have hb2 := below_call hb1 hb
  have hx2 := Lib.hid (hx.out.call hb)
  clear hb hx c0 c1 hb1
  obtain ⟨c0, c1⟩ := hx2.out.1
  go_wp2_with fail
  refine (toGrid_any w h _).mono ?_
  rintro e w3 ⟨rfl, hb⟩
  have hb3 := below_call hb2 hb
  have hx3 := Lib.hid (hx2.out.call hb)
  clear hb hx2 c0 c1 hb2
  obtain ⟨c0, c1⟩ := hx3.out.1
  go_wp2_with fail
  refine (HI.out _).mono ?_
  rintro e w4 ⟨rfl, hb⟩
  have hb4 := below_call hb3 hb
  clear hb hx3 c0 c1 hb3
  go_wp2_with fail
  go_ret
  exact HK.out _ hb4

theorem walk (w h g : Int) (W : World) (wx : (Lit.int .i64 w).wf = true) (wy : (Lit.int .i64 h).wf = true) (wg : (Lit.int .i64 g).wf = true) :
    Calls Try.prog 9 #[.agg #[.int .i64 w, .int .i64 h], .int .i64 g] W (Yes W) :=
  walk_at w h g (eaZ w h g) (ebZ w h g) W (Lib.hid fun X => gridS.endsOf_any w h g X) (Lib.hid fun X => gridI.endsOf_any w h g X)
set_option maxRecDepth 100000 in
theorem lifted (os : Os) (started : os.Started) (H : Type) (enc : TypeId × Value → H) :
    ReturnsInHanded {} Try.checked os 9 .any (Rows.fnExactEndsOfSpec.pre6 enc Try.prog Try.f9 Rows.fnExactEndsOfRow.domain false) (Rows.fnExactEndsOfSpec.post enc Try.prog Try.f9 false true false false) := by
  refine returnsInHanded_of_change (C := Try.checked) own started (by kernel_rfl) Try.func9
    (ChangeSpec.witness6 (enc := enc) (C := Try.checked) false ⟨#[], #[.agg #[.int .i64 0, .int .i64 0], .int .i64 0], []⟩ 8 (by kernel_rfl) (by kernel_rfl) (by kernel_rfl) (by kernel_rfl)) ?_
  intro W base args ds gs before hval0 hW _ _
  have hval : ∀ (j : Nat) t v, Try.f9.params[j]? = some t → args[j]? = some v → Value.okWide Try.prog W .any base t v := hval0
  have hW' := hW
  obtain ⟨p, q, hA0, hV, rfl, hfz, hnd⟩ := hW
  have hA : DataW.TrodAll enc Try.prog W 0 (fun _ => true) true Try.f9.params.toList args.toList ds p := hA0
  rw [Try.params9] at hA hval
  obtain ⟨v0, vs0, d0, ds0, p0, q0, hargs, rfl, rfl, h0, r0⟩ := trodAll_cons hA
  obtain ⟨v1, vs1, d1, ds1, p1, q1, rfl, rfl, rfl, h1, r1⟩ := trodAll_cons r0
  obtain ⟨rfl, rfl, rfl⟩ := trodAll_nil r1
  obtain rfl : args = #[v0, v1] := by cases args; simp_all
  obtain ⟨rfl, rfl⟩ := trodVars_none hV
  clear hA0 hval0
  simp only [List.append_nil] at hW'
  obtain ⟨x0, y0, rfl, rfl, rfl, wx0, wy0⟩ := gridR.open_grid (hval 0 33 v0 rfl rfl) h0
  obtain ⟨a1, rfl, rfl, rfl, w1⟩ := open_int Try.underlying3 (hval 1 3 v1 rfl rfl) h1
  refine (walk x0 y0 a1 W wx0 wy0 w1).mono fun e W' ⟨he, hg⟩ => ?_
  subst he
  exact ⟨_, rfl, post_below (pa := []) (pv := []) hW' (fun _ _ _ => (trodAll_cons_mk (shut_bool Try.underlying4 _) trodAll_mk0)) (fun sp _ => (trodAll_cons_mk (gridR.shut_grid wx0 wy0) (trodAll_cons_mk (shut_int Try.underlying3 w1) trodAll_mk0))) (fun _ _ => rfl) (by simp)
    hg (ok_one (by kernel_rfl) rfl (okWide_bool_mk Try.underlying4 _))⟩

theorem over : Rows.fnExactEndsOfRow.holds Try.pinned (OpenSpec.ofChange Rows.fnExactEndsOfSpec) :=
  OpenClaim.holds_of_wide 9 Try.f9 rfl rfl rfl rfl rfl rfl rfl ⟨rfl, rfl, rfl, rfl, rfl⟩ rfl rfl rfl rfl rfl (by kernel_rfl) Try.func9 (by kernel_rfl)
    (of_decide_eq_true (by kernel_rfl)) (by unfold Func.isWrapper; first | (rw [if_pos (by decide +kernel)]; kernel_rfl) | (rw [if_neg (by decide +kernel)]; exact ⟨rfl, rfl⟩))
    (fun os started H enc _ => lifted os started H enc)

theorem proved : Rows.FnExactEndsOfSaid :=
  over
end Go.Proofs.Ytjieeonfginkpaa.fnExactEndsOf
