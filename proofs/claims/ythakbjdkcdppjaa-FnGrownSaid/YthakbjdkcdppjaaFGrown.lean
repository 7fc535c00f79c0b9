/- For every code, FnGrown answers true, and its argument reads as before. -/
import Derived.Test.YthakbjdkcdppjaaGrwW
import Derived.Test.YthakbjdkcdppjaaGrwI3
import Derived.Test.YthakbjdkcdppjaaGrwJ4
import Derived.Test.YthakbjdkcdppjaaPrfC
import Derived.Test.YthakbjdkcdppjaaBase
namespace Go.Proofs.Ythakbjdkcdppjaa.fnGrown
open Go.ChangeShapes Go.WideShapes Go.ChangeAt Go.RowKit
open draw lawKit
set_option linter.unusedVariables false

theorem walk_all (A : Option Addr) (n c : Nat) (w : World) (hn : n ≤ maxLen) (hb : BytesIn w w.heap.size A n) : Calls Try.prog 3 #[.slice A n c] w (Yes w) :=
  walk_at A n c w hn hb (Lib.hid fun x y z X => perfI.isPerfect_any x y z X) (Lib.hid fun x y A n c l X h1 h2 h3 h4 => grwI.growI_any x y A n c l X h1 h2 h3 h4) (Lib.hid fun x y A n c l X h1 h2 h3 h4 => grwJ.divideMazeI_any x y A n c l X h1 h2 h3 h4) (Lib.hid fun x y X => grwJ.countRoomsI_any x y X)

set_option maxRecDepth 100000 in
theorem lifted (os : Os) (started : os.Started) (H : Type) (enc : TypeId × Value → H) :
    ReturnsInHanded {} Try.checked os 3 .any (Rows.fnGrownSpec.pre6 enc Try.prog Try.f3 Rows.fnGrownRow.domain false) (Rows.fnGrownSpec.post enc Try.prog Try.f3 false true false false) := by
  refine returnsInHanded_of_change (C := Try.checked) own started (by kernel_rfl) Try.func3
    (ChangeSpec.witness6 (enc := enc) (C := Try.checked) false ⟨#[], #[.slice none 0 0], []⟩ 8 (by kernel_rfl) (by kernel_rfl) (by kernel_rfl) (by kernel_rfl)) ?_
  intro W base args ds gs before hval0 hW _ _
  have hval : ∀ (j : Nat) t v, Try.f3.params[j]? = some t → args[j]? = some v → Value.okWide Try.prog W .any base t v := hval0
  have hW' := hW
  obtain ⟨p, q, hA0, hV, rfl, hfz, hnd⟩ := hW
  have hA : DataW.TrodAll enc Try.prog W 0 (fun _ => true) true Try.f3.params.toList args.toList ds p := hA0
  rw [Try.params3] at hA hval
  obtain ⟨v0, d0, rfl, rfl, h0⟩ := trodAll_one hA
  obtain ⟨rfl, rfl⟩ := trodVars_none hV
  clear hA0 hval0
  simp only [List.append_nil] at hW'
  have hlt : ∀ x ∈ p, x.block < W.heap.size := fun x hx => by simpa using hW'.lt x hx
  obtain ⟨A0, n0, c0, rfl, hn0, hb0⟩ := open_bytes Try.underlying22 Try.underlying5 cells_u8 (hval 0 22 v0 rfl rfl) h0 hlt
  refine (walk_all A0 n0 c0 W hn0 hb0).mono fun e W' ⟨he, hg⟩ => ?_
  subst he
  exact ⟨_, rfl, post_below (pa := _) (pv := []) hW' (fun _ _ _ => (trodAll_cons_mk (shut_bool Try.underlying4 _) trodAll_mk0)) (fun sp hsp => trodAll_mk1 (WideElems.Trod_stays laidOut (by kernel_rfl) (of_decide_eq_true (by kernel_rfl)) h0 (fun x hx => hg.same (hlt x hx)) hsp)) (fun _ _ => rfl) (by simp)
    hg (ok_one (by kernel_rfl) rfl (okWide_bool_mk Try.underlying4 _))⟩

theorem over : Rows.fnGrownRow.holds Try.pinned (OpenSpec.ofChange Rows.fnGrownSpec) :=
  OpenClaim.holds_of_wide 3 Try.f3 rfl rfl rfl rfl rfl rfl rfl ⟨rfl, rfl, rfl, rfl, rfl⟩ rfl rfl rfl rfl rfl (by kernel_rfl) Try.func3 (by kernel_rfl)
    (of_decide_eq_true (by kernel_rfl)) (by unfold Func.isWrapper; first | (rw [if_pos (by decide +kernel)]; kernel_rfl) | (rw [if_neg (by decide +kernel)]; exact ⟨rfl, rfl⟩))
    (fun os started H enc _ => lifted os started H enc)

theorem proved : Rows.FnGrownSaid :=
  over
end Go.Proofs.Ythakbjdkcdppjaa.fnGrown
