/- The draws of the laws: a drawn number, and the three numbers that a clamp is tried at. -/
import Derived.Test.YtijpbjnghkkdeaaDoorDrawC
namespace Go.Proofs.YtijpbjnghkkdeaaDoor.draw
open Go.ChangeShapes Go.WideShapes Go.ChangeAt Go.RowKit
set_option linter.unusedVariables false

theorem only_alloc {a w : World} {row : Option Nat} (h : a.grownBy w row) (o : Obj) : a.grownBy (w.alloc o) row :=
  ⟨h.os, h.tape, h.output, Nat.le_trans h.size (by simp), fun i hi hne => (Below.heap_alloc w o i (Nat.lt_of_lt_of_le hi h.size)).trans (h.block i hi hne)⟩
theorem Cur.alloc {w : World} {g : Nat} (h : Cur w g) (o : Obj) : Cur (w.alloc o) g := h.kept ((Below.refl w.heap.size w).alloc (Nat.le_refl _) o) h.lt

theorem number_any (g : Nat) (w : World) (hc : Cur w g) :
    Calls Tryd.prog 28 #[.pointer (some ⟨g, 0, none⟩)] w (DrawnI g w) := by
  have HK := @Lib.hid _ (fun w' b (h1 : Cur w' g) (h2 : w.grownBy w' (some g)) => @drawnI_mk g w w' b h1 h2)
  go_enter Tryd.func28, Tryd.ntmps28
  go_wp2_with fail
  refine (below_any g _ _ hc (by omega) (by omega)).mono ?_
  rintro e w1 ⟨x, hx, rfl, hc1, hg1⟩
  clear hx
  have hlt := hc1.lt
  by_cases h0 : x = 0
  · subst h0
    go_wp2_with fail
    refine (pickInt_any g w1.heap.size 10 [-1, 0, 127, 128, 16383, 16384, 1000000000, 1000000001, 9223372036854775807, -9223372036854775808] _ (hc1.alloc _) (by omega) (by omega) (by omega) (by simp) ?_).mono ?_
    · intro k hk
      rw [World.cell?_alloc_new]
      match k, hk with
      | 0, _ => rfl
      | 1, _ => rfl
      | 2, _ => rfl
      | 3, _ => rfl
      | 4, _ => rfl
      | 5, _ => rfl
      | 6, _ => rfl
      | 7, _ => rfl
      | 8, _ => rfl
      | 9, _ => rfl
    · rintro e w2 ⟨z, rfl, hc2, hg2⟩
      go_wp2_with fail
      go_ret
      exact HK.out _ _ hc2 (only_trans (only_alloc hg1 _) hg2)
  · by_cases h1 : x = 1
    · subst h1
      go_wp2_with fail
      refine (below_any g _ _ hc1 (by omega) (by omega)).mono ?_
      rintro e w2 ⟨x, hx, rfl, hc2, hg2⟩
      clear hx
      go_wp2_with fail
      go_ret
      exact HK.out _ _ hc2 (only_trans hg1 hg2)
    · have h0' : ((x : Int) == 0) = false := by simp; omega
      have h1' : ((x : Int) == 1) = false := by simp; omega
      go_wp2_with fail
      refine (below_any g _ _ hc1 (by omega) (by omega)).mono ?_
      rintro e w2 ⟨x, hx, rfl, hc2, hg2⟩
      clear hx
      go_wp2_with fail
      go_ret
      exact HK.out _ _ hc2 (only_trans hg1 hg2)
end Go.Proofs.YtijpbjnghkkdeaaDoor.draw
