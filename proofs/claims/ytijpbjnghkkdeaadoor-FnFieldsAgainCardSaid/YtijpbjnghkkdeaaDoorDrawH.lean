/- The draws of the laws: the text that an encoding is tried at. -/
import Derived.Test.YtijpbjnghkkdeaaDoorDrawT
namespace Go.Proofs.YtijpbjnghkkdeaaDoor.draw
open Go.ChangeShapes Go.WideShapes Go.ChangeAt Go.RowKit
set_option linter.unusedVariables false

/-- A drawn text that is not too long; what was there is as it was. -/
def TextB (w : World) (e : Ending) (w' : World) : Prop := ∃ s : ByteArray, s.size ≤ 65536 ∧ e = .returned (.string s) ∧ Below w.heap.size w w'
theorem textB_mk {w w' : World} (s : ByteArray) (hs : s.size ≤ 65536) (hb : Below w.heap.size w w') : TextB w (.returned (.string s)) w' := ⟨s, hs, rfl, hb⟩
theorem below_curT {B g : Nat} {a w w' : World} (h : Below B a w) (hg : w.grownBy w' (some g)) (hB : B ≤ g) (hw : B ≤ w.heap.size) : Below B a w' :=
  h.grown hg hw (fun k hk => by cases hk; exact hB)

theorem drawEncodeHex_any (A : Option Addr) (n c : Nat) (w : World) (hn : n ≤ maxLen) (hb : BytesIn w w.heap.size A n) :
    Calls Tryd.prog 9 #[.slice A n c] w (TextB w) := by
  have HK := @Lib.hid _ (fun w' s hs (h : Below w.heap.size w w') => @textB_mk w w' s hs h)
  go_enter Tryd.func9, Tryd.ntmps9
  go_wp2_with fail
  refine (new_any A n c w hn hb).mono ?_
  rintro e w1 ⟨rfl, hc1, hb1, hs1⟩
  have hz1 : w.heap.size ≤ w1.heap.size := by omega
  clear hs1
  go_wp2_with fail
  refine (once_any _ _ _ hc1 (by omega) (by omega)).mono ?_
  rintro e w2 ⟨o, rfl, hc2, hg2⟩
  have hb2 := below_curT hb1 hg2 (Nat.le_refl _) hz1
  have hz2 := hb2.size
  clear hc1 hb1 hg2
  cases o
  · go_wp2_with fail
    refine (below_any _ _ _ hc2 (by omega) (by omega)).mono ?_
    rintro e w3 ⟨x, hx, rfl, hc3, hg3⟩
    have hb3 := below_curT hb2 hg3 (Nat.le_refl _) hz2
    have hz3 := hb3.size
    have hx3 : x ≤ 29 := by omega
    clear hc2 hb2 hg3 hx
    go_wp2_with fail
    refine (text_any _ _ x _ rfl hc3 (by omega)).mono ?_
    rintro e w4 ⟨s, hs, rfl, hc4, hg4⟩
    have hb4 := below_curT hb3 hg4 (Nat.le_refl _) hz3
    have HS := Lib.hid (show s.size ≤ 65536 by omega)
    clear hc3 hb3 hg4 hs
    go_wp2_with fail
    go_ret
    exact HK.out _ _ HS.out hb4
  · go_wp2_with fail
    refine (below_any _ _ _ hc2 (by omega) (by omega)).mono ?_
    rintro e w3 ⟨x, hx, rfl, hc3, hg3⟩
    have hb3 := below_curT hb2 hg3 (Nat.le_refl _) hz2
    have hz3 := hb3.size
    have hx3 : x ≤ 1 := by omega
    clear hc2 hb2 hg3 hx
    go_wp2_with fail
    refine (long_any _ (20000 + x) _ 200 _ (by omega) (by decide) (by omega)).mono ?_
    rintro e w4 ⟨s, hs, rfl, hg4⟩
    have hb4 : Below w.heap.size w w4 := hb3.trans (hg4.mono hz3)
    have HS := Lib.hid (show s.size ≤ 65536 by omega)
    clear hc3 hb3 hg4 hs
    go_wp2_with fail
    go_ret
    exact HK.out _ _ HS.out hb4
end Go.Proofs.YtijpbjnghkkdeaaDoor.draw
