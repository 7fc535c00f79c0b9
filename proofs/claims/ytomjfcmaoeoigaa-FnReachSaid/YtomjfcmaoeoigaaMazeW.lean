/- The contract of the program's directions in which a passage leads on. -/
import Derived.Test.YtomjfcmaoeoigaaMazeI
import Derived.Test.YtomjfcmaoeoigaaMazeV
namespace Go.Proofs.Ytomjfcmaoeoigaa.mazeI
open Go.ChangeShapes Go.WideShapes Go.ChangeAt Go.RowKit
open draw gridP gridC bitP mazeP mazeC mazeM intsP mazeV
set_option linter.unusedVariables false

set_option maxRecDepth 100000 in
theorem waysFrom_any (w h o k : Int) (W : World) :
    Calls Try.prog 44 #[.agg #[.int .i64 w, .int .i64 h, .int .i64 o], .int .i64 k] W (Ints (wlZ w h o k) W) := by
  have HK := @Lib.hid _ (fun w' v n base => @ints_mk (wlZ w h o k) W w' v n base)
  obtain ⟨i0, hi0, hz0, hz1, hz2⟩ := info_parts info_int
  have HN0 := Lib.hid (World.ownsRow_nil (W.alloc (.cells #[.int .i64 w, .int .i64 h, .int .i64 o] 27)) (W.heap.size + 1) 3 1)
  have HB0 := Lib.hid (below_box W (.cells #[.int .i64 w, .int .i64 h, .int .i64 o] 27))
  have HX0 := Lib.hid (mbox_new w h o W 27)
  go_enter Try.func44, Try.ntmps44
  go_wp2_with fail
  go_loopw [5, 6] (fun u5 u6 wr => WRel W W.heap.size w h o k u5 u6 wr) (fun _ u6 _ => 4 - (intOf u6).toNat)
  case atStart => exact ⟨0, by omega, rfl, HN0.out, HB0.out, HX0.out⟩
  case round =>
    obtain ⟨d, hd, rfl, hown, hb, hx⟩ := hrel
    obtain ⟨A5, c5, rfl⟩ := own_form hown
    have hbl0 := Lib.hid hb
    have hxc0 := Lib.hid hx
    have HO := Lib.hid hown
    have hlen := wlN_len w h o k d
    obtain ⟨c0, c1, c2⟩ := hx.1
    clear HN0 HB0 HX0 hb hx hown
    by_cases hd4 : d < 4
    · have HS : Hid (∀ X, Calls Try.prog 45 #[.agg #[.int .i64 w, .int .i64 h, .int .i64 o], .int .i64 k, .int .i64 d] X (Nm (stZ w h o k d) X)) := fun X => step_any w h o k d X
      have hge := st_ge w h o k d
      by_cases hs : 0 ≤ stZ w h o k d
      · have HA := @Lib.hid _ (fun w2 w3 gg cap v ob a b c e f => @w_add W w2 w3 W.heap.size w h o k d gg cap v ob hd4 hs a b c (Nat.le_refl _) e f)
        have hne : (stZ w h o k d != -1) = true := by simp; omega
        have hsz := hbl0.out.size
        clear hs hge
        generalize stZ w h o k d = s at *
        go_wp2_with fail
        refine (HS.out _).mono ?_
        rintro e w1 ⟨rfl, hb⟩
        have hown1 := own_call HO.out hb
        have hbl1 := below_call hbl0.out hb
        have HX1 := Lib.hid (hxc0.out.call hb)
        have hz1' := hbl1.size
        have hmb := HX1.out.2
        clear hb c0 c1 c2
        go_wp2_with (at_builtin; refine wpList_append_lies _ rfl (.tmp 16) (.tmp 18) 33 rfl (W.heap.size + 1) 3 i0 _ 1 8 Try.underlying33 hi0 hz0 hz1 hz2 rfl (by omega) _ (wlN w h o k d).length _ rfl (hown1.alloc _) ⟨w1.heap.size, 0, none⟩ 1 1 (icells [(d : Int)]) rfl rfl (news_eqI rfl (heap_alloc_new w1 _)) (oneCellI _) (by omega) (by unfold maxLen; omega) (by omega) (by simp; omega) (w1.heap.size + 1) (by simp) ?_; intro gg cap w3 hown' hgrow hat hlt2; clear hat hlt2)
        go_roundw
        case rel => exact HA.out _ _ _ _ _ _ hown1 hbl1 HX1.out hown' hgrow
        case measure => simp [intOf]; omega
      · have HA := @Lib.hid _ (fun w2 v a b c => @w_skip W w2 W.heap.size w h o k d v hd4 hs a b c)
        have hne : (stZ w h o k d != -1) = false := by simp; omega
        clear hs hge
        generalize stZ w h o k d = s at *
        go_wp2_with fail
        refine (HS.out _).mono ?_
        rintro e w1 ⟨rfl, hb⟩
        have hown1 := Lib.hid (own_call HO.out hb)
        have hbl1 := Lib.hid (below_call hbl0.out hb)
        have HX1 := Lib.hid (hxc0.out.call hb)
        clear hb c0 c1 c2
        go_wp2_with fail
        go_roundw
        case rel => exact HA.out _ _ hown1.out hbl1.out HX1.out
        case measure => simp [intOf]; omega
    · obtain rfl : d = 4 := by omega
      go_wp2_with fail
      go_ret
      exact HK.out _ _ _ _ rfl HO.out (by omega) hbl0.out
end Go.Proofs.Ytomjfcmaoeoigaa.mazeI
