/- The contracts of the program's walks along a way: their end, their cells, the way back, the way of a text. -/
import Derived.Test.YtgocbnnhhpmndaaWayP
import Derived.Test.YtgocbnnhhpmndaaPrgM
import Derived.Test.YtgocbnnhhpmndaaRchI
import Derived.Test.YtgocbnnhhpmndaaListK
namespace Go.Proofs.Ytgocbnnhhpmndaa.wayI
open Go.ChangeShapes Go.WideShapes Go.ChangeAt Go.RowKit
open draw gridP gridC bitP mazeP mazeC mazeM mazeI intsP boolP reachP reachM reachN reachD intA listK wayP reachV
set_option linter.unusedVariables false

theorem ww_no {x y z a : Int} {l : List Int} (h : wwB x y z a l = false) : wwZ x y z a l = -1 := by unfold wwZ; rw [if_neg (by rw [h]; simp)]
theorem ww_yes {x y z a : Int} {l : List Int} (h : wwB x y z a l = true) : wwZ x y z a l = wkZ x y z l a := by unfold wwZ; rw [if_pos h]
theorem co_len (x y z a : Int) (l : List Int) : (coL x y z a l).length ≤ l.length + 1 := by
  unfold coL; split
  · rw [ceL_len]; exact Nat.le_refl _
  · simp
theorem rw_len (l : List Int) : (rwL l).length ≤ l.length := by
  unfold rwL; split
  · rw [rv_len]; exact Nat.le_refl _
  · simp
theorem pw_len (s : List UInt8) : (pwL s).length ≤ s.length := by
  unfold pwL; split
  · rw [List.length_map]; exact Nat.le_refl _
  · simp
/-- While a walk is under way: the maze's box, the directions. -/
def WW (W : World) (x y z : Int) (A : Option Addr) (l : List Int) (X : World) : Prop := Below W.heap.size W X ∧ MBox W.heap.size x y z X ∧ IntsIn X W.heap.size A l
theorem WW.call {W X X' : World} {x y z : Int} {A : Option Addr} {l : List Int} (h : WW W x y z A l X) (hb : Below X.heap.size X X') : WW W x y z A l X' :=
  ⟨below_call h.1 hb, h.2.1.call hb, h.2.2.below (hb.mono h.1.size)⟩
theorem WW.low {W X X' : World} {B : Nat} {x y z : Int} {A : Option Addr} {l : List Int} (h : WW W x y z A l X) (hB : W.heap.size < B) (hb : Below B X X') (hbl : Below W.heap.size W X') : WW W x y z A l X' :=
  ⟨hbl, mbox_keep h.2.1 hB hb, IntsIn.low h.2.2 (Nat.le_of_lt hB) hb⟩
theorem ww_new {W : World} {x y z : Int} {A : Option Addr} {l : List Int} (hi : IntsIn W W.heap.size A l) (T : TypeId) : WW W x y z A l (W.alloc (.cells #[.int .i64 x, .int .i64 y, .int .i64 z] T)) :=
  ⟨below_box W _, mbox_new x y z W T, hi.below (below_box W _)⟩

set_option maxRecDepth 100000 in
theorem walkWay_any (x y z a : Int) (A : Option Addr) (n c : Nat) (l : List Int) (W : World) (hn : l.length = n) (hm : n ≤ 1048576) (hi : IntsIn W W.heap.size A l) :
    Calls Try.prog 43 #[.agg #[.int .i64 x, .int .i64 y, .int .i64 z], .int .i64 a, .slice A n c] W (NmB (wwZ x y z a l) (wwB x y z a l) W) := by
  have HO := Lib.hid (fun X => ok_any x y z X)
  have HS := Lib.hid (fun c d X => step_any x y z c d X)
  have HW := Lib.hid (fun T => @ww_new W x y z A l hi T)
  have Hn := Lib.hid hn
  have HNo : Hid (wwB x y z a l = false → ∀ X, Below W.heap.size W X → NmB (wwZ x y z a l) (wwB x y z a l) W (.returned (.tuple #[.int .i64 (-1), .bool false])) X) := fun h X hb => by
    rw [ww_no h, h]; exact ⟨rfl, hb⟩
  by_cases hv : OkM x y z
  · rw [show okB x y z = true from decide_eq_true hv] at HO
    obtain ⟨⟨h1, h2, h3, h4⟩, -, -⟩ := id hv
    have HC := Lib.hid (fun X => hasCell_any x y a X h1 h2 h3 h4)
    clear h1 h2 h3 h4
    by_cases hc : 0 ≤ a ∧ a < x * y
    · rw [decide_eq_true hc] at HC
      have hh : hasB x y z a = true := decide_eq_true ⟨hv, hc⟩
      by_cases h400 : n ≤ 400
      · have hd4 : decide ((400 : Int) < (n : Int)) = false := by simp; omega
        have ha0 : 0 ≤ a := hc.1
        have HF : Hid (wkZ x y z l a < 0 → wwB x y z a l = false) := fun h => by
          unfold wwB; rw [decide_eq_false (show ¬ 0 ≤ wkZ x y z l a by omega)]; simp
        have HT : Hid (0 ≤ wkZ x y z l a → ∀ X, Below W.heap.size W X → NmB (wwZ x y z a l) (wwB x y z a l) W (.returned (.tuple #[.int .i64 (wkZ x y z l a), .bool true])) X) := fun h X hb => by
          have e : wwB x y z a l = true := by unfold wwB; rw [hh, decide_eq_true h, decide_eq_true (show l.length ≤ 400 by omega)]; rfl
          rw [ww_yes e, e]; exact ⟨rfl, hb⟩
        clear hi hn hh h400 hv hc
        go_enter Try.func43, Try.ntmps43
        go_wp2_with fail
        have hww0 := Lib.hid (HW.out 30)
        refine (HO.out _).mono ?_
        rintro e w1 ⟨rfl, hb⟩
        have hww1 := Lib.hid (hww0.out.call hb)
        obtain ⟨m0, m1, m2⟩ := hww1.out.2.1.1
        clear hb hww0 HW
        go_wp2_with fail
        refine (HC.out _).mono ?_
        rintro e w2 ⟨rfl, hb⟩
        have hww2 := Lib.hid (hww1.out.call hb)
        clear hb hww1 m0 m1 m2
        go_wp2_with fail
        go_loopw [1, 27] (fun u1 u8 wr => ∃ k : Nat, k ≤ n ∧ u8 = .int .i64 k ∧ u1 = .int .i64 (wkZ x y z (l.take k) a) ∧ 0 ≤ wkZ x y z (l.take k) a ∧ WW W x y z A l wr) (fun _ u8 _ => n - (intOf u8).toNat)
        case atStart => exact ⟨0, Nat.zero_le _, rfl, rfl, ha0, hww2.out⟩
        case round =>
          clear hww2
          obtain ⟨k, hk, rfl, rfl, hp, hww0⟩ := hrel
          have hww := Lib.hid hww0
          clear hww0
          by_cases hkn : k < n
          · obtain ⟨u, hu⟩ : ∃ u, l[k]? = some u := by
              have hkl : k < l.length := by have := Hn.out; omega
              exact ⟨l[k], List.getElem?_eq_getElem hkl⟩
            obtain ⟨ad, rfl, hab, hcell⟩ := ints_cell hww.out.2.2 hu
            obtain ⟨m0, m1, m2⟩ := hww.out.2.1.1
            have hk0 : (0 : Int) ≤ (k : Int) := Int.natCast_nonneg _
            have hk1 : (k : Int) < (n : Int) := by omega
            have HNx := Lib.hid (wkZ_next ha0 hu hp)
            clear hu hp
            generalize wkZ x y z (l.take k) a = cc at *
            by_cases hs : stZ x y z cc u < 0
            · have hs1 : stZ x y z cc u = -1 := by have := st_ge x y z cc u; omega
              have HE := Lib.hid (HNo.out (HF.out (by have := wkZ_fail (x := x) (y := y) (z := z) (l := l) (k := k + 1) ha0 (by rw [HNx.out]; exact hs); omega)))
              have HSt := Lib.hid (fun X => HS.out cc u X)
              rw [hs1] at HSt
              clear HNx HS HT HF HNo hs hs1
              go_wp2_with fail
              refine (HSt.out _).mono ?_
              rintro e v1 ⟨rfl, hb1⟩
              have hw2 := Lib.hid (hww.out.call hb1)
              clear hb1 hcell m0 m1 m2
              go_wp2_with fail
              go_ret2
              exact HE.out _ hw2.out.1
            · have HSt := Lib.hid (fun X => HS.out cc u X)
              have hs0 : 0 ≤ stZ x y z cc u := by omega
              have hs1 : (stZ x y z cc u == -1) = false := by simp; omega
              clear HS HT HF HNo hs
              generalize stZ x y z cc u = s at *
              go_wp2_with fail
              refine (HSt.out _).mono ?_
              rintro e v1 ⟨rfl, hb1⟩
              have hw2 := Lib.hid (hww.out.call hb1)
              clear hb1 hcell m0 m1 m2
              go_wp2_with fail
              go_roundw
              case rel => exact ⟨k + 1, by omega, by go_num, by rw [HNx.out], by rw [HNx.out]; exact hs0, hw2.out⟩
              case measure => simp [intOf]; omega
          · obtain rfl : k = n := by omega
            have e : l.take k = l := List.take_of_length_le (by have := Hn.out; omega)
            rw [e] at hp ⊢
            have HE := Lib.hid (HT.out hp)
            clear HT HF HNo e hp
            generalize wkZ x y z l a = v at *
            go_wp2_with fail
            go_ret2
            exact HE.out _ hww.out.1
      · have hd4 : decide ((400 : Int) < (n : Int)) = true := by simp; omega
        have HE := Lib.hid (HNo.out (by unfold wwB; rw [decide_eq_false (show ¬ l.length ≤ 400 by omega)]; simp))
        clear hi hn hh h400 HNo hc hv
        go_enter Try.func43, Try.ntmps43
        go_wp2_with fail
        have hww0 := Lib.hid (HW.out 30)
        refine (HO.out _).mono ?_
        rintro e w1 ⟨rfl, hb⟩
        have hww1 := Lib.hid (hww0.out.call hb)
        obtain ⟨m0, m1, m2⟩ := hww1.out.2.1.1
        clear hb hww0 HW
        go_wp2_with fail
        refine (HC.out _).mono ?_
        rintro e w2 ⟨rfl, hb⟩
        have hww2 := Lib.hid (hww1.out.call hb)
        clear hb hww1 m0 m1 m2
        go_wp2_with fail
        go_ret2
        exact HE.out _ hww2.out.1
    · rw [decide_eq_false hc] at HC
      have HE := Lib.hid (HNo.out (by unfold wwB; rw [show hasB x y z a = false from decide_eq_false fun e => hc e.2]; rfl))
      clear hi hn HNo hc hv
      go_enter Try.func43, Try.ntmps43
      go_wp2_with fail
      have hww0 := Lib.hid (HW.out 30)
      refine (HO.out _).mono ?_
      rintro e w1 ⟨rfl, hb⟩
      have hww1 := Lib.hid (hww0.out.call hb)
      obtain ⟨m0, m1, m2⟩ := hww1.out.2.1.1
      clear hb hww0 HW
      go_wp2_with fail
      refine (HC.out _).mono ?_
      rintro e w2 ⟨rfl, hb⟩
      have hww2 := Lib.hid (hww1.out.call hb)
      clear hb hww1 m0 m1 m2
      go_wp2_with fail
      go_ret2
      exact HE.out _ hww2.out.1
  · rw [show okB x y z = false from decide_eq_false hv] at HO
    have HE := Lib.hid (HNo.out (by unfold wwB; rw [show hasB x y z a = false from decide_eq_false fun e => hv e.1]; rfl))
    clear hi hn HNo hv
    go_enter Try.func43, Try.ntmps43
    go_wp2_with fail
    have hww0 := Lib.hid (HW.out 30)
    refine (HO.out _).mono ?_
    rintro e w1 ⟨rfl, hb⟩
    have hww1 := Lib.hid (hww0.out.call hb)
    clear hb hww0 HW
    go_wp2_with fail
    go_ret2
    exact HE.out _ hww1.out.1

set_option maxRecDepth 100000 in
theorem cellsOn_any (x y z a : Int) (A : Option Addr) (n c : Nat) (l : List Int) (W : World) (hn : l.length = n) (hm : n ≤ 1048576) (hi : IntsIn W W.heap.size A l) :
    Calls Try.prog 32 #[.agg #[.int .i64 x, .int .i64 y, .int .i64 z], .int .i64 a, .slice A n c] W (Ints (coL x y z a l) W) := by
  obtain ⟨i0, hi0, hz0, hz1, hz2⟩ := info_parts info_int
  have HK := @Lib.hid _ (fun w' v n base => @ints_mk (coL x y z a l) W w' v n base)
  have HS := Lib.hid (fun c d X => step_any x y z c d X)
  have HWk := Lib.hid (fun X h => walkWay_any x y z a A n c l X hn hm h)
  have HW := Lib.hid (fun T => @ww_new W x y z A l hi T)
  have Hn := Lib.hid hn
  cases hh : wwB x y z a l with
  | false =>
    rw [hh] at HWk
    have hco : Hid (coL x y z a l = []) := by unfold coL; rw [hh]; rfl
    have HZ := Lib.hid (fun X : World => World.ownsRow_nil X W.heap.size 3 1)
    clear hi hn hh
    generalize wwZ x y z a l = v at *
    go_enter Try.func32, Try.ntmps32
    go_wp2_with fail
    have hww0 := Lib.hid (HW.out 30)
    refine (HWk.out _ (hww0.out.2.2.more hww0.out.1.size)).mono ?_
    rintro e w1 ⟨rfl, hb⟩
    have hww1 := Lib.hid (hww0.out.call hb)
    clear hb hww0 HW
    go_wp2_with fail
    go_ret
    exact HK.out _ _ _ _ (by rw [hco.out]) (by rw [hco.out]; exact HZ.out _) (Nat.le_refl _) hww1.out.1
  | true =>
    have hww' := hh
    unfold wwB at hww'
    simp only [Bool.and_eq_true, decide_eq_true_iff] at hww'
    obtain ⟨hh1, h400, hend⟩ := hww'
    have ha0 : 0 ≤ a := (of_decide_eq_true hh1).2.1
    have hco : Hid (coL x y z a l = ceL x y z l a) := Lib.hid (by unfold coL; rw [if_pos hh])
    rw [hh] at HWk
    have Hend := Lib.hid hend
    clear hi hh hh1
    generalize wwZ x y z a l = v at *
    have hn4 : n ≤ 400 := by omega
    clear hn h400 hend
    go_enter Try.func32, Try.ntmps32
    go_wp2_with fail
    have hww0 := Lib.hid (HW.out 30)
    refine (HWk.out _ (hww0.out.2.2.more hww0.out.1.size)).mono ?_
    rintro e w1 ⟨rfl, hb⟩
    have hww1 := Lib.hid (hww0.out.call hb)
    have hbs := hww1.out.2.1.2
    have hol2 := Lib.hid (ol_one hww1.out.1 (Nat.le_of_lt hbs) a)
    have hww2 := Lib.hid (hww1.out.call (below_box w1 (.cells #[.int .i64 a] 3)))
    clear hb hww0 hww1 HW HWk
    go_wp2_with fail
    generalize w1.heap.size = B at *
    go_loopw [1, 9, 25] (fun u1 u7 u10 wr => ∃ k : Nat, k ≤ n ∧ u10 = .int .i64 k ∧ u1 = .int .i64 (wkZ x y z (l.take k) a) ∧ OL W B (ceL x y z (l.take k) a) u7 wr ∧ WW W x y z A l wr) (fun _ _ u10 _ => n - (intOf u10).toNat)
    case atStart => exact ⟨0, Nat.zero_le _, rfl, rfl, hol2.out, hww2.out⟩
    case round =>
      clear hol2 hww2
      obtain ⟨k, hk, rfl, rfl, hol0, hww0⟩ := hrel
      have hol := Lib.hid hol0
      have hww := Lib.hid hww0
      obtain ⟨A7, c7, rfl⟩ := hol0.form
      have hll : (ceL x y z (l.take k) a).length ≤ 500 := by rw [ceL_len, List.length_take]; omega
      clear hol0 hww0
      by_cases hkn : k < n
      · obtain ⟨u, hu⟩ : ∃ u, l[k]? = some u := by
          have hkl : k < l.length := by have := Hn.out; omega
          exact ⟨l[k], List.getElem?_eq_getElem hkl⟩
        obtain ⟨ad, rfl, hab, hcell⟩ := ints_cell hww.out.2.2 hu
        obtain ⟨m0, m1, m2⟩ := hww.out.2.1.1
        have hk0 : (0 : Int) ≤ (k : Int) := Int.natCast_nonneg _
        have hk1 : (k : Int) < (n : Int) := by omega
        have hp := wkZ_pre k ha0 Hend.out
        have HNx := Lib.hid (wkZ_next ha0 hu hp)
        have HCx := Lib.hid (ceL_next ha0 hu hp)
        have HSt := Lib.hid (fun X => HS.out (wkZ x y z (l.take k) a) u X)
        rw [← HNx.out] at HSt
        clear hu hp
        generalize wkZ x y z (l.take k) a = cc at *
        generalize hS : wkZ x y z (l.take (k + 1)) a = s at *
        generalize hL : ceL x y z (l.take k) a = L at *
        go_wp2_with fail
        refine (HSt.out _).mono ?_
        rintro e v1 ⟨rfl, hb1⟩
        have hw2 := Lib.hid (hww.out.call hb1)
        have ho2 := Lib.hid (hol.out.call hb1)
        have hsz := ho2.out.2.2.1
        clear m0 m1 m2 hcell hb1
        go_wp2_with (at_builtin; refine wpList_append_lies _ rfl (.tmp 33) (.tmp 35) 26 rfl (B) 3 i0 _ 1 8 Try.underlying26 hi0 hz0 hz1 hz2 rfl (by omega) _ (L.length) _ rfl (ho2.out.2.2.2.alloc _) ⟨v1.heap.size, 0, none⟩ 1 1 (icells [s]) rfl rfl (news_eqI rfl (heap_alloc_new v1 _)) (oneCellI _) (by omega) (by unfold maxLen; omega) (by omega) (by simp; omega) (v1.heap.size + 1) (by simp) ?_; intro gg cap w3 hown' hgrow hat hlt2; clear hlt2; have HAt := Lib.hid hat; clear hat)
        have hn2 := ho2.out.app hown' hgrow
        have HN1 := Lib.hid hn2.1
        have HN2 := Lib.hid (hw2.out.low hbs hn2.2 hn2.1.1)
        clear hn2 hown' hgrow HAt
        go_wp2_with fail
        go_roundw
        case rel => exact ⟨k + 1, by omega, by go_num, by rw [hS], by rw [HCx.out]; exact HN1.out, HN2.out⟩
        case measure => simp [intOf]; omega
      · obtain rfl : k = n := by omega
        have e : ceL x y z (l.take k) a = coL x y z a l := by rw [hco.out, List.take_of_length_le (by have := Hn.out; omega)]
        rw [e] at hol ⊢
        clear e hll
        go_wp2_with fail
        go_ret
        exact HK.out _ _ _ _ rfl hol.out.2.2.2 hol.out.2.1 hol.out.1

theorem tr_tr (d : Int) : trZ (trZ d) = if 0 ≤ d ∧ d ≤ 3 then (d + 2) % 4 else -1 := by
  by_cases h : 0 ≤ d ∧ d ≤ 3
  · rw [if_pos h]
    have e1 : trZ d = (d + 1) % 4 := if_pos h
    rw [e1]; unfold trZ; rw [if_pos (by omega)]; omega
  · rw [if_neg h]
    have e1 : trZ d = -1 := if_neg h
    rw [e1]; rfl

set_option maxRecDepth 100000 in
theorem reverseWay_any (A : Option Addr) (n c : Nat) (l : List Int) (W : World) (hn : l.length = n) (hm : n ≤ 1048576) (hi : IntsIn W W.heap.size A l) :
    Calls Try.prog 44 #[.slice A n c] W (Ints (rwL l) W) := by
  obtain ⟨i0, hi0, hz0, hz1, hz2⟩ := info_parts info_int
  have HK := @Lib.hid _ (fun w' v n base => @ints_mk (rwL l) W w' v n base)
  have HT := Lib.hid (fun d X => gridI.turnRight_any d X)
  have HO := Lib.hid (ol_nil (Below.refl W.heap.size W) (Nat.le_refl _) (Nat.le_refl _))
  have HY := Lib.hid hi
  have HZ := Lib.hid (fun X : World => World.ownsRow_nil X W.heap.size 3 1)
  have Hn := Lib.hid hn
  have hw1 : IntKind.i64.wrap ((n : Int) - 1) = (n : Int) - 1 := IntWalk.i64_in _ (by omega)
  have HBad : Hid (∀ u, u ∈ l → ¬ (0 ≤ u ∧ u ≤ 3) → rwL l = []) := fun u hu hd => by
    unfold rwL; rw [if_neg fun h => hd (way_mem.1 h u hu)]
  clear hi hn
  go_enter Try.func44, Try.ntmps44
  go_wp2_with fail
  go_loopw [3, 4] (fun u3 u4 wr => ∃ (k : Nat) (j : Int), k ≤ n ∧ j = (k : Int) - 1 ∧ u4 = .int .i64 j ∧ (∀ d ∈ l.drop k, 0 ≤ d ∧ d ≤ 3) ∧ OL W W.heap.size (rvL (l.drop k)) u3 wr ∧ IntsIn wr W.heap.size A l) (fun _ u4 _ => (intOf u4 + 1).toNat)
  case atStart =>
    have e : l.drop n = [] := List.drop_eq_nil_of_le (by have := Hn.out; omega)
    exact ⟨n, _, Nat.le_refl _, rfl, rfl, by rw [e]; simp, by rw [e]; exact HO.out, HY.out⟩
  case round =>
    clear HO HY
    obtain ⟨k, j, hk, hj, rfl, hin, hol0, hy0⟩ := hrel
    have hol := Lib.hid hol0
    have hy := Lib.hid hy0
    have hsz := hol0.2.2.1
    have HIn := Lib.hid hin
    obtain ⟨A3, c3, rfl⟩ := hol0.form
    clear hol0 hy0 hin
    by_cases hj0 : 0 ≤ j
    · obtain ⟨i, rfl⟩ := Int.eq_ofNat_of_zero_le hj0
      obtain rfl : k = i + 1 := by omega
      obtain ⟨u, hu, hmem, hcons⟩ : ∃ u, l[i]? = some u ∧ u ∈ l ∧ l.drop i = u :: l.drop (i + 1) := by
        have hkl : i < l.length := by have := Hn.out; omega
        exact ⟨l[i], List.getElem?_eq_getElem hkl, List.getElem_mem hkl, List.drop_eq_getElem_cons hkl⟩
      have hi1 : (i : Int) < (n : Int) := by omega
      obtain ⟨ad, rfl, hab, hcell⟩ := ints_cell hy.out hu
      have HSt := Lib.hid (rv_step hu)
      have hll : (rvL (l.drop (i + 1))).length ≤ 1048576 := by rw [rv_len, List.length_drop]; have := Hn.out; omega
      have q3 : IntKind.i64.wrap ((i : Int) - 1) = (i : Int) - 1 := IntWalk.i64_in _ (by omega)
      have htt := tr_tr u
      have HT1 := Lib.hid (fun X => HT.out u X)
      have HT2 := Lib.hid (fun X => HT.out (trZ u) X)
      clear hj hj0
      by_cases hd : 0 ≤ u ∧ u ≤ 3
      · rw [if_pos hd] at htt
        rw [htt] at HT2
        have HNew : Hid (∀ d ∈ l.drop i, 0 ≤ d ∧ d ≤ 3) := fun d hd' => by
          rw [hcons] at hd'
          rcases List.mem_cons.1 hd' with rfl | h
          · exact hd
          · exact HIn.out d h
        have hne : ((u + 2) % 4 == -1) = false := by simp; omega
        clear hu hmem hcons hd htt HIn
        generalize hL : rvL (l.drop (i + 1)) = L at *
        generalize hR : (u + 2) % 4 = r at *
        generalize trZ u = t at *
        go_wp2_with fail
        refine (HT1.out _).mono ?_
        rintro e w' ⟨rfl, rfl⟩
        go_wp2_with fail
        refine (HT2.out _).mono ?_
        rintro e w' ⟨rfl, rfl⟩
        go_wp2_with (at_builtin; refine wpList_append_lies _ rfl (.tmp 21) (.tmp 23) 26 rfl (W.heap.size) 3 i0 _ 1 8 Try.underlying26 hi0 hz0 hz1 hz2 rfl (by omega) _ (L.length) _ rfl (hol.out.2.2.2.alloc _) ⟨wr.heap.size, 0, none⟩ 1 1 (icells [r]) rfl rfl (news_eqI rfl (heap_alloc_new wr _)) (oneCellI _) (by omega) (by unfold maxLen; omega) (by omega) (by simp; omega) (wr.heap.size + 1) (by simp) ?_; intro gg cap w3 hown' hgrow hat hlt2; clear hlt2; have HAt := Lib.hid hat; clear hat)
        have hn2 := hol.out.app hown' hgrow
        go_wp2_with fail
        go_roundw
        case rel => exact ⟨i, _, by omega, rfl, rfl, HNew.out, by rw [HSt.out]; exact hn2.1, IntsIn.low hy.out (Nat.le_refl _) hn2.2⟩
        case measure => simp [intOf]
      · rw [if_neg hd] at htt
        rw [htt] at HT2
        have hrw := Lib.hid (HBad.out u hmem hd)
        clear hu hmem hcons hd htt HIn
        generalize hL : rvL (l.drop (i + 1)) = L at *
        generalize trZ u = t at *
        go_wp2_with fail
        refine (HT1.out _).mono ?_
        rintro e w' ⟨rfl, rfl⟩
        go_wp2_with fail
        refine (HT2.out _).mono ?_
        rintro e w' ⟨rfl, rfl⟩
        go_wp2_with fail
        go_ret
        exact HK.out _ _ _ _ (by rw [hrw.out]) (by rw [hrw.out]; exact HZ.out _) (Nat.le_refl _) hol.out.1
    · obtain rfl : k = 0 := by omega
      obtain rfl : j = -1 := by omega
      have hrw : Hid (rvL (l.drop 0) = rwL l) := by
        unfold rwL; rw [if_pos (way_mem.2 fun d hd => HIn.out d (by simpa using hd))]; rfl
      clear hj hj0 hw1 HIn
      go_wp2_with fail
      go_ret
      exact HK.out _ _ _ _ (by rw [← hrw.out]) (by rw [← hrw.out]; exact hol.out.2.2.2) (Nat.le_refl _) hol.out.1
end Go.Proofs.Ytgocbnnhhpmndaa.wayI
