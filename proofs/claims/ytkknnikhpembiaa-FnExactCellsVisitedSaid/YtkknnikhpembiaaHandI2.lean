/- The program's walks of a walker: the contract of its list. -/
import Derived.Test.YtkknnikhpembiaaHandI1
import Derived.Test.YtkknnikhpembiaaHandM
namespace Go.Proofs.Ytkknnikhpembiaa.handI
open Go.ChangeShapes Go.WideShapes Go.ChangeAt Go.RowKit
open draw gridP gridC gridE bitP mazeP mazeC mazeM mazeR mazeI intsP reachP reachM reachN reachD intA listK forest handP handQ listW handM
set_option linter.unusedVariables false

theorem nil_wks {W X : World} {l : List (Int × Int)} (hl : l = []) (h : Below W.heap.size W X) : Wks l W (.returned (.slice none 0 0)) X := by
  subst hl
  exact wks_mk rfl (World.ownsRow_nil X W.heap.size 29 2) (Nat.le_refl _) h
theorem wl_one {W X : World} {b : Nat} (u : Int × Int) (h : Below W.heap.size W X) (hW : W.heap.size ≤ b) (hb : b ≤ X.heap.size) :
    WL W b [u] (.slice (some ⟨X.heap.size, 0, none⟩) 1 1) (X.alloc (.cells #[.int .i64 u.1, .int .i64 u.2] 29)) := by
  refine ⟨h.alloc (by omega) _, hW, by simp; omega, ?_⟩
  have := World.ownsRow_lit (base := X.heap.size) (e := 29) (size := 2) X #[.int .i64 u.1, .int .i64 u.2] 1 (Nat.le_refl _) (by decide) rfl
  exact own_base (by simpa [wcl] using this) hb
theorem hr_one {W X : World} {x y z c f : Int} (h : Below W.heap.size W X) (hx : MBox W.heap.size x y z X) (hr : Row2 (W.heap.size + 1) c f X) (hz : W.heap.size + 2 ≤ X.heap.size) :
    HR W x y z [(c, f)] (.slice (some ⟨X.heap.size, 0, none⟩) 1 1) c f (X.alloc (.cells #[.int .i64 c, .int .i64 f] 29)) :=
  ⟨wl_one (c, f) h (by omega) hz, hx.call (below_box _ _), hr.call (below_box _ _)⟩

set_option maxRecDepth 100000 in
theorem handWalk_any (x y z c f n : Int) (W : World) :
    Calls Try.prog 18 #[.agg #[.int .i64 x, .int .i64 y, .int .i64 z], .agg #[.int .i64 c, .int .i64 f], .int .i64 n] W (Wks (hwI x y z c f n) W) := by
  obtain ⟨i0, hi0, hz0, hz1, hz2⟩ := info_parts info_wk
  have HO := Lib.hid (fun X => walkerOk_any x y z c f X)
  have HW := Lib.hid (fun T1 T2 => box2_new x y z c f W T1 T2)
  have HN := @Lib.hid _ (fun X => @nil_wks W X (hwI x y z c f n))
  have HK := @Lib.hid _ (fun w' v m base => @wks_mk (hwI x y z c f n) W w' v m base)
  cases hw : waB x y z c f with
  | false =>
    rw [hw] at HO
    have HE := Lib.hid (hw_no (x := x) (y := y) (z := z) (c := c) (f := f) (n := n) (fun h => by rw [hw] at h; cases h.1))
    clear hw HK
    generalize hwI x y z c f n = L at *
    go_enter Try.func18, Try.ntmps18
    go_wp2_with fail
    obtain ⟨hx0, hr0, hb0⟩ := HW.out 27 29
    have hb0 := Lib.hid hb0
    obtain ⟨⟨m0, m1, m2⟩, -⟩ := hx0
    obtain ⟨⟨r0, r1⟩, -⟩ := row2_cells hr0
    clear HW hr0
    go_wp2_with fail
    refine (HO.out _).mono ?_
    rintro e w1 ⟨rfl, hb⟩
    have hb1 := Lib.hid (below_call hb0.out hb)
    clear hb hb0 m0 m1 m2 r0 r1
    go_wp2_with fail
    go_ret
    exact HN.out _ HE.out hb1.out
  | true =>
    rw [hw] at HO
    by_cases hn0 : 0 ≤ n
    · have hd0 : decide (n < 0) = false := decide_eq_false (by omega)
      by_cases hn2 : n ≤ 200
      · have hd2 : decide (200 < n) = false := decide_eq_false (by omega)
        have hy := hw_yes hw hn0 hn2
        rw [hy] at HK ⊢
        clear HN
        obtain ⟨N, hN⟩ := Int.eq_ofNat_of_zero_le hn0
        subst hN
        rw [Int.toNat_natCast] at HK ⊢
        have HSt := Lib.hid (fun k => hk_step hw k)
        have HZ := Lib.hid (hp_zero hw)
        have HZ0 := Lib.hid (hk_zero hw)
        have HStep := Lib.hid (fun c f X => handStep_any x y z c f X)
        have HSu := Lib.hid (fun k => hp_succ x y z c f k)
        have HLn := Lib.hid (fun k => hp_len x y z c f k)
        have hN200 : N ≤ 200 := by omega
        clear hw hy hn0 hn2
        go_enter Try.func18, Try.ntmps18
        go_wp2_with fail
        obtain ⟨hx0, hr0, hb0⟩ := HW.out 27 29
        have hb0 := Lib.hid hb0
        have hx0 := Lib.hid hx0
        have hr0 := Lib.hid hr0
        obtain ⟨⟨m0, m1, m2⟩, -⟩ := hx0.out
        obtain ⟨⟨r0, r1⟩, -⟩ := row2_cells hr0.out
        clear HW
        go_wp2_with fail
        refine (HO.out _).mono ?_
        rintro e w1 ⟨rfl, hb⟩
        have hb1 := Lib.hid (below_call hb0.out hb)
        have hr1 := Lib.hid (hr0.out.call hb)
        have hx1 := Lib.hid (hx0.out.call hb)
        have hz1' : W.heap.size + 2 ≤ w1.heap.size := by have := row2_lt hr1.out; omega
        clear hb hb0 hr0 hx0 m0 m1 m2 r0 r1
        obtain ⟨⟨r0, r1⟩, -⟩ := row2_cells hr1.out
        go_wp2_with fail
        have hr2 : Hid (HR W x y z [(c, f)] (.slice (some ⟨w1.heap.size, 0, none⟩) 1 1) c f (w1.alloc (.cells #[.int .i64 c, .int .i64 f] 29))) := Lib.hid (hr_one hb1.out hx1.out hr1.out hz1')
        rw [← HZ.out] at hr2
        clear hr1 hb1 hx1 r0 r1 hd0 hd2
        go_loopw [7, 23] (fun u7 u23 wr => ∃ k : Nat, k ≤ N ∧ u23 = .int .i64 k ∧ HR W x y z (hpI x y z c f k) u7 (hkN x y z c f k).1 (hkN x y z c f k).2 wr) (fun _ u23 _ => N - (intOf u23).toNat)
        case atStart => exact ⟨0, Nat.zero_le _, rfl, by rw [← HZ0.out.1, ← HZ0.out.2]; exact hr2.out⟩
        case round =>
          clear hr2
          obtain ⟨k, hk, rfl, hr0⟩ := hrel
          have hr := Lib.hid hr0
          obtain ⟨A7, c7, rfl⟩ := hr0.1.form
          clear hr0
          obtain ⟨⟨m0, m1, m2⟩, -⟩ := hr.out.2.1
          obtain ⟨⟨r0, r1⟩, -⟩ := row2_cells hr.out.2.2
          have hln : (hpI x y z c f k).length ≤ 201 := by rw [HLn.out k]; omega
          by_cases hlt : k < N
          · have hd : decide ((k : Int) < (N : Int)) = true := decide_eq_true (by omega)
            obtain ⟨-, s1, s2⟩ := HSt.out k
            have HS1 := Lib.hid (fun X => HStep.out (hkN x y z c f k).1 (hkN x y z c f k).2 X)
            rw [s1, s2] at HS1
            have HSk := Lib.hid (HSu.out k)
            clear s1 s2
            generalize hs' : hkN x y z c f (k + 1) = s' at *
            generalize hkN x y z c f k = s at *
            generalize hl' : hpI x y z c f (k + 1) = l' at *
            generalize hpI x y z c f k = l at *
            go_wp2_with fail
            refine (HS1.out _).mono ?_
            rintro e w4 ⟨rfl, hb⟩
            have hr3 := Lib.hid (hr.out.call hb)
            obtain ⟨⟨a0, a1⟩, fa0, fa1⟩ := row2_cells hr3.out.2.2
            have hr4 := Lib.hid (hr3.out.put (s'.1 : Int) (s'.2 : Int))
            clear hb hr m0 m1 m2 r0 r1
            have hbz := hr4.out.1.2.2.1
            have hNew : ∀ (o : Obj), ((((w4.setCell ⟨W.heap.size + 1, 0, none⟩ (.int .i64 (s'.1 : Int))).setCell ⟨W.heap.size + 1, 1, none⟩ (.int .i64 (s'.2 : Int))).alloc o).heap[w4.heap.size]?) = some o := fun o => by
              have := heap_alloc_new ((w4.setCell ⟨W.heap.size + 1, 0, none⟩ (.int .i64 (s'.1 : Int))).setCell ⟨W.heap.size + 1, 1, none⟩ (.int .i64 (s'.2 : Int))) o
              simpa using this
            have HNew := Lib.hid hNew
            clear hNew
            rw [World.size_setCell, World.size_setCell] at hbz
            go_wp2_with (at_builtin; refine wpList_append_lies _ rfl (.tmp 28) (.tmp 30) 39 rfl (W.heap.size + 2) 29 i0 _ 2 16 Try.underlying39 hi0 hz0 hz1 hz2 rfl (by omega) _ l.length _ rfl (hr4.out.1.2.2.2.alloc _) ⟨w4.heap.size, 0, none⟩ 1 1 (wcl [iwP s']) rfl rfl (news_eqI rfl (HNew.out _)) (wcl_one _) (by omega) (by unfold maxLen; omega) (by omega) (by simp; omega) (w4.heap.size + 1) (by simp) ?_; intro gg cap w5 hown' hgrow hat hlt2; clear hlt2; have HAt := Lib.hid hat; clear hat)
            have hn2 := hr4.out.1.app hown' hgrow
            rw [← HSk.out] at hn2
            have hr5 : Hid (HR W x y z l' (.slice (some ⟨gg, 0, none⟩) (l.length + 1) cap) s'.1 s'.2 w5) := Lib.hid ⟨hn2.1, mbox_keep hr4.out.2.1 (by omega) hn2.2, row2_keep hr4.out.2.2 (by omega) hn2.2⟩
            go_roundw
            case rel => exact ⟨k + 1, by omega, by go_num, by rw [hs', hl']; exact hr5.out⟩
            case measure => simp [intOf]; omega
          · obtain rfl : k = N := by omega
            have hd : decide ((k : Int) < (k : Int)) = false := by simp
            go_wp2_with fail
            go_ret
            exact HK.out _ _ _ _ rfl hr.out.1.2.2.2 (by have := hr.out.1.2.1; omega) hr.out.1.1
      · have hd2 : decide (200 < n) = true := decide_eq_true (by omega)
        have HE := Lib.hid (hw_no (x := x) (y := y) (z := z) (c := c) (f := f) (n := n) (fun h => hn2 h.2.2))
        clear hw HK hn0 hn2
        generalize hwI x y z c f n = L at *
        go_enter Try.func18, Try.ntmps18
        go_wp2_with fail
        obtain ⟨hx0, hr0, hb0⟩ := HW.out 27 29
        have hb0 := Lib.hid hb0
        obtain ⟨⟨m0, m1, m2⟩, -⟩ := hx0
        obtain ⟨⟨r0, r1⟩, -⟩ := row2_cells hr0
        clear HW hr0
        go_wp2_with fail
        refine (HO.out _).mono ?_
        rintro e w1 ⟨rfl, hb⟩
        have hb1 := Lib.hid (below_call hb0.out hb)
        clear hb hb0 m0 m1 m2 r0 r1
        go_wp2_with fail
        go_ret
        exact HN.out _ HE.out hb1.out
    · have hd0 : decide (n < 0) = true := decide_eq_true (by omega)
      have HE := Lib.hid (hw_no (x := x) (y := y) (z := z) (c := c) (f := f) (n := n) (fun h => hn0 h.2.1))
      clear hw HK hn0
      generalize hwI x y z c f n = L at *
      go_enter Try.func18, Try.ntmps18
      go_wp2_with fail
      obtain ⟨hx0, hr0, hb0⟩ := HW.out 27 29
      have hb0 := Lib.hid hb0
      obtain ⟨⟨m0, m1, m2⟩, -⟩ := hx0
      obtain ⟨⟨r0, r1⟩, -⟩ := row2_cells hr0
      clear HW hr0
      go_wp2_with fail
      refine (HO.out _).mono ?_
      rintro e w1 ⟨rfl, hb⟩
      have hb1 := Lib.hid (below_call hb0.out hb)
      clear hb hb0 m0 m1 m2 r0 r1
      go_wp2_with fail
      go_ret
      exact HN.out _ HE.out hb1.out
end Go.Proofs.Ytkknnikhpembiaa.handI
