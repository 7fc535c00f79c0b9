/- The contracts of the model's functions on walkers: walks. -/
import Derived.Test.YtkknnikhpembiaaHandM1
import Derived.Test.YtkknnikhpembiaaDeadM
namespace Go.Proofs.Ytkknnikhpembiaa.handM
open Go.ChangeShapes Go.WideShapes Go.ChangeAt Go.RowKit
open draw gridP gridC gridE bitP mazeP mazeC mazeM mazeR mazeS intsP reachP reachM reachN reachD intA listK forest handP handQ listW
set_option linter.unusedVariables false

/-- While a walk is written: the list, the maze, the walker. -/
def HR (W : World) (x y z : Int) (l : List (Int × Int)) (v : Value) (c f : Int) (X : World) : Prop := WL W (W.heap.size + 2) l v X ∧ MBox W.heap.size x y z X ∧ Row2 (W.heap.size + 1) c f X
theorem HR.call {W X X' : World} {x y z c f : Int} {l : List (Int × Int)} {v : Value} (h : HR W x y z l v c f X) (hb : Below X.heap.size X X') : HR W x y z l v c f X' := ⟨h.1.call hb, h.2.1.call hb, h.2.2.call hb⟩
theorem HR.put {W X : World} {x y z c f : Int} {l : List (Int × Int)} {v : Value} (h : HR W x y z l v c f X) (c' f' : Int) : HR W x y z l v c' f' ((X.setCell ⟨W.heap.size + 1, 0, none⟩ (.int .i64 c')).setCell ⟨W.heap.size + 1, 1, none⟩ (.int .i64 f')) := by
  obtain ⟨⟨h1, h2, h3, h4⟩, h5, h6⟩ := h
  have hs : ∀ (Y : World) (p : Addr) (u : Value), (Y.setCell p u).heap.size = Y.heap.size := fun Y p u => by simp [World.setCell]
  refine ⟨⟨(h1.setCell (by simp) _).setCell (by simp) _, h2, by rw [hs, hs]; exact h3, ?_⟩, mbox_set (mbox_set h5 (by simp) _) (by simp) _, row2_set h6⟩
  exact ownsRow_setCell_below (ownsRow_setCell_below h4 (by simp) _) (by simp) _
theorem hr_new (W : World) (x y z c f : Int) (T1 T2 : TypeId) : HR W x y z [] (.slice (some ⟨W.heap.size + 2, 0, none⟩) 0 0) c f (((W.alloc (.cells #[.int .i64 x, .int .i64 y, .int .i64 z] T1)).alloc (.cells #[.int .i64 c, .int .i64 f] T2)).alloc (.cells #[] 29)) := by
  obtain ⟨h1, h2, h3⟩ := box2_new x y z c f W T1 T2
  have hz : ((W.alloc (.cells #[.int .i64 x, .int .i64 y, .int .i64 z] T1)).alloc (.cells #[.int .i64 c, .int .i64 f] T2)).heap.size = W.heap.size + 2 := by simp
  have := wl_new h3 (by rw [hz]; omega)
  rw [hz] at this
  exact ⟨this, h1.call (below_box _ _), h2.call (below_box _ _)⟩

set_option maxRecDepth 100000 in
theorem handWalk_any (x y z c f n : Int) (W : World) :
    Calls Try.prog 25 #[.agg #[.int .i64 x, .int .i64 y, .int .i64 z], .agg #[.int .i64 c, .int .i64 f], .int .i64 n] W (Wks (hwI x y z c f n) W) := by
  obtain ⟨i0, hi0, hz0, hz1, hz2⟩ := info_parts info_wk
  have HO := Lib.hid (fun X => walkerOk_any x y z c f X)
  have HW := Lib.hid (fun T1 T2 => hr_new W x y z c f T1 T2)
  have HK := @Lib.hid _ (fun w' v m base => @wks_mk (hwI x y z c f n) W w' v m base)
  cases hw : waB x y z c f with
  | false =>
    rw [hw] at HO
    have HE := Lib.hid (hw_no (x := x) (y := y) (z := z) (c := c) (f := f) (n := n) (fun h => by rw [hw] at h; cases h.1))
    clear hw
    generalize hwI x y z c f n = L at *
    go_enter Try.func25, Try.ntmps25
    go_wp2_with fail
    have hr0 := Lib.hid (HW.out 27 29)
    obtain ⟨⟨m0, m1, m2⟩, -⟩ := hr0.out.2.1
    obtain ⟨⟨r0, r1⟩, -⟩ := row2_cells hr0.out.2.2
    clear HW
    go_wp2_with fail
    refine (HO.out _).mono ?_
    rintro e w1 ⟨rfl, hb⟩
    have hr1 := Lib.hid (hr0.out.call hb)
    clear hb hr0 m0 m1 m2 r0 r1
    go_wp2_with fail
    go_ret
    exact HK.out _ _ _ _ (by rw [HE.out]) (by rw [HE.out]; exact hr1.out.1.2.2.2) hr1.out.1.2.1 hr1.out.1.1
  | true =>
    rw [hw] at HO
    by_cases hn : 0 ≤ n ∧ n ≤ 200
    · have hy := hw_yes hw hn.1 hn.2
      rw [hy] at HK ⊢
      obtain ⟨N, hN⟩ := Int.eq_ofNat_of_zero_le hn.1
      have hI := Lib.hid (fun X => gridS.in_yes n 0 200 X hn.1 hn.2)
      subst hN
      rw [Int.toNat_natCast] at HK ⊢
      have HSt := Lib.hid (fun k => hk_step hw k)
      have HZ := Lib.hid (hp_zero hw)
      have HZ0 := Lib.hid (hk_zero hw)
      have HStep := Lib.hid (fun c f X => handStep_any x y z c f X)
      have HSu := Lib.hid (fun k => hp_succ x y z c f k)
      have HLn := Lib.hid (fun k => hp_len x y z c f k)
      have hN200 : N ≤ 200 := by omega
      clear hw hy hn
      go_enter Try.func25, Try.ntmps25
      go_wp2_with fail
      have hr0 := Lib.hid (HW.out 27 29)
      obtain ⟨⟨m0, m1, m2⟩, -⟩ := hr0.out.2.1
      obtain ⟨⟨r0, r1⟩, -⟩ := row2_cells hr0.out.2.2
      clear HW
      go_wp2_with fail
      refine (HO.out _).mono ?_
      rintro e w1 ⟨rfl, hb⟩
      have hr1 := Lib.hid (hr0.out.call hb)
      clear hb hr0 m0 m1 m2 r0 r1
      obtain ⟨⟨r0, r1⟩, -⟩ := row2_cells hr1.out.2.2
      go_wp2_with fail
      refine (hI.out _).mono ?_
      rintro e w' ⟨rfl, rfl⟩
      have hbz := hr1.out.1.2.2.1
      go_wp2_with (at_builtin; refine wpList_append_lies _ rfl (.tmp 20) (.tmp 22) 39 rfl (W.heap.size + 2) 29 i0 _ 2 16 Try.underlying39 hi0 hz0 hz1 hz2 rfl (by omega) _ 0 _ rfl (hr1.out.1.2.2.2.alloc _) ⟨w1.heap.size, 0, none⟩ 1 1 (wcl [(c, f)]) rfl rfl (news_eqI rfl (heap_alloc_new w1 _)) (wcl_one _) (by omega) (by unfold maxLen; omega) (by omega) (by simp; omega) (w1.heap.size + 1) (by simp) ?_; intro gg cap w3 hown' hgrow hat hlt2; clear hlt2; have HAt := Lib.hid hat; clear hat)
      have hn2 := hr1.out.1.app hown' hgrow
      have hr2 : Hid (HR W x y z [(c, f)] (.slice (some ⟨gg, 0, none⟩) 1 cap) c f w3) := Lib.hid ⟨hn2.1, mbox_keep hr1.out.2.1 (by omega) hn2.2, row2_keep hr1.out.2.2 (by omega) hn2.2⟩
      rw [← HZ.out] at hr2
      clear hn2 hown' hgrow HAt hr1 r0 r1 hbz
      go_loopw [7, 8] (fun u7 u8 wr => ∃ k : Nat, k ≤ N ∧ u8 = .int .i64 k ∧ HR W x y z (hpI x y z c f k) u7 (hkN x y z c f k).1 (hkN x y z c f k).2 wr) (fun _ u8 _ => N - (intOf u8).toNat)
      case atStart => exact ⟨0, Nat.zero_le _, rfl, by rw [← HZ0.out.1, ← HZ0.out.2]; exact hr2.out⟩
      case round =>
        clear hr2
        obtain ⟨k, hk, rfl, hr0⟩ := hrel
        have hr := Lib.hid hr0
        obtain ⟨A7, c7, rfl⟩ := hr0.1.form
        clear hr0
        obtain ⟨⟨m0, m1, m2⟩, -⟩ := hr.out.2.1
        obtain ⟨⟨r0, r1⟩, -⟩ := row2_cells hr.out.2.2
        have hln : (hpI x y z c f k).length ≤ 201 := by rw [HLn.out k]; omega
        by_cases hlt : k < N
        · have hd : decide ((k : Int) < (N : Int)) = true := decide_eq_true (by omega)
          obtain ⟨-, s1, s2⟩ := HSt.out k
          have HS1 := Lib.hid (fun X => HStep.out (hkN x y z c f k).1 (hkN x y z c f k).2 X)
          rw [s1, s2] at HS1
          have HSk := Lib.hid (HSu.out k)
          clear s1 s2
          generalize hs' : hkN x y z c f (k + 1) = s' at *
          generalize hkN x y z c f k = s at *
          generalize hl' : hpI x y z c f (k + 1) = l' at *
          generalize hpI x y z c f k = l at *
          go_wp2_with fail
          refine (HS1.out _).mono ?_
          rintro e w4 ⟨rfl, hb⟩
          have hr3 := Lib.hid (hr.out.call hb)
          obtain ⟨⟨a0, a1⟩, fa0, fa1⟩ := row2_cells hr3.out.2.2
          have hr4 := Lib.hid (hr3.out.put (s'.1 : Int) (s'.2 : Int))
          clear hb hr m0 m1 m2 r0 r1
          have hbz := hr4.out.1.2.2.1
          have hNew : ∀ (o : Obj), ((((w4.setCell ⟨W.heap.size + 1, 0, none⟩ (.int .i64 (s'.1 : Int))).setCell ⟨W.heap.size + 1, 1, none⟩ (.int .i64 (s'.2 : Int))).alloc o).heap[w4.heap.size]?) = some o := fun o => by
            have := heap_alloc_new ((w4.setCell ⟨W.heap.size + 1, 0, none⟩ (.int .i64 (s'.1 : Int))).setCell ⟨W.heap.size + 1, 1, none⟩ (.int .i64 (s'.2 : Int))) o
            simpa using this
          have HNew := Lib.hid hNew
          clear hNew
          rw [World.size_setCell, World.size_setCell] at hbz
          go_wp2_with (at_builtin; refine wpList_append_lies _ rfl (.tmp 32) (.tmp 34) 39 rfl (W.heap.size + 2) 29 i0 _ 2 16 Try.underlying39 hi0 hz0 hz1 hz2 rfl (by omega) _ l.length _ rfl (hr4.out.1.2.2.2.alloc _) ⟨w4.heap.size, 0, none⟩ 1 1 (wcl [iwP s']) rfl rfl (news_eqI rfl (HNew.out _)) (wcl_one _) (by omega) (by unfold maxLen; omega) (by omega) (by simp; omega) (w4.heap.size + 1) (by simp) ?_; intro gg cap w5 hown' hgrow hat hlt2; clear hlt2; have HAt := Lib.hid hat; clear hat)
          have hn2 := hr4.out.1.app hown' hgrow
          rw [← HSk.out] at hn2
          have hr5 : Hid (HR W x y z l' (.slice (some ⟨gg, 0, none⟩) (l.length + 1) cap) s'.1 s'.2 w5) := Lib.hid ⟨hn2.1, mbox_keep hr4.out.2.1 (by omega) hn2.2, row2_keep hr4.out.2.2 (by omega) hn2.2⟩
          go_roundw
          case rel => exact ⟨k + 1, by omega, by go_num, by rw [hs', hl']; exact hr5.out⟩
          case measure => simp [intOf]; omega
        · obtain rfl : k = N := by omega
          have hd : decide ((k : Int) < (k : Int)) = false := by simp
          go_wp2_with fail
          go_ret
          exact HK.out _ _ _ _ rfl hr.out.1.2.2.2 hr.out.1.2.1 hr.out.1.1
    · have HE := Lib.hid (hw_no (x := x) (y := y) (z := z) (c := c) (f := f) (n := n) (fun h => hn h.2))
      have hI := Lib.hid (fun X => gridS.in_no n 0 200 X hn)
      clear hw hn
      generalize hwI x y z c f n = L at *
      go_enter Try.func25, Try.ntmps25
      go_wp2_with fail
      have hr0 := Lib.hid (HW.out 27 29)
      obtain ⟨⟨m0, m1, m2⟩, -⟩ := hr0.out.2.1
      obtain ⟨⟨r0, r1⟩, -⟩ := row2_cells hr0.out.2.2
      clear HW
      go_wp2_with fail
      refine (HO.out _).mono ?_
      rintro e w1 ⟨rfl, hb⟩
      have hr1 := Lib.hid (hr0.out.call hb)
      clear hb hr0 m0 m1 m2 r0 r1
      go_wp2_with fail
      refine (hI.out _).mono ?_
      rintro e w' ⟨rfl, rfl⟩
      go_wp2_with fail
      go_ret
      exact HK.out _ _ _ _ (by rw [HE.out]) (by rw [HE.out]; exact hr1.out.1.2.2.2) hr1.out.1.2.1 hr1.out.1.1

/-- While a walker goes round: the maze, the walker that began, the one that goes. -/
def CR (W : World) (x y z c f : Int) (B : Nat) (a b : Int) (X : World) : Prop := Below W.heap.size W X ∧ MBox W.heap.size x y z X ∧ Row2 (W.heap.size + 1) c f X ∧ Row2 B a b X
theorem CR.call {W X X' : World} {x y z c f a b : Int} {B : Nat} (h : CR W x y z c f B a b X) (hb : Below X.heap.size X X') : CR W x y z c f B a b X' := ⟨below_call h.1 hb, h.2.1.call hb, h.2.2.1.call hb, h.2.2.2.call hb⟩
theorem CR.put {W X : World} {x y z c f a b : Int} {B : Nat} (h : CR W x y z c f B a b X) (hB : W.heap.size + 1 < B) (a' b' : Int) : CR W x y z c f B a' b' ((X.setCell ⟨B, 0, none⟩ (.int .i64 a')).setCell ⟨B, 1, none⟩ (.int .i64 b')) :=
  ⟨(h.1.setCell (by simp; omega) _).setCell (by simp; omega) _, mbox_set (mbox_set h.2.1 (by simp; omega) _) (by simp; omega) _, row2_far (row2_far h.2.2.1 (by simp; omega) _) (by simp; omega) _, row2_set h.2.2.2⟩
theorem cr_new {W X : World} {x y z c f : Int} (h : Below W.heap.size W X) (hx : MBox W.heap.size x y z X) (hr : Row2 (W.heap.size + 1) c f X) (T : TypeId) : CR W x y z c f X.heap.size c f (X.alloc (.cells #[.int .i64 c, .int .i64 f] T)) :=
  ⟨below_call h (below_box _ _), hx.call (below_box _ _), hr.call (below_box _ _), row2_new _ _ _ _⟩

set_option maxRecDepth 100000 in
theorem handCycle_any (x y z c f : Int) (W : World) :
    Calls Try.prog 29 #[.agg #[.int .i64 x, .int .i64 y, .int .i64 z], .agg #[.int .i64 c, .int .i64 f]] W (Nm (hcZ x y z c f) W) := by
  have HO := Lib.hid (fun X => walkerOk_any x y z c f X)
  have HW := Lib.hid (fun T1 T2 => box2_new x y z c f W T1 T2)
  have HK := @Lib.hid _ (fun v w' h => @nm_mk v (hcZ x y z c f) W w' h)
  cases hw : waB x y z c f with
  | false =>
    rw [hw] at HO
    have he : 0 = hcZ x y z c f := by unfold hcZ; rw [hw]; rfl
    have HE := Lib.hid he
    clear he hw
    generalize hcZ x y z c f = L at *
    go_enter Try.func29, Try.ntmps29
    go_wp2_with fail
    obtain ⟨hx0, hr0, hb0⟩ := HW.out 27 29
    have hb0 := Lib.hid hb0
    obtain ⟨⟨m0, m1, m2⟩, -⟩ := hx0
    obtain ⟨⟨r0, r1⟩, -⟩ := row2_cells hr0
    clear HW hr0
    go_wp2_with fail
    refine (HO.out _).mono ?_
    rintro e w1 ⟨rfl, hb⟩
    have hb1 := Lib.hid (below_call hb0.out hb)
    clear hb hb0 m0 m1 m2 r0 r1
    go_wp2_with fail
    go_ret
    exact HK.out _ _ HE.out hb1.out
  | true =>
    rw [hw] at HO
    have HSt := Lib.hid (fun k => hk_step hw k)
    have HStep := Lib.hid (fun c f X => handStep_any x y z c f X)
    have HIs := Lib.hid (fun k hk h hm => @hc_is x y z c f k hw hk h hm)
    have HNo := Lib.hid (fun h => @hc_none x y z c f h)
    obtain ⟨e1, e2⟩ := hk_zero hw
    clear hw
    generalize hcZ x y z c f = L at *
    generalize hkN x y z c f = H at *
    subst e1 e2
    go_enter Try.func29, Try.ntmps29
    go_wp2_with fail
    obtain ⟨hx0, hr0, hb0⟩ := HW.out 27 29
    have hb0 := Lib.hid hb0
    have hx0 := Lib.hid hx0
    have hr0 := Lib.hid hr0
    obtain ⟨⟨m0, m1, m2⟩, -⟩ := hx0.out
    obtain ⟨⟨r0, r1⟩, -⟩ := row2_cells hr0.out
    clear HW
    go_wp2_with fail
    refine (HO.out _).mono ?_
    rintro e w1 ⟨rfl, hb⟩
    have hcr0 := @Lib.hid _ (fun T => cr_new (below_call hb0.out hb) (hx0.out.call hb) (hr0.out.call hb) T)
    have hr1 := hr0.out.call hb
    have hBz := row2_lt hr1
    obtain ⟨⟨r0', r1'⟩, -⟩ := row2_cells hr1
    clear hb hr1 hb0 hx0 hr0 m0 m1 m2 r0 r1
    go_wp2_with fail
    have hcr1 := Lib.hid (hcr0.out 29)
    clear hcr0 r0' r1'
    go_loopw [6] (fun u6 wr => ∃ j : Nat, j ≤ 200 ∧ u6 = .int .i64 ((j : Int) + 1) ∧ (∀ i, i < j → H (i + 1) ≠ H 0) ∧ CR W x y z (H 0).1 (H 0).2 w1.heap.size (H j).1 (H j).2 wr) (fun u6 _ => 201 - (intOf u6).toNat)
    case atStart => exact ⟨0, by omega, rfl, fun i hi => absurd hi (by omega), hcr1.out⟩
    case round =>
      clear hcr1
      obtain ⟨j, hj, rfl, hno, hcr0⟩ := hrel
      have hcr := Lib.hid hcr0
      have HIn := Lib.hid hno
      clear hcr0 hno
      obtain ⟨⟨m0, m1, m2⟩, -⟩ := hcr.out.2.1
      obtain ⟨⟨r0, r1⟩, -⟩ := row2_cells hcr.out.2.2.1
      obtain ⟨⟨a0, a1⟩, -⟩ := row2_cells hcr.out.2.2.2
      by_cases hj2 : j < 200
      · have hd : decide ((j : Int) + 1 ≤ 200) = true := decide_eq_true (by omega)
        obtain ⟨-, s1, s2⟩ := HSt.out j
        have HS1 := Lib.hid (fun X => HStep.out (H j).1 (H j).2 X)
        rw [s1, s2] at HS1
        have HI1 := Lib.hid (fun h => HIs.out j hj2 h HIn.out)
        clear s1 s2
        have hq : IntKind.i64.wrap ((j : Int) + 1 + 1) = (j : Int) + 1 + 1 := IntWalk.i64_in _ (by omega)
        go_wp2_with fail
        refine (HS1.out _).mono ?_
        rintro e w2 ⟨rfl, hb⟩
        have hcr2 := Lib.hid (hcr.out.call hb)
        have hcr3 := Lib.hid (hcr2.out.put hBz ((H (j + 1)).1 : Int) ((H (j + 1)).2 : Int))
        obtain ⟨⟨r0', r1'⟩, -⟩ := row2_cells hcr2.out.2.2.1
        have hne : (w1.heap.size = W.heap.size + 1) = False := by simp; omega
        have hne2 : (W.heap.size + 1 = w1.heap.size) = False := by simp; omega
        obtain ⟨⟨a0', a1'⟩, fa0, fa1⟩ := row2_cells hcr2.out.2.2.2
        clear hb hcr m0 m1 m2 r0 r1 a0 a1
        by_cases hs : H (j + 1) = H 0
        · have HL := Lib.hid (HI1.out hs)
          rw [hs] at hcr3 ⊢
          have HL2 : Hid ((j : Int) + 1 = L) := Lib.hid HL.out.symm
          clear HI1 hs HL HSt HIs HNo HIn
          generalize H 0 = s0 at *
          generalize H j = sj at *
          go_wp2_with fail
          go_ret
          exact HK.out _ _ HL2.out hcr3.out.1
        · have HN2 : Hid (∀ i, i < j + 1 → H (i + 1) ≠ H 0) := fun i hi => by
            rcases Nat.lt_or_ge i j with h | h
            · exact HIn.out i h
            · obtain rfl : i = j := by omega
              exact hs
          have hne3 : ∃ b1 b2, (((H (j + 1)).1 : Int) == ((H 0).1 : Int)) = b1 ∧ (((H (j + 1)).2 : Int) == ((H 0).2 : Int)) = b2 ∧ (b1 && b2) = false := ⟨_, _, rfl, rfl, by
            rw [← Bool.not_eq_true, Bool.and_eq_true, beq_iff_eq, beq_iff_eq]
            rintro ⟨a, b⟩
            exact hs (Prod.ext (by omega) (by omega))⟩
          obtain ⟨b1, b2, hb1, hb2, hb3⟩ := hne3
          have HCr := hcr3
          clear HI1 hs HSt HIs HNo HIn
          generalize hs1 : H (j + 1) = s1 at *
          cases b1
          · go_wp2_with fail
            go_roundw
            case rel => exact ⟨j + 1, by omega, by go_num, HN2.out, by rw [hs1]; exact hcr3.out⟩
            case measure => simp [intOf]; omega
          · cases b2
            · go_wp2_with fail
              go_roundw
              case rel => exact ⟨j + 1, by omega, by go_num, HN2.out, by rw [hs1]; exact hcr3.out⟩
              case measure => simp [intOf]; omega
            · cases hb3
      · obtain rfl : j = 200 := by omega
        have HL := Lib.hid (HNo.out HIn.out)
        have HL2 : Hid (0 = L) := Lib.hid HL.out.symm
        clear HL HSt HIs HNo HIn
        go_wp2_with fail
        go_ret
        exact HK.out _ _ HL2.out hcr.out.1

theorem hw_len (x y z c f n : Int) : (hwI x y z c f n).length ≤ 201 := by
  unfold hwI hwL
  split
  · rename_i h
    rw [List.length_map, List.length_map, List.length_range]; omega
  · simp
/-- Whether one of the first k walkers is in a cell. -/
def inK (l : List (Int × Int)) (g : Int) (k : Nat) : Bool := (l.take k).any fun s => s.1 == g
theorem in_succ {l : List (Int × Int)} {g : Int} {k : Nat} {s : Int × Int} (h : l[k]? = some s) : inK l g (k + 1) = (inK l g k || s.1 == g) := by
  unfold inK; rw [List.take_add_one, h, List.any_append]; simp
theorem in_all (l : List (Int × Int)) (g : Int) : inK l g l.length = l.any fun s => s.1 == g := by unfold inK; rw [List.take_length]
theorem in_zero (l : List (Int × Int)) (g : Int) : inK l g 0 = false := rfl
/-- A list of walkers that lies in memory. -/
def WlAt (A : Option Addr) (l : List (Int × Int)) (X : World) : Prop := ∀ i s, l[i]? = some s → ∃ g, A = some ⟨g, 0, none⟩ ∧ g < X.heap.size ∧ X.cell? ⟨g, i * 2, none⟩ = some (.int .i64 s.1) ∧ ∃ cur, X.heap[g]? = some (.cells cur 29 (0, 0))
theorem WlAt.call {A : Option Addr} {l : List (Int × Int)} {X X' : World} (h : WlAt A l X) (hb : Below X.heap.size X X') : WlAt A l X' := fun i s hs => by
  obtain ⟨g, e, hg, hc, cur, hh⟩ := h i s hs
  exact ⟨g, e, Nat.lt_of_lt_of_le hg hb.size, (hb.cell (p := ⟨g, i * 2, none⟩) hg).trans hc, cur, (hb.block g hg).trans hh⟩
theorem wlat_own {X : World} {base n c : Nat} {A : Option Addr} {l : List (Int × Int)} (hn : n = l.length) (h : X.ownsRow base 29 2 (.slice A n c) n (wcl l)) : WlAt A l X := fun i s hs => by
  have hi := (List.getElem?_eq_some_iff.1 hs).1
  rcases h.2 with ⟨-, h2⟩ | ⟨g, cap, cur, e, hg, hh, -⟩
  · omega
  · injection e with e1 e2 e3
    subst e1
    exact ⟨g, rfl, (Array.getElem?_eq_some_iff.1 hh).1, (wl_cell h hs).1, cur, hh⟩
/-- It stays while one is appended to a list of integers. -/
theorem WlAt.app {A : Option Addr} {l : List (Int × Int)} {X X' : World} {b n : Nat} {v : Value} {xs : List Value} {o : Obj} (h : WlAt A l X) (ho : X.ownsRow b 3 1 v n xs) (hg : (X.alloc o).grownBy X' v.ownBlock) : WlAt A l X' := fun i s hs => by
  obtain ⟨g, e, hlt, hc, cur, hh⟩ := h i s hs
  have hne : some g ≠ v.ownBlock := fun e' => by
    rcases ho.2 with ⟨rfl, -⟩ | ⟨g', cap, cur', rfl, -, hh', -⟩
    · cases e'
    · have e2 : g = g' := by injection e'
      subst e2
      rw [hh] at hh'
      simp at hh'
  have hb : X'.heap[g]? = X.heap[g]? := (hg.block g (by simp; omega) hne).trans (Below.heap_alloc _ _ _ hlt)
  refine ⟨g, e, by have := hg.size; simp at this; omega, (World.cell?_of_block (a := ⟨g, i * 2, none⟩) hb).trans hc, cur, hb.trans hh⟩

set_option maxRecDepth 100000 in
theorem handReaches_any (x y z c f g : Int) (W : World) :
    Calls Try.prog 30 #[.agg #[.int .i64 x, .int .i64 y, .int .i64 z], .agg #[.int .i64 c, .int .i64 f], .int .i64 g] W (Bl (hrB x y z c f g) W) := by
  have HH := Lib.hid (fun X => handWalk_any x y z c f 200 X)
  have HW := Lib.hid (fun T1 T2 => box2_new x y z c f W T1 T2)
  have HK := @Lib.hid _ (fun b w' h => @bl_mk b (hrB x y z c f g) W w' h)
  have hl := hw_len x y z c f 200
  have he := hr_any x y z c f g
  rw [← in_all] at he
  have HE := Lib.hid he
  clear he
  generalize hrB x y z c f g = R at *
  generalize hwI x y z c f 200 = l at *
  go_enter Try.func30, Try.ntmps30
  go_wp2_with fail
  obtain ⟨hx0, hr0, hb0⟩ := HW.out 27 29
  have hb0 := Lib.hid hb0
  obtain ⟨⟨m0, m1, m2⟩, -⟩ := hx0
  obtain ⟨⟨r0, r1⟩, -⟩ := row2_cells hr0
  clear HW hr0
  go_wp2_with fail
  refine (HH.out _).mono ?_
  rintro e w1 ⟨v, rfl, ho, hb⟩
  have hb1 := Lib.hid (below_call hb0.out hb)
  obtain ⟨A1, c1, rfl⟩ := intsP.own_form ho
  have hwl1 := Lib.hid (wlat_own rfl ho)
  clear hb ho hb0 m0 m1 m2 r0 r1
  go_wp2_with fail
  go_loopw [8] (fun u8 wr => ∃ k : Nat, k ≤ l.length ∧ u8 = .int .i64 k ∧ inK l g k = false ∧ w1 = wr) (fun u8 _ => l.length - (intOf u8).toNat)
  case atStart => exact ⟨0, Nat.zero_le _, rfl, in_zero _ _, rfl⟩
  case round =>
    obtain ⟨k, hk, rfl, hin, rfl⟩ := hrel
    by_cases hkl : k < l.length
    · obtain ⟨s, hs⟩ : ∃ s, l[k]? = some s := ⟨l[k], List.getElem?_eq_getElem hkl⟩
      obtain ⟨gb, rfl, hg, hc, -⟩ := hwl1.out k s hs
      have hsu := in_succ (g := g) hs
      rw [hin, Bool.false_or] at hsu
      have HSu := Lib.hid hsu
      have hk0 : (0 : Int) ≤ (k : Int) := Int.natCast_nonneg _
      have hk1 : (k : Int) < (l.length : Int) := by omega
      have hd : decide ((k : Int) < (l.length : Int)) = true := decide_eq_true (by omega)
      have hany : (s.1 == g) = true → R = true := fun h => by
        rw [HE.out, in_all, List.any_eq_true]
        exact ⟨s, List.mem_of_getElem? hs, h⟩
      have HAny := Lib.hid hany
      clear hsu hs hany hin
      generalize s.1 = sv at *
      cases hq : (sv == g) with
      | true =>
        have HR2 : Hid (true = R) := Lib.hid (HAny.out hq).symm
        clear HAny HSu
        go_wp2_with fail
        go_ret
        exact HK.out _ _ HR2.out hb1.out
      | false =>
        rw [hq] at HSu
        clear HAny
        go_wp2_with fail
        go_roundw
        case rel => exact ⟨k + 1, by omega, by go_num, HSu.out, by trivial⟩
        case measure => simp [intOf]; omega
    · obtain rfl : k = l.length := by omega
      have hd : decide ((l.length : Int) < (l.length : Int)) = false := by simp
      have HR2 : Hid (false = R) := Lib.hid (by rw [HE.out, hin])
      clear hin
      go_wp2_with fail
      go_ret
      exact HK.out _ _ HR2.out hb1.out

def caN (x y : Int) : Nat := if OkZ x y then cN x y else 0
theorem ca_le (x y : Int) : caN x y ≤ 16 := by
  unfold caN; split
  · rename_i h; exact (deadR.nn3 h).2.2
  · omega
theorem cellsA (x y : Int) (X : World) : Calls Try.prog 12 #[.agg #[.int .i64 x, .int .i64 y]] X (Nm (caN x y : Int) X) := by
  unfold caN; split
  · rename_i h; rw [← (deadR.nn3 h).1]; exact gridS.countCells_yes x y X h.1 h.2.1 h.2.2.1 h.2.2.2
  · rename_i h; exact gridS.countCells_no x y X h

theorem cv_len (x y z c f : Int) : (cvL x y z c f).length ≤ 16 := by
  have e : cvL x y z c f = deadR.clN (cvB x y z c f) (caN x y) := rfl
  rw [e, deadR.clN_len]
  exact Nat.le_trans (deadR.cnt_max _ _) (ca_le x y)
set_option maxRecDepth 100000 in
set_option maxHeartbeats 2000000 in
theorem cellsVisited_any (x y z c f : Int) (W : World) :
    Calls Try.prog 31 #[.agg #[.int .i64 x, .int .i64 y, .int .i64 z], .agg #[.int .i64 c, .int .i64 f]] W (Ints (cvL x y z c f) W) := by
  obtain ⟨i0, hi0, hz0, hz1, hz2⟩ := info_parts info_int
  have HH := Lib.hid (fun X => handWalk_any x y z c f 200 X)
  have HC := Lib.hid (fun X => cellsA x y X)
  have HW := Lib.hid (fun T1 T2 => box2_new x y z c f W T1 T2)
  have hend : Hid (cvL x y z c f = deadR.clN (cvB x y z c f) (caN x y)) := rfl
  have HK := @Lib.hid _ (fun w' v n base => @ints_mk (cvL x y z c f) W w' v n base)
  have hl := hw_len x y z c f 200
  have hcv : ∀ k : Nat, cvB x y z c f k = inK (hwI x y z c f 200) k (hwI x y z c f 200).length := fun k => by
    unfold cvB; rw [hr_any, in_all]
  have HCv := Lib.hid hcv
  have hN16 := ca_le x y
  have HStep : Hid (∀ k : Nat, deadR.clN (cvB x y z c f) (k + 1) = if cvB x y z c f k = true then deadR.clN (cvB x y z c f) k ++ [(k : Int)] else deadR.clN (cvB x y z c f) k) := fun k => rfl
  have HLen := Lib.hid (fun k => deadR.clN_len (cvB x y z c f) k)
  have HMax := Lib.hid (fun k => deadR.cnt_max (cvB x y z c f) k)
  clear hcv
  generalize cvL x y z c f = L at *
  generalize cvB x y z c f = p at *
  generalize hwI x y z c f 200 = l at *
  generalize caN x y = N at *
  go_enter Try.func31, Try.ntmps31
  go_wp2_with fail
  obtain ⟨hx0, hr0, hb0⟩ := HW.out 27 29
  have hol0 := ol_new hb0 hb0.size
  have hx1 := hx0.call (below_box _ (.cells #[] 3))
  have hr1 := hr0.call (below_box _ (.cells #[] 3))
  have hsz : (((W.alloc (.cells #[.int .i64 x, .int .i64 y, .int .i64 z] 27)).alloc (.cells #[.int .i64 c, .int .i64 f] 29))).heap.size = W.heap.size + 1 + 1 := by simp
  rw [hsz] at hol0
  have hol1 := Lib.hid hol0
  have hx2 := Lib.hid hx1
  obtain ⟨⟨m0, m1, m2⟩, -⟩ := hx2.out
  obtain ⟨⟨r0, r1⟩, -⟩ := row2_cells hr1
  clear HW hr0 hr1 hx0 hx1 hol0 hb0 hsz
  go_wp2_with fail
  refine (HH.out _).mono ?_
  rintro e w1 ⟨v, rfl, ho, hb⟩
  have hol2 := Lib.hid (hol1.out.call hb)
  have hx3 := Lib.hid (hx2.out.call hb)
  obtain ⟨A1, c1, rfl⟩ := intsP.own_form ho
  have hwl2 := Lib.hid (wlat_own rfl ho)
  clear hb ho hol1 hx2 m0 m1 m2 r0 r1
  go_wp2_with fail
  go_loopw [5, 7] (fun u5 u7 wr => ∃ k : Nat, k ≤ N ∧ u7 = .int .i64 k ∧ OL W (W.heap.size + 1 + 1) (deadR.clN p k) u5 wr ∧ MBox W.heap.size x y z wr ∧ WlAt A1 l wr) (fun _ u7 _ => N - (intOf u7).toNat)
  case atStart => exact ⟨0, Nat.zero_le _, rfl, hol2.out, hx3.out, hwl2.out⟩
  case round =>
    clear hol2 hx3 hwl2
    obtain ⟨k, hk, rfl, hol0, hx0, hwl0⟩ := hrel
    have hol := Lib.hid hol0
    have hx := Lib.hid hx0
    have hwl := Lib.hid hwl0
    obtain ⟨A5, c5, rfl⟩ := hol0.form
    obtain ⟨m0, m1, m2⟩ := hx0.1
    clear hol0 hx0 hwl0
    have hll : (deadR.clN p k).length ≤ 16 := by have := HLen.out k; have := HMax.out k; omega
    have HS1 := Lib.hid (HStep.out k)
    go_wp2_with fail
    refine (HC.out _).mono ?_
    rintro e w2 ⟨rfl, hb⟩
    have hol1 := Lib.hid (hol.out.call hb)
    have hx1 := Lib.hid (hx.out.call hb)
    have hwl1 := Lib.hid (hwl.out.call hb)
    clear hb hol hx hwl m0 m1 m2
    by_cases hkN : k < N
    · have hd : decide ((k : Int) < (N : Int)) = true := decide_eq_true (by omega)
      have HCk := Lib.hid (HCv.out k)
      have hpk : p k = inK l k l.length := HCv.out k
      have HPk := Lib.hid hpk
      clear hpk
      generalize hl' : deadR.clN p (k + 1) = l' at *
      generalize deadR.clN p k = lo at *
      generalize p k = pk at *
      go_wp2_with fail
      go_loopw [8, 9] (fun u8 u9 wq => ∃ i : Nat, i ≤ l.length ∧ u9 = .int .i64 i ∧ u8 = .bool (inK l k i) ∧ w2 = wq) (fun _ u9 _ => l.length - (intOf u9).toNat)
      case atStart => exact ⟨0, Nat.zero_le _, rfl, rfl, rfl⟩
      case round =>
        obtain ⟨i, hi, rfl, rfl, rfl⟩ := hrel
        by_cases hil : i < l.length
        · obtain ⟨s, hs⟩ : ∃ s, l[i]? = some s := ⟨l[i], List.getElem?_eq_getElem hil⟩
          obtain ⟨gb, rfl, hg, hc, -⟩ := hwl1.out i s hs
          have HSu := Lib.hid (in_succ (g := (k : Int)) hs)
          have hi0' : (0 : Int) ≤ (i : Int) := Int.natCast_nonneg _
          have hi1 : (i : Int) < (l.length : Int) := by omega
          have hd2 : decide ((i : Int) < (l.length : Int)) = true := decide_eq_true (by omega)
          clear hs
          generalize s.1 = sv at *
          generalize inK l k i = b0 at *
          generalize hb1' : inK l k (i + 1) = b1 at *
          cases b0 with
          | true =>
            have HB2 : Hid (true = b1) := Lib.hid (by rw [HSu.out]; rfl)
            clear HSu
            go_wp2_with fail
            go_roundw
            case rel => exact ⟨i + 1, by omega, by go_num, by rw [hb1', ← HB2.out], by trivial⟩
            case measure => simp [intOf]; omega
          | false =>
            have HB2 : Hid ((sv == (k : Int)) = b1) := Lib.hid (by rw [HSu.out]; rfl)
            clear HSu
            go_wp2_with fail
            go_roundw
            case rel => exact ⟨i + 1, by omega, by go_num, by rw [hb1', ← HB2.out], by trivial⟩
            case measure => simp [intOf]; omega
        · obtain rfl : i = l.length := by omega
          have hd2 : decide ((l.length : Int) < (l.length : Int)) = false := by simp
          rw [← HPk.out]
          clear HPk
          have hbz := hol1.out.2.2.1
          cases pk with
          | true =>
            have hS2 := HS1.out
            rw [if_pos rfl] at hS2
            have HS2 := Lib.hid hS2
            clear hS2 HS1
            go_wp2_with (at_builtin; refine wpList_append_lies _ rfl (.tmp 38) (.tmp 40) 37 rfl (W.heap.size + 1 + 1) 3 i0 _ 1 8 Try.underlying37 hi0 hz0 hz1 hz2 rfl (by omega) _ lo.length _ rfl (hol1.out.2.2.2.alloc _) ⟨w2.heap.size, 0, none⟩ 1 1 (icells [(k : Int)]) rfl rfl (news_eqI rfl (heap_alloc_new w2 _)) (oneCellI _) (by omega) (by unfold maxLen; omega) (by omega) (by simp; omega) (w2.heap.size + 1) (by simp) ?_; intro gg cap w3 hown' hgrow hat hlt2; clear hlt2; have HAt := Lib.hid hat; clear hat)
            have hn2 := hol1.out.app hown' hgrow
            have hwl3 : Hid (WlAt A1 l w3) := Lib.hid (hwl1.out.app hol1.out.2.2.2 hgrow)
            go_roundw
            case rel => exact ⟨k + 1, by omega, by go_num, by rw [hl', HS2.out]; exact hn2.1, mbox_keep hx1.out (by omega) hn2.2, hwl3.out⟩
            case measure => simp [intOf]; omega
          | false =>
            have hS2 := HS1.out
            rw [if_neg (by simp)] at hS2
            have HS2 := Lib.hid hS2
            clear hS2 HS1
            go_wp2_with fail
            go_roundw
            case rel => exact ⟨k + 1, by omega, by go_num, by rw [hl', HS2.out]; exact hol1.out, hx1.out, hwl1.out⟩
            case measure => simp [intOf]; omega
    · obtain rfl : k = N := by omega
      have hd : decide ((k : Int) < (k : Int)) = false := by simp
      rw [← hend.out] at hol1 ⊢
      clear HS1 hll
      go_wp2_with fail
      go_ret
      exact HK.out _ _ _ _ rfl hol1.out.2.2.2 (Nat.le_trans (by omega) hol1.out.2.1) hol1.out.1
end Go.Proofs.Ytkknnikhpembiaa.handM
