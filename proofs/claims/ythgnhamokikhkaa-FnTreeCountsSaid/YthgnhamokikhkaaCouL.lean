/- The contract of the program's ListTrees. -/
import Derived.Test.YthgnhamokikhkaaPrgC
import Derived.Test.YthgnhamokikhkaaCntZ
namespace Go.Proofs.Ythgnhamokikhkaa.couL
open Go.ChangeShapes Go.WideShapes Go.ChangeAt Go.RowKit
open draw gridP gridC bitP mazeP mazeQ mazeC mazeM mazeR mazeI intsP reachD intA intK listK trcP forest reachM cntP cntQ cntN couP couQ perfP perfI listZ cntV cntW
set_option linter.unusedVariables false

/-- The list so far, and the maze that was given. -/
def LS (W : World) (x y : Int) (M : Nat) (l : List Nat) (v : Value) (X : World) : Prop := ZL W (W.heap.size + 1) (mzL x y l) v X ∧ MBox W.heap.size x y M X
theorem LS.call {W X X' : World} {x y : Int} {M : Nat} {l : List Nat} {v : Value} (h : LS W x y M l v X) (hb : Below X.heap.size X X') : LS W x y M l v X' := ⟨h.1.call hb, h.2.call hb⟩

theorem nx_int1 {o M : Nat} (hM : M < 2 ^ 24) (h : o &&& M = o) (hne : o ≠ M) : bits .and .i64 (wrap64 (bits .or .i64 (o : Int) (bits .xor .i64 (-1) (M : Int)) + 1)) (M : Int) = ((nxN o M : Nat) : Int) := by
  have h := nx_int hM h hne
  rwa [couI.wr64] at h
theorem nx_int2 {o M : Nat} (hM : M < 2 ^ 24) (h : o &&& M = o) (hne : o ≠ M) : bits .and .i64 (wrap64 (bits .or .i64 (o : Int) (bits .xor .i64 (if IntKind.i64.signed = true then -1 else 9223372036854775807) (M : Int)) + 1)) (M : Int) = ((nxN o M : Nat) : Int) := nx_int1 hM h hne

set_option maxRecDepth 100000 in
set_option maxHeartbeats 4000000 in
theorem listTreesI_any (x y z : Int) (W : World) :
    Calls Try.prog 40 #[.agg #[.int .i64 x, .int .i64 y, .int .i64 z]] W (Mzs (mzL x y (ltZ x y z)) W) := by
  have HO := Lib.hid (fun X => ok_any x y z X)
  have HC := Lib.hid (fun X => countPassages_any x y z X)
  have HB := Lib.hid below_box
  have HNil : Hid (ltZ x y z = [] → ∀ X, Below W.heap.size W X → Mzs (mzL x y (ltZ x y z)) W (.returned (.slice none 0 0)) X) := Lib.hid fun e X hb => by
    have h := zl_nil hb (Nat.le_refl _) hb.size
    rw [e]; exact mzs_mk rfl h.2.2.2 h.2.1 h.1
  by_cases hv : OkM x y z
  · rw [show okB x y z = true from decide_eq_true hv] at HO
    by_cases hc : cpZ x y z ≤ 12
    · obtain ⟨hk, M, rfl, hM⟩ := okm_of hv
      have hg24 : gN x y ≤ 24 := by have := gps_bd hk.1 hk.2.1 hk.2.2.1 hk.2.2.2; unfold gN; omega
      have hM2 : M < 2 ^ 24 := Nat.lt_of_lt_of_le hM (Nat.pow_le_pow_right (by decide) hg24)
      have hM3 : M < 16777216 := hM2
      have hlt : ltZ x y M = trL x y M (M + 1) := by
        unfold ltZ
        rw [if_pos ⟨hv, hc⟩, Int.toNat_natCast, tr_all hk hM]
      have hd12 : decide ((12 : Int) < cpZ x y M) = false := decide_eq_false (by omega)
      have HIp := Lib.hid (fun o X => isPerfect_any x y o X)
      have HAd := Lib.hid (fun o h => tr_add (o := o) hk hM h)
      have HSk := Lib.hid (fun o h hne => tr_skip (o := o) hk hM hM2 h hne)
      have HNx := Lib.hid (fun o h hne => nx_spec (o := o) hM2 h hne)
      have HNi := Lib.hid (fun o h hne => nx_int2 (o := o) hM2 h hne)
      have HNk := Lib.hid (fun o h hne => nx_int1 (o := o) hM2 h hne)
      have HLe := Lib.hid (fun o (h : o &&& M = o) => sub_le h)
      have HLn := Lib.hid (fun o => tr_len (x := x) (y := y) M o)
      have HEnd : Hid (∀ v X, LS W x y M (trL x y M (M + 1)) v X → Mzs (mzL x y (ltZ x y M)) W (.returned v) X) := Lib.hid fun v X h => by
        rw [hlt]
        exact mzs_mk rfl h.1.2.2.2 (by have := h.1.2.1; omega) h.1.1
      have HZ : Hid (trL x y M 0 = []) := Lib.hid rfl
      obtain ⟨i0, hi0, hz0, hz1, hz2⟩ := info_parts info_mz
      clear hlt HNil hM hM2 hg24 hv hk
      generalize cpZ x y M = C at *
      generalize mzL x y (ltZ x y M) = L at *
      go_enter Try.func40, Try.ntmps40
      go_wp2_with fail
      refine (HO.out _).mono ?_
      rintro e w1 ⟨rfl, hb⟩
      have hbl1 := Lib.hid (below_call (HB.out _ _) hb)
      have hxc1 := Lib.hid ((mbox_new x y M W _).call hb)
      clear hb
      obtain ⟨c0, c1, c2⟩ := hxc1.out.1
      go_wp2_with fail
      refine (HC.out _).mono ?_
      rintro e w2 ⟨rfl, hb⟩
      have hls0 : Hid (LS W x y M (trL x y M 0) (.slice none 0 0) w2) := Lib.hid (by
        have hbl2 := below_call hbl1.out hb
        have hm := hxc1.out.call hb
        rw [HZ.out]
        exact ⟨zl_nil hbl2 (Nat.le_succ _) hm.2, hm⟩)
      clear hb hbl1 hxc1 c0 c1 c2 HO HC HZ
      go_wp2_with fail
      go_loopw [3, 4] (fun u3 u4 wr => ∃ (o : Nat) (v : Value), o &&& M = o ∧ u3 = v ∧ u4 = .int .i64 o ∧ LS W x y M (trL x y M o) v wr) (fun _ u4 _ => M - (intOf u4).toNat)
      case atStart => exact ⟨0, _, Nat.zero_and M, rfl, rfl, hls0.out⟩
      case round =>
        clear hls0
        obtain ⟨o, v, ho, rfl, rfl, hls0⟩ := hrel
        obtain ⟨A7, c7, rfl⟩ := hls0.1.form
        have hls1 := Lib.hid (hls0.call (below_box _ (.cells #[.int .i64 x, .int .i64 y, .int .i64 o] 27)))
        have hmt1 := Lib.hid (mbox_new x y o wr 27)
        have Ho := Lib.hid ho
        have hoM := HLe.out o ho
        obtain ⟨c0, c1, c2⟩ := hls0.2.1
        clear hls0 ho
        have HAo := HAd.out o Ho.out
        have HIo := Lib.hid (HIp.out o)
        have hln := HLn.out o
        cases hip : ipB x y o with
        | true =>
          rw [hip] at HIo HAo
          rw [if_pos rfl] at HAo
          have HAo := Lib.hid HAo
          go_wp2_with fail
          generalize wr.alloc (.cells #[.int .i64 x, .int .i64 y, .int .i64 o] 27) = w3 at *
          obtain ⟨t0, t1, t2⟩ := hmt1.out.1
          go_wp2_with fail
          refine (HIo.out _).mono ?_
          rintro e w4 ⟨rfl, hb⟩
          have hls2 := Lib.hid (hls1.out.call hb)
          have hmt2 := Lib.hid (hmt1.out.call hb)
          clear hb hls1 hmt1 c0 c1 c2 t0 t1 t2
          obtain ⟨t0, t1, t2⟩ := hmt2.out.1
          have hbz := hls2.out.1.2.2.1
          have HNew : Hid (∀ (ob : Obj), (w4.alloc ob).heap[w4.heap.size]? = some ob) := Lib.hid fun ob => heap_alloc_new w4 ob
          have hlm : Hid ((mzL x y (trL x y M o)).length = (trL x y M o).length) := Lib.hid (mzL_len _ _ _)
          generalize hl : trL x y M o = l at *
          by_cases hoe : o = M
          · have he : ((o : Int) == (M : Int)) = true := by rw [hoe]; simp
            have Hoe := Lib.hid hoe
            clear hoe
            go_wp2_with (at_builtin; refine wpList_append_lies _ rfl (.tmp 29) (.tmp 31) 43 rfl (W.heap.size + 1) 27 i0 _ 3 24 Try.underlying43 hi0 hz0 hz1 hz2 rfl (by omega) _ (mzL x y l).length _ rfl (hls2.out.1.2.2.2.alloc _) ⟨w4.heap.size, 0, none⟩ 1 1 (zcl [(x, y, (o : Int))]) rfl rfl (news_eqI rfl (HNew.out _)) (zcl_one _) (by have := hlm.out; omega) (by have := hlm.out; unfold maxLen; omega) (by have := hlm.out; omega) (by simp; omega) (w4.heap.size + 1) (by simp) ?_; intro gg cap w5 hown' hgrow hat hlt2; clear hlt2 hat; have hn2 := hls2.out.1.app hown' hgrow; have hm5 := mbox_keep hls2.out.2 (Nat.lt_succ_self _) hn2.2; have HM5 := Lib.hid hm5; have HN2 := Lib.hid hn2.1; obtain ⟨c0, c1, c2⟩ := hm5.1; clear hn2 hm5 hown' hgrow)
            have hls5 : Hid (LS W x y M (l ++ [o]) (.slice (some ⟨gg, 0, none⟩) ((mzL x y l).length + 1) cap) w5) := Lib.hid ⟨by
              have := HN2.out
              rwa [← show mzL x y (l ++ [o]) = mzL x y l ++ [(x, y, (o : Int))] from mzL_app _ _ _ _] at this, HM5.out⟩
            rw [← HAo.out] at hls5
            rw [Hoe.out] at hls5
            have HF := Lib.hid (HEnd.out _ _ hls5.out)
            clear HEnd hls5
            go_ret
            exact HF.out
          · have he : ((o : Int) == (M : Int)) = false := by rw [beq_eq_false_iff_ne]; omega
            have HNo := Lib.hid (HNx.out o Ho.out hoe)
            have HNj := Lib.hid (HNi.out o Ho.out hoe)
            have HSo := HSk.out o Ho.out hoe
            have HSo := Lib.hid HSo
            go_wp2_with (at_builtin; refine wpList_append_lies _ rfl (.tmp 29) (.tmp 31) 43 rfl (W.heap.size + 1) 27 i0 _ 3 24 Try.underlying43 hi0 hz0 hz1 hz2 rfl (by omega) _ (mzL x y l).length _ rfl (hls2.out.1.2.2.2.alloc _) ⟨w4.heap.size, 0, none⟩ 1 1 (zcl [(x, y, (o : Int))]) rfl rfl (news_eqI rfl (HNew.out _)) (zcl_one _) (by have := hlm.out; omega) (by have := hlm.out; unfold maxLen; omega) (by have := hlm.out; omega) (by simp; omega) (w4.heap.size + 1) (by simp) ?_; intro gg cap w5 hown' hgrow hat hlt2; clear hlt2 hat; have hn2 := hls2.out.1.app hown' hgrow; have hm5 := mbox_keep hls2.out.2 (Nat.lt_succ_self _) hn2.2; have HM5 := Lib.hid hm5; have HN2 := Lib.hid hn2.1; obtain ⟨c0, c1, c2⟩ := hm5.1; clear hn2 hm5 hown' hgrow)
            have hls5 : Hid (LS W x y M (l ++ [o]) (.slice (some ⟨gg, 0, none⟩) ((mzL x y l).length + 1) cap) w5) := Lib.hid ⟨by
              have := HN2.out
              rwa [← show mzL x y (l ++ [o]) = mzL x y l ++ [(x, y, (o : Int))] from mzL_app _ _ _ _] at this, HM5.out⟩
            rw [← HAo.out] at hls5
            rw [← HSo.out] at hls5
            go_roundw
            case rel => exact ⟨nxN o M, _, HNo.out.2.2.1, rfl, congrArg (Value.int .i64) HNj.out, hls5.out⟩
            case measure =>
              have h1 := HNo.out.1
              have h2 := HNo.out.2.1
              have h3 := HNj.out
              have h4 := HNk.out o Ho.out hoe
              simp [intOf]
              first
                | (rw [h4]; omega)
                | (rw [h3]; omega)
        | false =>
          rw [hip] at HIo HAo
          rw [if_neg (by decide), List.append_nil] at HAo
          have HAo := Lib.hid HAo
          go_wp2_with fail
          generalize wr.alloc (.cells #[.int .i64 x, .int .i64 y, .int .i64 o] 27) = w3 at *
          obtain ⟨t0, t1, t2⟩ := hmt1.out.1
          go_wp2_with fail
          refine (HIo.out _).mono ?_
          rintro e w4 ⟨rfl, hb⟩
          have hls5 : Hid (LS W x y M (trL x y M (o + 1)) (.slice A7 (mzL x y (trL x y M o)).length c7) w4) := Lib.hid (by rw [HAo.out]; exact hls1.out.call hb)
          clear hb hls1 hmt1 c0 c1 c2 t0 t1 t2 HAo
          obtain ⟨c0, c1, c2⟩ := hls5.out.2.1
          by_cases hoe : o = M
          · have he : ((o : Int) == (M : Int)) = true := by rw [hoe]; simp
            subst hoe
            have HF := Lib.hid (HEnd.out _ _ hls5.out)
            clear HEnd hls5
            go_wp2_with fail
            go_ret
            exact HF.out
          · have he : ((o : Int) == (M : Int)) = false := by rw [beq_eq_false_iff_ne]; omega
            have HNo := Lib.hid (HNx.out o Ho.out hoe)
            have HNj := Lib.hid (HNi.out o Ho.out hoe)
            have HSo := HSk.out o Ho.out hoe
            rw [← HSo] at hls5
            clear HSo
            go_wp2_with fail
            go_roundw
            case rel => exact ⟨nxN o M, _, HNo.out.2.2.1, rfl, congrArg (Value.int .i64) HNj.out, hls5.out⟩
            case measure =>
              have h1 := HNo.out.1
              have h2 := HNo.out.2.1
              have h3 := HNj.out
              have h4 := HNk.out o Ho.out hoe
              simp [intOf]
              first
                | (rw [h4]; omega)
                | (rw [h3]; omega)
    · have hd12 : decide ((12 : Int) < cpZ x y z) = true := decide_eq_true (by omega)
      have HE := Lib.hid (HNil.out (by unfold ltZ; rw [if_neg (fun h => hc h.2)]))
      clear HNil hc hv
      generalize cpZ x y z = C at *
      generalize mzL x y (ltZ x y z) = L at *
      go_enter Try.func40, Try.ntmps40
      go_wp2_with fail
      refine (HO.out _).mono ?_
      rintro e w1 ⟨rfl, hb⟩
      have hbl1 := Lib.hid (below_call (HB.out _ _) hb)
      have hxc1 := Lib.hid ((mbox_new x y z W _).call hb)
      clear hb
      obtain ⟨c0, c1, c2⟩ := hxc1.out.1
      go_wp2_with fail
      refine (HC.out _).mono ?_
      rintro e w2 ⟨rfl, hb⟩
      have hbl2 := Lib.hid (below_call hbl1.out hb)
      clear hb
      go_wp2_with fail
      go_ret
      exact HE.out _ hbl2.out
  · rw [show okB x y z = false from decide_eq_false hv] at HO
    have HE := Lib.hid (HNil.out (by unfold ltZ; rw [if_neg (fun h => hv h.1)]))
    clear HNil hv
    generalize mzL x y (ltZ x y z) = L at *
    go_enter Try.func40, Try.ntmps40
    go_wp2_with fail
    refine (HO.out _).mono ?_
    rintro e w1 ⟨rfl, hb⟩
    have hbl1 := Lib.hid (below_call (HB.out _ _) hb)
    have hxc1 := Lib.hid ((mbox_new x y z W _).call hb)
    clear hb
    obtain ⟨c0, c1, c2⟩ := hxc1.out.1
    go_wp2_with fail
    go_ret
    exact HE.out _ hbl1.out
end Go.Proofs.Ythgnhamokikhkaa.couL
