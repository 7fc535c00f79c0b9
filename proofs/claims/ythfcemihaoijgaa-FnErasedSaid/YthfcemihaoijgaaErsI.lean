/- The contracts of the program's functions on walks without loops. -/
import Derived.Test.YthfcemihaoijgaaErsD
import Derived.Test.YthfcemihaoijgaaWayI1
import Derived.Test.YthfcemihaoijgaaWayI3
namespace Go.Proofs.Ythfcemihaoijgaa.ersI
open Go.ChangeShapes Go.WideShapes Go.ChangeAt Go.RowKit
open Go.Maps
open draw gridP gridC bitP mazeP mazeC mazeM mazeI intsP reachP reachM reachN reachD intA listK setI wayP ersP ersO ersD
set_option linter.unusedVariables false

theorem zeroI (w : World) : (zeroValue 3).run Try.prog w = .ok (.int .i64 0) w := by kernel_rfl

set_option maxRecDepth 100000 in
set_option maxHeartbeats 1000000 in
theorem eraseLoops_any (A : Option Addr) (n c : Nat) (l : List Int) (W : World) (hn : l.length = n) (hm : n ≤ 1048576) (hi : IntsIn W W.heap.size A l) (hr : ∀ u ∈ l, -9223372036854775808 ≤ u ∧ u ≤ 9223372036854775807) :
    Calls Try.prog 11 #[.slice A n c] W (Ints (erL l) W) := by
  obtain ⟨i0, hi0, hz0, hz1, hz2⟩ := info_parts info_int
  have hsz : (Try.prog.info? 3).map (·.size) = some 1 := by rw [hi0]; simp [hz1]
  have HK := @Lib.hid _ (fun w' v n base => @ints_mk (erL l) W w' v n base)
  have hmk := run_make (P := Try.prog) W 28 3 i0 (.int .i64 0) Try.underlying28 hi0 hz0 .i64 .i64 (n : Int) (n : Int) (by omega) (by omega) (by rw [hz2]; omega) (by omega)
  rw [hz1] at hmk
  simp only [Int.toNat_natCast, Nat.mul_one] at hmk
  have hmm : ∀ X : World, (Instr.makeMap 55 none).run Try.prog X = .ok (.map (some X.heap.size)) (X.alloc (.map #[] 0)) := fun X => by simp [Instr.makeMap, go_sem]
  have HB1 := Lib.hid (below_box W (.cells (madeCells #[Value.int .i64 0] n) 3))
  have HG1 : Hid ((W.alloc (.cells (madeCells #[Value.int .i64 0] n) 3)).heap[W.heap.size]? = some (.cells (icells (List.replicate n 0)).toArray 3 (0, 0))) := Lib.hid (by
    rw [heap_alloc_new, ← made_zero, Array.toArray_toList]; rfl)
  have HPos : Hid (0 < (icells l).length → ∃ ad, A = some ad ∧ ∀ j v, (icells l)[j]? = some v → (W.alloc (.cells (madeCells #[Value.int .i64 0] n) 3)).cell? (ad.add j) = some v) := Lib.hid (fun h => by
    obtain ⟨ad, h1, h2, h3⟩ := hi.below (below_box W (.cells (madeCells #[Value.int .i64 0] n) 3)) (fun e => by rw [e] at h; simp [icells] at h)
    refine ⟨ad, h1, fun j v hv => ?_⟩
    unfold icells at hv
    rw [List.getElem?_map] at hv
    cases hl : l[j]? with
    | none => rw [hl] at hv; cases hv
    | some z => rw [hl] at hv; rw [h3 j z hl, ← Option.some.inj hv])
  have HCn : Hid ((icells l).length = Nat.min n n) := Lib.hid (by rw [icells_length, hn]; exact (Nat.min_self n).symm)
  have HFit : Hid (0 + (icells l).length ≤ (icells (List.replicate n 0)).length) := Lib.hid (by rw [icells_length, icells_length, List.length_replicate]; omega)
  have HSp : Hid (splice (icells (List.replicate n 0)) 0 (icells l) = icells l) := Lib.hid (by
    unfold splice; rw [List.drop_of_length_le (by rw [icells_length, icells_length, List.length_replicate]; omega)]; simp)
  have HF := Lib.hid (fun k hk => @er_facts l k hk)
  have HR := Lib.hid hr
  have Hn := Lib.hid hn
  clear hi hn hr
  go_enter Try.func11, Try.ntmps11
  go_wp2_with ((with_reducible refine wpList_copy_splice (o := ⟨some 17, _, _, _, _, _⟩) rfl (.tmp 15) (.tmp 16) 28 28 rfl 3 Try.underlying28 hsz (some ⟨W.heap.size, 0, none⟩) A n n n c rfl rfl W.heap.size 0 (icells (List.replicate n 0)) 3 HG1.out (icells l) HCn.out (fun h => ⟨rfl, HPos.out h⟩) HFit.out (oneCellI l) W.heap.size W HB1.out (Nat.le_refl _) ?_); intro w2 HG2 hB2)
  have hM0 : W.heap.size < w2.heap.size := (Array.getElem?_eq_some_iff.1 HG2.out).1
  have HS0 : Hid (EL W w2.heap.size n l (.slice (some ⟨W.heap.size, 0, none⟩) 0 n) (.int .i64 0) (w2.alloc (.map #[] 0))) := Lib.hid (el_start hB2 (by have := HG2.out; rw [HSp.out] at this; exact this) Hn.out (by unfold maxLen; omega))
  clear HG2 hB2 HSp HFit HCn HPos HG1 HB1 hmk
  generalize w2.heap.size = M at *
  go_loopw [4, 23] (fun u4 u23 wr => EL W M n l u4 u23 wr) (fun _ u23 _ => n - (intOf u23).toNat)
  case atStart => exact HS0.out
  case round =>
    clear HS0
    obtain ⟨k, gap, D, hk, rfl, rfl, hkg, hmp, hev0⟩ := hrel
    have hev := Lib.hid hev0
    have Hmp := Lib.hid hmp
    have Hkg := Lib.hid hkg
    obtain ⟨f1, f2, f3⟩ := HF.out k (by have := Hn.out; omega)
    have Hnd := Lib.hid f1
    have Hsub := Lib.hid f3
    clear hmp hkg f1 f3
    by_cases hkn : k < n
    · obtain ⟨u, hu⟩ : ∃ u, l[k]? = some u := by
        have hkl : k < l.length := by have := Hn.out; omega
        exact ⟨l[k], List.getElem?_eq_getElem hkl⟩
      have Hu := Lib.hid hu
      have hcu := own_cellI hev0.2.1 (row_at Hkg.out hu)
      have Hown := Lib.hid hev0.2.2
      have Hkey := Lib.hid (key_int (HR.out u (List.mem_of_getElem? hu)))
      have hk0 : (0 : Int) ≤ (k : Int) := Int.natCast_nonneg _
      have hk1 : (k : Int) < (n : Int) := by omega
      have Hlu := Lib.hid (Hmp.out.2 u)
      clear hu hev0 HF
      generalize hO : erL (l.take k) = o at *
      have HO := Lib.hid hO
      clear hO
      by_cases hm : u ∈ o
      · have hix := ix_lt hm
        obtain ⟨g1, g2⟩ := Hlu.out
        rw [decide_eq_true hm] at g1
        have G1 := Lib.hid g1
        have G2 := Lib.hid (g2 hm)
        have HEnd := Lib.hid (fun X h => @el_cut W X M n k l o gap D u HO.out hkn Hu.out Hkg.out Hmp.out hm Hnd.out h)
        clear g1 g2 Hlu hm
        generalize ixN o u = ix at *
        have hx0 : (0 : Int) ≤ (ix : Int) := Int.natCast_nonneg _
        have hx1 : (0 : Int) ≤ (ix : Int) + 1 := by omega
        have hx2 : (ix : Int) + 1 ≤ (n : Int) := by omega
        have hx3 : (ix : Int) + 1 ≤ (o.length : Int) := by omega
        have hx4 : (o.length : Int) ≤ (n : Int) := by omega
        have hne : ¬ n = ix + 1 := by omega
        go_wp2_with (at_lookup; refine lookup_at _ rfl _ _ 55 rfl 3 3 .i64 lawI Try.underlying55 Try.underlying3 (zeroI _) M k D rfl Hown.out _ _ rfl Hkey.out (ix : Int) true G2.out G1.out ?_)
        generalize hd : o.length - (ix + 1) = d at *
        go_loopw [39] (fun u39 wr => ∃ j : Nat, j ≤ d ∧ u39 = .int .i64 j ∧ EV W M n (o ++ gap ++ l.drop k) k (delL D ((o.drop (ix + 1)).take j)) wr) (fun u39 _ => d - (intOf u39).toNat)
        case atStart => exact ⟨0, Nat.zero_le _, rfl, hev.out⟩
        case round =>
          clear hev Hown hcu
          obtain ⟨j, hj, rfl, hev0⟩ := hrel
          have hev := Lib.hid hev0
          clear hev0
          by_cases hjd : j < d
          · obtain ⟨v, hv⟩ : ∃ v, (o.drop (ix + 1))[j]? = some v := ⟨(o.drop (ix + 1))[j]'(by rw [List.length_drop]; omega), List.getElem?_eq_getElem _⟩
            have hv2 : o[ix + 1 + j]? = some v := by rw [← hv, List.getElem?_drop]
            have hcv := own_cellI hev.out.2.1 (row_low (row_low hv2))
            have Hown := Lib.hid hev.out.2.2
            have Hkv := Lib.hid (key_int (HR.out v (Hsub.out v (List.mem_of_getElem? hv2))))
            have HNx := Lib.hid (fun X a b => @ev_del W wr X M n k j _ _ D v hv hM0 hev.out a b)
            have hj0 : (0 : Int) ≤ (j : Int) := Int.natCast_nonneg _
            have hj1 : (j : Int) < (d : Int) := by omega
            clear hv hv2
            go_wp2_with (at_delete; refine wpList_delete_own _ rfl _ _ 55 3 rfl 3 lawI Try.underlying55 _ M k _ rfl Hown.out _ _ rfl Hkv.out ?_; intro w1 hown1 hturn1)
            go_roundw
            case rel => exact ⟨j + 1, by omega, by go_num, HNx.out _ hown1 hturn1⟩
            case measure => simp [intOf]; omega
          · obtain rfl : j = d := by omega
            have HEv := Lib.hid (HEnd.out wr (by have := hev.out; rwa [List.take_of_length_le (by rw [List.length_drop]; omega)] at this))
            go_wp2_with fail
            go_roundw
            case rel => exact HEv.out
            case measure => simp [intOf]; omega
      · obtain ⟨g1, -⟩ := Hlu.out
        rw [decide_eq_false hm] at g1
        have G1 := Lib.hid g1
        have G2 := Lib.hid (atKey_of_not_has g1 (.lit (.int .i64 0)))
        have HEnd := Lib.hid (fun X ob h => @el_new W X M n k l o gap D u ob HO.out hM0 hkn Hu.out Hkg.out Hmp.out hm h)
        have Hwl := Lib.hid (WalkArith.wf_i64 (show -9223372036854775808 ≤ (o.length : Int) ∧ (o.length : Int) ≤ 9223372036854775807 by omega))
        clear g1 Hlu hm
        go_wp2_with (first
          | (at_lookup; refine lookup_at _ rfl _ _ 55 rfl 3 3 .i64 lawI Try.underlying55 Try.underlying3 (zeroI _) M k D rfl Hown.out _ _ rfl Hkey.out 0 false G2.out G1.out ?_)
          | (at_mapUpdate; refine wpList_mapUpdate_own _ rfl _ _ _ 55 rfl 3 3 lawI Try.underlying55 _ M k _ rfl Hown.out (by unfold maxLen; omega) _ _ _ rfl rfl Hkey.out _ [] (plainElem_int Try.underlying3 Hwl.out) ?_; intro w1 hown1 hgrow1; have HEv := Lib.hid (hev.out.turn hM0 hgrow1 hown1); clear hown1 hgrow1)
          | (at_builtin; refine append_room _ rfl (.tmp 54) (.tmp 56) 28 rfl 3 i0 Try.underlying28 hi0 hz1 W.heap.size o.length n rfl ⟨w1.heap.size, 0, none⟩ 1 (.int .i64 u) rfl (news_eqI rfl (heap_alloc_new w1 _)) rfl (by omega) (ev_cell HEv.out (by omega) _).1 (ev_cell HEv.out (by omega) _).2 ?_))
        go_roundw
        case rel => exact HEnd.out _ _ HEv.out
        case measure => simp [intOf]; omega
    · obtain rfl : k = n := by omega
      have e : erL (l.take k) = erL l := by rw [List.take_of_length_le (by have := Hn.out; omega)]
      rw [e] at hev ⊢
      have HRow := Lib.hid (el_end hev.out)
      clear e f2 HF
      go_wp2_with fail
      go_ret
      exact HK.out _ _ _ _ rfl HRow.out (Nat.le_refl _) hev.out.1

theorem countErased_any (A : Option Addr) (n c : Nat) (l : List Int) (W : World) (hn : l.length = n) (hm : n ≤ 1048576) (hi : IntsIn W W.heap.size A l) (hr : ∀ u ∈ l, -9223372036854775808 ≤ u ∧ u ≤ 9223372036854775807) :
    Calls Try.prog 14 #[.slice A n c] W (Nm (ceZ l) W) := by
  have HE := Lib.hid (eraseLoops_any A n c l W hn hm hi hr)
  have hl := er_len l
  have HK := @Lib.hid _ (fun w' b => @nm_mk ((n : Int) - ((erL l).length : Int)) (ceZ l) W w' (by unfold ceZ; rw [hn]) b)
  clear hi hr
  rw [hn] at hl
  clear hn
  generalize erL l = o at *
  go_enter Try.func14, Try.ntmps14
  go_wp2_with fail
  refine HE.out.mono ?_
  rintro e w1 ⟨v, rfl, ho, hb⟩
  obtain ⟨A1, c1, rfl⟩ := own_form ho
  clear ho HE
  have q1 : IntKind.i64.wrap ((n : Int) - (o.length : Int)) = (n : Int) - (o.length : Int) := IntWalk.i64_in _ (by omega)
  go_wp2_with fail
  go_ret
  exact HK.out _ hb

theorem isSimple_any (A : Option Addr) (n c : Nat) (l : List Int) (W : World) (hn : l.length = n) (hm : n ≤ 1048576) (hi : IntsIn W W.heap.size A l) (hr : ∀ u ∈ l, -9223372036854775808 ≤ u ∧ u ≤ 9223372036854775807) :
    Calls Try.prog 13 #[.slice A n c] W (Bl (smB l) W) := by
  have HS := Lib.hid (setOf_any A n c l W hn.symm hm hi hr)
  have HK := @Lib.hid _ (fun w' b => @bl_mk (smB l) (smB l) W w' rfl b)
  have he := sd_size l
  obtain ⟨s, hs⟩ : ∃ s, Maps.size (Sd l) = s := ⟨_, rfl⟩
  have Hs := Lib.hid hs
  rw [hs, hn] at he
  clear hi hr hn hs
  generalize smB l = v at *
  go_enter Try.func13, Try.ntmps13
  go_wp2_with fail
  refine HS.out.mono ?_
  rintro e w1 ⟨b, rfl, hs, hb⟩
  have Hr := Lib.hid hs
  have Hb := Lib.hid hb
  clear hs hb HS
  go_wp2_with (at_len; refine len_at _ rfl _ 57 rfl 3 4 Try.underlying57 _ b _ _ rfl Hr.out s Hs.out ?_)
  go_ret
  exact HK.out _ Hb.out

set_option maxRecDepth 100000 in
set_option maxHeartbeats 1000000 in
theorem eraseWay_any (x y z a : Int) (A : Option Addr) (n c : Nat) (l : List Int) (W : World) (hn : l.length = n) (hm : n ≤ 1048576) (hi : IntsIn W W.heap.size A l) :
    Calls Try.prog 12 #[.agg #[.int .i64 x, .int .i64 y, .int .i64 z], .int .i64 a, .slice A n c] W (IntsB (ewL x y z a l) (ewB x y z a l) W) := by
  obtain ⟨i0, hi0, hz0, hzi1, hzi2⟩ := info_parts info_int
  have HK := @Lib.hid _ (fun b w' v n base h h' => @intsb_mk (ewL x y z a l) (ewB x y z a l) b W w' v n base h h')
  have HCo := Lib.hid (fun X h => wayI.cellsOn_any x y z a A n c l X hn hm h)
  have hrg : ∀ u ∈ coL x y z a l, -9223372036854775808 ≤ u ∧ u ≤ 9223372036854775807 := co_range
  have HEr := Lib.hid (fun A' c' X h => eraseLoops_any A' (coL x y z a l).length c' (coL x y z a l) X rfl (by have := co_most x y z a l; omega) h hrg)
  have HW := Lib.hid (fun T => @wayI.ww_new W x y z A l hi T)
  have HWy := Lib.hid (fun p q X => wayI.wayBetween_any x y z p q X)
  have HSt : Hid (∀ i p q, (erL (coL x y z a l))[i]? = some p → (erL (coL x y z a l))[i + 1]? = some q → wbL x y z p q = [dirZ x y p q] ∧ wbB x y z p q = true) := Lib.hid (fun i p q hp hq => step_way (er_steps i p q hp hq))
  have Hl := Lib.hid (show ewL x y z a l = dwL x y (erL (coL x y z a l)) from rfl)
  have Hb := Lib.hid (show ewB x y z a l = decide (0 < (erL (coL x y z a l)).length) from rfl)
  have hlen := er_len (coL x y z a l)
  have hco := co_most x y z a l
  clear hi hn hrg
  generalize coL x y z a l = C at *
  generalize erL C = E at *
  generalize ewL x y z a l = L at *
  generalize ewB x y z a l = b at *
  go_enter Try.func12, Try.ntmps12
  go_wp2_with fail
  have hww0 := Lib.hid (HW.out 27)
  have hbs : (W.alloc (.cells #[.int .i64 x, .int .i64 y, .int .i64 z] 27)).heap.size = W.heap.size + 1 := by simp
  refine (HCo.out _ (hww0.out.2.2.more hww0.out.1.size)).mono ?_
  rintro e w1 ⟨v1, rfl, ho1, hb⟩
  have hbx1 := Lib.hid (hww0.out.2.1.call hb)
  have hbl1 := Lib.hid (below_call hww0.out.1 hb)
  have hz1' := hb.size
  rw [hbs] at hz1'
  obtain ⟨A1, c1, rfl⟩ := own_form ho1
  have HI1 := Lib.hid (ints_own ho1).1
  clear hb hww0 HW HCo hbs ho1
  go_wp2_with fail
  refine (HEr.out _ _ _ HI1.out).mono ?_
  rintro e w2 ⟨v2, rfl, ho2, hb⟩
  have hbx2 := Lib.hid (hbx1.out.call hb)
  have hbl2 := Lib.hid (below_call hbl1.out hb)
  have hz2' := Nat.le_trans hz1' hb.size
  clear hb hbx1 hbl1 HI1 HEr
  rcases Nat.eq_zero_or_pos E.length with he | he
  · obtain rfl : E = [] := List.eq_nil_of_length_eq_zero he
    obtain ⟨A2, c2, rfl⟩ := own_form ho2
    have hb0 : Hid (false = b) := by rw [Hb.out]; rfl
    have hl0 : Hid (L = []) := by rw [Hl.out]; rfl
    clear ho2 he hlen
    go_wp2_with fail
    go_ret2
    exact HK.out _ _ _ 0 _ (by rw [hl0.out]; rfl) hb0.out (by rw [hl0.out]; exact World.ownsRow_nil w2 W.heap.size 3 1) (Nat.le_refl _) hbl2.out
  · obtain ⟨g, cg, rfl, hg, hgs⟩ := own_some ho2 he
    obtain ⟨hcap, hcm⟩ := own_cap ho2
    have htr : Hid (TR W x y z g cg E (dwL x y (E.take (0 + 1))) (.slice none 0 0) w2) := ⟨by rw [dw_one]; exact ol_nil hbl2.out (Nat.le_succ _) hz2', by simp [Value.ownBlock], hbx2.out, own_base ho2 (by omega)⟩
    have hb0 : Hid (true = b) := Lib.hid (by rw [Hb.out, decide_eq_true he])
    unfold maxLen at hcm
    have hE0 : ((E.length : Int) == 0) = false := beq_eq_false_iff_ne.2 (by omega)
    have hE1 : (1 : Int) ≤ (E.length : Int) := by omega
    have hE2 : (E.length : Int) ≤ (cg : Int) := by omega
    clear ho2 hg hgs hbl2 hbx2 hz2' hz1' Hb
    by_cases h2 : 2 ≤ E.length
    · have hne : ¬ cg = 1 := by omega
      have hml : E.length - 1 + 1 = E.length := by omega
      have Hml := Lib.hid hml
      clear hml
      go_wp2_with fail
      generalize hm1 : E.length - 1 = m at *
      go_loopw [9, 25] (fun u9 u25 wr => ∃ j : Nat, j ≤ m ∧ u25 = .int .i64 j ∧ TR W x y z g cg E (dwL x y (E.take (j + 1))) u9 wr) (fun _ u25 _ => m - (intOf u25).toNat)
      case atStart => exact ⟨0, Nat.zero_le _, rfl, htr.out⟩
      case round =>
        clear htr
        obtain ⟨j, hj, rfl, htr0⟩ := hrel
        have htr := Lib.hid htr0
        obtain ⟨A9, c9, rfl⟩ := htr0.1.form
        obtain ⟨m0, m1, m2⟩ := htr0.2.2.1.1
        have hsz := htr0.1.2.2.1
        have hdl : (dwL x y (E.take (j + 1))).length ≤ 500 := by rw [dw_len, List.length_take]; omega
        have hj0 : (0 : Int) ≤ (j : Int) := Int.natCast_nonneg _
        by_cases hjm : j < m
        · obtain ⟨p, hp⟩ : ∃ p, E[j]? = some p := ⟨E[j]'(by omega), List.getElem?_eq_getElem _⟩
          obtain ⟨q, hq⟩ : ∃ q, E[j + 1]? = some q := ⟨E[j + 1]'(by omega), List.getElem?_eq_getElem _⟩
          have c0 := own_cellI htr0.2.2.2 hp
          have d0 : wr.cell? ⟨g, 1 + j, none⟩ = some (.int .i64 q) := by rw [Nat.add_comm]; exact own_cellI htr0.2.2.2 hq
          have HNx := Lib.hid (dw_next (x := x) (y := y) hp hq)
          have HP := Lib.hid hp
          have HWp := Lib.hid (fun X => HWy.out p q X)
          obtain ⟨s1, s2⟩ := HSt.out j p q hp hq
          rw [s1, s2] at HWp
          have hi1 : (j : Int) < (m : Int) := by omega
          have hi2 : (j : Int) < (E.length : Int) := by omega
          clear hp hq htr0 HWy HSt s1 s2
          generalize dwL x y (E.take (j + 1)) = Lj at *
          generalize dirZ x y p q = d at *
          generalize hEN : E.length = N at *
          go_wp2_with fail
          try simp only [List.cons_append, List.nil_append, List.append_eq]
          refine wp_region_held_drew (S := (fun w' => w'.cell? ⟨g, j, none⟩ = some (.int .i64 p) ∧ w'.cell? ⟨W.heap.size, 0, none⟩ = some (.int .i64 x) ∧ w'.cell? ⟨W.heap.size, 1, none⟩ = some (.int .i64 y) ∧ w'.cell? ⟨W.heap.size, 2, none⟩ = some (.int .i64 z))) (by kernel_rfl) ?_ (fun hHeld0 => ?_)
          · (try dsimp only); go_keep
          refine wpAnyH_take (i := 0) (oi := { dst := some 31, op := Go.Op.load 27 (Go.Operand.tmp 3), type := 27, pos := "l14_erase.go:41", after := #[], guard := none }) (v := ?_) rfl (by kernel_rfl) (by kernel_rfl) (by kernel_rfl) (fun _ _ _ h => h) (Or.inl ⟨by rfl, ?_⟩) (by assumption) ?_
          rotate_left
          · (intro w hSw; (try dsimp only at hSw); go_simp; try with_reducible rfl)
          try simp only [Act.put, List.setIfInBounds_toArray, List.set_cons_zero, List.set_cons_succ]
          refine wpAnyH_take (i := 1) (oi := { dst := some 32, op := Go.Op.move (Go.Operand.tmp 8), type := 28, pos := "l14_erase.go:41", after := #[], guard := none }) (v := ?_) rfl (by kernel_rfl) (by kernel_rfl) (by kernel_rfl) (fun _ _ _ h => h) (Or.inl ⟨by rfl, ?_⟩) (by assumption) ?_
          rotate_left
          · (intro w hSw; (try dsimp only at hSw); go_simp; try with_reducible rfl)
          try simp only [Act.put, List.setIfInBounds_toArray, List.set_cons_zero, List.set_cons_succ]
          refine wpAnyH_take (i := 2) (oi := { dst := some 33, op := Go.Op.move (Go.Operand.tmp 10), type := 3, pos := "l14_erase.go:41", after := #[], guard := none }) (v := ?_) rfl (by kernel_rfl) (by kernel_rfl) (by kernel_rfl) (fun _ _ _ h => h) (Or.inl ⟨by rfl, ?_⟩) (by assumption) ?_
          rotate_left
          · (intro w hSw; (try dsimp only at hSw); go_simp; try with_reducible rfl)
          try simp only [Act.put, List.setIfInBounds_toArray, List.set_cons_zero, List.set_cons_succ]
          refine wpAnyH_take (i := 3) (oi := { dst := some 34, op := Go.Op.indexAddr 28 (Go.Operand.tmp 32) (Go.Operand.tmp 33), type := 0, pos := "l14_erase.go:41", after := #[{ on := 1, ground := Go.Ground.data }, { on := 2, ground := Go.Ground.data }], guard := none }) (v := ?_) rfl (by kernel_rfl) (by kernel_rfl) (by kernel_rfl) (fun _ _ _ h => h) (Or.inl ⟨by rfl, ?_⟩) (by assumption) ?_
          rotate_left
          · (intro w hSw; (try dsimp only at hSw); go_simp; try with_reducible rfl)
          try simp only [Act.put, List.setIfInBounds_toArray, List.set_cons_zero, List.set_cons_succ]
          refine wpAnyH_take (i := 4) (oi := { dst := some 35, op := Go.Op.load 3 (Go.Operand.tmp 34), type := 3, pos := "l14_erase.go:41", after := #[{ on := 3, ground := Go.Ground.data }], guard := none }) (v := ?_) rfl (by kernel_rfl) (by kernel_rfl) (by kernel_rfl) (fun _ _ _ h => h) (Or.inl ⟨by rfl, ?_⟩) (by assumption) ?_
          rotate_left
          · (intro w hSw; (try dsimp only at hSw); go_simp; try with_reducible rfl)
          try simp only [Act.put, List.setIfInBounds_toArray, List.set_cons_zero, List.set_cons_succ]
          refine wpAnyH_take (i := 5) (oi := { dst := some 36, op := Go.Op.move (Go.Operand.tmp 11), type := 3, pos := "l14_erase.go:41", after := #[], guard := none }) (v := ?_) rfl (by kernel_rfl) (by kernel_rfl) (by kernel_rfl) (fun _ _ _ h => h) (Or.inl ⟨by rfl, ?_⟩) (by assumption) ?_
          rotate_left
          · (intro w hSw; (try dsimp only at hSw); go_simp; try with_reducible rfl)
          try simp only [Act.put, List.setIfInBounds_toArray, List.set_cons_zero, List.set_cons_succ]
          refine wpAnyH_ready (rs := [6]) (by kernel_rfl) (by simp) ?_
          refine AllReadyH.cons (o := { dst := some 37, op := Go.Op.call { callee := Go.Callee.value (Go.Operand.func 36), args := #[Go.Operand.tmp 31, Go.Operand.tmp 35, Go.Operand.tmp 36], argTypes := #[27, 3, 3] }, type := 33, pos := "l14_erase.go:41", after := #[{ on := 0, ground := Go.Ground.data }, { on := 4, ground := Go.Ground.data }, { on := 5, ground := Go.Ground.data }], guard := none }) rfl (fun K6 hK6 => ?_) AllReadyH.nil
          go_simp
          (refine (HWp.out _).mono ?_; rintro e1 v1 ⟨vv, rfl, ho, hb1⟩; have ht2 := Lib.hid (htr.out.dr.call hb1); obtain ⟨p1, q1, r1⟩ := ht2.out.2.2.1.1; have s1 := own_cellI (hEN ▸ ht2.out.2.2.2) HP.out; have hz1 := ht2.out.1.2.2.1; have ho1 := Lib.hid (show v1.ownsRow wr.drew.heap.size 3 1 vv 1 (icells [d]) from ho); obtain ⟨h, ch, rfl, -, -⟩ := own_some ho1.out (by omega); have HCs := Lib.hid (ho1.out.cells (g := h) rfl); clear ho hb1 ho1)
          go_wp2_with fail
          refine hK6.out _ _ ?_ (fun hHeld1 => ?_)
          · (try dsimp only); go_keep
          clear hK6 K6 hHeld0
          try simp only [Act.put, List.setIfInBounds_toArray, List.set_cons_zero, List.set_cons_succ]
          refine wpAnyH_take (i := 7) (oi := { dst := some 30, op := Go.Op.move (Go.Operand.tmp 37), type := 33, pos := "l14_erase.go:41", after := #[{ on := 6, ground := Go.Ground.data }], guard := none }) (v := ?_) rfl (by kernel_rfl) (by kernel_rfl) (by kernel_rfl) (fun _ _ _ h => h) (Or.inl ⟨by rfl, ?_⟩) (by assumption) ?_
          rotate_left
          · (intro w hSw; (try dsimp only at hSw); go_simp; try with_reducible rfl)
          try simp only [Act.put, List.setIfInBounds_toArray, List.set_cons_zero, List.set_cons_succ]
          refine wpAnyH_take (i := 8) (oi := { dst := some 38, op := Go.Op.extract (Go.Operand.tmp 30) 0, type := 28, pos := "l14_erase.go:41", after := #[{ on := 7, ground := Go.Ground.data }], guard := none }) (v := ?_) rfl (by kernel_rfl) (by kernel_rfl) (by kernel_rfl) (fun _ _ _ h => h) (Or.inl ⟨by rfl, ?_⟩) (by assumption) ?_
          rotate_left
          · (intro w hSw; (try dsimp only at hSw); go_simp; try with_reducible rfl)
          try simp only [Act.put, List.setIfInBounds_toArray, List.set_cons_zero, List.set_cons_succ]
          refine wpAnyH_take (i := 9) (oi := { dst := some 39, op := Go.Op.extract (Go.Operand.tmp 30) 1, type := 4, pos := "l14_erase.go:41", after := #[{ on := 7, ground := Go.Ground.data }, { on := 10, ground := Go.Ground.gcOnly Go.Departure.lateStores }], guard := none }) (v := ?_) rfl (by kernel_rfl) (by kernel_rfl) (by kernel_rfl) (fun _ _ _ h => h) (Or.inl ⟨by rfl, ?_⟩) (by assumption) ?_
          rotate_left
          · (intro w hSw; (try dsimp only at hSw); go_simp; try with_reducible rfl)
          try simp only [Act.put, List.setIfInBounds_toArray, List.set_cons_zero, List.set_cons_succ]
          refine wpAnyH_take (i := 10) (oi := { dst := some 12, op := Go.Op.assign (Go.Operand.tmp 38), type := 28, pos := "l14_erase.go:41", after := #[{ on := 8, ground := Go.Ground.data }, { on := 6, ground := Go.Ground.chain }, { on := 0, ground := Go.Ground.phase }, { on := 1, ground := Go.Ground.phase }, { on := 2, ground := Go.Ground.phase }, { on := 3, ground := Go.Ground.phase }, { on := 4, ground := Go.Ground.phase }, { on := 5, ground := Go.Ground.phase }, { on := 6, ground := Go.Ground.phase }, { on := 7, ground := Go.Ground.phase }, { on := 8, ground := Go.Ground.phase }, { on := 9, ground := Go.Ground.textOnly Go.Departure.lateStores }], guard := none }) (v := ?_) rfl (by kernel_rfl) (by kernel_rfl) (by kernel_rfl) (fun _ _ _ h => h) (Or.inl ⟨by rfl, ?_⟩) (by assumption) ?_
          rotate_left
          · (intro w hSw; (try dsimp only at hSw); go_simp; try with_reducible rfl)
          try simp only [Act.put, List.setIfInBounds_toArray, List.set_cons_zero, List.set_cons_succ]
          refine wpAnyH_take (i := 11) (oi := { dst := some 13, op := Go.Op.assign (Go.Operand.tmp 39), type := 4, pos := "l14_erase.go:41", after := #[{ on := 9, ground := Go.Ground.data }, { on := 10, ground := Go.Ground.chain }, { on := 0, ground := Go.Ground.phase }, { on := 1, ground := Go.Ground.phase }, { on := 2, ground := Go.Ground.phase }, { on := 3, ground := Go.Ground.phase }, { on := 4, ground := Go.Ground.phase }, { on := 5, ground := Go.Ground.phase }, { on := 6, ground := Go.Ground.phase }, { on := 7, ground := Go.Ground.phase }, { on := 8, ground := Go.Ground.phase }, { on := 9, ground := Go.Ground.phase }, { on := 10, ground := Go.Ground.phase }], guard := none }) (v := ?_) rfl (by kernel_rfl) (by kernel_rfl) (by kernel_rfl) (fun _ _ _ h => h) (Or.inl ⟨by rfl, ?_⟩) (by assumption) ?_
          rotate_left
          · (intro w hSw; (try dsimp only at hSw); go_simp; try with_reducible rfl)
          try simp only [Act.put, List.setIfInBounds_toArray, List.set_cons_zero, List.set_cons_succ]
          refine wpAnyH_done (by kernel_rfl) ?_ _
          go_wp2_with (at_builtin; refine wpList_append_lies _ rfl (.tmp 40) (.tmp 41) 28 rfl (W.heap.size + 1) 3 i0 _ 1 8 Try.underlying28 hi0 hz0 hzi1 hzi2 rfl (by decide) _ Lj.length _ rfl ht2.out.1.2.2.2 ⟨h, 0, none⟩ 1 ch (icells [d]) rfl rfl HCs.out (oneCellI _) (by omega) (by unfold maxLen; omega) (by omega) ht2.out.1.2.2.1 v1.heap.size rfl ?_; intro gg cap w5 o5 g5 hat hlt2; have hn2 := Lib.hid (ht2.out.app0 o5 g5 hat); clear hlt2 hat o5 g5)
          go_roundw
          case rel => exact ⟨j + 1, by omega, by go_num, by rw [HNx.out]; exact hn2.out⟩
          case measure => simp [intOf]; omega
        · obtain rfl : j = m := by omega
          have e : dwL x y (E.take (j + 1)) = L := by rw [Hml.out, List.take_of_length_le (Nat.le_refl _), ← Hl.out]
          rw [e] at htr hdl ⊢
          clear e htr0 Hl HWy HSt Hml
          go_wp2_with fail
          go_ret2
          exact HK.out _ _ _ _ _ rfl hb0.out htr.out.1.2.2.2 htr.out.1.2.1 htr.out.1.1
    · have h1 : E.length = 1 := by omega
      have e : dwL x y (E.take (0 + 1)) = L := by rw [Hl.out, dw_one, dw_none E (by omega)]
      rw [e] at htr
      have hL : Hid (L = []) := Lib.hid (by rw [Hl.out, dw_none E (by omega)])
      clear e Hl HSt HWy h2 hE1
      by_cases hc : cg = 1
      · subst hc
        go_wp2_with fail
        go_loopw [9, 25] (fun u9 u25 wr => u9 = .slice none 0 0 ∧ u25 = .int .i64 0 ∧ wr = w2) (fun _ _ _ => 0)
        case atStart => exact ⟨rfl, rfl, rfl⟩
        case round =>
          obtain ⟨rfl, rfl, rfl⟩ := hrel
          go_wp2_with fail
          go_ret2
          exact HK.out _ _ _ 0 _ (by rw [hL.out]; rfl) hb0.out (by rw [hL.out]; exact World.ownsRow_nil _ W.heap.size 3 1) (Nat.le_refl _) htr.out.1.1
      · go_wp2_with fail
        go_loopw [9, 25] (fun u9 u25 wr => u9 = .slice none 0 0 ∧ u25 = .int .i64 0 ∧ wr = w2) (fun _ _ _ => 0)
        case atStart => exact ⟨rfl, rfl, rfl⟩
        case round =>
          obtain ⟨rfl, rfl, rfl⟩ := hrel
          go_wp2_with fail
          go_ret2
          exact HK.out _ _ _ 0 _ (by rw [hL.out]; rfl) hb0.out (by rw [hL.out]; exact World.ownsRow_nil _ W.heap.size 3 1) (Nat.le_refl _) htr.out.1.1
end Go.Proofs.Ythfcemihaoijgaa.ersI
