/- The contract of the model's first shortest way. -/
import Derived.Test.YthfcemihaoijgaaWayP
import Derived.Test.YthfcemihaoijgaaRchM
import Derived.Test.YthfcemihaoijgaaListK
namespace Go.Proofs.Ythfcemihaoijgaa.wayN
open Go.ChangeShapes Go.WideShapes Go.ChangeAt Go.RowKit
open draw gridP gridC gridE bitP mazeP mazeC mazeM mazeS intsP reachP reachM reachN reachD intA listK wayP
set_option linter.unusedVariables false

/-- While a shortest way is written: the list, the maze's box, the distances. -/
def QW (W : World) (x y z : Int) (g cg N : Nat) (D l : List Int) (v : Value) (X : World) : Prop :=
  OL W (W.heap.size + 1) l v X ∧ v.ownBlock ≠ some g ∧ MBox W.heap.size x y z X ∧ X.ownsRow (W.heap.size + 1) 3 1 (.slice (some ⟨g, 0, none⟩) N cg) N (icells D)
theorem QW.call {W X X' : World} {x y z : Int} {g cg N : Nat} {D l : List Int} {v : Value} (h : QW W x y z g cg N D l v X) (hb : Below X.heap.size X X') : QW W x y z g cg N D l v X' :=
  ⟨h.1.call hb, h.2.1, h.2.2.1.call hb, own_call h.2.2.2 hb⟩
theorem QW.drs {W X : World} {x y z : Int} {g cg N : Nat} {D l : List Int} {v : Value} (h : QW W x y z g cg N D l v X) (n : Nat) : QW W x y z g cg N D l v (X.drewN n) := h.call ⟨rfl, rfl, rfl, Nat.le_refl _, fun _ _ => rfl⟩
theorem QW.app {W X X' : World} {x y z u : Int} {g cg N gg cap : Nat} {D l : List Int} {v : Value} {o : Obj} (h : QW W x y z g cg N D l v X)
    (ho : X'.ownsRow (W.heap.size + 1) 3 1 (.slice (some ⟨gg, 0, none⟩) (l.length + 1) cap) (l.length + 1) (icells l ++ icells [u])) (hg : (X.alloc o).grownBy X' v.ownBlock) (hat : v.ownBlock = some gg ∨ gg = X.heap.size + 1) :
    QW W x y z g cg N D (l ++ [u]) (.slice (some ⟨gg, 0, none⟩) (l.length + 1) cap) X' := by
  obtain ⟨h1, h2, h3, h4⟩ := h
  obtain ⟨n1, n2⟩ := h1.app ho hg
  exact ⟨n1, blk_app h4 h2 hat, mbox_keep h3 (Nat.lt_succ_self _) n2, row_app h4 h2 hg⟩

set_option maxRecDepth 100000 in
set_option maxHeartbeats 1000000 in
theorem wayBetween_yes (x y z : Int) (a b F : Nat) (W : World) (hv : OkM x y z) (ha : a < cN x y) (hb : b < cN x y) (hF : dZ (stN x y z) (cN x y) b a = (F : Int)) (hha : hasB x y z a = true) (hhb : hasB x y z b = true) :
    Calls Try.prog 16 #[.agg #[.int .i64 x, .int .i64 y, .int .i64 z], .int .i64 a, .int .i64 b] W (IntsB (wyN (stN x y z) (cN x y) b F a) true W) := by
  obtain ⟨i0, hi0, hz0, hz1, hz2⟩ := info_parts info_int
  have HK := @Lib.hid _ (fun w' v n base h h' => @intsb_mk (wyN (stN x y z) (cN x y) b F a) true true W w' v n base h h')
  have HA := Lib.hid (fun X => reachS.has_any x y z a X)
  have HB := Lib.hid (fun X => reachS.has_any x y z b X)
  rw [hha] at HA; rw [hhb] at HB
  have HN := nn2 hv.1
  have HD := Lib.hid (fun X => reachS.distances_any x y z b X hv (by omega))
  have HS := Lib.hid (fun (c q : Nat) X => step_any x y z c q X)
  have HFr := Lib.hid (fun c q v => @stN_lt x y z c q v)
  have HNr := Lib.hid (fun c k => @near_some (stN x y z) (cN x y) b c k hb (@stN_lt x y z) (fun u q v => @stN_back x y z u q v))
  have HSelf := Lib.hid (fun c => dZ_self hb (@stN_lt x y z) c)
  have HFN := (dZ_ge a hb (@stN_lt x y z)).2
  have hN16 := HN.2.2
  have HBx := Lib.hid (fun T o => (mbox_new x y z W T).call (below_box _ o))
  have HO := Lib.hid (fun T => @ol_new W (W.alloc (.cells #[.int .i64 x, .int .i64 y, .int .i64 z] T)) (below_box _ _) (by simp))
  have hstq : ∀ c q : Nat, stZ x y z c q = stN x y z c q := fun _ _ => rfl
  simp only [hstq] at HS
  clear hv hha hhb HN hstq
  generalize stN x y z = st at *
  generalize cN x y = N at *
  go_enter Try.func16, Try.ntmps16
  go_wp2_with fail
  have hx0 := Lib.hid (HBx.out 27 (.cells #[] 3))
  have hol0 := Lib.hid (HO.out 27)
  have hbs : (W.alloc (.cells #[.int .i64 x, .int .i64 y, .int .i64 z] 27)).heap.size = W.heap.size + 1 := by simp
  rw [hbs] at hol0
  refine (HA.out _).mono ?_
  rintro e w1 ⟨rfl, hb1⟩
  have hx1 := Lib.hid (hx0.out.call hb1)
  have hol1 := Lib.hid (hol0.out.call hb1)
  obtain ⟨c0, c1, c2⟩ := hx1.out.1
  clear hb1 hx0 hol0 hbs HBx HO HA
  go_wp2_with fail
  refine (HB.out _).mono ?_
  rintro e w2 ⟨rfl, hb2⟩
  have hx2 := Lib.hid (hx1.out.call hb2)
  have hol2 := Lib.hid (hol1.out.call hb2)
  have hsz2 : W.heap.size + 1 < w2.heap.size := own_lt hol2.out.2.2.2 _ rfl
  clear hb2 hx1 hol1 c0 c1 c2 HB
  obtain ⟨c0, c1, c2⟩ := hx2.out.1
  go_wp2_with fail
  refine (HD.out _).mono ?_
  rintro e w3 ⟨vd, rfl, hd, hb3⟩
  rw [dl_len] at hd
  obtain ⟨g, cg, rfl, hg, hgs⟩ := own_some hd (by omega)
  have hqw : Hid (QW W x y z g cg N (dl st N b) [] (.slice (some ⟨W.heap.size + 1, 0, none⟩) 0 0) w3) := ⟨hol2.out.call hb3, by show some (W.heap.size + 1) ≠ some g; intro e; have := Option.some.inj e; omega, hx2.out.call hb3, own_base hd (by omega)⟩
  have hcell := dl_cell hd rfl ha
  have ha0 : (0 : Int) ≤ (a : Int) := Int.natCast_nonneg _
  have ha1 : (a : Int) < (N : Int) := by omega
  rw [hF] at hcell
  have hF0 : decide ((F : Int) < 0) = false := by simp
  clear hd hb3 hol2 hx2 c0 c1 c2 hg hgs hsz2 HD
  go_wp2_with fail
  go_loopw [1, 8] (fun u1 u8 wr => ∃ (c f : Nat) (l : List Int), c < N ∧ dZ st N b c = (f : Int) ∧ u1 = .int .i64 c ∧ l.length + f = F ∧ l ++ wyN st N b f c = wyN st N b F a ∧ QW W x y z g cg N (dl st N b) l u8 wr) (fun u1 _ _ => (dZ st N b (intOf u1).toNat).toNat)
  case atStart => exact ⟨a, F, [], ha, hF, rfl, by simp, rfl, hqw.out⟩
  case round =>
    clear hqw hcell ha0 ha1 hF0
    obtain ⟨c, f, l, hc, hcf, rfl, hlf, hlw, hqw0⟩ := hrel
    have hqw := Lib.hid hqw0
    obtain ⟨A8, c8, rfl⟩ := hqw0.1.form
    have Hlw := Lib.hid hlw
    have Hcf := Lib.hid hcf
    clear hqw0 hlw hcf
    by_cases hcb : c = b
    · subst hcb
      have hf0 : f = 0 := by have := (HSelf.out c).2 rfl; rw [Hcf.out] at this; omega
      subst hf0
      have hl : l = wyN st N c F a := by have := Hlw.out; simpa [wyN] using this
      rw [hl] at hqw ⊢
      clear hl Hlw
      go_wp2_with fail
      go_ret2
      exact HK.out _ _ _ _ rfl trivial hqw.out.1.2.2.2 hqw.out.1.2.1 hqw.out.1.1
    · have Hk : Hid (∃ k, f = k + 1) := Lib.hid (by
        rcases f with _ | k
        · exact absurd ((HSelf.out c).1 (by rw [Hcf.out]; rfl)) hcb
        · exact ⟨k, rfl⟩)
      have hex : Hid (∃ q, q < 4 ∧ nrB st N b c q = true) := Lib.hid (by
        obtain ⟨k, hk⟩ := Hk.out
        exact HNr.out c k (by rw [Hcf.out, hk]))
      have hne : ((c : Int) != (b : Int)) = true := by simp; omega
      have hf1 : 1 ≤ f := by obtain ⟨k, hk⟩ := Hk.out; omega
      clear hcb
      go_wp2_with fail
      go_loopw [1, 8, 10] (fun u1 u8 u10 wq => ∃ q : Nat, q ≤ 4 ∧ u10 = .int .i64 q ∧ u1 = .int .i64 c ∧ u8 = .slice A8 l.length c8 ∧ (∀ q', q' < q → nrB st N b c q' = false) ∧ QW W x y z g cg N (dl st N b) l (.slice A8 l.length c8) wq) (fun _ _ u10 _ => 4 - (intOf u10).toNat)
      case atStart => exact ⟨0, by omega, rfl, rfl, rfl, fun q' h => absurd h (by omega), hqw.out⟩
      case round =>
        clear hqw
        obtain ⟨q, hq, rfl, rfl, rfl, hlow, hqw0⟩ := hrel
        have hqw := Lib.hid hqw0
        have HLow := Lib.hid hlow
        obtain ⟨m0, m1, m2⟩ := hqw0.2.2.1.1
        clear hqw0 hlow
        by_cases hq4 : q < 4
        · have hqi : decide ((q : Int) ≤ 3) = true := by simp; omega
          have HSt := Lib.hid (fun X => HS.out c q X)
          have hstart : Hid (nrB st N b c q = (decide (0 ≤ st c q) && dZ st N b (st c q).toNat == dZ st N b c - 1)) := rfl
          have Hlt := Lib.hid (HFr.out c q)
          have HWy : Hid (nrB st N b c q = true → ∀ k, f = k + 1 → wyN st N b f c = (q : Int) :: wyN st N b k (st c q).toNat) := fun h k hk => by
            rw [hk]; simp only [wyN]; rw [fq_is hq4 h HLow.out]
          have HNL : Hid (nrB st N b c q = false → ∀ q', q' < q + 1 → nrB st N b c q' = false) := fun h q' hq' => by
            rcases Nat.lt_or_ge q' q with h' | h'
            · exact HLow.out q' h'
            · obtain rfl : q' = q := by omega
              exact h
          generalize hs : st c q = s at *
          by_cases hs0 : 0 ≤ s
          · obtain ⟨v, rfl⟩ := Int.eq_ofNat_of_zero_le hs0
            have hvN := Hlt.out v rfl
            have hst2 := hstart.out
            rw [Int.toNat_natCast, decide_eq_true hs0, Bool.true_and, Hcf.out] at hst2
            have Hst2 := Lib.hid hst2
            clear hst2 hstart Hlt hs0 hs
            go_wp2_with fail
            refine (HSt.out _).mono ?_
            rintro e w4 ⟨rfl, hb4⟩
            have hqw4 := Lib.hid (hqw.out.call hb4)
            have hc1 := dl_cell hqw4.out.2.2.2 rfl hvN
            have hc2 := dl_cell hqw4.out.2.2.2 rfl hc
            rw [Hcf.out] at hc2
            have hv0 : (0 : Int) ≤ (v : Int) := Int.natCast_nonneg _
            have hv1 : (v : Int) < (N : Int) := by omega
            have hcc0 : (0 : Int) ≤ (c : Int) := Int.natCast_nonneg _
            have hcc1 : (c : Int) < (N : Int) := by omega
            have hge : decide (0 ≤ (v : Int)) = true := by simp
            have hw1 : IntKind.i64.wrap ((f : Int) - 1) = (f : Int) - 1 := IntWalk.i64_in _ (by omega)
            clear hb4 m0 m1 m2 hqw
            generalize hdv : dZ st N b v = dv at *
            cases hdd : (dv == (f : Int) - 1) with
            | true =>
              rw [hdd] at Hst2
              have hde : dv = (f : Int) - 1 := by simpa using hdd
              have HRel : Hid (∃ k : Nat, dZ st N b v = (k : Int) ∧ (l ++ [(q : Int)]).length + k = F ∧ (l ++ [(q : Int)]) ++ wyN st N b k v = wyN st N b F a) := Lib.hid (by
                obtain ⟨k, hk⟩ := Hk.out
                refine ⟨k, by omega, by simp; omega, ?_⟩
                have h1 := HWy.out Hst2.out k hk
                rw [Int.toNat_natCast] at h1
                rw [← Hlw.out, h1]; simp)
              have hll : l.length ≤ 16 := by omega
              have hdl : Hid (dv < (f : Int)) := Lib.hid (by omega)
              clear hde Hst2 HWy HNL
              go_wp2_with fail
              go_quiet (fail)
              have hq5 := Lib.hid (hqw4.out.drs nq)
              generalize w4.drewN nq = w5 at *
              have hbz := hq5.out.1.2.2.1
              go_wp2_with (at_builtin; refine wpList_append_lies _ rfl (.tmp 58) (.tmp 60) 28 rfl (W.heap.size + 1) 3 i0 _ 1 8 Try.underlying28 hi0 hz0 hz1 hz2 rfl (by omega) _ (l.length) _ rfl (hq5.out.1.2.2.2.alloc _) ⟨w5.heap.size, 0, none⟩ 1 1 (icells [(q : Int)]) rfl rfl (news_eqI rfl (heap_alloc_new w5 _)) (oneCellI _) (by omega) (by unfold maxLen; omega) (by omega) (by simp; omega) (w5.heap.size + 1) (by simp) ?_; intro gg cap w3 hown' hgrow hat hlt2; clear hlt2; have HAt := Lib.hid hat; clear hat)
              have hn2 := Lib.hid (hq5.out.app hown' hgrow HAt.out)
              go_roundw
              case rel =>
                obtain ⟨k', r1, r2, r3⟩ := HRel.out
                exact ⟨v, k', l ++ [(q : Int)], hvN, r1, rfl, r2, r3, hn2.out⟩
              case measure => simp [intOf]; have := hdl.out; have := Hcf.out; omega
            | false =>
              rw [hdd] at Hst2
              have HL2 := Lib.hid (HNL.out Hst2.out)
              clear Hst2 HWy HNL
              go_wp2_with fail
              go_quiet (fail)
              go_wp2_with fail
              go_roundw
              case rel => exact ⟨q + 1, by omega, by go_num, rfl, rfl, HL2.out, hqw4.out.drs _⟩
              case measure => simp [intOf]; omega
          · have hsn : decide (0 ≤ s) = false := by simp; omega
            have hst2 := hstart.out
            rw [decide_eq_false (show ¬ 0 ≤ s from hs0), Bool.false_and] at hst2
            have HL2 := Lib.hid (HNL.out hst2)
            clear hst2 hstart Hlt hs0 hs HWy HNL
            go_wp2_with fail
            refine (HSt.out _).mono ?_
            rintro e w4 ⟨rfl, hb4⟩
            have hqw4 := Lib.hid (hqw.out.call hb4)
            clear hb4 m0 m1 m2 hqw
            go_wp2_with fail
            go_quiet (fail)
            go_wp2_with fail
            go_roundw
            case rel => exact ⟨q + 1, by omega, by go_num, rfl, rfl, HL2.out, hqw4.out.drs _⟩
            case measure => simp [intOf]; omega
        · exfalso
          obtain ⟨q', h1, h2⟩ := hex.out
          rw [HLow.out q' (by omega)] at h2; cases h2

theorem wayBetween_out (x y z a b : Int) (W : World) (hh : hasB x y z a = false ∨ hasB x y z b = false) :
    Calls Try.prog 16 #[.agg #[.int .i64 x, .int .i64 y, .int .i64 z], .int .i64 a, .int .i64 b] W (IntsB [] false W) := by
  have HK := @Lib.hid _ (fun w' v n base h h' => @intsb_mk [] false false W w' v n base h h')
  have HA := Lib.hid (fun X => reachS.has_any x y z a X)
  have HB := Lib.hid (fun X => reachS.has_any x y z b X)
  have HBx := Lib.hid (fun T o => (mbox_new x y z W T).call (below_box _ o))
  have HO := Lib.hid (fun T => @ol_new W (W.alloc (.cells #[.int .i64 x, .int .i64 y, .int .i64 z] T)) (below_box _ _) (by simp))
  have hbs : Hid (∀ T, (W.alloc (.cells #[.int .i64 x, .int .i64 y, .int .i64 z] T)).heap.size = W.heap.size + 1) := fun T => by simp
  cases ha : hasB x y z a with
  | false =>
    rw [ha] at HA
    clear hh ha HB
    go_enter Try.func16, Try.ntmps16
    go_wp2_with fail
    have hol0 := Lib.hid (HO.out 27)
    rw [hbs.out] at hol0
    refine (HA.out _).mono ?_
    rintro e w1 ⟨rfl, hb1⟩
    have hol1 := Lib.hid (hol0.out.call hb1)
    clear hb1 hol0 HBx HO HA hbs
    go_wp2_with fail
    go_ret2
    exact HK.out _ _ _ _ rfl trivial hol1.out.2.2.2 hol1.out.2.1 hol1.out.1
  | true =>
    have hb : hasB x y z b = false := by rcases hh with h | h; rw [ha] at h; cases h; exact h
    rw [ha] at HA; rw [hb] at HB
    clear hh ha hb
    go_enter Try.func16, Try.ntmps16
    go_wp2_with fail
    have hol0 := Lib.hid (HO.out 27)
    have hx0 := Lib.hid (HBx.out 27 (.cells #[] 3))
    rw [hbs.out] at hol0
    refine (HA.out _).mono ?_
    rintro e w1 ⟨rfl, hb1⟩
    have hol1 := Lib.hid (hol0.out.call hb1)
    have hx1 := Lib.hid (hx0.out.call hb1)
    obtain ⟨c0, c1, c2⟩ := hx1.out.1
    clear hb1 hol0 hx0 HBx HO HA hbs
    go_wp2_with fail
    refine (HB.out _).mono ?_
    rintro e w2 ⟨rfl, hb2⟩
    have hol2 := Lib.hid (hol1.out.call hb2)
    clear hb2 hol1 hx1 HB
    go_wp2_with fail
    go_ret2
    exact HK.out _ _ _ _ rfl trivial hol2.out.2.2.2 hol2.out.2.1 hol2.out.1

theorem wayBetween_none (x y z : Int) (a b : Nat) (W : World) (hv : OkM x y z) (ha : a < cN x y) (hb : b < cN x y) (hF : dZ (stN x y z) (cN x y) b a < 0) (hha : hasB x y z a = true) (hhb : hasB x y z b = true) :
    Calls Try.prog 16 #[.agg #[.int .i64 x, .int .i64 y, .int .i64 z], .int .i64 a, .int .i64 b] W (IntsB [] false W) := by
  have HK := @Lib.hid _ (fun w' v n base h h' => @intsb_mk [] false false W w' v n base h h')
  have HA := Lib.hid (fun X => reachS.has_any x y z a X)
  have HB := Lib.hid (fun X => reachS.has_any x y z b X)
  rw [hha] at HA; rw [hhb] at HB
  have HN := nn2 hv.1
  have HD := Lib.hid (fun X => reachS.distances_any x y z b X hv (by omega))
  have HBx := Lib.hid (fun T o => (mbox_new x y z W T).call (below_box _ o))
  have HO := Lib.hid (fun T => @ol_new W (W.alloc (.cells #[.int .i64 x, .int .i64 y, .int .i64 z] T)) (below_box _ _) (by simp))
  have hbs : Hid (∀ T, (W.alloc (.cells #[.int .i64 x, .int .i64 y, .int .i64 z] T)).heap.size = W.heap.size + 1) := fun T => by simp
  clear hv hha hhb HN
  generalize stN x y z = st at *
  generalize cN x y = N at *
  go_enter Try.func16, Try.ntmps16
  go_wp2_with fail
  have hx0 := Lib.hid (HBx.out 27 (.cells #[] 3))
  have hol0 := Lib.hid (HO.out 27)
  rw [hbs.out] at hol0
  refine (HA.out _).mono ?_
  rintro e w1 ⟨rfl, hb1⟩
  have hx1 := Lib.hid (hx0.out.call hb1)
  have hol1 := Lib.hid (hol0.out.call hb1)
  obtain ⟨c0, c1, c2⟩ := hx1.out.1
  clear hb1 hx0 hol0 hbs HBx HO HA
  go_wp2_with fail
  refine (HB.out _).mono ?_
  rintro e w2 ⟨rfl, hb2⟩
  have hx2 := Lib.hid (hx1.out.call hb2)
  have hol2 := Lib.hid (hol1.out.call hb2)
  clear hb2 hx1 hol1 c0 c1 c2 HB
  obtain ⟨c0, c1, c2⟩ := hx2.out.1
  go_wp2_with fail
  refine (HD.out _).mono ?_
  rintro e w3 ⟨vd, rfl, hd, hb3⟩
  rw [dl_len] at hd
  obtain ⟨g, cg, rfl, hg, hgs⟩ := own_some hd (by omega)
  have hol3 := Lib.hid (hol2.out.call hb3)
  have hcell := dl_cell hd rfl ha
  have ha0 : (0 : Int) ≤ (a : Int) := Int.natCast_nonneg _
  have ha1 : (a : Int) < (N : Int) := by omega
  have hF0 : decide (dZ st N b a < 0) = true := decide_eq_true hF
  clear hd hb3 hol2 hx2 c0 c1 c2 hg hgs HD hF
  generalize dZ st N b a = v at *
  go_wp2_with fail
  go_ret2
  exact HK.out _ _ _ _ rfl trivial hol3.out.2.2.2 hol3.out.2.1 hol3.out.1

theorem wayBetween_any (x y z a b : Int) (W : World) :
    Calls Try.prog 16 #[.agg #[.int .i64 x, .int .i64 y, .int .i64 z], .int .i64 a, .int .i64 b] W (IntsB (wbL x y z a b) (wbB x y z a b) W) := by
  by_cases hh : hasB x y z a = true ∧ hasB x y z b = true
  · obtain ⟨hha, hhb⟩ := hh
    have hd := ds_form hha hhb
    obtain ⟨hv, k, rfl, ha0, haN, hak, hN16, hNN⟩ := has_form hha
    obtain ⟨-, j, rfl, hb0, hbN, hbj, -, -⟩ := has_form hhb
    rw [hak, hbj] at hd
    by_cases h0 : 0 ≤ dsZ x y z k j
    · have hb : wbB x y z k j = true := decide_eq_true h0
      have hl : wbL x y z k j = wyN (stN x y z) (cN x y) j (dZ (stN x y z) (cN x y) j k).toNat k := by unfold wbL; rw [if_pos hb, hak, hbj]
      rw [hb, hl]
      exact wayBetween_yes x y z k j _ W hv haN hbN (by omega) hha hhb
    · have hb : wbB x y z k j = false := decide_eq_false h0
      have hl : wbL x y z k j = [] := by unfold wbL; rw [if_neg (by rw [hb]; simp)]
      rw [hb, hl]
      exact wayBetween_none x y z k j W hv haN hbN (by omega) hha hhb
  · have hd : dsZ x y z a b = -1 := by unfold dsZ; rw [if_neg hh]
    have hb : wbB x y z a b = false := by unfold wbB; rw [hd]; rfl
    have hl : wbL x y z a b = [] := by unfold wbL; rw [if_neg (by rw [hb]; simp)]
    rw [hb, hl]
    refine wayBetween_out x y z a b W ?_
    cases h1 : hasB x y z a with
    | false => exact .inl rfl
    | true =>
      right
      cases h2 : hasB x y z b with
      | false => rfl
      | true => exact absurd ⟨h1, h2⟩ hh
end Go.Proofs.Ythfcemihaoijgaa.wayN
