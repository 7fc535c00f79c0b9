/- The contract of the program's shortest way: a jump back goes on to the next cell. -/
import Derived.Test.YthfcemihaoijgaaWayP
import Derived.Test.YthfcemihaoijgaaPrgM
import Derived.Test.YthfcemihaoijgaaRchI
import Derived.Test.YthfcemihaoijgaaListK
import Derived.ScopeJumps
import Derived.WalkMore
namespace Go.Proofs.Ythfcemihaoijgaa.wayG
open gridP gridQ bitP mazeP mazeQ reachP reachM reachN reachD wayP
set_option linter.unusedVariables false

/-- A scope with one label: what holds whenever the run comes to it, from above or by a jump, and a measure that each pass lowers. -/
theorem wp_scope_label {P : Program} {a : Act} {w : World} {Q : Exit → Act → World → Prop} {c rest : Code} (l : Nat) (J : Act → World → Prop) (μ : Act → World → Nat) (hf : findLabel c l = some (Code.skip.seq rest))
    (pass : ∀ a w, J a w → rest.wp P (Exit.jump l (fun a' w' => J a' w' ∧ μ a' w' < μ a w) Q) a w)
    (first : (∀ a w, J a w → rest.wp P (Exit.jump l J Q) a w) → c.wp P (Exit.jump l J Q) a w) : (Code.scope c).wp P Q a w :=
  wp_scope_jumps l J μ hf (first fun a w h b k cs => by
    obtain ⟨e, a', w', hq, harr⟩ := pass a w h b k cs
    refine ⟨e, a', w', ?_, harr⟩
    cases e with
    | goto l' => exact ⟨hq.1, hq.2.1⟩
    | normal => exact hq
    | exit id => exact hq
    | ret => exact hq
    | panic ch => exact hq
    | outgrown => exact hq) (fun a w h => wp_seq (wp_skip (pass a w h)))

section
variable {st : Nat → Nat → Int} {N b : Nat}
/-- A neighbor is nearer just if its distance is less. -/
theorem nr_lt (hb : b < N) (hst : ∀ u q v : Nat, st u q = (v : Int) → v < N) (hbk : ∀ u q v : Nat, q < 4 → st u q = (v : Int) → ∃ q', q' < 4 ∧ st v q' = (u : Int)) {c q v f : Nat} (hq : q < 4) (hs : st c q = (v : Int)) (hc : dZ st N b c = (f : Int)) :
    0 ≤ dZ st N b v ∧ nrB st N b c q = decide (dZ st N b v < (f : Int)) := by
  obtain ⟨q', hq', hs'⟩ := hbk c q v hq hs
  have h1 : ∃ n : Nat, dZ st N b v = (n : Int) ∧ f ≤ n + 1 := by
    rcases dZ_spec hb hst c with ⟨g1, g2⟩ | ⟨m, g1, _, g3, g4⟩
    · omega
    · obtain rfl : m = f := by omega
      rcases dZ_spec hb hst v with ⟨e1, e2⟩ | ⟨n, e1, _, e3, e4⟩
      · exact absurd (Wk.step g3 hq hs) (e2 _)
      · exact ⟨n, e1, g4 _ (Wk.step e3 hq' hs')⟩
  obtain ⟨n, e1, e2⟩ := h1
  refine ⟨by omega, ?_⟩
  unfold nrB
  rw [hs, decide_eq_true (Int.natCast_nonneg v), Int.toNat_natCast, Bool.true_and, hc, e1]
  by_cases h : (n : Int) < (f : Int)
  · rw [decide_eq_true h, beq_iff_eq]; omega
  · rw [decide_eq_false h]; simp; omega
theorem nr_none {c q : Nat} (h : st c q < 0) : nrB st N b c q = false := by
  unfold nrB; rw [decide_eq_false (by omega), Bool.false_and]
end
end Go.Proofs.Ythfcemihaoijgaa.wayG

namespace Go.Proofs.Ythfcemihaoijgaa.wayI
open Go.ChangeShapes Go.WideShapes Go.ChangeAt Go.RowKit
open draw gridP gridC bitP mazeP mazeC mazeM mazeI intsP boolP reachP reachM reachN reachD intA listK wayP wayG reachX reachQ reachI
set_option linter.unusedVariables false

/-- While a shortest way is written: the list, the maze's box, the distances. -/
def QW (W : World) (x y z : Int) (g cg N : Nat) (D l : List Int) (v : Value) (X : World) : Prop :=
  OL W (W.heap.size + 1) l v X ∧ v.ownBlock ≠ some g ∧ MBox W.heap.size x y z X ∧ X.ownsRow (W.heap.size + 1) 3 1 (.slice (some ⟨g, 0, none⟩) N cg) N (icells D)
theorem QW.call {W X X' : World} {x y z : Int} {g cg N : Nat} {D l : List Int} {v : Value} (h : QW W x y z g cg N D l v X) (hb : Below X.heap.size X X') : QW W x y z g cg N D l v X' :=
  ⟨h.1.call hb, h.2.1, h.2.2.1.call hb, own_call h.2.2.2 hb⟩
theorem QW.drs {W X : World} {x y z : Int} {g cg N : Nat} {D l : List Int} {v : Value} (h : QW W x y z g cg N D l v X) (n : Nat) : QW W x y z g cg N D l v (X.drewN n) := h.call ⟨rfl, rfl, rfl, Nat.le_refl _, fun _ _ => rfl⟩
theorem QW.app {W X X' : World} {x y z u : Int} {g cg N gg cap : Nat} {D l : List Int} {v : Value} {o : Obj} (h : QW W x y z g cg N D l v X)
    (ho : X'.ownsRow (W.heap.size + 1) 3 1 (.slice (some ⟨gg, 0, none⟩) (l.length + 1) cap) (l.length + 1) (icells l ++ icells [u])) (hg : (X.alloc o).grownBy X' v.ownBlock) (hat : v.ownBlock = some gg ∨ gg = X.heap.size + 1) :
    QW W x y z g cg N D (l ++ [u]) (.slice (some ⟨gg, 0, none⟩) (l.length + 1) cap) X' := by
  obtain ⟨h1, h2, h3, h4⟩ := h
  obtain ⟨n1, n2⟩ := h1.app ho hg
  exact ⟨n1, blk_app h4 h2 hat, mbox_keep h3 (Nat.lt_succ_self _) n2, row_app h4 h2 hg⟩

/-- What holds when the run comes to the label: the cell, the list, the distances. -/
def JW (W : World) (x y z : Int) (st : Nat → Nat → Int) (a b N F : Nat) (a' : Act) (w' : World) : Prop :=
  ∃ (g cg c f : Nat) (l : List Int) (v u4 u5 u11 u12 u13 u14 u15 u16 u17 u18 u19 u20 u21 u22 u23 u24 u25 u26 u27 u28 u29 u30 u31 u32 u33 u34 u35 u36 u37 u38 u39 u40 u41 u42 u43 u44 u45 u46 u47 u48 u49 u50 u51 u52 u53 u54 u55 u56 u57 u58 u59 u60 : Value), a' = { tmps := #[.agg #[.int .i64 x, .int .i64 y, .int .i64 z], .int .i64 a, .int .i64 b, .pointer (some ⟨W.heap.size, 0, none⟩), u4, u5, .slice none 0 0, .bool false, .slice (some ⟨g, 0, none⟩) N cg, v, .int .i64 c, u11, u12, u13, u14, u15, u16, u17, u18, u19, u20, u21, u22, u23, u24, u25, u26, u27, u28, u29, u30, u31, u32, u33, u34, u35, u36, u37, u38, u39, u40, u41, u42, u43, u44, u45, u46, u47, u48, u49, u50, u51, u52, u53, u54, u55, u56, u57, u58, u59, u60], defers := [] } ∧
    c < N ∧ dZ st N b c = (f : Int) ∧ l.length + f = F ∧ l ++ wyN st N b f c = wyN st N b F a ∧ QW W x y z g cg N (dl st N b) l v w'
theorem jw_mk {W : World} {x y z : Int} {st : Nat → Nat → Int} {a b N F : Nat} {w' : World} {g cg c f : Nat} {l : List Int} {v u4 u5 u11 u12 u13 u14 u15 u16 u17 u18 u19 u20 u21 u22 u23 u24 u25 u26 u27 u28 u29 u30 u31 u32 u33 u34 u35 u36 u37 u38 u39 u40 u41 u42 u43 u44 u45 u46 u47 u48 u49 u50 u51 u52 u53 u54 u55 u56 u57 u58 u59 u60 : Value}
    (hc : c < N) (hf : dZ st N b c = (f : Int)) (hl : l.length + f = F) (hw : l ++ wyN st N b f c = wyN st N b F a) (hq : QW W x y z g cg N (dl st N b) l v w') :
    JW W x y z st a b N F { tmps := #[.agg #[.int .i64 x, .int .i64 y, .int .i64 z], .int .i64 a, .int .i64 b, .pointer (some ⟨W.heap.size, 0, none⟩), u4, u5, .slice none 0 0, .bool false, .slice (some ⟨g, 0, none⟩) N cg, v, .int .i64 c, u11, u12, u13, u14, u15, u16, u17, u18, u19, u20, u21, u22, u23, u24, u25, u26, u27, u28, u29, u30, u31, u32, u33, u34, u35, u36, u37, u38, u39, u40, u41, u42, u43, u44, u45, u46, u47, u48, u49, u50, u51, u52, u53, u54, u55, u56, u57, u58, u59, u60], defers := [] } w' :=
  ⟨g, cg, c, f, l, v, u4, u5, u11, u12, u13, u14, u15, u16, u17, u18, u19, u20, u21, u22, u23, u24, u25, u26, u27, u28, u29, u30, u31, u32, u33, u34, u35, u36, u37, u38, u39, u40, u41, u42, u43, u44, u45, u46, u47, u48, u49, u50, u51, u52, u53, u54, u55, u56, u57, u58, u59, u60, rfl, hc, hf, hl, hw, hq⟩

set_option maxRecDepth 100000 in
set_option maxHeartbeats 1000000 in
theorem wayBetween_yes (x y z : Int) (a b F : Nat) (W : World) (hv : OkM x y z) (ha : a < cN x y) (hb : b < cN x y) (hF : dZ (stN x y z) (cN x y) b a = (F : Int)) (hhb : hasB x y z b = true) :
    Calls Try.prog 36 #[.agg #[.int .i64 x, .int .i64 y, .int .i64 z], .int .i64 a, .int .i64 b] W (IntsB (wyN (stN x y z) (cN x y) b F a) true W) := by
  obtain ⟨i0, hi0, hz0, hz1, hz2⟩ := info_parts info_int
  have HK := @Lib.hid _ (fun w' v n base h h' => @intsb_mk (wyN (stN x y z) (cN x y) b F a) true true W w' v n base h h')
  have HN := nn2 hv.1
  have hdd : ddZ x y z b = dl (stN x y z) (cN x y) b := by unfold ddZ; rw [if_pos hhb, Int.toNat_natCast]
  have HD := Lib.hid (fun X => distances_any x y z b X)
  rw [hdd] at HD
  have HS := Lib.hid (fun (c q : Nat) X => step_any x y z c q X)
  have HWs := Lib.hid (fun (c : Nat) X => waysFrom_any x y z c X)
  have HFr := Lib.hid (fun c q v => @stN_lt x y z c q v)
  have HNr := Lib.hid (fun c k => @near_some (stN x y z) (cN x y) b c k hb (@stN_lt x y z) (fun u q v => @stN_back x y z u q v))
  have HLt := @Lib.hid _ (fun c q v f => @nr_lt (stN x y z) (cN x y) b hb (@stN_lt x y z) (fun u q v => @stN_back x y z u q v) c q v f)
  have HSelf := Lib.hid (fun c => dZ_self hb (@stN_lt x y z) c)
  have HFN := (dZ_ge a hb (@stN_lt x y z)).2
  have hN16 := HN.2.2
  have hF16 : F ≤ 16 := by rw [hF] at HFN; omega
  have HBx := Lib.hid (fun T => mbox_new x y z W T)
  have HBl := Lib.hid (fun o => below_box W o)
  have hstq : ∀ c q : Nat, stZ x y z c q = stN x y z c q := fun _ _ => rfl
  have HNx := @Lib.hid _ (fun (c : Nat) i q d hi => @ways_next x y z c i q d hi 4)
  have HEnd := @Lib.hid _ (fun (c : Nat) q => @ways_end x y z c q)
  simp only [hstq] at HS HNx
  clear hv hhb HN hstq hdd
  generalize stN x y z = st at *
  generalize cN x y = N at *
  go_enter Try.func36, Try.ntmps36
  go_wp2_with fail
  refine wp_scope_label 0 (JW W x y z st a b N F) (fun a' _ => (dZ st N b (intOf (a'.tmps.getD 10 undef)).toNat).toNat) rfl ?_ ?_
  · clear HD HBx HBl ha hF HFN
    rintro a' w' ⟨g, cg, c, f, l, v, u4, u5, u11, u12, u13, u14, u15, u16, u17, u18, u19, u20, u21, u22, u23, u24, u25, u26, u27, u28, u29, u30, u31, u32, u33, u34, u35, u36, u37, u38, u39, u40, u41, u42, u43, u44, u45, u46, u47, u48, u49, u50, u51, u52, u53, u54, u55, u56, u57, u58, u59, u60, hae, hc, hcf, hlf, hlw, hqw0⟩
    have hm : (dZ st N b (intOf (a'.tmps.getD 10 undef)).toNat).toNat = f := by subst hae; simp [intOf, hcf]
    rw [hm]
    clear hm
    subst hae
    have hqw := Lib.hid hqw0
    obtain ⟨A9, c9, rfl⟩ := hqw0.1.form
    obtain ⟨m0, m1, m2⟩ := hqw0.2.2.1.1
    have Hlw := Lib.hid hlw
    have Hcf := Lib.hid hcf
    have hlen : l.length ≤ 16 := by omega
    clear hqw0 hlw
    have HWc := Lib.hid (fun X => HWs.out c X)
    go_wp2_with fail
    refine (HWc.out _).mono ?_
    rintro e w1 ⟨v35, rfl, ho, hb⟩
    have hq1 := Lib.hid (hqw.out.call hb)
    have hwl0 := Lib.hid (show w1.ownsRow w'.heap.size 3 1 v35 (wlZ x y z c).length (icells (wlZ x y z c)) from ho)
    obtain ⟨A35, c35, rfl⟩ := own_form ho
    clear hb ho hqw m0 m1 m2 HWc HWs
    go_wp2_with fail
    go_loopw [9, 10, 37] (fun u9 u10 u37 wr => ∃ i q : Nat, q ≤ 4 ∧ u37 = .int .i64 i ∧ u10 = .int .i64 c ∧ u9 = .slice A9 l.length c9 ∧ (wlN x y z c q).length = i ∧ (∀ q', q' < q → nrB st N b c q' = false) ∧ QW W x y z g cg N (dl st N b) l (.slice A9 l.length c9) wr ∧ wr.ownsRow w'.heap.size 3 1 (.slice A35 (wlZ x y z c).length c35) (wlZ x y z c).length (icells (wlZ x y z c))) (fun _ _ u37 _ => (wlZ x y z c).length - (intOf u37).toNat)
    case atStart => exact ⟨0, 0, by omega, rfl, rfl, rfl, rfl, fun q' h => absurd h (by omega), hq1.out, hwl0.out⟩
    case round =>
      clear hq1 hwl0
      obtain ⟨i, q, hq4, rfl, rfl, rfl, hqi, hlow, hqw0, hw0⟩ := hrel
      have hqw := Lib.hid hqw0
      have hw := Lib.hid hw0
      have HLow := Lib.hid hlow
      obtain ⟨m0, m1, m2⟩ := hqw0.2.2.1.1
      have hlw := wlN_len x y z c 4
      change (wlZ x y z c).length ≤ 4 at hlw
      clear hqw0 hw0 hlow
      by_cases hin : i < (wlZ x y z c).length
      · have hd := List.getElem?_eq_getElem hin
        have hdx := Lib.hid hd
        generalize (wlZ x y z c)[i] = d at hd hdx
        obtain ⟨d', rfl, hd1, hd2, hd3, hd4, hd5⟩ := HNx.out c i q d hqi hq4 hd
        obtain ⟨v', hv⟩ := Int.eq_ofNat_of_zero_le hd3
        have hvN := HFr.out c d' v' hv
        have HSt := Lib.hid (fun X => HS.out c d' X)
        rw [hv] at HSt
        obtain ⟨g', cg', hge, hg, hgs⟩ := own_some hw.out (by omega)
        cases hge
        have hcell := wl_cell hw.out rfl hdx.out
        obtain ⟨hv0', hnr⟩ := HLt.out c d' v' f hd2 hv Hcf.out
        have HNr2 := Lib.hid hnr
        have HLow2 : Hid (∀ q', q' < d' → nrB st N b c q' = false) := Lib.hid (fun q' hq' => by
          rcases Nat.lt_or_ge q' q with h | h
          · exact HLow.out q' h
          · exact nr_none (hd4 q' h hq'))
        have HWy : Hid (nrB st N b c d' = true → ∀ k, f = k + 1 → wyN st N b f c = (d' : Int) :: wyN st N b k v') := Lib.hid (fun h k hk => by
          rw [hk]; simp only [wyN]; rw [fq_is hd2 h HLow2.out, hv]; rfl)
        have Hdf : Hid (nrB st N b c d' = true → dZ st N b v' = (f : Int) - 1) := Lib.hid (fun h => by
          have h2 := (nr_true.1 h).2
          rw [hv] at h2
          rw [← Hcf.out, ← h2]; rfl)
        have Hd5 := Lib.hid hd5
        have hi0' : (0 : Int) ≤ (i : Int) := Int.natCast_nonneg _
        have hi1' : (i : Int) < ((wlZ x y z c).length : Int) := by omega
        clear hd hdx hnr hd4 hd3 hv hd5 hqi HLow HNx HEnd HS HFr HLt hg hgs
        generalize (wlZ x y z c).length = nw at *
        go_wp2_with fail
        refine (HSt.out _).mono ?_
        rintro e w2 ⟨rfl, hb⟩
        have hqw2 := Lib.hid (hqw.out.call hb)
        have hw2 := Lib.hid (own_call hw.out hb)
        have hc1 := dl_cell hqw2.out.2.2.2 rfl hvN
        have hc2 := dl_cell hqw2.out.2.2.2 rfl hc
        rw [Hcf.out] at hc2
        have hv0 : (0 : Int) ≤ (v' : Int) := Int.natCast_nonneg _
        have hv1 : (v' : Int) < (N : Int) := by omega
        have hcc0 : (0 : Int) ≤ (c : Int) := Int.natCast_nonneg _
        have hcc1 : (c : Int) < (N : Int) := by omega
        clear hb hqw hw hcell m0 m1 m2 HSt
        generalize hdv : dZ st N b v' = dv at *
        cases hdd : decide (dv < (f : Int)) with
        | true =>
          rw [hdd] at HNr2
          have hde : dv = (f : Int) - 1 := Hdf.out HNr2.out
          have Hk : Hid (∃ k : Nat, f = k + 1 ∧ dv = (k : Int)) := Lib.hid (by
            obtain ⟨k, hk⟩ : ∃ k, f = k + 1 := ⟨f - 1, by omega⟩
            exact ⟨k, hk, by omega⟩)
          have HRel : Hid (∃ k : Nat, dZ st N b v' = (k : Int) ∧ k < f ∧ (l ++ [(d' : Int)]).length + k = F ∧ (l ++ [(d' : Int)]) ++ wyN st N b k v' = wyN st N b F a) := Lib.hid (by
            obtain ⟨k, hk, hk2⟩ := Hk.out
            refine ⟨k, by rw [hdv, hk2], by omega, by simp; omega, ?_⟩
            rw [← Hlw.out, HWy.out HNr2.out k hk]; simp)
          clear hde HNr2 HWy Hdf
          go_wp2_with fail
          go_quiet (fail)
          have hq5 := Lib.hid (hqw2.out.drs nq)
          generalize w2.drewN nq = w5 at *
          have hbz := hq5.out.1.2.2.1
          go_wp2_with (at_builtin; refine wpList_append_lies _ rfl (.tmp 54) (.tmp 56) 28 rfl (W.heap.size + 1) 3 i0 _ 1 8 Try.underlying28 hi0 hz0 hz1 hz2 rfl (by omega) _ (l.length) _ rfl (hq5.out.1.2.2.2.alloc _) ⟨w5.heap.size, 0, none⟩ 1 1 (icells [(d' : Int)]) rfl rfl (news_eqI rfl (heap_alloc_new w5 _)) (oneCellI _) (by omega) (by unfold maxLen; omega) (by omega) (by simp; omega) (w5.heap.size + 1) (by simp) ?_; intro gg cap w3 hown' hgrow hat hlt2; clear hlt2; have HAt := Lib.hid hat; clear hat)
          have hn2 := Lib.hid (hq5.out.app hown' hgrow HAt.out)
          go_wp2_with fail
          refine wp_goto ?_
          obtain ⟨k, r1, r2, r3, r4⟩ := HRel.out
          show (0 : Nat) = 0 ∧ (JW W x y z st a b N F _ _ ∧ _ < f)
          refine ⟨rfl, jw_mk hvN r1 r3 r4 hn2.out, ?_⟩
          simp [intOf]
          omega
        | false =>
          rw [hdd] at HNr2
          go_wp2_with fail
          go_quiet (fail)
          go_wp2_with fail
          go_roundw
          case rel => exact ⟨i + 1, d' + 1, by omega, by go_num, rfl, rfl, Hd5.out, fun q' hq' => by
            rcases Nat.lt_or_ge q' d' with h | h
            · exact HLow2.out q' h
            · obtain rfl : q' = d' := by omega
              exact HNr2.out, hqw2.out.drs _, own_call hw2.out ⟨rfl, rfl, rfl, Nat.le_refl _, fun _ _ => rfl⟩⟩
          case measure => simp [intOf]; omega
      · have hall : ∀ q', q' < 4 → nrB st N b c q' = false := fun q' hq' => by
          rcases Nat.lt_or_ge q' q with h | h
          · exact HLow.out q' h
          · exact nr_none (HEnd.out c q (by rw [hqi]; omega) q' h hq')
        have hf0 : f = 0 := by
          rcases f with _ | k
          · rfl
          · obtain ⟨q', h1, h2⟩ := HNr.out c k Hcf.out
            rw [hall q' h1] at h2; cases h2
        subst hf0
        have hl : l = wyN st N b F a := by have := Hlw.out; simpa [wyN] using this
        have hin' : decide (i < (wlZ x y z c).length) = false := decide_eq_false hin
        have hin2 : ¬ (i : Int) < ((wlZ x y z c).length : Int) := by omega
        rw [hl] at hqw ⊢
        clear hl Hlw hall HLow HEnd HNx HNr hqi hw hin
        generalize (wlZ x y z c).length = nw at *
        go_wp2_with fail
        simp only [Exit.jump]
        go_ret2
        exact HK.out _ _ _ _ rfl trivial hqw.out.1.2.2.2 hqw.out.1.2.1 hqw.out.1.1
  · intro HP
    go_wp2_with fail
    refine (HD.out _).mono ?_
    rintro e w1 ⟨v8, rfl, ho, hb⟩
    rw [dl_len] at ho
    have hqb := HBl.out (.cells #[.int .i64 x, .int .i64 y, .int .i64 z] 27)
    have hbl1 := below_call hqb hb
    have hx1 := (HBx.out 27).call hb
    obtain ⟨g, cg, rfl, hg, hgs⟩ := own_some ho (by omega)
    have hcell := dl_cell ho rfl ha
    rw [hF] at hcell
    have hbs : (W.alloc (.cells #[.int .i64 x, .int .i64 y, .int .i64 z] 27)).heap.size = W.heap.size + 1 := by simp
    have hqw : Hid (QW W x y z g cg N (dl st N b) [] (.slice none 0 0) w1) := ⟨ol_nil hbl1 (Nat.le_succ _) (by rw [← hbs]; exact hb.size), by simp [Value.ownBlock], hx1, own_base ho (by rw [hbs]; exact Nat.le_refl _)⟩
    have ha0 : (0 : Int) ≤ (a : Int) := Int.natCast_nonneg _
    have ha1 : (a : Int) < (N : Int) := by omega
    have d1 : decide ((a : Int) < 0) = false := by simp
    have d2 : decide ((N : Int) ≤ (a : Int)) = false := by simp; omega
    have d3 : decide ((F : Int) < 0) = false := by simp
    clear ho hb hqb hbl1 hx1 hg hgs HBx HBl HD hbs
    go_wp2_with fail
    go_step3
    rename_i hK
    refine hK _ _ (HP _ _ (jw_mk ha hF (by simp) rfl hqw.out))

theorem wayBetween_none (x y z : Int) (a : Int) (b : Int) (W : World) (hd : (a < 0 ∨ ((ddZ x y z b).length : Int) ≤ a) ∨ ∃ k : Nat, a = (k : Int) ∧ (ddZ x y z b)[k]? = some (-1)) :
    Calls Try.prog 36 #[.agg #[.int .i64 x, .int .i64 y, .int .i64 z], .int .i64 a, .int .i64 b] W (IntsB [] false W) := by
  have HK := @Lib.hid _ (fun w' v n base h h' => @intsb_mk [] false false W w' v n base h h')
  have HD := Lib.hid (fun X => distances_any x y z b X)
  have HBl := Lib.hid (fun o => below_box W o)
  generalize ddZ x y z b = D at *
  rcases hd with hd | ⟨k, rfl, hk⟩
  · have hor : (decide (a < 0) || decide ((D.length : Int) ≤ a)) = true := by
      rcases hd with h | h
      · rw [decide_eq_true h]; rfl
      · rw [decide_eq_true h, Bool.or_true]
    cases h1 : decide (a < 0) with
    | true =>
      go_enter Try.func36, Try.ntmps36
      go_wp2_with fail
      refine wp_scope_label 0 (fun _ _ => False) (fun _ _ => 0) rfl (fun _ _ h => h.elim) ?_
      intro HP
      clear HP
      go_wp2_with fail
      refine (HD.out _).mono ?_
      rintro e w1 ⟨v8, rfl, ho, hb⟩
      have hbl1 := Lib.hid (below_call (HBl.out (.cells #[.int .i64 x, .int .i64 y, .int .i64 z] 27)) hb)
      clear HBl HD hd hb ho hor
      go_wp2_with fail
      simp only [Exit.jump]
      go_ret2
      exact HK.out _ _ _ _ rfl trivial (World.ownsRow_nil w1 W.heap.size 3 1) (Nat.le_refl _) hbl1.out
    | false =>
      rw [h1, Bool.false_or] at hor
      go_enter Try.func36, Try.ntmps36
      go_wp2_with fail
      refine wp_scope_label 0 (fun _ _ => False) (fun _ _ => 0) rfl (fun _ _ h => h.elim) ?_
      intro HP
      clear HP
      go_wp2_with fail
      refine (HD.out _).mono ?_
      rintro e w1 ⟨v8, rfl, ho, hb⟩
      have hbl1 := Lib.hid (below_call (HBl.out (.cells #[.int .i64 x, .int .i64 y, .int .i64 z] 27)) hb)
      obtain ⟨A8, c8, rfl⟩ := own_form ho
      clear HBl HD hd hb ho
      generalize D.length = N at *
      go_wp2_with fail
      simp only [Exit.jump]
      go_ret2
      exact HK.out _ _ _ _ rfl trivial (World.ownsRow_nil w1 W.heap.size 3 1) (Nat.le_refl _) hbl1.out
  · have hkl : k < D.length := (List.getElem?_eq_some_iff.1 hk).1
    go_enter Try.func36, Try.ntmps36
    go_wp2_with fail
    refine wp_scope_label 0 (fun _ _ => False) (fun _ _ => 0) rfl (fun _ _ h => h.elim) ?_
    intro HP
    clear HP
    go_wp2_with fail
    refine (HD.out _).mono ?_
    rintro e w1 ⟨v8, rfl, ho, hb⟩
    have hbl1 := Lib.hid (below_call (HBl.out (.cells #[.int .i64 x, .int .i64 y, .int .i64 z] 27)) hb)
    obtain ⟨g, cg, rfl, hg, hgs⟩ := own_some ho (by omega)
    have hcell := own_cellI ho hk
    have ha0 : (0 : Int) ≤ (k : Int) := Int.natCast_nonneg _
    have ha1 : (k : Int) < (D.length : Int) := by omega
    have d1 : decide ((k : Int) < 0) = false := by simp
    have d2 : decide ((D.length : Int) ≤ (k : Int)) = false := by simp; omega
    clear HBl HD hb ho hg hgs hk
    generalize D.length = N at *
    go_wp2_with fail
    simp only [Exit.jump]
    go_ret2
    exact HK.out _ _ _ _ rfl trivial (World.ownsRow_nil w1 W.heap.size 3 1) (Nat.le_refl _) hbl1.out

theorem wayBetween_any (x y z a b : Int) (W : World) :
    Calls Try.prog 36 #[.agg #[.int .i64 x, .int .i64 y, .int .i64 z], .int .i64 a, .int .i64 b] W (IntsB (wbL x y z a b) (wbB x y z a b) W) := by
  by_cases hh : hasB x y z a = true ∧ hasB x y z b = true
  · obtain ⟨hha, hhb⟩ := hh
    have hd := ds_form hha hhb
    obtain ⟨hv, k, rfl, ha0, haN, hak, hN16, hNN⟩ := has_form hha
    obtain ⟨-, j, rfl, hb0, hbN, hbj, -, -⟩ := has_form hhb
    rw [hak, hbj] at hd
    by_cases h0 : 0 ≤ dsZ x y z k j
    · have hb : wbB x y z k j = true := decide_eq_true h0
      have hl : wbL x y z k j = wyN (stN x y z) (cN x y) j (dZ (stN x y z) (cN x y) j k).toNat k := by unfold wbL; rw [if_pos hb, hak, hbj]
      rw [hb, hl]
      exact wayBetween_yes x y z k j _ W hv haN hbN (by omega) hhb
    · have hb : wbB x y z k j = false := decide_eq_false h0
      have hl : wbL x y z k j = [] := by unfold wbL; rw [if_neg (by rw [hb]; simp)]
      rw [hb, hl]
      refine wayBetween_none x y z k j W (.inr ⟨k, rfl, ?_⟩)
      have hdd : ddZ x y z j = dl (stN x y z) (cN x y) j := by unfold ddZ; rw [if_pos hhb, Int.toNat_natCast]
      rw [hdd, dl_at _ _ _ _ haN]
      have := (dZ_ge (st := stN x y z) (N := cN x y) (a := j) k hbN (@stN_lt x y z)).1
      rw [show dZ (stN x y z) (cN x y) j k = -1 by omega]
  · have hd : dsZ x y z a b = -1 := by unfold dsZ; rw [if_neg hh]
    have hb : wbB x y z a b = false := by unfold wbB; rw [hd]; rfl
    have hl : wbL x y z a b = [] := by unfold wbL; rw [if_neg (by rw [hb]; simp)]
    rw [hb, hl]
    refine wayBetween_none x y z a b W (.inl ?_)
    cases h2 : hasB x y z b with
    | false =>
      have hdd : ddZ x y z b = [] := by unfold ddZ; rw [if_neg (by rw [h2]; simp)]
      rw [hdd]
      simp only [List.length_nil]
      omega
    | true =>
      have h1 : hasB x y z a = false := by
        cases h : hasB x y z a with
        | false => rfl
        | true => exact absurd ⟨h, h2⟩ hh
      obtain ⟨hv, j, rfl, -, -, -, -, hNN⟩ := has_form h2
      have hdd : ddZ x y z j = dl (stN x y z) (cN x y) j := by unfold ddZ; rw [if_pos h2, Int.toNat_natCast]
      rw [hdd, dl_len]
      have h3 : ¬ (OkM x y z ∧ 0 ≤ a ∧ a < x * y) := of_decide_eq_false h1
      rw [hNN] at h3
      rcases Int.lt_or_le a 0 with h | h
      · exact .inl h
      · right
        rcases Int.lt_or_le a (cN x y : Int) with h' | h'
        · exact absurd ⟨hv, h, h'⟩ h3
        · exact h'
end Go.Proofs.Ythfcemihaoijgaa.wayI
