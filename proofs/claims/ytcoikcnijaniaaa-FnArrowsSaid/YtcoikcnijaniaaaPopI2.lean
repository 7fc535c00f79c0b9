/- The contract of the program's walk on arrows. -/
import Derived.Test.YtcoikcnijaniaaaPopI1
import Derived.Test.YtcoikcnijaniaaaPopW
import Derived.Test.YtcoikcnijaniaaaSetH
import Derived.Test.YtcoikcnijaniaaaPrgG
import Derived.Deep.LoopGhost
namespace Go.Proofs.Ytcoikcnijaniaaa.popI
open Go.ChangeShapes Go.WideShapes Go.ChangeAt Go.RowKit Go.Maps
open draw gridP gridC gridE bitP mazeP mazeC mazeM mazeR intsP reachP reachM reachN reachD intA intK listK rowsP setI wayP ersP ersO popP popO popW
set_option linter.unusedVariables false

/-- What a walk answers. -/
def WalkR (W : World) (P bi bt n : Nat) (x y : Int) (va : Value) (ls : List (List Int)) (L : List Int) (o : Int) (R : Option (List Int × (Int → Nat))) (e : Ending) (w' : World) : Prop :=
  (∃ w t v c, R = some (w, t) ∧ e = .returned (.tuple #[v, .bool true]) ∧ WQ W P bi bt n x y va t L o w v w' ∧ Pw x y ls L w c t) ∨
  (R = none ∧ e = .returned (.tuple #[.slice none 0 0, .bool false]) ∧ Kp P bi bt W w')
theorem tot_bd {x y : Int} {ls : List (List Int)} (hA : Ao x y ls) {t : Int → Nat} (h : ∀ u, t u ≤ (rwA ls u).length) : tot t ls.length ≤ 960 := by
  have h1 := sm_bd (f := fun k => t k) (B := 60) (n := ls.length) fun k _ => Nat.le_trans (h k) (hA.row k)
  have := hA.n16
  unfold tot; omega
theorem bmp_take (t : Int → Nat) (X : List Int) (j : Nat) (u : Int) : bmp t (X.take j) u ≤ bmp t X u := by
  unfold bmp
  by_cases h : u ∈ X.take j
  · rw [if_pos h, if_pos (List.mem_of_mem_take h)]; exact Nat.le_refl _
  · rw [if_neg h]; split <;> omega
theorem mx_keep {W X : World} {P bi bt b : Nat} {A : Option Addr} {ls : List (List Int)} (hi : MxIn W b A ls) (h1 : b ≤ P) (h2 : b ≤ bi) (h3 : b ≤ bt) (hb : b ≤ W.heap.size) (hk : Kp P bi bt W X) : MxIn X b A ls := hi.below (hk.below h1 h2 h3 hb)
theorem mx_rows {X : World} {b : Nat} {ad : Addr} {x y : Int} {ls : List (List Int)} (h : MxIn X b (some ad) ls) (hA : Ao x y ls) {k : Nat} (hk : k < ls.length) : ∃ Ai ci, X.cell? (ad.add k) = some (.slice Ai (rwA ls k).length ci) ∧ IntsIn X b Ai (rwA ls k) := by
  obtain ⟨ad', e, hb, Ai, ci, h1, h2⟩ := mx_cell h (ao_rows hA hk)
  cases e
  exact ⟨Ai, ci, h1, h2⟩
theorem pw_start {x y : Int} {ls : List (List Int)} {L : List Int} {c : Int} {t : Int → Nat} (hA : Ao x y ls) (h0 : (0 : Int) ∈ L) (ht : ∀ u, t u ≤ (rwA ls u).length) (hc : 0 ≤ c ∧ c < x * y) : Pw x y ls L [] c t :=
  ⟨hA, h0, by simp, by simp, by simp, by simp, ht, hc, fun i a h => by simp at h⟩

set_option maxRecDepth 100000 in
set_option maxHeartbeats 8000000 in
theorem walk_any (x y : Int) (ad : Addr) (n c : Nat) (ls : List (List Int)) (P bi bt b : Nat) (t : Int → Nat) (L : List Int) (o cc : Int) (W : World) (hA : Ao x y ls) (hn : ls.length = n) (hps : PS P bi bt n x y (.slice (some ad) n c) t L o W) (hi : MxIn W b (some ad) ls) (hbs : b ≤ P ∧ b ≤ bi ∧ b ≤ bt) (hz : (0 : Int) ∈ L) (hall : ∀ u, t u ≤ (rwA ls u).length) (hc : 0 ≤ cc ∧ cc < x * y) :
    Calls Try.prog 92 #[.pointer (some ⟨P, 0, none⟩), .int .i64 cc] W (WalkR W P bi bt n x y (.slice (some ad) n c) ls L o (pwW x y ls L 20000 [] cc t)) := by
  obtain ⟨i0, hi0, hz0, hz1, hz2⟩ := info_parts info_int
  obtain ⟨hN0, hN1, hN2, hN3⟩ := hA.n16
  have hlt := hps.lt
  have HA := Lib.hid hA
  have HKy : Hid (∀ w t' v c' w', pwW x y ls L 20000 [] cc t = some (w, t') → WQ W P bi bt n x y (.slice (some ad) n c) t' L o w v w' → Pw x y ls L w c' t' → WalkR W P bi bt n x y (.slice (some ad) n c) ls L o (pwW x y ls L 20000 [] cc t) (.returned (.tuple #[v, .bool true])) w') := Lib.hid fun w t' v c' w' h1 h2 h3 => .inl ⟨w, t', v, c', h1, rfl, h2, h3⟩
  have HKn : Hid (∀ w', pwW x y ls L 20000 [] cc t = none → Kp P bi bt W w' → WalkR W P bi bt n x y (.slice (some ad) n c) ls L o (pwW x y ls L 20000 [] cc t) (.returned (.tuple #[.slice none 0 0, .bool false])) w') := Lib.hid fun w' h1 h2 => .inr ⟨h1, rfl, h2⟩
  have HMx := Lib.hid (fun X (hk : Kp P bi bt W X) => mx_keep hi hbs.1 hbs.2.1 hbs.2.2 (by omega) hk)
  have HTot := Lib.hid (fun t h => (by have := @tot_bd x y ls hA t h; rwa [hn] at this : tot t n ≤ 960))
  have HNbr := Lib.hid (fun k d X => gridI.neighbor_any x y k d X)
  have HRow := Lib.hid hA.row
  have HNn : Hid (x * y = (n : Int) ∧ ls.length = n) := Lib.hid ⟨by omega, hn⟩
  have Hpw := Lib.hid (pw_start hA hz hall hc)
  have HWq := Lib.hid (wq_new hps)
  have Hms := Lib.hid (ms_bd hA [] t)
  have hn16 : n ≤ 16 := by omega
  generalize hPR : pwW x y ls L 20000 [] cc t = PR at *
  have HPR := Lib.hid hPR
  clear hA hn hps hi hbs hz hall hc hN0 hN1 hN2 hN3 hlt hPR
  go_enter Try.func92, Try.ntmps92
  go_wp2_with fail
  go_loopg [1, 6] 20000 (fun f u1 u6 wq => ∃ (w : List Int) (c1 : Int) (t1 : Int → Nat), u1 = .int .i64 c1 ∧ pwW x y ls L f w c1 t1 = PR ∧ msP x y ls w t1 < f ∧ Pw x y ls L w c1 t1 ∧ WQ W P bi bt n x y (.slice (some ad) n c) t1 L o w u6 wq)
  case atStart => exact ⟨[], cc, t, rfl, HPR.out, Hms.out, Hpw.out, HWq.out⟩
  case round =>
    clear HPR Hms Hpw HWq
    obtain ⟨w, c1, t1, rfl, hpr, hms, hpw, hwq⟩ := hrel
    have Hpw := Lib.hid hpw
    have Hwq := Lib.hid hwq
    have hc0 := hpw.here.1
    obtain ⟨kc, rfl⟩ : ∃ kc : Nat, c1 = kc := Int.eq_ofNat_of_zero_le hc0
    have hkn : kc < n := by have h1 := hpw.here.2; have h2 := HNn.out.1; omega
    have hkl : kc < ls.length := by have := HNn.out.2; omega
    have hw16 := hpw.w16
    obtain ⟨Aw, cw, rfl⟩ := hwq.form
    obtain ⟨⟨p0, p1, p2, p3, p4, p5⟩, -⟩ := pop6_cells hwq.1.1.1
    have hc1 : (kc : Int) < (n : Int) := by omega
    obtain ⟨f, rfl⟩ : ∃ f, gk = f + 1 := ⟨gk - 1, by omega⟩
    have Hms := Lib.hid hms
    have HHas := Lib.hid (has_any bi L.length L kc wr hwq.1.1.2.1 (by omega))
    by_cases hin : (kc : Int) ∈ L
    · rw [decide_eq_true hin] at HHas
      have HE := Lib.hid (show PR = some (w, t1) by rw [← hpr]; exact pw_in hin)
      clear hpr hms hpw hwq hin
      go_wp2_with fail
      refine HHas.out.mono ?_
      rintro e w3 ⟨rfl, hb⟩
      have Hwq3 := Lib.hid (Hwq.out.call hb)
      clear hb Hwq HHas
      go_wp2_with fail
      go_ret2
      exact HKy.out _ _ _ _ _ HE.out Hwq3.out Hpw.out
    · rw [decide_eq_false hin] at HHas
      have HStep := Lib.hid (hpw.step hin)
      have HTop := Lib.hid (fun h => HA.out.top hpw.here (t := bmp t1 (w.drop (ixN w kc))) h)
      have HRnext : Hid (bmp t1 (w.drop (ixN w kc)) kc < (rwA ls kc).length → pwW x y ls L f (w.take (ixN w kc) ++ [(kc : Int)]) (nxZ x y ls (bmp t1 (w.drop (ixN w kc))) kc) (bmp t1 (w.drop (ixN w kc))) = PR) := Lib.hid fun h => by rw [← hpr, pw_next hin h]
      have HRnone : Hid (¬ bmp t1 (w.drop (ixN w kc)) kc < (rwA ls kc).length → PR = none) := Lib.hid fun h => by rw [← hpr, pw_none hin h]
      have Hnod := Lib.hid hpw.nod
      have Hhalf := Lib.hid hpw.half
      have Hrng := Lib.hid hpw.rng
      clear hpr hms hpw hwq hin
      go_wp2_with fail
      refine HHas.out.mono ?_
      rintro e w3 ⟨rfl, hb⟩
      have Hwq3 := Lib.hid (Hwq.out.call hb)
      clear hb Hwq HHas p0 p1 p2 p3 p4 p5
      have HIx := Lib.hid (index_any Aw w.length cw w kc w3 rfl (by omega) (ints_own Hwq3.out.2.2).1)
      by_cases hm : (kc : Int) ∈ w
      · have hpl := ix_lt hm
        rw [show ixZ w kc = (ixN w kc : Int) from if_pos hm] at HIx
        obtain ⟨gw, cgw, hge, -, -⟩ := own_some Hwq3.out.2.2 (by omega)
        cases hge
        obtain ⟨hcap, hcm⟩ := ersO.own_cap Hwq3.out.2.2
        unfold maxLen at hcm
        clear hm
        generalize ixN w kc = p at *
        have hp0 : (0 : Int) ≤ (p : Int) := Int.natCast_nonneg _
        have hp1 : (p : Int) ≤ (cw : Int) := by omega
        have hp2 : (p : Int) ≤ (w.length : Int) := by omega
        have hp3 : (w.length : Int) ≤ (cw : Int) := by omega
        have hp4 : ((p : Int) != -1) = true := by rw [bne_iff_ne]; omega
        have hp5 : ¬ cw = p := by omega
        go_wp2_with fail
        refine HIx.out.mono ?_
        rintro e w4 ⟨rfl, rfl⟩
        clear HIx
        go_wp2_with fail
        generalize hq : w.length - p = q at *
        go_loopw [27] (fun u27 wq => ∃ j : Nat, j ≤ q ∧ u27 = .int .i64 j ∧ WQ W P bi bt n x y (.slice (some ad) n c) (bmp t1 ((w.drop p).take j)) L o w (.slice (some ⟨gw, 0, none⟩) w.length cw) wq) (fun u27 _ => q - (intOf u27).toNat)
        case atStart => exact ⟨0, Nat.zero_le _, rfl, by rw [List.take_zero, bmp_nil]; exact Hwq3.out⟩
        case round =>
          clear Hwq3
          obtain ⟨j, hj, rfl, hwq⟩ := hrel
          have Hwq := Lib.hid hwq
          have hj0 : (0 : Int) ≤ (j : Int) := Int.natCast_nonneg _
          by_cases hjq : j < q
          · obtain ⟨d, hd⟩ : ∃ d, w[p + j]? = some d := ⟨w[p + j]'(by omega), List.getElem?_eq_getElem (by omega)⟩
            have hdr := Hrng.out d (List.mem_of_getElem? hd)
            have hdn : 0 ≤ d ∧ d < (n : Int) := by have := HNn.out.1; omega
            have hb1 := (bmp_next (t := t1) (Hnod.out.sublist (List.drop_sublist p w)) (show (w.drop p)[j]? = some d by rw [List.getElem?_drop]; exact hd)).1
            have hcd := own_cellI hwq.2.2 hd
            obtain ⟨D, hD1, hD2⟩ := hwq.1.1.2.2
            have hlk := top_at hwq.1.1.2.2 (show -9223372036854775808 ≤ d ∧ d ≤ 9223372036854775807 by omega)
            obtain ⟨⟨p0, p1, p2, p3, p4, p5⟩, -⟩ := pop6_cells hwq.1.1.1
            have hj1 : (j : Int) < (q : Int) := by omega
            have Hown := Lib.hid hD1
            have Hkey := Lib.hid (key_int (show -9223372036854775808 ≤ d ∧ d ≤ 9223372036854775807 by omega))
            have HBm := Lib.hid (fun (X' : World) a g => (WQ.bump (X' := X') hwq hdn hD2 a g : WQ W P bi bt n x y (.slice (some ad) n c) (upd (bmp t1 ((w.drop p).take j)) d) L o w (.slice (some ⟨gw, 0, none⟩) w.length cw) X'))
            have htb3 : tot (bmp t1 ((w.drop p).take j)) n ≤ 960 := HTot.out _ fun u => Nat.le_trans (bmp_take _ _ _ _) (Hhalf.out u)
            have hbk : bmp t1 ((w.drop p).take j) d ≤ 60 := Nat.le_trans (Nat.le_trans (bmp_take _ _ _ _) (Hhalf.out d)) (HRow.out d)
            have Hb1 := Lib.hid hb1
            clear hwq hd hb1 hdr hD1 hD2
            generalize hB1 : bmp t1 ((w.drop p).take j) = B1 at *
            generalize hT1 : tot B1 n = T1 at *
            generalize hV1 : B1 d = V1 at *
            have Hwf := Lib.hid (WalkArith.wf_i64 (show -9223372036854775808 ≤ ((V1 : Int) + 1) ∧ ((V1 : Int) + 1) ≤ 9223372036854775807 by omega))
            go_wp2_with (at_mapUpdate; go_loud (refine wpList_mapUpdate_own _ rfl _ _ _ 79 rfl 3 3 lawI Try.underlying79 _ bt T1 _ rfl Hown.out (by unfold maxLen; omega) _ _ _ rfl rfl Hkey.out _ [] (plainElem_int Try.underlying3 Hwf.out) ?_); intro w5 hown5 hgrow5; have HN := Lib.hid (HBm.out _ hown5 hgrow5); clear hown5 hgrow5)
            go_roundw
            case rel => exact ⟨j + 1, by omega, by go_num, by rw [Hb1.out]; exact HN.out⟩
            case measure => simp [intOf]; omega
          · obtain rfl : j = q := by omega
            have hfull : (w.drop p).take j = w.drop p := List.take_of_length_le (by rw [List.length_drop]; omega)
            rw [hfull] at Hwq hwq
            have hw0 := hwq.cut (show p ≤ w.length by omega)
            clear hwq Hwq hfull
            generalize hT2 : bmp t1 (w.drop p) = t2 at *
            generalize hW2 : w.take p = w2 at *
            have hpw2 : p = w2.length := by rw [← hW2, List.length_take]; omega
            clear hT2 hW2
            subst hpw2
            have Hw := Lib.hid hw0
            obtain ⟨⟨p0, p1, p2, p3, p4, p5⟩, -⟩ := pop6_cells hw0.1.1.1
            have hlk := top_at hw0.1.1.2.2 (show -9223372036854775808 ≤ (kc : Int) ∧ (kc : Int) ≤ 9223372036854775807 by omega)
            obtain ⟨Ai, ci, e2, r2⟩ := mx_rows (HMx.out _ hw0.2.1.1) HA.out hkl
            have hle := Hhalf.out kc
            have hsz := hw0.2.1.1.2.1
            clear hw0
            by_cases hlt : t2 kc < (rwA ls kc).length
            · obtain ⟨hnx, hmm⟩ := HStep.out hlt
              have Hnx := Lib.hid hnx
              have Hmm := Lib.hid hmm
              obtain ⟨g1, g2, g3, g4, g5⟩ := HTop.out hlt
              have HRn := Lib.hid (HRnext.out hlt)
              have HNb := Lib.hid (fun X => HNbr.out kc (awZ ls t2 kc) X)
              have h60 := HRow.out kc
              have hx1 : (0 : Int) ≤ ((t2 kc : Nat) : Int) := Int.natCast_nonneg _
              have hx2 : ((t2 kc : Nat) : Int) < ((rwA ls kc).length : Int) := by omega
              have hx3 : (((t2 kc : Nat) : Int) == ((rwA ls kc).length : Int)) = false := beq_eq_false_iff_ne.2 (by omega)
              have Hg1 := Lib.hid g1
              clear hlt hnx hmm g1 g2 g3 g4 g5 r2 HRnext HStep HTop HRnone HNbr HRow hle
              generalize hd : awZ ls t2 kc = d at *
              generalize hnv : nxZ x y ls t2 kc = nv at *
              have hnb : nbZ x y kc d = nv := by rw [← hd, ← hnv]; rfl
              rw [hnb] at HNb
              clear hnb hd hnv
              generalize hln : (rwA ls kc).length = ln at *
              generalize hts : t2 kc = tk at *
              have Hln := Lib.hid hln
              clear hts hln
              go_wp2_with (at_builtin; refine wpList_append_lies _ rfl (.tmp 58) (.tmp 60) 32 rfl (W.heap.size) 3 i0 _ 1 8 Try.underlying32 hi0 hz0 hz1 hz2 rfl (by omega) _ (w2.length) _ rfl (Hw.out.2.2.alloc _) ⟨wr.heap.size, 0, none⟩ 1 1 (icells [(kc : Int)]) rfl rfl (news_eqI rfl (heap_alloc_new wr _)) (oneCellI _) (by omega) (by unfold maxLen; omega) (by omega) (by simp; omega) (wr.heap.size + 1) (by simp) ?_; intro gg cap w3 hown' hgrow hat hlt2; clear hlt2; have HAt := Lib.hid hat; clear hat)
              have Hw4 := Lib.hid (Hw.out.app hown' hgrow)
              clear hown' hgrow HAt Hw hsz p0 p1 p2 p3 p4 p5 e2 hlk
              generalize w2.length + 1 = w2l at *
              obtain ⟨⟨p0, p1, p2, p3, p4, p5⟩, -⟩ := pop6_cells Hw4.out.1.1.1
              obtain ⟨Ai', ci', e2, r2⟩ := mx_rows (HMx.out _ Hw4.out.2.1.1) HA.out hkl
              rw [Hln.out] at e2
              obtain ⟨ai', rfl, hai', e3⟩ := ints_cell r2 Hg1.out
              clear r2
              try simp only [List.cons_append, List.nil_append, List.append_eq]
              refine wp_region_held_drew (S := (fun w' => w'.cell? ⟨P, 0, none⟩ = some (.int .i64 x) ∧ w'.cell? ⟨P, 1, none⟩ = some (.int .i64 y) ∧ w'.cell? ⟨P, 4, none⟩ = some (.slice (some ad) n c) ∧ w'.cell? (ad.add kc) = some (.slice (some ai') ln ci') ∧ w'.cell? (ai'.add tk) = some (.int .i64 d))) (by kernel_rfl) ?_ (fun hHeld0 => ?_)
              · (try dsimp only); go_keep
              refine wpAnyH_take (i := 0) (oi := { dst := some 62, op := Go.Op.move (Go.Operand.tmp 0), type := 114, pos := "l15_stack.go:49", after := #[], guard := none }) (v := ?_) rfl (by kernel_rfl) (by kernel_rfl) (by kernel_rfl) (fun _ _ _ h => h) (Or.inl ⟨by rfl, ?_⟩) (by assumption) ?_
              rotate_left
              · (intro w hSw; (try dsimp only at hSw); go_simp; try with_reducible rfl)
              try simp only [Act.put, List.setIfInBounds_toArray, List.set_cons_zero, List.set_cons_succ]
              refine wpAnyH_take (i := 1) (oi := { dst := some 63, op := Go.Op.nilCheck (Go.Operand.tmp 62), type := 0, pos := "l15_stack.go:49", after := #[{ on := 0, ground := Go.Ground.data }], guard := none }) (v := ?_) rfl (by kernel_rfl) (by kernel_rfl) (by kernel_rfl) (fun _ _ _ h => h) (Or.inl ⟨by rfl, ?_⟩) (by assumption) ?_
              rotate_left
              · (intro w hSw; (try dsimp only at hSw); go_simp; try with_reducible rfl)
              try simp only [Act.put, List.setIfInBounds_toArray, List.set_cons_zero, List.set_cons_succ]
              refine wpAnyH_take (i := 2) (oi := { dst := some 64, op := Go.Op.fieldAddr 81 (Go.Operand.tmp 63) 0, type := 0, pos := "l15_stack.go:49", after := #[{ on := 1, ground := Go.Ground.data }], guard := none }) (v := ?_) rfl (by kernel_rfl) (by kernel_rfl) (by kernel_rfl) (fun _ _ _ h => h) (Or.inl ⟨by rfl, ?_⟩) (by assumption) ?_
              rotate_left
              · (intro w hSw; (try dsimp only at hSw); go_simp; try with_reducible rfl)
              try simp only [Act.put, List.setIfInBounds_toArray, List.set_cons_zero, List.set_cons_succ]
              refine wpAnyH_take (i := 3) (oi := { dst := some 65, op := Go.Op.fieldAddr 27 (Go.Operand.tmp 64) 0, type := 0, pos := "l15_stack.go:49", after := #[{ on := 2, ground := Go.Ground.data }], guard := none }) (v := ?_) rfl (by kernel_rfl) (by kernel_rfl) (by kernel_rfl) (fun _ _ _ h => h) (Or.inl ⟨by rfl, ?_⟩) (by assumption) ?_
              rotate_left
              · (intro w hSw; (try dsimp only at hSw); go_simp; try with_reducible rfl)
              try simp only [Act.put, List.setIfInBounds_toArray, List.set_cons_zero, List.set_cons_succ]
              refine wpAnyH_take (i := 4) (oi := { dst := some 66, op := Go.Op.load 25 (Go.Operand.tmp 65), type := 25, pos := "l15_stack.go:49", after := #[{ on := 3, ground := Go.Ground.data }], guard := none }) (v := ?_) rfl (by kernel_rfl) (by kernel_rfl) (by kernel_rfl) (fun _ _ _ h => h) (Or.inl ⟨by rfl, ?_⟩) (by assumption) ?_
              rotate_left
              · (intro w hSw; (try dsimp only at hSw); go_simp; try with_reducible rfl)
              try simp only [Act.put, List.setIfInBounds_toArray, List.set_cons_zero, List.set_cons_succ]
              refine wpAnyH_take (i := 5) (oi := { dst := some 67, op := Go.Op.move (Go.Operand.tmp 1), type := 3, pos := "l15_stack.go:49", after := #[], guard := none }) (v := ?_) rfl (by kernel_rfl) (by kernel_rfl) (by kernel_rfl) (fun _ _ _ h => h) (Or.inl ⟨by rfl, ?_⟩) (by assumption) ?_
              rotate_left
              · (intro w hSw; (try dsimp only at hSw); go_simp; try with_reducible rfl)
              try simp only [Act.put, List.setIfInBounds_toArray, List.set_cons_zero, List.set_cons_succ]
              refine wpAnyH_take (i := 6) (oi := { dst := some 68, op := Go.Op.move (Go.Operand.tmp 0), type := 114, pos := "l15_stack.go:49", after := #[], guard := none }) (v := ?_) rfl (by kernel_rfl) (by kernel_rfl) (by kernel_rfl) (fun _ _ _ h => h) (Or.inl ⟨by rfl, ?_⟩) (by assumption) ?_
              rotate_left
              · (intro w hSw; (try dsimp only at hSw); go_simp; try with_reducible rfl)
              try simp only [Act.put, List.setIfInBounds_toArray, List.set_cons_zero, List.set_cons_succ]
              refine wpAnyH_take (i := 7) (oi := { dst := some 69, op := Go.Op.nilCheck (Go.Operand.tmp 68), type := 0, pos := "l15_stack.go:49", after := #[{ on := 6, ground := Go.Ground.data }], guard := none }) (v := ?_) rfl (by kernel_rfl) (by kernel_rfl) (by kernel_rfl) (fun _ _ _ h => h) (Or.inl ⟨by rfl, ?_⟩) (by assumption) ?_
              rotate_left
              · (intro w hSw; (try dsimp only at hSw); go_simp; try with_reducible rfl)
              try simp only [Act.put, List.setIfInBounds_toArray, List.set_cons_zero, List.set_cons_succ]
              refine wpAnyH_take (i := 8) (oi := { dst := some 70, op := Go.Op.fieldAddr 81 (Go.Operand.tmp 69) 2, type := 0, pos := "l15_stack.go:49", after := #[{ on := 7, ground := Go.Ground.data }], guard := none }) (v := ?_) rfl (by kernel_rfl) (by kernel_rfl) (by kernel_rfl) (fun _ _ _ h => h) (Or.inl ⟨by rfl, ?_⟩) (by assumption) ?_
              rotate_left
              · (intro w hSw; (try dsimp only at hSw); go_simp; try with_reducible rfl)
              try simp only [Act.put, List.setIfInBounds_toArray, List.set_cons_zero, List.set_cons_succ]
              refine wpAnyH_take (i := 9) (oi := { dst := some 71, op := Go.Op.load 37 (Go.Operand.tmp 70), type := 37, pos := "l15_stack.go:49", after := #[{ on := 8, ground := Go.Ground.data }], guard := none }) (v := ?_) rfl (by kernel_rfl) (by kernel_rfl) (by kernel_rfl) (fun _ _ _ h => h) (Or.inl ⟨by rfl, ?_⟩) (by assumption) ?_
              rotate_left
              · (intro w hSw; (try dsimp only at hSw); go_simp; try with_reducible rfl)
              try simp only [Act.put, List.setIfInBounds_toArray, List.set_cons_zero, List.set_cons_succ]
              refine wpAnyH_take (i := 10) (oi := { dst := some 72, op := Go.Op.move (Go.Operand.tmp 1), type := 3, pos := "l15_stack.go:49", after := #[], guard := none }) (v := ?_) rfl (by kernel_rfl) (by kernel_rfl) (by kernel_rfl) (fun _ _ _ h => h) (Or.inl ⟨by rfl, ?_⟩) (by assumption) ?_
              rotate_left
              · (intro w hSw; (try dsimp only at hSw); go_simp; try with_reducible rfl)
              try simp only [Act.put, List.setIfInBounds_toArray, List.set_cons_zero, List.set_cons_succ]
              refine wpAnyH_take (i := 11) (oi := { dst := some 73, op := Go.Op.indexAddr 37 (Go.Operand.tmp 71) (Go.Operand.tmp 72), type := 0, pos := "l15_stack.go:49", after := #[{ on := 9, ground := Go.Ground.data }, { on := 10, ground := Go.Ground.data }], guard := none }) (v := ?_) rfl (by kernel_rfl) (by kernel_rfl) (by kernel_rfl) (fun _ _ _ h => h) (Or.inl ⟨by rfl, ?_⟩) (by assumption) ?_
              rotate_left
              · (intro w hSw; (try dsimp only at hSw); go_simp; try with_reducible rfl)
              try simp only [Act.put, List.setIfInBounds_toArray, List.set_cons_zero, List.set_cons_succ]
              refine wpAnyH_take (i := 12) (oi := { dst := some 74, op := Go.Op.load 32 (Go.Operand.tmp 73), type := 32, pos := "l15_stack.go:49", after := #[{ on := 11, ground := Go.Ground.data }], guard := none }) (v := ?_) rfl (by kernel_rfl) (by kernel_rfl) (by kernel_rfl) (fun _ _ _ h => h) (Or.inl ⟨by rfl, ?_⟩) (by assumption) ?_
              rotate_left
              · (intro w hSw; (try dsimp only at hSw); go_simp; try with_reducible rfl)
              try simp only [Act.put, List.setIfInBounds_toArray, List.set_cons_zero, List.set_cons_succ]
              refine wpAnyH_take (i := 13) (oi := { dst := some 75, op := Go.Op.move (Go.Operand.tmp 10), type := 3, pos := "l15_stack.go:49", after := #[], guard := none }) (v := ?_) rfl (by kernel_rfl) (by kernel_rfl) (by kernel_rfl) (fun _ _ _ h => h) (Or.inl ⟨by rfl, ?_⟩) (by assumption) ?_
              rotate_left
              · (intro w hSw; (try dsimp only at hSw); go_simp; try with_reducible rfl)
              try simp only [Act.put, List.setIfInBounds_toArray, List.set_cons_zero, List.set_cons_succ]
              refine wpAnyH_take (i := 14) (oi := { dst := some 76, op := Go.Op.indexAddr 32 (Go.Operand.tmp 74) (Go.Operand.tmp 75), type := 0, pos := "l15_stack.go:49", after := #[{ on := 12, ground := Go.Ground.data }, { on := 13, ground := Go.Ground.data }], guard := none }) (v := ?_) rfl (by kernel_rfl) (by kernel_rfl) (by kernel_rfl) (fun _ _ _ h => h) (Or.inl ⟨by rfl, ?_⟩) (by assumption) ?_
              rotate_left
              · (intro w hSw; (try dsimp only at hSw); go_simp; try with_reducible rfl)
              try simp only [Act.put, List.setIfInBounds_toArray, List.set_cons_zero, List.set_cons_succ]
              refine wpAnyH_take (i := 15) (oi := { dst := some 77, op := Go.Op.load 3 (Go.Operand.tmp 76), type := 3, pos := "l15_stack.go:49", after := #[{ on := 14, ground := Go.Ground.data }], guard := none }) (v := ?_) rfl (by kernel_rfl) (by kernel_rfl) (by kernel_rfl) (fun _ _ _ h => h) (Or.inl ⟨by rfl, ?_⟩) (by assumption) ?_
              rotate_left
              · (intro w hSw; (try dsimp only at hSw); go_simp; try with_reducible rfl)
              try simp only [Act.put, List.setIfInBounds_toArray, List.set_cons_zero, List.set_cons_succ]
              refine wpAnyH_ready (rs := [16]) (by kernel_rfl) (by simp) ?_
              refine AllReadyH.cons (o := { dst := some 78, op := Go.Op.call { callee := Go.Callee.value (Go.Operand.func 63), args := #[Go.Operand.tmp 66, Go.Operand.tmp 67, Go.Operand.tmp 77], argTypes := #[25, 3, 3] }, type := 3, pos := "l15_stack.go:49", after := #[{ on := 4, ground := Go.Ground.data }, { on := 5, ground := Go.Ground.data }, { on := 15, ground := Go.Ground.data }], guard := none }) rfl (fun K16 hK16 => ?_) AllReadyH.nil
              go_simp
              (refine (HNb.out _).mono ?_; rintro e v1 ⟨rfl, hb1⟩; have Hw5 := Lib.hid (Hw4.out.dr.call hb1); have k0 := cell_keep hb1 p0; have k1 := cell_keep hb1 p1; have k4 := cell_keep hb1 p4; have k2 := cell_keep hb1 e2; have k3 := cell_keep hb1 e3; clear hb1)
              go_wp2_with fail
              refine hK16.out _ _ ?_ (fun hHeld1 => ?_)
              · (try dsimp only); go_keep
              clear hK16 K16 hHeld0
              try simp only [Act.put, List.setIfInBounds_toArray, List.set_cons_zero, List.set_cons_succ]
              refine wpAnyH_take (i := 17) (oi := { dst := some 1, op := Go.Op.assign (Go.Operand.tmp 78), type := 3, pos := "l15_stack.go:49", after := #[{ on := 16, ground := Go.Ground.data }, { on := 16, ground := Go.Ground.chain }, { on := 0, ground := Go.Ground.phase }, { on := 1, ground := Go.Ground.phase }, { on := 2, ground := Go.Ground.phase }, { on := 3, ground := Go.Ground.phase }, { on := 4, ground := Go.Ground.phase }, { on := 5, ground := Go.Ground.phase }, { on := 6, ground := Go.Ground.phase }, { on := 7, ground := Go.Ground.phase }, { on := 8, ground := Go.Ground.phase }, { on := 9, ground := Go.Ground.phase }, { on := 10, ground := Go.Ground.phase }, { on := 11, ground := Go.Ground.phase }, { on := 12, ground := Go.Ground.phase }, { on := 13, ground := Go.Ground.phase }, { on := 14, ground := Go.Ground.phase }, { on := 15, ground := Go.Ground.phase }, { on := 16, ground := Go.Ground.phase }], guard := none }) (v := ?_) rfl (by kernel_rfl) (by kernel_rfl) (by kernel_rfl) (fun _ _ _ h => h) (Or.inl ⟨by rfl, ?_⟩) (by assumption) ?_
              rotate_left
              · (intro w hSw; (try dsimp only at hSw); go_simp; try with_reducible rfl)
              try simp only [Act.put, List.setIfInBounds_toArray, List.set_cons_zero, List.set_cons_succ]
              refine wpAnyH_done (by kernel_rfl) ?_ _
              go_wp2_with fail
              go_roundg f
              case measure => omega
              case rel => exact ⟨w2 ++ [(kc : Int)], nv, t2, rfl, HRn.out, by have h1 := Hmm.out; have h2 := Hms.out; omega, Hnx.out, Hw5.out⟩
            · have HRn := Lib.hid (HRnone.out hlt)
              have hx3 : (((t2 kc : Nat) : Int) == ((rwA ls kc).length : Int)) = true := beq_iff_eq.2 (by omega)
              have hx4 : ((t2 kc : Nat) : Int) = ((rwA ls kc).length : Int) := by omega
              have HX4 := Lib.hid hx4
              clear hlt r2 HRnext HStep HTop HRnone HNbr HRow hle hx4
              generalize (rwA ls kc).length = ln at *
              generalize hts : t2 kc = tk at *
              clear hts
              go_wp2_with fail
              go_ret2
              exact HKn.out _ HRn.out Hw.out.2.1.1
      · have htk : w.take (ixN w kc) = w := by rw [ix_none hm, List.take_length]
        have hbk : bmp t1 (w.drop (ixN w kc)) = t1 := by rw [ix_none hm, List.drop_length, bmp_nil]
        rw [show ixZ w kc = -1 from if_neg hm] at HIx
        simp only [htk, hbk] at HStep HTop HRnext HRnone Hhalf
        have hw0 := Hwq3.out
        clear hm htk hbk Hwq3
        go_wp2_with fail
        refine HIx.out.mono ?_
        rintro e w4 ⟨rfl, rfl⟩
        clear HIx
        have Hw := Lib.hid hw0
        obtain ⟨⟨p0, p1, p2, p3, p4, p5⟩, -⟩ := pop6_cells hw0.1.1.1
        have hlk := top_at hw0.1.1.2.2 (show -9223372036854775808 ≤ (kc : Int) ∧ (kc : Int) ≤ 9223372036854775807 by omega)
        obtain ⟨Ai, ci, e2, r2⟩ := mx_rows (HMx.out _ hw0.2.1.1) HA.out hkl
        have hle := Hhalf.out kc
        have hsz := hw0.2.1.1.2.1
        clear hw0
        by_cases hlt : t1 kc < (rwA ls kc).length
        · obtain ⟨hnx, hmm⟩ := HStep.out hlt
          have Hnx := Lib.hid hnx
          have Hmm := Lib.hid hmm
          obtain ⟨g1, g2, g3, g4, g5⟩ := HTop.out hlt
          have HRn := Lib.hid (HRnext.out hlt)
          have HNb := Lib.hid (fun X => HNbr.out kc (awZ ls t1 kc) X)
          have h60 := HRow.out kc
          have hx1 : (0 : Int) ≤ ((t1 kc : Nat) : Int) := Int.natCast_nonneg _
          have hx2 : ((t1 kc : Nat) : Int) < ((rwA ls kc).length : Int) := by omega
          have hx3 : (((t1 kc : Nat) : Int) == ((rwA ls kc).length : Int)) = false := beq_eq_false_iff_ne.2 (by omega)
          have Hg1 := Lib.hid g1
          clear hlt hnx hmm g1 g2 g3 g4 g5 r2 HRnext HStep HTop HRnone HNbr HRow hle
          generalize hd : awZ ls t1 kc = d at *
          generalize hnv : nxZ x y ls t1 kc = nv at *
          have hnb : nbZ x y kc d = nv := by rw [← hd, ← hnv]; rfl
          rw [hnb] at HNb
          clear hnb hd hnv
          generalize hln : (rwA ls kc).length = ln at *
          generalize hts : t1 kc = tk at *
          have Hln := Lib.hid hln
          clear hts hln
          go_wp2_with (at_builtin; refine wpList_append_lies _ rfl (.tmp 58) (.tmp 60) 32 rfl (W.heap.size) 3 i0 _ 1 8 Try.underlying32 hi0 hz0 hz1 hz2 rfl (by omega) _ (w.length) _ rfl (Hw.out.2.2.alloc _) ⟨w3.heap.size, 0, none⟩ 1 1 (icells [(kc : Int)]) rfl rfl (news_eqI rfl (heap_alloc_new w3 _)) (oneCellI _) (by omega) (by unfold maxLen; omega) (by omega) (by simp; omega) (w3.heap.size + 1) (by simp) ?_; intro gg cap w3 hown' hgrow hat hlt2; clear hlt2; have HAt := Lib.hid hat; clear hat)
          have Hw4 := Lib.hid (Hw.out.app hown' hgrow)
          clear hown' hgrow HAt Hw hsz p0 p1 p2 p3 p4 p5 e2 hlk
          generalize w.length + 1 = wl at *
          obtain ⟨⟨p0, p1, p2, p3, p4, p5⟩, -⟩ := pop6_cells Hw4.out.1.1.1
          obtain ⟨Ai', ci', e2, r2⟩ := mx_rows (HMx.out _ Hw4.out.2.1.1) HA.out hkl
          rw [Hln.out] at e2
          obtain ⟨ai', rfl, hai', e3⟩ := ints_cell r2 Hg1.out
          clear r2
          try simp only [List.cons_append, List.nil_append, List.append_eq]
          refine wp_region_held_drew (S := (fun w' => w'.cell? ⟨P, 0, none⟩ = some (.int .i64 x) ∧ w'.cell? ⟨P, 1, none⟩ = some (.int .i64 y) ∧ w'.cell? ⟨P, 4, none⟩ = some (.slice (some ad) n c) ∧ w'.cell? (ad.add kc) = some (.slice (some ai') ln ci') ∧ w'.cell? (ai'.add tk) = some (.int .i64 d))) (by kernel_rfl) ?_ (fun hHeld0 => ?_)
          · (try dsimp only); go_keep
          refine wpAnyH_take (i := 0) (oi := { dst := some 62, op := Go.Op.move (Go.Operand.tmp 0), type := 114, pos := "l15_stack.go:49", after := #[], guard := none }) (v := ?_) rfl (by kernel_rfl) (by kernel_rfl) (by kernel_rfl) (fun _ _ _ h => h) (Or.inl ⟨by rfl, ?_⟩) (by assumption) ?_
          rotate_left
          · (intro w hSw; (try dsimp only at hSw); go_simp; try with_reducible rfl)
          try simp only [Act.put, List.setIfInBounds_toArray, List.set_cons_zero, List.set_cons_succ]
          refine wpAnyH_take (i := 1) (oi := { dst := some 63, op := Go.Op.nilCheck (Go.Operand.tmp 62), type := 0, pos := "l15_stack.go:49", after := #[{ on := 0, ground := Go.Ground.data }], guard := none }) (v := ?_) rfl (by kernel_rfl) (by kernel_rfl) (by kernel_rfl) (fun _ _ _ h => h) (Or.inl ⟨by rfl, ?_⟩) (by assumption) ?_
          rotate_left
          · (intro w hSw; (try dsimp only at hSw); go_simp; try with_reducible rfl)
          try simp only [Act.put, List.setIfInBounds_toArray, List.set_cons_zero, List.set_cons_succ]
          refine wpAnyH_take (i := 2) (oi := { dst := some 64, op := Go.Op.fieldAddr 81 (Go.Operand.tmp 63) 0, type := 0, pos := "l15_stack.go:49", after := #[{ on := 1, ground := Go.Ground.data }], guard := none }) (v := ?_) rfl (by kernel_rfl) (by kernel_rfl) (by kernel_rfl) (fun _ _ _ h => h) (Or.inl ⟨by rfl, ?_⟩) (by assumption) ?_
          rotate_left
          · (intro w hSw; (try dsimp only at hSw); go_simp; try with_reducible rfl)
          try simp only [Act.put, List.setIfInBounds_toArray, List.set_cons_zero, List.set_cons_succ]
          refine wpAnyH_take (i := 3) (oi := { dst := some 65, op := Go.Op.fieldAddr 27 (Go.Operand.tmp 64) 0, type := 0, pos := "l15_stack.go:49", after := #[{ on := 2, ground := Go.Ground.data }], guard := none }) (v := ?_) rfl (by kernel_rfl) (by kernel_rfl) (by kernel_rfl) (fun _ _ _ h => h) (Or.inl ⟨by rfl, ?_⟩) (by assumption) ?_
          rotate_left
          · (intro w hSw; (try dsimp only at hSw); go_simp; try with_reducible rfl)
          try simp only [Act.put, List.setIfInBounds_toArray, List.set_cons_zero, List.set_cons_succ]
          refine wpAnyH_take (i := 4) (oi := { dst := some 66, op := Go.Op.load 25 (Go.Operand.tmp 65), type := 25, pos := "l15_stack.go:49", after := #[{ on := 3, ground := Go.Ground.data }], guard := none }) (v := ?_) rfl (by kernel_rfl) (by kernel_rfl) (by kernel_rfl) (fun _ _ _ h => h) (Or.inl ⟨by rfl, ?_⟩) (by assumption) ?_
          rotate_left
          · (intro w hSw; (try dsimp only at hSw); go_simp; try with_reducible rfl)
          try simp only [Act.put, List.setIfInBounds_toArray, List.set_cons_zero, List.set_cons_succ]
          refine wpAnyH_take (i := 5) (oi := { dst := some 67, op := Go.Op.move (Go.Operand.tmp 1), type := 3, pos := "l15_stack.go:49", after := #[], guard := none }) (v := ?_) rfl (by kernel_rfl) (by kernel_rfl) (by kernel_rfl) (fun _ _ _ h => h) (Or.inl ⟨by rfl, ?_⟩) (by assumption) ?_
          rotate_left
          · (intro w hSw; (try dsimp only at hSw); go_simp; try with_reducible rfl)
          try simp only [Act.put, List.setIfInBounds_toArray, List.set_cons_zero, List.set_cons_succ]
          refine wpAnyH_take (i := 6) (oi := { dst := some 68, op := Go.Op.move (Go.Operand.tmp 0), type := 114, pos := "l15_stack.go:49", after := #[], guard := none }) (v := ?_) rfl (by kernel_rfl) (by kernel_rfl) (by kernel_rfl) (fun _ _ _ h => h) (Or.inl ⟨by rfl, ?_⟩) (by assumption) ?_
          rotate_left
          · (intro w hSw; (try dsimp only at hSw); go_simp; try with_reducible rfl)
          try simp only [Act.put, List.setIfInBounds_toArray, List.set_cons_zero, List.set_cons_succ]
          refine wpAnyH_take (i := 7) (oi := { dst := some 69, op := Go.Op.nilCheck (Go.Operand.tmp 68), type := 0, pos := "l15_stack.go:49", after := #[{ on := 6, ground := Go.Ground.data }], guard := none }) (v := ?_) rfl (by kernel_rfl) (by kernel_rfl) (by kernel_rfl) (fun _ _ _ h => h) (Or.inl ⟨by rfl, ?_⟩) (by assumption) ?_
          rotate_left
          · (intro w hSw; (try dsimp only at hSw); go_simp; try with_reducible rfl)
          try simp only [Act.put, List.setIfInBounds_toArray, List.set_cons_zero, List.set_cons_succ]
          refine wpAnyH_take (i := 8) (oi := { dst := some 70, op := Go.Op.fieldAddr 81 (Go.Operand.tmp 69) 2, type := 0, pos := "l15_stack.go:49", after := #[{ on := 7, ground := Go.Ground.data }], guard := none }) (v := ?_) rfl (by kernel_rfl) (by kernel_rfl) (by kernel_rfl) (fun _ _ _ h => h) (Or.inl ⟨by rfl, ?_⟩) (by assumption) ?_
          rotate_left
          · (intro w hSw; (try dsimp only at hSw); go_simp; try with_reducible rfl)
          try simp only [Act.put, List.setIfInBounds_toArray, List.set_cons_zero, List.set_cons_succ]
          refine wpAnyH_take (i := 9) (oi := { dst := some 71, op := Go.Op.load 37 (Go.Operand.tmp 70), type := 37, pos := "l15_stack.go:49", after := #[{ on := 8, ground := Go.Ground.data }], guard := none }) (v := ?_) rfl (by kernel_rfl) (by kernel_rfl) (by kernel_rfl) (fun _ _ _ h => h) (Or.inl ⟨by rfl, ?_⟩) (by assumption) ?_
          rotate_left
          · (intro w hSw; (try dsimp only at hSw); go_simp; try with_reducible rfl)
          try simp only [Act.put, List.setIfInBounds_toArray, List.set_cons_zero, List.set_cons_succ]
          refine wpAnyH_take (i := 10) (oi := { dst := some 72, op := Go.Op.move (Go.Operand.tmp 1), type := 3, pos := "l15_stack.go:49", after := #[], guard := none }) (v := ?_) rfl (by kernel_rfl) (by kernel_rfl) (by kernel_rfl) (fun _ _ _ h => h) (Or.inl ⟨by rfl, ?_⟩) (by assumption) ?_
          rotate_left
          · (intro w hSw; (try dsimp only at hSw); go_simp; try with_reducible rfl)
          try simp only [Act.put, List.setIfInBounds_toArray, List.set_cons_zero, List.set_cons_succ]
          refine wpAnyH_take (i := 11) (oi := { dst := some 73, op := Go.Op.indexAddr 37 (Go.Operand.tmp 71) (Go.Operand.tmp 72), type := 0, pos := "l15_stack.go:49", after := #[{ on := 9, ground := Go.Ground.data }, { on := 10, ground := Go.Ground.data }], guard := none }) (v := ?_) rfl (by kernel_rfl) (by kernel_rfl) (by kernel_rfl) (fun _ _ _ h => h) (Or.inl ⟨by rfl, ?_⟩) (by assumption) ?_
          rotate_left
          · (intro w hSw; (try dsimp only at hSw); go_simp; try with_reducible rfl)
          try simp only [Act.put, List.setIfInBounds_toArray, List.set_cons_zero, List.set_cons_succ]
          refine wpAnyH_take (i := 12) (oi := { dst := some 74, op := Go.Op.load 32 (Go.Operand.tmp 73), type := 32, pos := "l15_stack.go:49", after := #[{ on := 11, ground := Go.Ground.data }], guard := none }) (v := ?_) rfl (by kernel_rfl) (by kernel_rfl) (by kernel_rfl) (fun _ _ _ h => h) (Or.inl ⟨by rfl, ?_⟩) (by assumption) ?_
          rotate_left
          · (intro w hSw; (try dsimp only at hSw); go_simp; try with_reducible rfl)
          try simp only [Act.put, List.setIfInBounds_toArray, List.set_cons_zero, List.set_cons_succ]
          refine wpAnyH_take (i := 13) (oi := { dst := some 75, op := Go.Op.move (Go.Operand.tmp 10), type := 3, pos := "l15_stack.go:49", after := #[], guard := none }) (v := ?_) rfl (by kernel_rfl) (by kernel_rfl) (by kernel_rfl) (fun _ _ _ h => h) (Or.inl ⟨by rfl, ?_⟩) (by assumption) ?_
          rotate_left
          · (intro w hSw; (try dsimp only at hSw); go_simp; try with_reducible rfl)
          try simp only [Act.put, List.setIfInBounds_toArray, List.set_cons_zero, List.set_cons_succ]
          refine wpAnyH_take (i := 14) (oi := { dst := some 76, op := Go.Op.indexAddr 32 (Go.Operand.tmp 74) (Go.Operand.tmp 75), type := 0, pos := "l15_stack.go:49", after := #[{ on := 12, ground := Go.Ground.data }, { on := 13, ground := Go.Ground.data }], guard := none }) (v := ?_) rfl (by kernel_rfl) (by kernel_rfl) (by kernel_rfl) (fun _ _ _ h => h) (Or.inl ⟨by rfl, ?_⟩) (by assumption) ?_
          rotate_left
          · (intro w hSw; (try dsimp only at hSw); go_simp; try with_reducible rfl)
          try simp only [Act.put, List.setIfInBounds_toArray, List.set_cons_zero, List.set_cons_succ]
          refine wpAnyH_take (i := 15) (oi := { dst := some 77, op := Go.Op.load 3 (Go.Operand.tmp 76), type := 3, pos := "l15_stack.go:49", after := #[{ on := 14, ground := Go.Ground.data }], guard := none }) (v := ?_) rfl (by kernel_rfl) (by kernel_rfl) (by kernel_rfl) (fun _ _ _ h => h) (Or.inl ⟨by rfl, ?_⟩) (by assumption) ?_
          rotate_left
          · (intro w hSw; (try dsimp only at hSw); go_simp; try with_reducible rfl)
          try simp only [Act.put, List.setIfInBounds_toArray, List.set_cons_zero, List.set_cons_succ]
          refine wpAnyH_ready (rs := [16]) (by kernel_rfl) (by simp) ?_
          refine AllReadyH.cons (o := { dst := some 78, op := Go.Op.call { callee := Go.Callee.value (Go.Operand.func 63), args := #[Go.Operand.tmp 66, Go.Operand.tmp 67, Go.Operand.tmp 77], argTypes := #[25, 3, 3] }, type := 3, pos := "l15_stack.go:49", after := #[{ on := 4, ground := Go.Ground.data }, { on := 5, ground := Go.Ground.data }, { on := 15, ground := Go.Ground.data }], guard := none }) rfl (fun K16 hK16 => ?_) AllReadyH.nil
          go_simp
          (refine (HNb.out _).mono ?_; rintro e v1 ⟨rfl, hb1⟩; have Hw5 := Lib.hid (Hw4.out.dr.call hb1); have k0 := cell_keep hb1 p0; have k1 := cell_keep hb1 p1; have k4 := cell_keep hb1 p4; have k2 := cell_keep hb1 e2; have k3 := cell_keep hb1 e3; clear hb1)
          go_wp2_with fail
          refine hK16.out _ _ ?_ (fun hHeld1 => ?_)
          · (try dsimp only); go_keep
          clear hK16 K16 hHeld0
          try simp only [Act.put, List.setIfInBounds_toArray, List.set_cons_zero, List.set_cons_succ]
          refine wpAnyH_take (i := 17) (oi := { dst := some 1, op := Go.Op.assign (Go.Operand.tmp 78), type := 3, pos := "l15_stack.go:49", after := #[{ on := 16, ground := Go.Ground.data }, { on := 16, ground := Go.Ground.chain }, { on := 0, ground := Go.Ground.phase }, { on := 1, ground := Go.Ground.phase }, { on := 2, ground := Go.Ground.phase }, { on := 3, ground := Go.Ground.phase }, { on := 4, ground := Go.Ground.phase }, { on := 5, ground := Go.Ground.phase }, { on := 6, ground := Go.Ground.phase }, { on := 7, ground := Go.Ground.phase }, { on := 8, ground := Go.Ground.phase }, { on := 9, ground := Go.Ground.phase }, { on := 10, ground := Go.Ground.phase }, { on := 11, ground := Go.Ground.phase }, { on := 12, ground := Go.Ground.phase }, { on := 13, ground := Go.Ground.phase }, { on := 14, ground := Go.Ground.phase }, { on := 15, ground := Go.Ground.phase }, { on := 16, ground := Go.Ground.phase }], guard := none }) (v := ?_) rfl (by kernel_rfl) (by kernel_rfl) (by kernel_rfl) (fun _ _ _ h => h) (Or.inl ⟨by rfl, ?_⟩) (by assumption) ?_
          rotate_left
          · (intro w hSw; (try dsimp only at hSw); go_simp; try with_reducible rfl)
          try simp only [Act.put, List.setIfInBounds_toArray, List.set_cons_zero, List.set_cons_succ]
          refine wpAnyH_done (by kernel_rfl) ?_ _
          go_wp2_with fail
          go_roundg f
          case measure => omega
          case rel => exact ⟨w ++ [(kc : Int)], nv, t1, rfl, HRn.out, by have h1 := Hmm.out; have h2 := Hms.out; omega, Hnx.out, Hw5.out⟩
        · have HRn := Lib.hid (HRnone.out hlt)
          have hx3 : (((t1 kc : Nat) : Int) == ((rwA ls kc).length : Int)) = true := beq_iff_eq.2 (by omega)
          have hx4 : ((t1 kc : Nat) : Int) = ((rwA ls kc).length : Int) := by omega
          have HX4 := Lib.hid hx4
          clear hlt r2 HRnext HStep HTop HRnone HNbr HRow hle hx4
          generalize (rwA ls kc).length = ln at *
          generalize hts : t1 kc = tk at *
          clear hts
          go_wp2_with fail
          go_ret2
          exact HKn.out _ HRn.out Hw.out.2.1.1
end Go.Proofs.Ytcoikcnijaniaaa.popI
