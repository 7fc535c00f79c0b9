/- The contracts of the program's last exits and of its time. -/
import Derived.Test.YtgocbnnhhpmndaaEntI2
namespace Go.Proofs.Ytgocbnnhhpmndaa.entI
open Go.ChangeShapes Go.WideShapes Go.ChangeAt Go.RowKit
open draw gridP gridC gridE bitP mazeP mazeC mazeM mazeR mazeI intsP reachP reachM reachN reachD intA listK perfP perfI wayP wayI ersP ersO entP entO entQ
set_option linter.unusedVariables false

set_option maxRecDepth 100000 in
set_option maxHeartbeats 4000000 in
theorem lastExit_any (x y a : Int) (A : Option Addr) (n c : Nat) (w : List Int) (W : World) (hn : w.length = n) (hm : n ≤ 1048576) (hi : IntsIn W W.heap.size A w) :
    Calls Try.prog 14 #[.agg #[.int .i64 x, .int .i64 y], .int .i64 a, .slice A n c] W (MzB (feX x y a w) (feY x y a w) (leZ x y a w) (leB x y a w) W) := by
  have HF := Lib.hid (fun X => fullMaze_any x y X)
  have HWk : Hid (∀ X, IntsIn X X.heap.size A w → Calls Try.prog 43 #[.agg #[.int .i64 (fmX x y), .int .i64 (fmY x y), .int .i64 (fmO x y)], .int .i64 a, .slice A n c] X (NmB (twZ x y a w) (twB x y a w) X)) := Lib.hid (fun X h => walkWay_any (fmX x y) (fmY x y) (fmO x y) a A n c w X hn hm h)
  have HRv := Lib.hid (fun X h => reverseWay_any A n c w X hn hm h)
  have HW := Lib.hid (fun T1 T2 => @gw_new W x y A w hi T1 T2)
  have HFe : Hid (twB x y a w = true → ∀ A3 c3 X, IntsIn X X.heap.size A3 (rwL w) → Calls Try.prog 10 #[.agg #[.int .i64 x, .int .i64 y], .int .i64 (twZ x y a w), .slice A3 (rwL w).length c3] X (MzB (feX x y a w) (feY x y a w) (leZ x y a w) (leB x y a w) X)) := Lib.hid (fun h A3 c3 X hX => by
    obtain ⟨l1, l2, l3, l4⟩ := le_fe h
    have hrw := (tw_back h).2.2.2.1
    rw [l1, l2, l3, l4, hrw]
    rw [hrw] at hX
    exact firstEntry_any x y (twZ x y a w) A3 (rvL w).length c3 (rvL w) X rfl (by rw [rv_len]; omega) hX)
  clear hi hn
  generalize fmX x y = fx at *
  generalize fmY x y = fy at *
  generalize fmO x y = fo at *
  generalize twZ x y a w = zz at *
  go_enter Try.func14, Try.ntmps14
  go_wp2_with fail
  have hgw0 := Lib.hid (HW.out 25 30)
  refine (HF.out _).mono ?_
  rintro e w1 ⟨rfl, hb⟩
  have hgw1 := Lib.hid (hgw0.out.call hb)
  clear hb HW hgw0 HF
  cases htw : twB x y a w with
  | false =>
    have HE : Hid (MzB 0 0 0 false = MzB (feX x y a w) (feY x y a w) (leZ x y a w) (leB x y a w)) := Lib.hid (by unfold feX feY leZ leB; rw [htw]; rfl)
    rw [htw] at HWk
    clear HFe htw
    go_wp2_with fail
    refine (HWk.out _ (hgw1.out.2.2.2.more hgw1.out.1.size)).mono ?_
    rintro e w2 ⟨rfl, hb⟩
    have hgw2 := Lib.hid (hgw1.out.call hb)
    clear hb hgw1 HWk
    obtain ⟨⟨e0, e1, e2⟩, f0, f1, f2⟩ := row3_cells hgw2.out.2.2.1
    go_wp2_with fail
    refine bodyPost_ret (v := .tuple #[.agg #[.int .i64 0, .int .i64 0, .int .i64 0], .bool false]) (by simp [results, Try.results14, go_sem, e0, e1, e2]) rfl ?_
    rw [← HE.out]
    exact ⟨rfl, hgw2.out.ending _ _ _⟩
  | true =>
    have HFe1 := Lib.hid (HFe.out htw)
    rw [htw] at HWk
    clear HFe htw
    generalize feX x y a w = rx at *
    generalize feY x y a w = ry at *
    generalize leZ x y a w = rz at *
    generalize leB x y a w = rb at *
    go_wp2_with fail
    refine (HWk.out _ (hgw1.out.2.2.2.more hgw1.out.1.size)).mono ?_
    rintro e w2 ⟨rfl, hb⟩
    have hgw2 := Lib.hid (hgw1.out.call hb)
    clear hb hgw1 HWk
    obtain ⟨⟨b0, b1⟩, -⟩ := hgw2.out.2.1
    go_wp2_with fail
    try simp only [List.cons_append, List.nil_append, List.append_eq]
    refine wp_region_held_drew (S := (fun w' => w'.cell? ⟨W.heap.size, 0, none⟩ = some (.int .i64 x) ∧ w'.cell? ⟨W.heap.size, 1, none⟩ = some (.int .i64 y))) (by kernel_rfl) ?_ (fun hHeld0 => ?_)
    · (try dsimp only); go_keep
    refine wpAnyH_take (i := 0) (oi := { dst := some 21, op := Go.Op.load 25 (Go.Operand.tmp 3), type := 25, pos := "l16_entry.go:38", after := #[], guard := none }) (v := ?_) rfl (by kernel_rfl) (by kernel_rfl) (by kernel_rfl) (fun _ _ _ h => h) (Or.inl ⟨by rfl, ?_⟩) (by assumption) ?_
    rotate_left
    · (intro w hSw; (try dsimp only at hSw); go_simp; try with_reducible rfl)
    try simp only [Act.put, List.setIfInBounds_toArray, List.set_cons_zero, List.set_cons_succ]
    refine wpAnyH_take (i := 1) (oi := { dst := some 22, op := Go.Op.move (Go.Operand.tmp 8), type := 3, pos := "l16_entry.go:38", after := #[], guard := none }) (v := ?_) rfl (by kernel_rfl) (by kernel_rfl) (by kernel_rfl) (fun _ _ _ h => h) (Or.inl ⟨by rfl, ?_⟩) (by assumption) ?_
    rotate_left
    · (intro w hSw; (try dsimp only at hSw); go_simp; try with_reducible rfl)
    try simp only [Act.put, List.setIfInBounds_toArray, List.set_cons_zero, List.set_cons_succ]
    refine wpAnyH_take (i := 2) (oi := { dst := some 23, op := Go.Op.move (Go.Operand.tmp 2), type := 26, pos := "l16_entry.go:38", after := #[], guard := none }) (v := ?_) rfl (by kernel_rfl) (by kernel_rfl) (by kernel_rfl) (fun _ _ _ h => h) (Or.inl ⟨by rfl, ?_⟩) (by assumption) ?_
    rotate_left
    · (intro w hSw; (try dsimp only at hSw); go_simp; try with_reducible rfl)
    try simp only [Act.put, List.setIfInBounds_toArray, List.set_cons_zero, List.set_cons_succ]
    refine wpAnyH_ready (rs := [3]) (by kernel_rfl) (by simp) ?_
    refine AllReadyH.cons (o := { dst := some 24, op := Go.Op.call { callee := Go.Callee.value (Go.Operand.func 44), args := #[Go.Operand.tmp 23], argTypes := #[26] }, type := 26, pos := "l16_entry.go:38", after := #[{ on := 2, ground := Go.Ground.data }], guard := none }) rfl (fun K3 hK3 => ?_) AllReadyH.nil
    go_simp
    (refine (HRv.out _ (hgw2.out.dr.2.2.2.more hgw2.out.dr.1.size)).mono ?_; rintro e v1 ⟨v3, rfl, ho3, hb1⟩; have hgw3 := Lib.hid (hgw2.out.dr.call hb1); have HI3 := Lib.hid ho3; obtain ⟨A3, c3, rfl⟩ := own_form ho3; obtain ⟨⟨k0, k1⟩, -⟩ := hgw3.out.2.1; clear ho3 hb1)
    go_wp2_with fail
    refine hK3.out _ _ ?_ (fun hHeld1 => ?_)
    · (try dsimp only); go_keep
    clear hK3 K3 hHeld0
    try simp only [Act.put, List.setIfInBounds_toArray, List.set_cons_zero, List.set_cons_succ]
    refine wpAnyH_ready (rs := [4]) (by kernel_rfl) (by simp) ?_
    refine AllReadyH.cons (o := { dst := some 25, op := Go.Op.call { callee := Go.Callee.value (Go.Operand.func 10), args := #[Go.Operand.tmp 21, Go.Operand.tmp 22, Go.Operand.tmp 24], argTypes := #[25, 3, 26] }, type := 31, pos := "l16_entry.go:38", after := #[{ on := 0, ground := Go.Ground.data }, { on := 1, ground := Go.Ground.data }, { on := 3, ground := Go.Ground.data }, { on := 3, ground := Go.Ground.chain }], guard := none }) rfl (fun K4 hK4 => ?_) AllReadyH.nil
    go_simp
    (refine (HFe1.out _ _ _ (ints_own HI3.out).1).mono ?_; rintro e v2 ⟨rfl, hb1⟩; have hgw4 := Lib.hid (hgw3.out.call hb1); obtain ⟨⟨l0, l1⟩, -⟩ := hgw4.out.2.1; obtain ⟨⟨e0, e1, e2⟩, f0, f1, f2⟩ := row3_cells hgw4.out.2.2.1; clear hb1)
    go_wp2_with fail
    refine hK4.out _ _ ?_ (fun hHeld2 => ?_)
    · (try dsimp only); go_keep
    clear hK4 K4 hHeld1
    try simp only [Act.put, List.setIfInBounds_toArray, List.set_cons_zero, List.set_cons_succ]
    refine wpAnyH_take (i := 5) (oi := { dst := some 26, op := Go.Op.extract (Go.Operand.tmp 25) 0, type := 30, pos := "l16_entry.go:38", after := #[{ on := 4, ground := Go.Ground.data }], guard := none }) (v := ?_) rfl (by kernel_rfl) (by kernel_rfl) (by kernel_rfl) (fun _ _ _ h => h) (Or.inl ⟨by rfl, ?_⟩) (by assumption) ?_
    rotate_left
    · (intro w hSw; (try dsimp only at hSw); go_simp; try with_reducible rfl)
    try simp only [Act.put, List.setIfInBounds_toArray, List.set_cons_zero, List.set_cons_succ]
    refine wpAnyH_take (i := 6) (oi := { dst := some 27, op := Go.Op.extract (Go.Operand.tmp 25) 1, type := 4, pos := "l16_entry.go:38", after := #[{ on := 4, ground := Go.Ground.data }], guard := none }) (v := ?_) rfl (by kernel_rfl) (by kernel_rfl) (by kernel_rfl) (fun _ _ _ h => h) (Or.inl ⟨by rfl, ?_⟩) (by assumption) ?_
    rotate_left
    · (intro w hSw; (try dsimp only at hSw); go_simp; try with_reducible rfl)
    try simp only [Act.put, List.setIfInBounds_toArray, List.set_cons_zero, List.set_cons_succ]
    refine wpAnyH_ready (rs := [7]) (by kernel_rfl) (by simp) ?_
    refine AllReadyH.cons (o := { dst := none, op := Go.Op.store 30 (Go.Operand.tmp 6) (Go.Operand.tmp 26), type := 0, pos := "l16_entry.go:38", after := #[{ on := 5, ground := Go.Ground.data }, { on := 4, ground := Go.Ground.chain }, { on := 0, ground := Go.Ground.phase }, { on := 1, ground := Go.Ground.phase }, { on := 2, ground := Go.Ground.phase }, { on := 3, ground := Go.Ground.phase }, { on := 4, ground := Go.Ground.phase }, { on := 5, ground := Go.Ground.phase }, { on := 6, ground := Go.Ground.phase }], guard := none }) rfl (fun K7 hK7 => ?_) AllReadyH.nil
    go_simp
    refine hK7.out _ _ ?_ (fun hHeld3 => ?_)
    · (try dsimp only); go_keep
    clear hK7 K7 hHeld2
    try simp only [Act.put, List.setIfInBounds_toArray, List.set_cons_zero, List.set_cons_succ]
    refine wpAnyH_take (i := 8) (oi := { dst := some 7, op := Go.Op.assign (Go.Operand.tmp 27), type := 4, pos := "l16_entry.go:38", after := #[{ on := 6, ground := Go.Ground.data }, { on := 7, ground := Go.Ground.chain }, { on := 0, ground := Go.Ground.phase }, { on := 1, ground := Go.Ground.phase }, { on := 2, ground := Go.Ground.phase }, { on := 3, ground := Go.Ground.phase }, { on := 4, ground := Go.Ground.phase }, { on := 5, ground := Go.Ground.phase }, { on := 6, ground := Go.Ground.phase }, { on := 7, ground := Go.Ground.phase }], guard := none }) (v := ?_) rfl (by kernel_rfl) (by kernel_rfl) (by kernel_rfl) (fun _ _ _ h => h) (Or.inl ⟨by rfl, ?_⟩) (by assumption) ?_
    rotate_left
    · (intro w hSw; (try dsimp only at hSw); go_simp; try with_reducible rfl)
    try simp only [Act.put, List.setIfInBounds_toArray, List.set_cons_zero, List.set_cons_succ]
    refine wpAnyH_done (by kernel_rfl) ?_ _
    go_wp2_with fail
    refine bodyPost_ret (v := .tuple #[.agg #[.int .i64 rx, .int .i64 ry, .int .i64 rz], .bool rb]) (by simp [results, Try.results14, go_sem, e0, e1, e2]) rfl ?_
    exact ⟨rfl, hgw4.out.ending _ _ _⟩

set_option maxRecDepth 100000 in
set_option maxHeartbeats 4000000 in
theorem coverTime_any (x y a : Int) (A : Option Addr) (n c : Nat) (w : List Int) (W : World) (hn : w.length = n) (hm : n ≤ 1048576) (hi : IntsIn W W.heap.size A w) :
    Calls Try.prog 11 #[.agg #[.int .i64 x, .int .i64 y], .int .i64 a, .slice A n c] W (Nm (ctZ x y a w) W) := by
  have HF := Lib.hid (fun X => fullMaze_any x y X)
  have HCo : Hid (∀ X, IntsIn X X.heap.size A w → Calls Try.prog 32 #[.agg #[.int .i64 (fmX x y), .int .i64 (fmY x y), .int .i64 (fmO x y)], .int .i64 a, .slice A n c] X (Ints (twL x y a w) X)) := Lib.hid (fun X h => cellsOn_any (fmX x y) (fmY x y) (fmO x y) a A n c w X hn hm h)
  have hrg : ∀ u ∈ twL x y a w, -9223372036854775808 ≤ u ∧ u ≤ 9223372036854775807 := co_range
  have hmost : (twL x y a w).length ≤ 401 := co_most _ _ _ _ _
  have HFe := Lib.hid (fun A' c' X h => firstEntries_any A' (twL x y a w).length c' (twL x y a w) X rfl (by omega) h hrg)
  have HB := Lib.hid (fun T => below_box W (.cells #[.int .i64 x, .int .i64 y] T))
  have HX := Lib.hid (fun T => box_new x y W T)
  have HI := Lib.hid (fun T => hi.below (below_box W (.cells #[.int .i64 x, .int .i64 y] T)))
  have HK := @Lib.hid _ (fun v w' h => @nm_mk v (ctZ x y a w) W w' h)
  have hflen := fs_len (twL x y a w) (twL x y a w).length
  have Hflen := Lib.hid hflen
  have hfl4 : (fsL (twL x y a w) (twL x y a w).length).length ≤ 401 := by rw [hflen]; have := fr_le (twL x y a w) (twL x y a w).length; omega
  clear hi hn hrg hflen
  generalize fmX x y = fx at *
  generalize fmY x y = fy at *
  generalize fmO x y = fo at *
  go_enter Try.func11, Try.ntmps11
  go_wp2_with fail
  refine (HF.out _).mono ?_
  rintro e w1 ⟨rfl, hb⟩
  have hbl1 := Lib.hid (below_call (HB.out _) hb)
  have hbx1 := Lib.hid ((HX.out _).call hb)
  have hin1 := Lib.hid ((((HI.out _).more (HB.out _).size).below hb).more hb.size)
  clear hb HB HX HI HF
  go_wp2_with fail
  refine (HCo.out _ hin1.out).mono ?_
  rintro e w2 ⟨v2, rfl, ho, hb⟩
  have hbl2 := Lib.hid (below_call hbl1.out hb)
  have hbx2 := Lib.hid (hbx1.out.call hb)
  have ho2 := Lib.hid ho
  obtain ⟨A2, c2, rfl⟩ := own_form ho
  clear hb hbl1 hbx1 hin1 HCo ho
  go_wp2_with fail
  refine (HFe.out _ _ _ (ints_own ho2.out).1).mono ?_
  rintro e w3 ⟨v3, rfl, ho, hb⟩
  have hbl3 := Lib.hid (below_call hbl2.out hb)
  have hbx3 := Lib.hid (hbx2.out.call hb)
  obtain ⟨A3, c3, rfl⟩ := own_form ho
  have ho3 := Lib.hid ho
  clear hb hbl2 hbx2 HFe ho ho2
  obtain ⟨b0, b1⟩ := hbx3.out.1
  rcases Nat.eq_zero_or_pos (twL x y a w).length with h0 | hpos
  · have hE : Hid (-1 = ctZ x y a w) := Lib.hid (ct_none fun j hj => absurd hj (by omega)).symm
    have hz : (fsL (twL x y a w) (twL x y a w).length).length = 0 := by rw [Hflen.out, h0]; rfl
    rw [hz]
    clear Hflen ho3 hz h0
    go_wp2_with fail
    go_ret
    exact HK.out _ _ hE.out hbl3.out
  · have htw := tw_pos hpos
    have hok := tw_ok htw
    obtain ⟨c1, c4⟩ := ct_cases htw
    have hfm := (tw_tw htw).fr_most
    obtain ⟨n1, n2, n3⟩ := nn2 hok
    have HCc : Hid (∀ X, Calls Try.prog 38 #[.agg #[.int .i64 x, .int .i64 y]] X (Nm (x * y) X)) := Lib.hid fun X => gridI.countCells_yes x y X hok.1 hok.2.1 hok.2.2.1 hok.2.2.2
    have hf1 : 0 < (fsL (twL x y a w) (twL x y a w).length).length := by
      obtain ⟨p, hp⟩ : ∃ p, (twL x y a w).length = p + 1 := ⟨_, (Nat.succ_pred_eq_of_pos hpos).symm⟩
      rw [hp]; exact fs_one _ _
    rw [← Hflen.out] at c1 c4 hfm
    rw [n1] at HCc
    generalize hF : fsL (twL x y a w) (twL x y a w).length = F at *
    have hF0 : ((F.length : Int) == 0) = false := beq_eq_false_iff_ne.2 (by omega)
    by_cases he : F.length = cN x y
    · obtain ⟨j, g1, g2, g3, g4⟩ := c1 he
      obtain ⟨g, cg, hge, -, -⟩ := own_some ho3.out hf1
      cases hge
      rw [← he] at g2 HCc
      have HC := Lib.hid (own_cellI ho3.out g2)
      have hE : Hid ((j : Int) = ctZ x y a w) := Lib.hid g3.symm
      obtain ⟨f, hf⟩ : ∃ f, F.length = f + 1 := ⟨F.length - 1, by omega⟩
      rw [hf] at HC HCc hfl4 ⊢
      clear c1 c4 hfm n1 n2 n3 he hF hok htw hpos Hflen hf1 g1 g2 g3 g4 hf hF0 ho3
      have hF0 : ((f : Int) + 1 == 0) = false := beq_eq_false_iff_ne.2 (by omega)
      have hlt : decide ((f : Int) + 1 < (f : Int) + 1) = false := decide_eq_false (by omega)
      have hf0 : (0 : Int) ≤ (f : Int) := Int.natCast_nonneg _
      have hf2 : (f : Int) < (f : Int) + 1 := by omega
      go_wp2_with fail
      refine (HCc.out _).mono ?_
      rintro e w4 ⟨rfl, hb⟩
      have hbl4 := Lib.hid (below_call hbl3.out hb)
      have hc4 : w4.cell? ⟨g, f, none⟩ = some (.int .i64 (j : Int)) := cell_keep hb HC.out
      clear hb
      go_wp2_with fail
      go_ret
      exact HK.out _ _ hE.out hbl4.out
    · have hE : Hid (-1 = ctZ x y a w) := Lib.hid (c4 he).symm
      have hlt : decide ((F.length : Int) < (cN x y : Int)) = true := decide_eq_true (by omega)
      clear c1 c4 n1 hF hok htw hpos Hflen hf1 ho3
      generalize cN x y = N at *
      generalize F.length = f at *
      go_wp2_with fail
      refine (HCc.out _).mono ?_
      rintro e w4 ⟨rfl, hb⟩
      have hbl4 := Lib.hid (below_call hbl3.out hb)
      clear hb
      go_wp2_with fail
      go_ret
      exact HK.out _ _ hE.out hbl4.out
end Go.Proofs.Ytgocbnnhhpmndaa.entI
