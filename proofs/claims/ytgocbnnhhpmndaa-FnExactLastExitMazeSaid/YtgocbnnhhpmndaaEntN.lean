/- The contract of the model's last exits. -/
import Derived.Test.YtgocbnnhhpmndaaEntM
namespace Go.Proofs.Ytgocbnnhhpmndaa.entM
open Go.ChangeShapes Go.WideShapes Go.ChangeAt Go.RowKit
open draw gridP gridC gridE bitP mazeP mazeC mazeM mazeR mazeS intsP reachP reachM reachN reachD intA listK perfP wayP ersP ersO ersM entP entO
set_option linter.unusedVariables false

set_option maxRecDepth 100000 in
set_option maxHeartbeats 4000000 in
theorem lastExit_any (x y a : Int) (A : Option Addr) (n c : Nat) (w : List Int) (W : World) (hn : w.length = n) (hm : n ≤ 1048576) (hi : IntsIn W W.heap.size A w) :
    Calls Try.prog 23 #[.agg #[.int .i64 x, .int .i64 y], .int .i64 a, .slice A n c] W (MzB (feX x y a w) (feY x y a w) (leZ x y a w) (leB x y a w) W) := by
  have HF := Lib.hid (fun X => fullMaze_any x y X)
  have HCo : Hid (∀ X, IntsIn X X.heap.size A w → Calls Try.prog 49 #[.agg #[.int .i64 (fmX x y), .int .i64 (fmY x y), .int .i64 (fmO x y)], .int .i64 a, .slice A n c] X (Ints (twL x y a w) X)) := Lib.hid (fun X h => wayM.cellsOn_any (fmX x y) (fmY x y) (fmO x y) a A n c w X hn hm h)
  have HW := Lib.hid (fun T1 T2 => @gw_new W x y A w hi T1 T2)
  have Hn := Lib.hid hn
  clear hi hn
  generalize fmX x y = fx at *
  generalize fmY x y = fy at *
  generalize fmO x y = fo at *
  go_enter Try.func23, Try.ntmps23
  go_wp2_with fail
  have hgw0 := Lib.hid (HW.out 25 30)
  refine (HF.out _).mono ?_
  rintro e w1 ⟨rfl, hb⟩
  have hgw1 := Lib.hid (hgw0.out.call hb)
  clear hb HW hgw0 HF
  go_wp2_with fail
  refine (HCo.out _ (hgw1.out.2.2.2.more hgw1.out.1.size)).mono ?_
  rintro e w2 ⟨v2, rfl, ho, hb⟩
  have hgw2 := Lib.hid (hgw1.out.call hb)
  have ho2 := own_base ho (show W.heap.size + 2 ≤ w1.heap.size from hgw1.out.size)
  clear hb hgw1 HCo ho
  obtain ⟨⟨b0, b1⟩, -⟩ := hgw2.out.2.1
  cases htw : twB x y a w with
  | false =>
    have hL := tw_none htw
    rw [hL] at ho2
    obtain ⟨A2, c2, rfl⟩ := own_form ho2
    have HE : Hid (MzB 0 0 0 false = MzB (feX x y a w) (feY x y a w) (leZ x y a w) (leB x y a w)) := Lib.hid (by unfold feX feY leZ leB; rw [htw]; rfl)
    have hgw3 := Lib.hid (fun o => hgw2.out.call (below_box w2 o))
    clear ho2 htw hL
    go_wp2_with fail
    go_loopw [10] (fun u10 wr => u10 = .int .i64 0 ∧ GW W x y A w wr) (fun _ _ => 0)
    case atStart => exact ⟨rfl, hgw3.out _⟩
    case round =>
      obtain ⟨rfl, hgw⟩ := hrel
      have hgwh := Lib.hid hgw
      obtain ⟨⟨e0, e1, e2⟩, f0, f1, f2⟩ := row3_cells hgw.2.2.1
      clear hgw b0 b1
      go_wp2_with fail
      refine bodyPost_ret (v := .tuple #[.agg #[.int .i64 0, .int .i64 0, .int .i64 0], .bool false]) (by simp [results, Try.results23, go_sem, e0, e1, e2]) rfl ?_
      rw [← HE.out]
      exact ⟨rfl, hgwh.out.ending _ _ _⟩
  | true =>
    have hlen := tw_len htw
    have h400 := tw_far htw
    obtain ⟨g, cg, rfl, -, -⟩ := own_some ho2 (by omega)
    obtain ⟨hcap, hcm⟩ := own_cap ho2
    have HK : Hid (∀ b X, b = ipB x y (leO x y (twL x y a w) w n) → Below W.heap.size W X → MzB (feX x y a w) (feY x y a w) (leZ x y a w) (leB x y a w) W (.returned (.tuple #[.agg #[.int .i64 x, .int .i64 y, .int .i64 (leO x y (twL x y a w) w n)], .bool b])) X) := Lib.hid fun b X e hb => by
      unfold feX feY leB leZ; rw [if_pos htw, if_pos htw, if_pos htw, htw, e, Hn.out]; exact ⟨rfl, hb⟩
    have hgm0 := @Lib.hid _ (fun T => gm_new (L := twL x y a w) (g := g) (cg := cg) ⟨hgw2.out, ho2⟩ T)
    have HL1 : Hid ((twL x y a w).length = n + 1) := Lib.hid (by rw [hlen, Hn.out])
    rw [HL1.out] at hcap ⊢
    have hn4 : n ≤ 400 := by have := Hn.out; omega
    have HSg := Lib.hid (fun z q X => mazeS.setGap_any x y z q true X)
    have HGp := Lib.hid (fun k d X => gridS.gapAt_any x y k d X)
    have HIp := Lib.hid (fun z X => perfM.isPerfect_any x y z X)
    have HIn := Lib.hid (fun k u c' X (hk : k < n + 1) (h : IntsIn X X.heap.size (some ⟨g, k + 1, none⟩) ((twL x y a w).drop (k + 1))) => in_any (some ⟨g, k + 1, none⟩) (n - k) c' ((twL x y a w).drop (k + 1)) u X (by have := HL1.out; rw [List.length_drop]; omega) (by omega) h)
    clear htw hlen h400 ho2 hgw2 hm
    unfold maxLen at hcm
    generalize twL x y a w = L at *
    go_wp2_with fail
    generalize w2.heap.size = M at *
    go_loopw [10] (fun u10 wr => ∃ j : Nat, j ≤ n ∧ u10 = .int .i64 (j : Int) ∧ GM W x y A w g cg L M (leO x y L w j) wr) (fun u10 _ => n - (intOf u10).toNat)
    case atStart => exact ⟨0, Nat.zero_le _, rfl, hgm0.out _⟩
    case round =>
      clear hgm0 b0 b1
      obtain ⟨j, hj, rfl, hgm0⟩ := hrel
      have hgm := Lib.hid hgm0
      obtain ⟨⟨b0, b1⟩, -⟩ := hgm0.1.1.2.1
      obtain ⟨⟨m0, m1, m2⟩, -⟩ := row3_cells hgm0.2.1
      have hj0 : (0 : Int) ≤ (j : Int) := Int.natCast_nonneg _
      have hw1 : IntKind.i64.wrap (j : Int) = (j : Int) := IntWalk.i64_in _ (by omega)
      by_cases hjn : j < n
      · have hp := at_some (l := L) (k := j + 1) (by have := HL1.out; omega)
        have hq := at_some (l := L) (k := j) (by have := HL1.out; omega)
        have c0 := own_cellI hgm0.1.2 hq
        have hi1 : (j : Int) + 1 < (n : Int) + 1 := by omega
        have hi2 : (j : Int) < (n : Int) + 1 := by omega
        have hi3 : (j : Int) < (n : Int) := by omega
        have hi4 : (j : Int) + 1 ≤ (cg : Int) := by omega
        have hi5 : (0 : Int) ≤ (j : Int) + 1 := by omega
        have hw2 : IntKind.i64.wrap ((j : Int) + 1) = (j : Int) + 1 := IntWalk.i64_in _ (by omega)
        have hs1 : (j : Int) + 1 ≤ (n : Int) + 1 := by omega
        have hs2 : (n : Int) + 1 ≤ (cg : Int) := by omega
        have hs3 : ¬ cg = j + 1 := by omega
        have hs4 : ¬ j + 1 = cg := by omega
        have hown := Lib.hid (ints_drop (B := wr.heap.size) (k := j + 1) (fun i u hu => own_cellI hgm0.1.2 hu) hgm0.1.lt.2)
        have HCd : Hid (∀ c' nd, Calls Try.prog 50 #[.slice (some ⟨g, j + 1, none⟩) (n - j) c', .int .i64 (atN L j)] (wr.drewN nd) fun e w' => e = .returned (.bool (decide (atN L j ∈ L.drop (j + 1)))) ∧ wr.drewN nd = w') := Lib.hid fun c' nd => HIn.out j _ c' (wr.drewN nd) (by omega) (hown.out.keep fun _ _ => rfl)
        have HQ := Lib.hid hq
        clear hq hown hgm0
        by_cases hin : atN L j ∈ L.drop (j + 1)
        · rw [decide_eq_true hin] at HCd
          have HO := Lib.hid (le_in (x := x) (y := y) (w := w) hin)
          clear hin HIn
          generalize atN L j = q at *
          generalize leO x y L w j = z at *
          go_wp2_with fail
          try simp only [List.cons_append, List.nil_append, List.append_eq]
          refine wp_region_held_drew (S := (fun w' => w'.cell? ⟨g, j, none⟩ = some (.int .i64 q))) (by kernel_rfl) ?_ (fun hHeld0 => ?_)
          · (try dsimp only); go_keep
          refine wpAnyH_take (i := 0) (oi := { dst := some 25, op := Go.Op.move (Go.Operand.tmp 8), type := 26, pos := "l16_entry.go:23", after := #[], guard := none }) (v := ?_) rfl (by kernel_rfl) (by kernel_rfl) (by kernel_rfl) (fun _ _ _ h => h) (Or.inl ⟨by rfl, ?_⟩) (by assumption) ?_
          rotate_left
          · (intro w hSw; (try dsimp only at hSw); go_simp; try with_reducible rfl)
          try simp only [Act.put, List.setIfInBounds_toArray, List.set_cons_zero, List.set_cons_succ]
          refine wpAnyH_take (i := 1) (oi := { dst := some 26, op := Go.Op.move (Go.Operand.tmp 10), type := 3, pos := "l16_entry.go:23", after := #[], guard := none }) (v := ?_) rfl (by kernel_rfl) (by kernel_rfl) (by kernel_rfl) (fun _ _ _ h => h) (Or.inl ⟨by rfl, ?_⟩) (by assumption) ?_
          rotate_left
          · (intro w hSw; (try dsimp only at hSw); go_simp; try with_reducible rfl)
          try simp only [Act.put, List.setIfInBounds_toArray, List.set_cons_zero, List.set_cons_succ]
          refine wpAnyH_take (i := 2) (oi := { dst := some 27, op := Go.Op.binOp Go.BinOp.add 3 (Go.Operand.tmp 26) (Go.Operand.const (Go.Value.int Go.IntKind.i64 1)) 3, type := 3, pos := "l16_entry.go:23", after := #[{ on := 1, ground := Go.Ground.data }], guard := none }) (v := ?_) rfl (by kernel_rfl) (by kernel_rfl) (by kernel_rfl) (fun _ _ _ h => h) (Or.inl ⟨by rfl, ?_⟩) (by assumption) ?_
          rotate_left
          · (intro w hSw; (try dsimp only at hSw); go_simp; try with_reducible rfl)
          try simp only [Act.put, List.setIfInBounds_toArray, List.set_cons_zero, List.set_cons_succ]
          refine wpAnyH_take (i := 3) (oi := { dst := some 28, op := Go.Op.slice 26 (Go.Operand.tmp 25) (some (Go.Operand.tmp 27)) none none, type := 26, pos := "l16_entry.go:23", after := #[{ on := 0, ground := Go.Ground.data }, { on := 2, ground := Go.Ground.data }], guard := none }) (v := ?_) rfl (by kernel_rfl) (by kernel_rfl) (by kernel_rfl) (fun _ _ _ h => h) (Or.inl ⟨by rfl, ?_⟩) (by assumption) ?_
          rotate_left
          · (intro w hSw; (try dsimp only at hSw); go_simp; try with_reducible rfl)
          try simp only [Act.put, List.setIfInBounds_toArray, List.set_cons_zero, List.set_cons_succ]
          refine wpAnyH_take (i := 4) (oi := { dst := some 29, op := Go.Op.move (Go.Operand.tmp 8), type := 26, pos := "l16_entry.go:23", after := #[], guard := none }) (v := ?_) rfl (by kernel_rfl) (by kernel_rfl) (by kernel_rfl) (fun _ _ _ h => h) (Or.inl ⟨by rfl, ?_⟩) (by assumption) ?_
          rotate_left
          · (intro w hSw; (try dsimp only at hSw); go_simp; try with_reducible rfl)
          try simp only [Act.put, List.setIfInBounds_toArray, List.set_cons_zero, List.set_cons_succ]
          refine wpAnyH_take (i := 5) (oi := { dst := some 30, op := Go.Op.move (Go.Operand.tmp 10), type := 3, pos := "l16_entry.go:23", after := #[], guard := none }) (v := ?_) rfl (by kernel_rfl) (by kernel_rfl) (by kernel_rfl) (fun _ _ _ h => h) (Or.inl ⟨by rfl, ?_⟩) (by assumption) ?_
          rotate_left
          · (intro w hSw; (try dsimp only at hSw); go_simp; try with_reducible rfl)
          try simp only [Act.put, List.setIfInBounds_toArray, List.set_cons_zero, List.set_cons_succ]
          refine wpAnyH_take (i := 6) (oi := { dst := some 31, op := Go.Op.indexAddr 26 (Go.Operand.tmp 29) (Go.Operand.tmp 30), type := 0, pos := "l16_entry.go:23", after := #[{ on := 4, ground := Go.Ground.data }, { on := 5, ground := Go.Ground.data }], guard := none }) (v := ?_) rfl (by kernel_rfl) (by kernel_rfl) (by kernel_rfl) (fun _ _ _ h => h) (Or.inl ⟨by rfl, ?_⟩) (by assumption) ?_
          rotate_left
          · (intro w hSw; (try dsimp only at hSw); go_simp; try with_reducible rfl)
          try simp only [Act.put, List.setIfInBounds_toArray, List.set_cons_zero, List.set_cons_succ]
          refine wpAnyH_take (i := 7) (oi := { dst := some 32, op := Go.Op.load 3 (Go.Operand.tmp 31), type := 3, pos := "l16_entry.go:23", after := #[{ on := 6, ground := Go.Ground.data }], guard := none }) (v := ?_) rfl (by kernel_rfl) (by kernel_rfl) (by kernel_rfl) (fun _ _ _ h => h) (Or.inl ⟨by rfl, ?_⟩) (by assumption) ?_
          rotate_left
          · (intro w hSw; (try dsimp only at hSw); go_simp; try with_reducible rfl)
          try simp only [Act.put, List.setIfInBounds_toArray, List.set_cons_zero, List.set_cons_succ]
          refine wpAnyH_ready (rs := [8]) (by kernel_rfl) (by simp) ?_
          refine AllReadyH.cons (o := { dst := some 33, op := Go.Op.call { callee := Go.Callee.value (Go.Operand.func 50), args := #[Go.Operand.tmp 28, Go.Operand.tmp 32], argTypes := #[26, 3] }, type := 4, pos := "l16_entry.go:23", after := #[{ on := 3, ground := Go.Ground.data }, { on := 7, ground := Go.Ground.data }], guard := none }) rfl (fun K8 hK8 => ?_) AllReadyH.nil
          go_simp
          (refine (HCd.out _ 1).mono ?_; rintro e v1 ⟨rfl, rfl⟩)
          go_wp2_with fail
          refine hK8.out _ _ ?_ (fun hHeld1 => ?_)
          · (try dsimp only); go_keep
          clear hK8 K8 hHeld0
          try simp only [Act.put, List.setIfInBounds_toArray, List.set_cons_zero, List.set_cons_succ]
          refine wpAnyH_take (i := 9) (oi := { dst := some 34, op := Go.Op.unOp Go.UnOp.not 4 (Go.Operand.tmp 33), type := 4, pos := "l16_entry.go:23", after := #[{ on := 8, ground := Go.Ground.data }], guard := none }) (v := ?_) rfl (by kernel_rfl) (by kernel_rfl) (by kernel_rfl) (fun _ _ _ h => h) (Or.inl ⟨by rfl, ?_⟩) (by assumption) ?_
          rotate_left
          · (intro w hSw; (try dsimp only at hSw); go_simp; try with_reducible rfl)
          try simp only [Act.put, List.setIfInBounds_toArray, List.set_cons_zero, List.set_cons_succ]
          refine wpAnyH_done (by kernel_rfl) ?_ _
          go_wp2_with fail
          go_roundw
          case rel => exact ⟨j + 1, by omega, by go_num, by rw [HO.out]; exact hgm.out.drs _⟩
          case measure => (try simp [intOf]); omega
        · rw [decide_eq_false hin] at HCd
          have HO := Lib.hid (le_out (x := x) (y := y) (w := w) hin)
          obtain ⟨ad, rfl, hab, c3⟩ := ints_cell hgm.out.1.1.2.2.2 (at_some (l := w) (k := j) (by have := Hn.out; omega))
          have HD := Lib.hid (at_some (l := w) (k := j) (by have := Hn.out; omega))
          have Hge : Hid (geZ x y L w j = gpZ x y (atN L j) (atN w j)) := Lib.hid rfl
          have HGp1 := Lib.hid (fun X => HGp.out (atN L j) (atN w j) X)
          rw [← Hge.out] at HGp1
          have HSg1 := Lib.hid (fun X => HSg.out (leO x y L w j) (geZ x y L w j) X)
          have hgd := Lib.hid (hgm.out.drs 1)
          have Hne : Hid (g ≠ M ∧ (ad.add j).block ≠ M ∧ W.heap.size ≠ M) := Lib.hid (by
            have h1 := hgm.out.2.2
            rw [block_of_add]
            exact ⟨h1.2, by omega, by omega⟩)
          clear hin HIn Hge
          generalize atN L j = q at *
          generalize atN w j = d at *
          generalize sgB x y (leO x y L w j) (geZ x y L w j) = sb at *
          generalize sgZ x y (leO x y L w j) (geZ x y L w j) true = z2 at *
          generalize geZ x y L w j = gg at *
          generalize leO x y L w j = z at *
          go_wp2_with fail
          try simp only [List.cons_append, List.nil_append, List.append_eq]
          refine wp_region_held_drew (S := (fun w' => w'.cell? ⟨g, j, none⟩ = some (.int .i64 q))) (by kernel_rfl) ?_ (fun hHeld0 => ?_)
          · (try dsimp only); go_keep
          refine wpAnyH_take (i := 0) (oi := { dst := some 25, op := Go.Op.move (Go.Operand.tmp 8), type := 26, pos := "l16_entry.go:23", after := #[], guard := none }) (v := ?_) rfl (by kernel_rfl) (by kernel_rfl) (by kernel_rfl) (fun _ _ _ h => h) (Or.inl ⟨by rfl, ?_⟩) (by assumption) ?_
          rotate_left
          · (intro w hSw; (try dsimp only at hSw); go_simp; try with_reducible rfl)
          try simp only [Act.put, List.setIfInBounds_toArray, List.set_cons_zero, List.set_cons_succ]
          refine wpAnyH_take (i := 1) (oi := { dst := some 26, op := Go.Op.move (Go.Operand.tmp 10), type := 3, pos := "l16_entry.go:23", after := #[], guard := none }) (v := ?_) rfl (by kernel_rfl) (by kernel_rfl) (by kernel_rfl) (fun _ _ _ h => h) (Or.inl ⟨by rfl, ?_⟩) (by assumption) ?_
          rotate_left
          · (intro w hSw; (try dsimp only at hSw); go_simp; try with_reducible rfl)
          try simp only [Act.put, List.setIfInBounds_toArray, List.set_cons_zero, List.set_cons_succ]
          refine wpAnyH_take (i := 2) (oi := { dst := some 27, op := Go.Op.binOp Go.BinOp.add 3 (Go.Operand.tmp 26) (Go.Operand.const (Go.Value.int Go.IntKind.i64 1)) 3, type := 3, pos := "l16_entry.go:23", after := #[{ on := 1, ground := Go.Ground.data }], guard := none }) (v := ?_) rfl (by kernel_rfl) (by kernel_rfl) (by kernel_rfl) (fun _ _ _ h => h) (Or.inl ⟨by rfl, ?_⟩) (by assumption) ?_
          rotate_left
          · (intro w hSw; (try dsimp only at hSw); go_simp; try with_reducible rfl)
          try simp only [Act.put, List.setIfInBounds_toArray, List.set_cons_zero, List.set_cons_succ]
          refine wpAnyH_take (i := 3) (oi := { dst := some 28, op := Go.Op.slice 26 (Go.Operand.tmp 25) (some (Go.Operand.tmp 27)) none none, type := 26, pos := "l16_entry.go:23", after := #[{ on := 0, ground := Go.Ground.data }, { on := 2, ground := Go.Ground.data }], guard := none }) (v := ?_) rfl (by kernel_rfl) (by kernel_rfl) (by kernel_rfl) (fun _ _ _ h => h) (Or.inl ⟨by rfl, ?_⟩) (by assumption) ?_
          rotate_left
          · (intro w hSw; (try dsimp only at hSw); go_simp; try with_reducible rfl)
          try simp only [Act.put, List.setIfInBounds_toArray, List.set_cons_zero, List.set_cons_succ]
          refine wpAnyH_take (i := 4) (oi := { dst := some 29, op := Go.Op.move (Go.Operand.tmp 8), type := 26, pos := "l16_entry.go:23", after := #[], guard := none }) (v := ?_) rfl (by kernel_rfl) (by kernel_rfl) (by kernel_rfl) (fun _ _ _ h => h) (Or.inl ⟨by rfl, ?_⟩) (by assumption) ?_
          rotate_left
          · (intro w hSw; (try dsimp only at hSw); go_simp; try with_reducible rfl)
          try simp only [Act.put, List.setIfInBounds_toArray, List.set_cons_zero, List.set_cons_succ]
          refine wpAnyH_take (i := 5) (oi := { dst := some 30, op := Go.Op.move (Go.Operand.tmp 10), type := 3, pos := "l16_entry.go:23", after := #[], guard := none }) (v := ?_) rfl (by kernel_rfl) (by kernel_rfl) (by kernel_rfl) (fun _ _ _ h => h) (Or.inl ⟨by rfl, ?_⟩) (by assumption) ?_
          rotate_left
          · (intro w hSw; (try dsimp only at hSw); go_simp; try with_reducible rfl)
          try simp only [Act.put, List.setIfInBounds_toArray, List.set_cons_zero, List.set_cons_succ]
          refine wpAnyH_take (i := 6) (oi := { dst := some 31, op := Go.Op.indexAddr 26 (Go.Operand.tmp 29) (Go.Operand.tmp 30), type := 0, pos := "l16_entry.go:23", after := #[{ on := 4, ground := Go.Ground.data }, { on := 5, ground := Go.Ground.data }], guard := none }) (v := ?_) rfl (by kernel_rfl) (by kernel_rfl) (by kernel_rfl) (fun _ _ _ h => h) (Or.inl ⟨by rfl, ?_⟩) (by assumption) ?_
          rotate_left
          · (intro w hSw; (try dsimp only at hSw); go_simp; try with_reducible rfl)
          try simp only [Act.put, List.setIfInBounds_toArray, List.set_cons_zero, List.set_cons_succ]
          refine wpAnyH_take (i := 7) (oi := { dst := some 32, op := Go.Op.load 3 (Go.Operand.tmp 31), type := 3, pos := "l16_entry.go:23", after := #[{ on := 6, ground := Go.Ground.data }], guard := none }) (v := ?_) rfl (by kernel_rfl) (by kernel_rfl) (by kernel_rfl) (fun _ _ _ h => h) (Or.inl ⟨by rfl, ?_⟩) (by assumption) ?_
          rotate_left
          · (intro w hSw; (try dsimp only at hSw); go_simp; try with_reducible rfl)
          try simp only [Act.put, List.setIfInBounds_toArray, List.set_cons_zero, List.set_cons_succ]
          refine wpAnyH_ready (rs := [8]) (by kernel_rfl) (by simp) ?_
          refine AllReadyH.cons (o := { dst := some 33, op := Go.Op.call { callee := Go.Callee.value (Go.Operand.func 50), args := #[Go.Operand.tmp 28, Go.Operand.tmp 32], argTypes := #[26, 3] }, type := 4, pos := "l16_entry.go:23", after := #[{ on := 3, ground := Go.Ground.data }, { on := 7, ground := Go.Ground.data }], guard := none }) rfl (fun K8 hK8 => ?_) AllReadyH.nil
          go_simp
          (refine (HCd.out _ 1).mono ?_; rintro e v1 ⟨rfl, rfl⟩)
          go_wp2_with fail
          refine hK8.out _ _ ?_ (fun hHeld1 => ?_)
          · (try dsimp only); go_keep
          clear hK8 K8 hHeld0
          try simp only [Act.put, List.setIfInBounds_toArray, List.set_cons_zero, List.set_cons_succ]
          refine wpAnyH_take (i := 9) (oi := { dst := some 34, op := Go.Op.unOp Go.UnOp.not 4 (Go.Operand.tmp 33), type := 4, pos := "l16_entry.go:23", after := #[{ on := 8, ground := Go.Ground.data }], guard := none }) (v := ?_) rfl (by kernel_rfl) (by kernel_rfl) (by kernel_rfl) (fun _ _ _ h => h) (Or.inl ⟨by rfl, ?_⟩) (by assumption) ?_
          rotate_left
          · (intro w hSw; (try dsimp only at hSw); go_simp; try with_reducible rfl)
          try simp only [Act.put, List.setIfInBounds_toArray, List.set_cons_zero, List.set_cons_succ]
          refine wpAnyH_done (by kernel_rfl) ?_ _
          go_wp2_with fail
          try simp only [List.cons_append, List.nil_append, List.append_eq]
          refine wp_region_held_drew (S := (fun w' => w'.cell? ⟨g, j, none⟩ = some (.int .i64 q) ∧ w'.cell? (ad.add j) = some (.int .i64 d) ∧ w'.cell? ⟨W.heap.size, 0, none⟩ = some (.int .i64 x) ∧ w'.cell? ⟨W.heap.size, 1, none⟩ = some (.int .i64 y))) (by kernel_rfl) ?_ (fun hHeld0 => ?_)
          · (try dsimp only); go_keep
          refine wpAnyH_take (i := 1) (oi := { dst := some 37, op := Go.Op.load 25 (Go.Operand.tmp 3), type := 25, pos := "l16_entry.go:24", after := #[], guard := none }) (v := ?_) rfl (by kernel_rfl) (by kernel_rfl) (by kernel_rfl) (fun _ _ _ h => h) (Or.inl ⟨by rfl, ?_⟩) (by assumption) ?_
          rotate_left
          · (intro w hSw; (try dsimp only at hSw); go_simp; try with_reducible rfl)
          try simp only [Act.put, List.setIfInBounds_toArray, List.set_cons_zero, List.set_cons_succ]
          refine wpAnyH_take (i := 2) (oi := { dst := some 38, op := Go.Op.move (Go.Operand.tmp 8), type := 26, pos := "l16_entry.go:24", after := #[], guard := none }) (v := ?_) rfl (by kernel_rfl) (by kernel_rfl) (by kernel_rfl) (fun _ _ _ h => h) (Or.inl ⟨by rfl, ?_⟩) (by assumption) ?_
          rotate_left
          · (intro w hSw; (try dsimp only at hSw); go_simp; try with_reducible rfl)
          try simp only [Act.put, List.setIfInBounds_toArray, List.set_cons_zero, List.set_cons_succ]
          refine wpAnyH_take (i := 3) (oi := { dst := some 39, op := Go.Op.move (Go.Operand.tmp 10), type := 3, pos := "l16_entry.go:24", after := #[], guard := none }) (v := ?_) rfl (by kernel_rfl) (by kernel_rfl) (by kernel_rfl) (fun _ _ _ h => h) (Or.inl ⟨by rfl, ?_⟩) (by assumption) ?_
          rotate_left
          · (intro w hSw; (try dsimp only at hSw); go_simp; try with_reducible rfl)
          try simp only [Act.put, List.setIfInBounds_toArray, List.set_cons_zero, List.set_cons_succ]
          refine wpAnyH_take (i := 4) (oi := { dst := some 40, op := Go.Op.indexAddr 26 (Go.Operand.tmp 38) (Go.Operand.tmp 39), type := 0, pos := "l16_entry.go:24", after := #[{ on := 2, ground := Go.Ground.data }, { on := 3, ground := Go.Ground.data }], guard := none }) (v := ?_) rfl (by kernel_rfl) (by kernel_rfl) (by kernel_rfl) (fun _ _ _ h => h) (Or.inl ⟨by rfl, ?_⟩) (by assumption) ?_
          rotate_left
          · (intro w hSw; (try dsimp only at hSw); go_simp; try with_reducible rfl)
          try simp only [Act.put, List.setIfInBounds_toArray, List.set_cons_zero, List.set_cons_succ]
          refine wpAnyH_take (i := 5) (oi := { dst := some 41, op := Go.Op.load 3 (Go.Operand.tmp 40), type := 3, pos := "l16_entry.go:24", after := #[{ on := 4, ground := Go.Ground.data }], guard := none }) (v := ?_) rfl (by kernel_rfl) (by kernel_rfl) (by kernel_rfl) (fun _ _ _ h => h) (Or.inl ⟨by rfl, ?_⟩) (by assumption) ?_
          rotate_left
          · (intro w hSw; (try dsimp only at hSw); go_simp; try with_reducible rfl)
          try simp only [Act.put, List.setIfInBounds_toArray, List.set_cons_zero, List.set_cons_succ]
          refine wpAnyH_take (i := 6) (oi := { dst := some 42, op := Go.Op.move (Go.Operand.tmp 2), type := 26, pos := "l16_entry.go:24", after := #[], guard := none }) (v := ?_) rfl (by kernel_rfl) (by kernel_rfl) (by kernel_rfl) (fun _ _ _ h => h) (Or.inl ⟨by rfl, ?_⟩) (by assumption) ?_
          rotate_left
          · (intro w hSw; (try dsimp only at hSw); go_simp; try with_reducible rfl)
          try simp only [Act.put, List.setIfInBounds_toArray, List.set_cons_zero, List.set_cons_succ]
          refine wpAnyH_take (i := 7) (oi := { dst := some 43, op := Go.Op.move (Go.Operand.tmp 10), type := 3, pos := "l16_entry.go:24", after := #[], guard := none }) (v := ?_) rfl (by kernel_rfl) (by kernel_rfl) (by kernel_rfl) (fun _ _ _ h => h) (Or.inl ⟨by rfl, ?_⟩) (by assumption) ?_
          rotate_left
          · (intro w hSw; (try dsimp only at hSw); go_simp; try with_reducible rfl)
          try simp only [Act.put, List.setIfInBounds_toArray, List.set_cons_zero, List.set_cons_succ]
          refine wpAnyH_take (i := 8) (oi := { dst := some 44, op := Go.Op.indexAddr 26 (Go.Operand.tmp 42) (Go.Operand.tmp 43), type := 0, pos := "l16_entry.go:24", after := #[{ on := 6, ground := Go.Ground.data }, { on := 7, ground := Go.Ground.data }], guard := none }) (v := ?_) rfl (by kernel_rfl) (by kernel_rfl) (by kernel_rfl) (fun _ _ _ h => h) (Or.inl ⟨by rfl, ?_⟩) (by assumption) ?_
          rotate_left
          · (intro w hSw; (try dsimp only at hSw); go_simp; try with_reducible rfl)
          try simp only [Act.put, List.setIfInBounds_toArray, List.set_cons_zero, List.set_cons_succ]
          refine wpAnyH_take (i := 9) (oi := { dst := some 45, op := Go.Op.load 3 (Go.Operand.tmp 44), type := 3, pos := "l16_entry.go:24", after := #[{ on := 8, ground := Go.Ground.data }], guard := none }) (v := ?_) rfl (by kernel_rfl) (by kernel_rfl) (by kernel_rfl) (fun _ _ _ h => h) (Or.inl ⟨by rfl, ?_⟩) (by assumption) ?_
          rotate_left
          · (intro w hSw; (try dsimp only at hSw); go_simp; try with_reducible rfl)
          try simp only [Act.put, List.setIfInBounds_toArray, List.set_cons_zero, List.set_cons_succ]
          refine wpAnyH_ready (rs := [0, 10]) (by kernel_rfl) (by simp) ?_
          refine (AllReadyH.cons (o := { dst := some 36, op := Go.Op.load 30 (Go.Operand.tmp 9), type := 30, pos := "l16_entry.go:24", after := #[], guard := none }) rfl (fun K0 hK0 => ?_) (AllReadyH.cons (o := { dst := some 46, op := Go.Op.call { callee := Go.Callee.value (Go.Operand.func 52), args := #[Go.Operand.tmp 37, Go.Operand.tmp 41, Go.Operand.tmp 45], argTypes := #[25, 3, 3] }, type := 3, pos := "l16_entry.go:24", after := #[{ on := 1, ground := Go.Ground.data }, { on := 5, ground := Go.Ground.data }, { on := 9, ground := Go.Ground.data }], guard := none }) rfl (fun K10 hK10 => ?_) AllReadyH.nil))
          go_simp
          refine hK0.out _ _ ?_ (fun hHeld1 => ?_)
          · (try dsimp only); go_keep
          clear hK0 K0 hHeld0
          try simp only [Act.put, List.setIfInBounds_toArray, List.set_cons_zero, List.set_cons_succ]
          refine wpAnyH_ready (rs := [10]) (by kernel_rfl) (by simp) ?_
          refine AllReadyH.cons (o := { dst := some 46, op := Go.Op.call { callee := Go.Callee.value (Go.Operand.func 52), args := #[Go.Operand.tmp 37, Go.Operand.tmp 41, Go.Operand.tmp 45], argTypes := #[25, 3, 3] }, type := 3, pos := "l16_entry.go:24", after := #[{ on := 1, ground := Go.Ground.data }, { on := 5, ground := Go.Ground.data }, { on := 9, ground := Go.Ground.data }], guard := none }) rfl (fun K10 hK10 => ?_) AllReadyH.nil
          go_simp
          (refine (HGp1.out _).mono ?_; rintro e v1 ⟨rfl, hb1⟩; have hg3 := Lib.hid (hgd.out.dr.call hb1); have k0 := cell_keep hb1 c0; have k3 := cell_keep hb1 c3; have k4 := cell_keep hb1 b0; have k5 := cell_keep hb1 b1; have k6 := cell_keep hb1 m0; have k7 := cell_keep hb1 m1; have k8 := cell_keep hb1 m2; clear hb1 c0 c3 b0 b1 m0 m1 m2)
          go_wp2_with fail
          refine hK10.out _ _ ?_ (fun hHeld2 => ?_)
          · (try dsimp only); go_keep
          clear hK10 K10 hHeld1
          try simp only [Act.put, List.setIfInBounds_toArray, List.set_cons_zero, List.set_cons_succ]
          refine wpAnyH_ready (rs := [11]) (by kernel_rfl) (by simp) ?_
          refine AllReadyH.cons (o := { dst := some 47, op := Go.Op.call { callee := Go.Callee.value (Go.Operand.func 51), args := #[Go.Operand.tmp 36, Go.Operand.tmp 46, Go.Operand.const (Go.Value.bool true)], argTypes := #[30, 3, 4] }, type := 31, pos := "l16_entry.go:24", after := #[{ on := 0, ground := Go.Ground.data }, { on := 10, ground := Go.Ground.data }, { on := 10, ground := Go.Ground.chain }], guard := none }) rfl (fun K11 hK11 => ?_) AllReadyH.nil
          go_simp
          (refine (HSg1.out _).mono ?_; rintro e v2 ⟨rfl, hb1⟩; have hg4 := Lib.hid (hg3.out.call hb1); have l0 := cell_keep hb1 k0; have l3 := cell_keep hb1 k3; have l4 := cell_keep hb1 k4; have l5 := cell_keep hb1 k5; obtain ⟨⟨l6, l7, l8⟩, n0, n1, n2⟩ := row3_cells hg4.out.2.1; clear hb1 k0 k3 k4 k5 k6 k7 k8)
          go_wp2_with fail
          refine hK11.out _ _ ?_ (fun hHeld3 => ?_)
          · (try dsimp only); go_keep
          clear hK11 K11 hHeld2
          try simp only [Act.put, List.setIfInBounds_toArray, List.set_cons_zero, List.set_cons_succ]
          refine wpAnyH_take (i := 12) (oi := { dst := some 35, op := Go.Op.move (Go.Operand.tmp 47), type := 31, pos := "l16_entry.go:24", after := #[{ on := 11, ground := Go.Ground.data }], guard := none }) (v := ?_) rfl (by kernel_rfl) (by kernel_rfl) (by kernel_rfl) (fun _ _ _ h => h) (Or.inl ⟨by rfl, ?_⟩) (by assumption) ?_
          rotate_left
          · (intro w hSw; (try dsimp only at hSw); go_simp; try with_reducible rfl)
          try simp only [Act.put, List.setIfInBounds_toArray, List.set_cons_zero, List.set_cons_succ]
          refine wpAnyH_take (i := 13) (oi := { dst := some 48, op := Go.Op.extract (Go.Operand.tmp 35) 0, type := 30, pos := "l16_entry.go:24", after := #[{ on := 12, ground := Go.Ground.data }], guard := none }) (v := ?_) rfl (by kernel_rfl) (by kernel_rfl) (by kernel_rfl) (fun _ _ _ h => h) (Or.inl ⟨by rfl, ?_⟩) (by assumption) ?_
          rotate_left
          · (intro w hSw; (try dsimp only at hSw); go_simp; try with_reducible rfl)
          try simp only [Act.put, List.setIfInBounds_toArray, List.set_cons_zero, List.set_cons_succ]
          refine wpAnyH_take (i := 14) (oi := { dst := some 49, op := Go.Op.extract (Go.Operand.tmp 35) 1, type := 4, pos := "l16_entry.go:24", after := #[{ on := 12, ground := Go.Ground.data }, { on := 15, ground := Go.Ground.gcOnly Go.Departure.lateStores }], guard := none }) (v := ?_) rfl (by kernel_rfl) (by kernel_rfl) (by kernel_rfl) (fun _ _ _ h => h) (Or.inl ⟨by rfl, ?_⟩) (by assumption) ?_
          rotate_left
          · (intro w hSw; (try dsimp only at hSw); go_simp; try with_reducible rfl)
          try simp only [Act.put, List.setIfInBounds_toArray, List.set_cons_zero, List.set_cons_succ]
          refine wpAnyH_ready (rs := [15]) (by kernel_rfl) (by simp) ?_
          refine AllReadyH.cons (o := { dst := none, op := Go.Op.store 30 (Go.Operand.tmp 9) (Go.Operand.tmp 48), type := 0, pos := "l16_entry.go:24", after := #[{ on := 13, ground := Go.Ground.data }, { on := 11, ground := Go.Ground.chain }, { on := 0, ground := Go.Ground.phase }, { on := 1, ground := Go.Ground.phase }, { on := 2, ground := Go.Ground.phase }, { on := 3, ground := Go.Ground.phase }, { on := 4, ground := Go.Ground.phase }, { on := 5, ground := Go.Ground.phase }, { on := 6, ground := Go.Ground.phase }, { on := 7, ground := Go.Ground.phase }, { on := 8, ground := Go.Ground.phase }, { on := 9, ground := Go.Ground.phase }, { on := 10, ground := Go.Ground.phase }, { on := 11, ground := Go.Ground.phase }, { on := 12, ground := Go.Ground.phase }, { on := 13, ground := Go.Ground.phase }, { on := 14, ground := Go.Ground.textOnly Go.Departure.lateStores }], guard := none }) rfl (fun K15 hK15 => ?_) AllReadyH.nil
          go_simp
          refine hK15.out _ _ ?_ (fun hHeld4 => ?_)
          · (try dsimp only); exact ⟨set3_keep l0 Hne.out.1, set3_keep l3 Hne.out.2.1, set3_keep l4 Hne.out.2.2, set3_keep l5 Hne.out.2.2⟩
          clear hK15 K15 hHeld3
          try simp only [Act.put, List.setIfInBounds_toArray, List.set_cons_zero, List.set_cons_succ]
          refine wpAnyH_done (by kernel_rfl) ?_ _
          rotate_left
          go_simp
          (refine (HGp1.out _).mono ?_; rintro e v1 ⟨rfl, hb1⟩; have hg3 := Lib.hid (hgd.out.dr.call hb1); have k0 := cell_keep hb1 c0; have k3 := cell_keep hb1 c3; have k4 := cell_keep hb1 b0; have k5 := cell_keep hb1 b1; have k6 := cell_keep hb1 m0; have k7 := cell_keep hb1 m1; have k8 := cell_keep hb1 m2; clear hb1 c0 c3 b0 b1 m0 m1 m2)
          go_wp2_with fail
          refine hK10.out _ _ ?_ (fun hHeld1 => ?_)
          · (try dsimp only); go_keep
          clear hK10 K10 hHeld0
          try simp only [Act.put, List.setIfInBounds_toArray, List.set_cons_zero, List.set_cons_succ]
          refine wpAnyH_ready (rs := [0]) (by kernel_rfl) (by simp) ?_
          refine AllReadyH.cons (o := { dst := some 36, op := Go.Op.load 30 (Go.Operand.tmp 9), type := 30, pos := "l16_entry.go:24", after := #[], guard := none }) rfl (fun K0 hK0 => ?_) AllReadyH.nil
          go_simp
          refine hK0.out _ _ ?_ (fun hHeld2 => ?_)
          · (try dsimp only); go_keep
          clear hK0 K0 hHeld1
          try simp only [Act.put, List.setIfInBounds_toArray, List.set_cons_zero, List.set_cons_succ]
          refine wpAnyH_ready (rs := [11]) (by kernel_rfl) (by simp) ?_
          refine AllReadyH.cons (o := { dst := some 47, op := Go.Op.call { callee := Go.Callee.value (Go.Operand.func 51), args := #[Go.Operand.tmp 36, Go.Operand.tmp 46, Go.Operand.const (Go.Value.bool true)], argTypes := #[30, 3, 4] }, type := 31, pos := "l16_entry.go:24", after := #[{ on := 0, ground := Go.Ground.data }, { on := 10, ground := Go.Ground.data }, { on := 10, ground := Go.Ground.chain }], guard := none }) rfl (fun K11 hK11 => ?_) AllReadyH.nil
          go_simp
          (refine (HSg1.out _).mono ?_; rintro e v2 ⟨rfl, hb1⟩; have hg4 := Lib.hid (hg3.out.call hb1); have l0 := cell_keep hb1 k0; have l3 := cell_keep hb1 k3; have l4 := cell_keep hb1 k4; have l5 := cell_keep hb1 k5; obtain ⟨⟨l6, l7, l8⟩, n0, n1, n2⟩ := row3_cells hg4.out.2.1; clear hb1 k0 k3 k4 k5 k6 k7 k8)
          go_wp2_with fail
          refine hK11.out _ _ ?_ (fun hHeld3 => ?_)
          · (try dsimp only); go_keep
          clear hK11 K11 hHeld2
          try simp only [Act.put, List.setIfInBounds_toArray, List.set_cons_zero, List.set_cons_succ]
          refine wpAnyH_take (i := 12) (oi := { dst := some 35, op := Go.Op.move (Go.Operand.tmp 47), type := 31, pos := "l16_entry.go:24", after := #[{ on := 11, ground := Go.Ground.data }], guard := none }) (v := ?_) rfl (by kernel_rfl) (by kernel_rfl) (by kernel_rfl) (fun _ _ _ h => h) (Or.inl ⟨by rfl, ?_⟩) (by assumption) ?_
          rotate_left
          · (intro w hSw; (try dsimp only at hSw); go_simp; try with_reducible rfl)
          try simp only [Act.put, List.setIfInBounds_toArray, List.set_cons_zero, List.set_cons_succ]
          refine wpAnyH_take (i := 13) (oi := { dst := some 48, op := Go.Op.extract (Go.Operand.tmp 35) 0, type := 30, pos := "l16_entry.go:24", after := #[{ on := 12, ground := Go.Ground.data }], guard := none }) (v := ?_) rfl (by kernel_rfl) (by kernel_rfl) (by kernel_rfl) (fun _ _ _ h => h) (Or.inl ⟨by rfl, ?_⟩) (by assumption) ?_
          rotate_left
          · (intro w hSw; (try dsimp only at hSw); go_simp; try with_reducible rfl)
          try simp only [Act.put, List.setIfInBounds_toArray, List.set_cons_zero, List.set_cons_succ]
          refine wpAnyH_take (i := 14) (oi := { dst := some 49, op := Go.Op.extract (Go.Operand.tmp 35) 1, type := 4, pos := "l16_entry.go:24", after := #[{ on := 12, ground := Go.Ground.data }, { on := 15, ground := Go.Ground.gcOnly Go.Departure.lateStores }], guard := none }) (v := ?_) rfl (by kernel_rfl) (by kernel_rfl) (by kernel_rfl) (fun _ _ _ h => h) (Or.inl ⟨by rfl, ?_⟩) (by assumption) ?_
          rotate_left
          · (intro w hSw; (try dsimp only at hSw); go_simp; try with_reducible rfl)
          try simp only [Act.put, List.setIfInBounds_toArray, List.set_cons_zero, List.set_cons_succ]
          refine wpAnyH_ready (rs := [15]) (by kernel_rfl) (by simp) ?_
          refine AllReadyH.cons (o := { dst := none, op := Go.Op.store 30 (Go.Operand.tmp 9) (Go.Operand.tmp 48), type := 0, pos := "l16_entry.go:24", after := #[{ on := 13, ground := Go.Ground.data }, { on := 11, ground := Go.Ground.chain }, { on := 0, ground := Go.Ground.phase }, { on := 1, ground := Go.Ground.phase }, { on := 2, ground := Go.Ground.phase }, { on := 3, ground := Go.Ground.phase }, { on := 4, ground := Go.Ground.phase }, { on := 5, ground := Go.Ground.phase }, { on := 6, ground := Go.Ground.phase }, { on := 7, ground := Go.Ground.phase }, { on := 8, ground := Go.Ground.phase }, { on := 9, ground := Go.Ground.phase }, { on := 10, ground := Go.Ground.phase }, { on := 11, ground := Go.Ground.phase }, { on := 12, ground := Go.Ground.phase }, { on := 13, ground := Go.Ground.phase }, { on := 14, ground := Go.Ground.textOnly Go.Departure.lateStores }], guard := none }) rfl (fun K15 hK15 => ?_) AllReadyH.nil
          go_simp
          refine hK15.out _ _ ?_ (fun hHeld4 => ?_)
          · (try dsimp only); exact ⟨set3_keep l0 Hne.out.1, set3_keep l3 Hne.out.2.1, set3_keep l4 Hne.out.2.2, set3_keep l5 Hne.out.2.2⟩
          clear hK15 K15 hHeld3
          try simp only [Act.put, List.setIfInBounds_toArray, List.set_cons_zero, List.set_cons_succ]
          refine wpAnyH_done (by kernel_rfl) ?_ _
          rotate_left
          all_goals
            have hg5 := Lib.hid (hg4.out.put z2)
            go_wp2_with fail
            go_roundw
            case rel => exact ⟨j + 1, by omega, by go_num, by rw [HO.out]; exact hg5.out⟩
            case measure => (try simp [intOf]); omega
      · obtain rfl : j = n := by omega
        have HIpz := Lib.hid (fun X => HIp.out (leO x y L w j) X)
        have HE := Lib.hid (fun X hb => HK.out _ X rfl hb)
        have hn0 : ((j : Int) + 1 == 0) = false := beq_eq_false_iff_ne.2 (by omega)
        have HnM : Hid (M ≠ W.heap.size + 1) := Lib.hid (by have := hgm.out.2.2.1; omega)
        clear HIp HK HSg HGp HIn hgm0
        generalize leO x y L w j = z at *
        generalize ipB x y z = ip at *
        go_wp2_with fail
        try simp only [List.cons_append, List.nil_append, List.append_eq]
        refine wp_region_held_drew (S := (fun w' => w'.cell? ⟨M, 0, none⟩ = some (.int .i64 x) ∧ w'.cell? ⟨M, 1, none⟩ = some (.int .i64 y) ∧ w'.cell? ⟨M, 2, none⟩ = some (.int .i64 z))) (by kernel_rfl) ?_ (fun hHeld0 => ?_)
        · (try dsimp only); go_keep
        refine wpAnyH_take (i := 0) (oi := { dst := some 54, op := Go.Op.load 30 (Go.Operand.tmp 9), type := 30, pos := "l16_entry.go:30", after := #[], guard := none }) (v := ?_) rfl (by kernel_rfl) (by kernel_rfl) (by kernel_rfl) (fun _ _ _ h => h) (Or.inl ⟨by rfl, ?_⟩) (by assumption) ?_
        rotate_left
        · (intro w hSw; (try dsimp only at hSw); go_simp; try with_reducible rfl)
        try simp only [Act.put, List.setIfInBounds_toArray, List.set_cons_zero, List.set_cons_succ]
        refine wpAnyH_take (i := 1) (oi := { dst := some 55, op := Go.Op.load 30 (Go.Operand.tmp 9), type := 30, pos := "l16_entry.go:30", after := #[], guard := none }) (v := ?_) rfl (by kernel_rfl) (by kernel_rfl) (by kernel_rfl) (fun _ _ _ h => h) (Or.inl ⟨by rfl, ?_⟩) (by assumption) ?_
        rotate_left
        · (intro w hSw; (try dsimp only at hSw); go_simp; try with_reducible rfl)
        try simp only [Act.put, List.setIfInBounds_toArray, List.set_cons_zero, List.set_cons_succ]
        refine wpAnyH_ready (rs := [2]) (by kernel_rfl) (by simp) ?_
        refine AllReadyH.cons (o := { dst := some 56, op := Go.Op.call { callee := Go.Callee.value (Go.Operand.func 53), args := #[Go.Operand.tmp 55], argTypes := #[30] }, type := 4, pos := "l16_entry.go:30", after := #[{ on := 1, ground := Go.Ground.data }], guard := none }) rfl (fun K2 hK2 => ?_) AllReadyH.nil
        go_simp
        (refine (HIpz.out _).mono ?_; rintro e v1 ⟨rfl, hb1⟩; have hk2 := Lib.hid (hgm.out.dr.call hb1); obtain ⟨⟨p1, q1, r1⟩, -⟩ := row3_cells hk2.out.2.1; obtain ⟨⟨e0, e1, e2⟩, g0, g1, g2⟩ := row3_cells hk2.out.1.1.2.2.1)
        go_wp2_with fail
        refine hK2.out _ _ ?_ (fun hHeld1 => ?_)
        · (try dsimp only); go_keep
        clear hK2 K2 hHeld0
        try simp only [Act.put, List.setIfInBounds_toArray, List.set_cons_zero, List.set_cons_succ]
        refine wpAnyH_ready (rs := [3]) (by kernel_rfl) (by simp) ?_
        refine AllReadyH.cons (o := { dst := none, op := Go.Op.store 30 (Go.Operand.tmp 6) (Go.Operand.tmp 54), type := 0, pos := "l16_entry.go:30", after := #[{ on := 0, ground := Go.Ground.data }, { on := 2, ground := Go.Ground.chain }, { on := 0, ground := Go.Ground.phase }, { on := 1, ground := Go.Ground.textOnly Go.Departure.lateStores }, { on := 2, ground := Go.Ground.textOnly Go.Departure.lateStoresUnsure }], guard := none }) rfl (fun K3 hK3 => ?_) AllReadyH.nil
        go_simp
        refine hK3.out _ _ ?_ (fun hHeld2 => ?_)
        · (try dsimp only); exact ⟨set3_keep p1 HnM.out, set3_keep q1 HnM.out, set3_keep r1 HnM.out⟩
        clear hK3 K3 hHeld1
        try simp only [Act.put, List.setIfInBounds_toArray, List.set_cons_zero, List.set_cons_succ]
        refine wpAnyH_take (i := 4) (oi := { dst := some 7, op := Go.Op.assign (Go.Operand.tmp 56), type := 4, pos := "l16_entry.go:30", after := #[{ on := 2, ground := Go.Ground.data }, { on := 3, ground := Go.Ground.chain }, { on := 0, ground := Go.Ground.phase }, { on := 1, ground := Go.Ground.phase }, { on := 2, ground := Go.Ground.phase }, { on := 3, ground := Go.Ground.phase }], guard := none }) (v := ?_) rfl (by kernel_rfl) (by kernel_rfl) (by kernel_rfl) (fun _ _ _ h => h) (Or.inl ⟨by rfl, ?_⟩) (by assumption) ?_
        rotate_left
        · (intro w hSw; (try dsimp only at hSw); go_simp; try with_reducible rfl)
        try simp only [Act.put, List.setIfInBounds_toArray, List.set_cons_zero, List.set_cons_succ]
        refine wpAnyH_done (by kernel_rfl) ?_ _
        go_wp2_with fail
        refine bodyPost_ret (v := .tuple #[.agg #[.int .i64 x, .int .i64 y, .int .i64 z], .bool ip]) (by simp [results, Try.results23, go_sem, e0, e1, e2]) rfl (HE.out _ (hk2.out.1.1.ending _ _ _))
end Go.Proofs.Ytgocbnnhhpmndaa.entM
