/- The contract of the program's joining of a walk's cells to the maze. -/
import Derived.Test.YtcoikcnijaniaaaPopI2
import Derived.Test.YtcoikcnijaniaaaPrgM
namespace Go.Proofs.Ytcoikcnijaniaaa.popI
open Go.ChangeShapes Go.WideShapes Go.ChangeAt Go.RowKit Go.Maps
open draw gridP gridC gridE bitP mazeP mazeC mazeM mazeR intsP reachP reachM reachN reachD intA intK listK rowsP setI wayP ersP ersO popP popO popW
set_option linter.unusedVariables false

set_option maxRecDepth 100000 in
set_option maxHeartbeats 4000000 in
theorem join_any (x y : Int) (ad : Addr) (n c : Nat) (ls : List (List Int)) (P bi bt b br : Nat) (t : Int → Nat) (L : List Int) (o cc : Int) (w : List Int) (v : Value) (W : World) (hn : ls.length = n) (hps : PS P bi bt n x y (.slice (some ad) n c) t L o W) (hi : MxIn W b (some ad) ls) (hbs : b ≤ P ∧ b ≤ bi ∧ b ≤ bt) (hpw : Pw x y ls L w cc t)
    (hrow : W.ownsRow br 3 1 v w.length (icells w)) (hne : ∀ g, v.ownBlock = some g → g ≠ P ∧ g ≠ bi ∧ g ≠ bt) (hLl : L.length ≤ 5000) :
    Calls Try.prog 93 #[.pointer (some ⟨P, 0, none⟩), v] W (fun e w' => e = .returned (.tuple #[]) ∧ JQ W P bi bt n x y (.slice (some ad) n c) t (L ++ w) (jnO x y ls t w o) w') := by
  obtain ⟨A2, c2, rfl⟩ := own_form hrow
  obtain ⟨hN0, hN1, hN2, hN3⟩ := hpw.ao.n16
  have hlt := hps.lt
  have hw16 := hpw.w16
  have HMx := Lib.hid (fun X (hk : Kp P bi bt W X) => mx_keep hi hbs.1 hbs.2.1 hbs.2.2 (by omega) hk)
  have HGp := Lib.hid (fun k d X => gridI.gapAt_any x y k d X)
  have HSg := Lib.hid (fun z g X => mazeI.setGap_any x y z g true X)
  have HRow := Lib.hid hpw.ao.row
  have HNn : Hid (x * y = (n : Int) ∧ ls.length = n) := Lib.hid ⟨by omega, hn⟩
  have Hpw := Lib.hid hpw
  have HJ := Lib.hid (jq_new hps)
  have HRw := Lib.hid (fun X (hk : Kp P bi bt W X) => hk.own hrow hne)
  have hn16 : n ≤ 16 := by omega
  clear hn hps hi hbs hpw hrow hN0 hN1 hN2 hN3 hlt
  go_enter Try.func93, Try.ntmps93
  go_wp2_with fail
  go_loopw [9] (fun u9 wr => ∃ j : Nat, j ≤ w.length ∧ u9 = .int .i64 j ∧ JQ W P bi bt n x y (.slice (some ad) n c) t (L ++ w.take j) (jnO x y ls t (w.take j) o) wr) (fun u9 _ => w.length - (intOf u9).toNat)
  case atStart => exact ⟨0, Nat.zero_le _, rfl, by rw [List.take_zero, List.append_nil]; exact HJ.out⟩
  case round =>
    clear HJ
    obtain ⟨j, hj, rfl, hjq⟩ := hrel
    have Hjq := Lib.hid hjq
    have hj0 : (0 : Int) ≤ (j : Int) := Int.natCast_nonneg _
    by_cases hjw : j < w.length
    · obtain ⟨u, hu⟩ : ∃ u, w[j]? = some u := ⟨w[j], List.getElem?_eq_getElem hjw⟩
      have hmem := List.mem_of_getElem? hu
      have hur := Hpw.out.rng u hmem
      have hul := Hpw.out.left u hmem
      have g1 := (Hpw.out.ao.top hur hul).1
      obtain ⟨ku, rfl⟩ : ∃ ku : Nat, u = ku := Int.eq_ofNat_of_zero_le hur.1
      have hku : ku < n := by have h1 := hur.2; have h2 := HNn.out.1; omega
      have hkul : ku < ls.length := by have h2 := HNn.out.2; omega
      have hrow := HRw.out _ hjq.2.1
      obtain ⟨gw, cgw, hge, -, -⟩ := own_some hrow (by omega)
      cases hge
      have hcd := own_cellI hrow hu
      have hj1 : (j : Int) < (w.length : Int) := by omega
      have hku0 : (0 : Int) ≤ (ku : Int) := Int.natCast_nonneg _
      have hku1 : (ku : Int) < (n : Int) := by omega
      have h60 := HRow.out ku
      have HL := Lib.hid (show L ++ w.take (j + 1) = L ++ w.take j ++ [(ku : Int)] by rw [take_one hu, List.append_assoc])
      have HJn := Lib.hid (jn_next (x := x) (y := y) (ls := ls) (t := t) hu o)
      have hll : (L ++ w.take j).length ≤ 5016 := by rw [List.length_append, List.length_take]; omega
      obtain ⟨⟨p0, p1, p2, p3, p4, p5⟩, -⟩ := pop6_cells hjq.1.1.1
      obtain ⟨Ai, ci, e2, r2⟩ := mx_rows (HMx.out _ hjq.2.1) Hpw.out.ao hkul
      obtain ⟨ai, rfl, hai, e3⟩ := ints_cell r2 g1
      have hlk : ∀ m, (Instr.lookup 79 (.map (some bt)) (.int .i64 ku) false).run Try.prog (wr.drewN m) = .ok (.int .i64 ((t ku : Nat) : Int)) (wr.drewN m) := fun m => top_at (hjq.drs m).1.1.2.2 (by omega)
      have HGp1 := Lib.hid (fun X => HGp.out ku (awZ ls t ku) X)
      have hx1 : (0 : Int) ≤ ((t ku : Nat) : Int) := Int.natCast_nonneg _
      have hx2 : ((t ku : Nat) : Int) < ((rwA ls ku).length : Int) := by omega
      have Hkey := Lib.hid (key_int (show -9223372036854775808 ≤ (ku : Int) ∧ (ku : Int) ≤ 9223372036854775807 by omega))
      clear hu hmem hur hul g1 r2 hrow hjq
      generalize jnO x y ls t (w.take j) o = o1 at *
      generalize L ++ w.take j = L1 at *
      have HSg1 := Lib.hid (fun X => HSg.out o1 (gpZ x y ku (awZ ls t ku)) X)
      generalize sgB x y o1 (gpZ x y ku (awZ ls t ku)) = sb at *
      generalize sgZ x y o1 (gpZ x y ku (awZ ls t ku)) true = o2 at *
      generalize gpZ x y ku (awZ ls t ku) = gg at *
      generalize awZ ls t ku = d at *
      generalize t (ku : Int) = tk at *
      generalize (rwA ls ku).length = ln at *
      go_wp2_with fail
      go_quiet (fail)
      have Hj2 := Lib.hid (Hjq.out.drs nq)
      generalize wr.drewN nq = X2 at *
      clear hcd p0 p1 p2 p3 p4 p5 e2 e3 hlk Hjq
      obtain ⟨⟨p0, p1, p2, -⟩, -⟩ := pop6_cells Hj2.out.1.1.1
      go_wp2_with fail
      try simp only [List.cons_append, List.nil_append, List.append_eq]
      refine wp_region_held_drew (S := (fun w' => w'.cell? ⟨P, 0, none⟩ = some (.int .i64 x) ∧ w'.cell? ⟨P, 1, none⟩ = some (.int .i64 y))) (by kernel_rfl) ?_ (fun hHeld0 => ?_)
      · (try dsimp only); go_keep
      refine wpAnyH_take (i := 0) (oi := { dst := some 29, op := Go.Op.move (Go.Operand.tmp 0), type := 114, pos := "l15_stack.go:58", after := #[], guard := none }) (v := ?_) rfl (by kernel_rfl) (by kernel_rfl) (by kernel_rfl) (fun _ _ _ h => h) (Or.inl ⟨by rfl, ?_⟩) (by assumption) ?_
      rotate_left
      · (intro w hSw; (try dsimp only at hSw); go_simp; try with_reducible rfl)
      try simp only [Act.put, List.setIfInBounds_toArray, List.set_cons_zero, List.set_cons_succ]
      refine wpAnyH_take (i := 1) (oi := { dst := some 30, op := Go.Op.move (Go.Operand.tmp 0), type := 114, pos := "l15_stack.go:58", after := #[], guard := none }) (v := ?_) rfl (by kernel_rfl) (by kernel_rfl) (by kernel_rfl) (fun _ _ _ h => h) (Or.inl ⟨by rfl, ?_⟩) (by assumption) ?_
      rotate_left
      · (intro w hSw; (try dsimp only at hSw); go_simp; try with_reducible rfl)
      try simp only [Act.put, List.setIfInBounds_toArray, List.set_cons_zero, List.set_cons_succ]
      refine wpAnyH_take (i := 2) (oi := { dst := some 31, op := Go.Op.nilCheck (Go.Operand.tmp 30), type := 0, pos := "l15_stack.go:58", after := #[{ on := 1, ground := Go.Ground.data }], guard := none }) (v := ?_) rfl (by kernel_rfl) (by kernel_rfl) (by kernel_rfl) (fun _ _ _ h => h) (Or.inl ⟨by rfl, ?_⟩) (by assumption) ?_
      rotate_left
      · (intro w hSw; (try dsimp only at hSw); go_simp; try with_reducible rfl)
      try simp only [Act.put, List.setIfInBounds_toArray, List.set_cons_zero, List.set_cons_succ]
      refine wpAnyH_take (i := 3) (oi := { dst := some 32, op := Go.Op.fieldAddr 81 (Go.Operand.tmp 31) 0, type := 0, pos := "l15_stack.go:58", after := #[{ on := 2, ground := Go.Ground.data }], guard := none }) (v := ?_) rfl (by kernel_rfl) (by kernel_rfl) (by kernel_rfl) (fun _ _ _ h => h) (Or.inl ⟨by rfl, ?_⟩) (by assumption) ?_
      rotate_left
      · (intro w hSw; (try dsimp only at hSw); go_simp; try with_reducible rfl)
      try simp only [Act.put, List.setIfInBounds_toArray, List.set_cons_zero, List.set_cons_succ]
      refine wpAnyH_take (i := 5) (oi := { dst := some 34, op := Go.Op.move (Go.Operand.tmp 0), type := 114, pos := "l15_stack.go:58", after := #[], guard := none }) (v := ?_) rfl (by kernel_rfl) (by kernel_rfl) (by kernel_rfl) (fun _ _ _ h => h) (Or.inl ⟨by rfl, ?_⟩) (by assumption) ?_
      rotate_left
      · (intro w hSw; (try dsimp only at hSw); go_simp; try with_reducible rfl)
      try simp only [Act.put, List.setIfInBounds_toArray, List.set_cons_zero, List.set_cons_succ]
      refine wpAnyH_take (i := 6) (oi := { dst := some 35, op := Go.Op.nilCheck (Go.Operand.tmp 34), type := 0, pos := "l15_stack.go:58", after := #[{ on := 5, ground := Go.Ground.data }], guard := none }) (v := ?_) rfl (by kernel_rfl) (by kernel_rfl) (by kernel_rfl) (fun _ _ _ h => h) (Or.inl ⟨by rfl, ?_⟩) (by assumption) ?_
      rotate_left
      · (intro w hSw; (try dsimp only at hSw); go_simp; try with_reducible rfl)
      try simp only [Act.put, List.setIfInBounds_toArray, List.set_cons_zero, List.set_cons_succ]
      refine wpAnyH_take (i := 7) (oi := { dst := some 36, op := Go.Op.fieldAddr 81 (Go.Operand.tmp 35) 0, type := 0, pos := "l15_stack.go:58", after := #[{ on := 6, ground := Go.Ground.data }], guard := none }) (v := ?_) rfl (by kernel_rfl) (by kernel_rfl) (by kernel_rfl) (fun _ _ _ h => h) (Or.inl ⟨by rfl, ?_⟩) (by assumption) ?_
      rotate_left
      · (intro w hSw; (try dsimp only at hSw); go_simp; try with_reducible rfl)
      try simp only [Act.put, List.setIfInBounds_toArray, List.set_cons_zero, List.set_cons_succ]
      refine wpAnyH_take (i := 8) (oi := { dst := some 37, op := Go.Op.fieldAddr 27 (Go.Operand.tmp 36) 0, type := 0, pos := "l15_stack.go:58", after := #[{ on := 7, ground := Go.Ground.data }], guard := none }) (v := ?_) rfl (by kernel_rfl) (by kernel_rfl) (by kernel_rfl) (fun _ _ _ h => h) (Or.inl ⟨by rfl, ?_⟩) (by assumption) ?_
      rotate_left
      · (intro w hSw; (try dsimp only at hSw); go_simp; try with_reducible rfl)
      try simp only [Act.put, List.setIfInBounds_toArray, List.set_cons_zero, List.set_cons_succ]
      refine wpAnyH_take (i := 9) (oi := { dst := some 38, op := Go.Op.load 25 (Go.Operand.tmp 37), type := 25, pos := "l15_stack.go:58", after := #[{ on := 8, ground := Go.Ground.data }], guard := none }) (v := ?_) rfl (by kernel_rfl) (by kernel_rfl) (by kernel_rfl) (fun _ _ _ h => h) (Or.inl ⟨by rfl, ?_⟩) (by assumption) ?_
      rotate_left
      · (intro w hSw; (try dsimp only at hSw); go_simp; try with_reducible rfl)
      try simp only [Act.put, List.setIfInBounds_toArray, List.set_cons_zero, List.set_cons_succ]
      refine wpAnyH_take (i := 10) (oi := { dst := some 39, op := Go.Op.move (Go.Operand.tmp 5), type := 3, pos := "l15_stack.go:58", after := #[], guard := none }) (v := ?_) rfl (by kernel_rfl) (by kernel_rfl) (by kernel_rfl) (fun _ _ _ h => h) (Or.inl ⟨by rfl, ?_⟩) (by assumption) ?_
      rotate_left
      · (intro w hSw; (try dsimp only at hSw); go_simp; try with_reducible rfl)
      try simp only [Act.put, List.setIfInBounds_toArray, List.set_cons_zero, List.set_cons_succ]
      refine wpAnyH_take (i := 11) (oi := { dst := some 40, op := Go.Op.move (Go.Operand.tmp 6), type := 3, pos := "l15_stack.go:58", after := #[], guard := none }) (v := ?_) rfl (by kernel_rfl) (by kernel_rfl) (by kernel_rfl) (fun _ _ _ h => h) (Or.inl ⟨by rfl, ?_⟩) (by assumption) ?_
      rotate_left
      · (intro w hSw; (try dsimp only at hSw); go_simp; try with_reducible rfl)
      try simp only [Act.put, List.setIfInBounds_toArray, List.set_cons_zero, List.set_cons_succ]
      refine wpAnyH_ready (rs := [4, 12]) (by kernel_rfl) (by simp) ?_
      refine (AllReadyH.cons (o := { dst := some 33, op := Go.Op.load 27 (Go.Operand.tmp 32), type := 27, pos := "l15_stack.go:58", after := #[{ on := 3, ground := Go.Ground.data }], guard := none }) rfl (fun K4 hK4 => ?_) (AllReadyH.cons (o := { dst := some 41, op := Go.Op.call { callee := Go.Callee.value (Go.Operand.func 47), args := #[Go.Operand.tmp 38, Go.Operand.tmp 39, Go.Operand.tmp 40], argTypes := #[25, 3, 3] }, type := 3, pos := "l15_stack.go:58", after := #[{ on := 9, ground := Go.Ground.data }, { on := 10, ground := Go.Ground.data }, { on := 11, ground := Go.Ground.data }], guard := none }) rfl (fun K12 hK12 => ?_) AllReadyH.nil))
      · as_aux_lemma =>
          go_simp
          refine hK4.out _ _ ?_ (fun hHeld1 => ?_)
          · (try dsimp only); go_keep
          clear hK4 K4 hHeld0
          try simp only [Act.put, List.setIfInBounds_toArray, List.set_cons_zero, List.set_cons_succ]
          refine wpAnyH_ready (rs := [12]) (by kernel_rfl) (by simp) ?_
          refine AllReadyH.cons (o := { dst := some 41, op := Go.Op.call { callee := Go.Callee.value (Go.Operand.func 47), args := #[Go.Operand.tmp 38, Go.Operand.tmp 39, Go.Operand.tmp 40], argTypes := #[25, 3, 3] }, type := 3, pos := "l15_stack.go:58", after := #[{ on := 9, ground := Go.Ground.data }, { on := 10, ground := Go.Ground.data }, { on := 11, ground := Go.Ground.data }], guard := none }) rfl (fun K12 hK12 => ?_) AllReadyH.nil
          go_simp
          (refine (HGp1.out _).mono ?_; rintro e v1 ⟨rfl, hb1⟩; have Hj3 := Lib.hid (Hj2.out.dr.call hb1); have k0 := cell_keep hb1 p0; have k1 := cell_keep hb1 p1; have k2 := cell_keep hb1 p2; clear hb1 p0 p1 p2)
          go_wp2_with fail
          refine hK12.out _ _ ?_ (fun hHeld2 => ?_)
          · (try dsimp only); go_keep
          clear hK12 K12 hHeld1
          try simp only [Act.put, List.setIfInBounds_toArray, List.set_cons_zero, List.set_cons_succ]
          refine wpAnyH_ready (rs := [13]) (by kernel_rfl) (by simp) ?_
          refine AllReadyH.cons (o := { dst := some 42, op := Go.Op.call { callee := Go.Callee.value (Go.Operand.func 46), args := #[Go.Operand.tmp 33, Go.Operand.tmp 41, Go.Operand.const (Go.Value.bool true)], argTypes := #[27, 3, 4] }, type := 40, pos := "l15_stack.go:58", after := #[{ on := 4, ground := Go.Ground.data }, { on := 12, ground := Go.Ground.data }, { on := 12, ground := Go.Ground.chain }], guard := none }) rfl (fun K13 hK13 => ?_) AllReadyH.nil
          go_simp
          (refine (HSg1.out _).mono ?_; rintro e v2 ⟨rfl, hb1⟩; have Hj4 := Lib.hid (Hj3.out.call hb1); clear hb1 k0 k1 k2; obtain ⟨⟨l0, l1, l2, -⟩, n0, n1, n2⟩ := pop6_cells Hj4.out.1.1.1)
          go_wp2_with fail
          refine hK13.out _ _ ?_ (fun hHeld3 => ?_)
          · (try dsimp only); go_keep
          clear hK13 K13 hHeld2
          try simp only [Act.put, List.setIfInBounds_toArray, List.set_cons_zero, List.set_cons_succ]
          refine wpAnyH_take (i := 14) (oi := { dst := some 28, op := Go.Op.move (Go.Operand.tmp 42), type := 40, pos := "l15_stack.go:58", after := #[{ on := 13, ground := Go.Ground.data }], guard := none }) (v := ?_) rfl (by kernel_rfl) (by kernel_rfl) (by kernel_rfl) (fun _ _ _ h => h) (Or.inl ⟨by rfl, ?_⟩) (by assumption) ?_
          rotate_left
          · (intro w hSw; (try dsimp only at hSw); go_simp; try with_reducible rfl)
          try simp only [Act.put, List.setIfInBounds_toArray, List.set_cons_zero, List.set_cons_succ]
          refine wpAnyH_take (i := 15) (oi := { dst := some 43, op := Go.Op.extract (Go.Operand.tmp 28) 0, type := 27, pos := "l15_stack.go:58", after := #[{ on := 14, ground := Go.Ground.data }], guard := none }) (v := ?_) rfl (by kernel_rfl) (by kernel_rfl) (by kernel_rfl) (fun _ _ _ h => h) (Or.inl ⟨by rfl, ?_⟩) (by assumption) ?_
          rotate_left
          · (intro w hSw; (try dsimp only at hSw); go_simp; try with_reducible rfl)
          try simp only [Act.put, List.setIfInBounds_toArray, List.set_cons_zero, List.set_cons_succ]
          refine wpAnyH_take (i := 16) (oi := { dst := some 44, op := Go.Op.extract (Go.Operand.tmp 28) 1, type := 4, pos := "l15_stack.go:58", after := #[{ on := 14, ground := Go.Ground.data }, { on := 19, ground := Go.Ground.gcOnly Go.Departure.lateStores }], guard := none }) (v := ?_) rfl (by kernel_rfl) (by kernel_rfl) (by kernel_rfl) (fun _ _ _ h => h) (Or.inl ⟨by rfl, ?_⟩) (by assumption) ?_
          rotate_left
          · (intro w hSw; (try dsimp only at hSw); go_simp; try with_reducible rfl)
          try simp only [Act.put, List.setIfInBounds_toArray, List.set_cons_zero, List.set_cons_succ]
          refine wpAnyH_take (i := 17) (oi := { dst := some 45, op := Go.Op.nilCheck (Go.Operand.tmp 29), type := 0, pos := "l15_stack.go:58", after := #[{ on := 0, ground := Go.Ground.data }, { on := 0, ground := Go.Ground.phase }, { on := 1, ground := Go.Ground.phase }, { on := 2, ground := Go.Ground.phase }, { on := 3, ground := Go.Ground.phase }, { on := 4, ground := Go.Ground.phase }, { on := 5, ground := Go.Ground.phase }, { on := 6, ground := Go.Ground.phase }, { on := 7, ground := Go.Ground.phase }, { on := 8, ground := Go.Ground.phase }, { on := 9, ground := Go.Ground.phase }, { on := 10, ground := Go.Ground.phase }, { on := 11, ground := Go.Ground.phase }, { on := 12, ground := Go.Ground.phase }, { on := 13, ground := Go.Ground.phase }, { on := 14, ground := Go.Ground.phase }, { on := 15, ground := Go.Ground.phase }, { on := 16, ground := Go.Ground.textOnly Go.Departure.lateStores }], guard := none }) (v := ?_) rfl (by kernel_rfl) (by kernel_rfl) (by kernel_rfl) (fun _ _ _ h => h) (Or.inl ⟨by rfl, ?_⟩) (by assumption) ?_
          rotate_left
          · (intro w hSw; (try dsimp only at hSw); go_simp; try with_reducible rfl)
          try simp only [Act.put, List.setIfInBounds_toArray, List.set_cons_zero, List.set_cons_succ]
          refine wpAnyH_take (i := 18) (oi := { dst := some 46, op := Go.Op.fieldAddr 81 (Go.Operand.tmp 45) 0, type := 0, pos := "l15_stack.go:58", after := #[{ on := 17, ground := Go.Ground.data }, { on := 0, ground := Go.Ground.phase }, { on := 1, ground := Go.Ground.phase }, { on := 2, ground := Go.Ground.phase }, { on := 3, ground := Go.Ground.phase }, { on := 4, ground := Go.Ground.phase }, { on := 5, ground := Go.Ground.phase }, { on := 6, ground := Go.Ground.phase }, { on := 7, ground := Go.Ground.phase }, { on := 8, ground := Go.Ground.phase }, { on := 9, ground := Go.Ground.phase }, { on := 10, ground := Go.Ground.phase }, { on := 11, ground := Go.Ground.phase }, { on := 12, ground := Go.Ground.phase }, { on := 13, ground := Go.Ground.phase }, { on := 14, ground := Go.Ground.phase }, { on := 15, ground := Go.Ground.phase }, { on := 16, ground := Go.Ground.textOnly Go.Departure.lateStores }], guard := none }) (v := ?_) rfl (by kernel_rfl) (by kernel_rfl) (by kernel_rfl) (fun _ _ _ h => h) (Or.inl ⟨by rfl, ?_⟩) (by assumption) ?_
          rotate_left
          · (intro w hSw; (try dsimp only at hSw); go_simp; try with_reducible rfl)
          try simp only [Act.put, List.setIfInBounds_toArray, List.set_cons_zero, List.set_cons_succ]
          refine wpAnyH_ready (rs := [19]) (by kernel_rfl) (by simp) ?_
          refine AllReadyH.cons (o := { dst := none, op := Go.Op.store 27 (Go.Operand.tmp 46) (Go.Operand.tmp 43), type := 0, pos := "l15_stack.go:58", after := #[{ on := 18, ground := Go.Ground.data }, { on := 15, ground := Go.Ground.data }, { on := 13, ground := Go.Ground.chain }, { on := 0, ground := Go.Ground.phase }, { on := 1, ground := Go.Ground.phase }, { on := 2, ground := Go.Ground.phase }, { on := 3, ground := Go.Ground.phase }, { on := 4, ground := Go.Ground.phase }, { on := 5, ground := Go.Ground.phase }, { on := 6, ground := Go.Ground.phase }, { on := 7, ground := Go.Ground.phase }, { on := 8, ground := Go.Ground.phase }, { on := 9, ground := Go.Ground.phase }, { on := 10, ground := Go.Ground.phase }, { on := 11, ground := Go.Ground.phase }, { on := 12, ground := Go.Ground.phase }, { on := 13, ground := Go.Ground.phase }, { on := 14, ground := Go.Ground.phase }, { on := 15, ground := Go.Ground.phase }, { on := 16, ground := Go.Ground.textOnly Go.Departure.lateStores }], guard := none }) rfl (fun K19 hK19 => ?_) AllReadyH.nil
          go_simp
          refine hK19.out _ _ ?_ (fun hHeld4 => ?_)
          · (try dsimp only); exact ⟨(pop6_cells (Hj4.out.maz o2).1.1.1).1.1, (pop6_cells (Hj4.out.maz o2).1.1.1).1.2.1⟩
          clear hK19 K19 hHeld3
          try simp only [Act.put, List.setIfInBounds_toArray, List.set_cons_zero, List.set_cons_succ]
          refine wpAnyH_done (by kernel_rfl) ?_ _
          (have Hj5 := Lib.hid (Hj4.out.maz o2); clear Hj4 Hj3 l0 l1 l2 n0 n1 n2; generalize ((v2.setCell ⟨P, 0, none⟩ (.int .i64 x)).setCell ⟨P, 1, none⟩ (.int .i64 y)).setCell ⟨P, 2, none⟩ (.int .i64 o2) = X5 at *; have p3 := (pop6_cells Hj5.out.1.1.1).1.2.2.2.1; have Hown := Lib.hid Hj5.out.1.1.2.1; have HIn := Lib.hid (fun (X' : World) a g => (JQ.inn (X' := X') (u := (ku : Int)) Hj5.out a g : JQ W P bi bt n x y (.slice (some ad) n c) t (L1 ++ [(ku : Int)]) o2 X')); go_wp2_with (at_mapUpdate; go_loud (refine wpList_mapUpdate_own _ rfl _ _ _ 66 rfl 3 4 lawI Try.underlying66 _ bi L1.length _ rfl Hown.out (by unfold maxLen; omega) _ _ _ rfl rfl Hkey.out _ [] (plainElem_bool Try.underlying4 true) ?_); intro w6 hown6 hgrow6; have HN := Lib.hid (HIn.out _ hown6 hgrow6); clear hown6 hgrow6); go_roundw; (case rel => exact ⟨j + 1, by omega, by go_num, by rw [HL.out, HJn.out]; exact HN.out⟩); (case measure => (simp [intOf]; omega)))
      · as_aux_lemma =>
          go_simp
          (refine (HGp1.out _).mono ?_; rintro e v1 ⟨rfl, hb1⟩; have Hj3 := Lib.hid (Hj2.out.dr.call hb1); have k0 := cell_keep hb1 p0; have k1 := cell_keep hb1 p1; have k2 := cell_keep hb1 p2; clear hb1 p0 p1 p2)
          go_wp2_with fail
          refine hK12.out _ _ ?_ (fun hHeld1 => ?_)
          · (try dsimp only); go_keep
          clear hK12 K12 hHeld0
          try simp only [Act.put, List.setIfInBounds_toArray, List.set_cons_zero, List.set_cons_succ]
          refine wpAnyH_ready (rs := [4]) (by kernel_rfl) (by simp) ?_
          refine AllReadyH.cons (o := { dst := some 33, op := Go.Op.load 27 (Go.Operand.tmp 32), type := 27, pos := "l15_stack.go:58", after := #[{ on := 3, ground := Go.Ground.data }], guard := none }) rfl (fun K4 hK4 => ?_) AllReadyH.nil
          go_simp
          refine hK4.out _ _ ?_ (fun hHeld2 => ?_)
          · (try dsimp only); go_keep
          clear hK4 K4 hHeld1
          try simp only [Act.put, List.setIfInBounds_toArray, List.set_cons_zero, List.set_cons_succ]
          refine wpAnyH_ready (rs := [13]) (by kernel_rfl) (by simp) ?_
          refine AllReadyH.cons (o := { dst := some 42, op := Go.Op.call { callee := Go.Callee.value (Go.Operand.func 46), args := #[Go.Operand.tmp 33, Go.Operand.tmp 41, Go.Operand.const (Go.Value.bool true)], argTypes := #[27, 3, 4] }, type := 40, pos := "l15_stack.go:58", after := #[{ on := 4, ground := Go.Ground.data }, { on := 12, ground := Go.Ground.data }, { on := 12, ground := Go.Ground.chain }], guard := none }) rfl (fun K13 hK13 => ?_) AllReadyH.nil
          go_simp
          (refine (HSg1.out _).mono ?_; rintro e v2 ⟨rfl, hb1⟩; have Hj4 := Lib.hid (Hj3.out.call hb1); clear hb1 k0 k1 k2; obtain ⟨⟨l0, l1, l2, -⟩, n0, n1, n2⟩ := pop6_cells Hj4.out.1.1.1)
          go_wp2_with fail
          refine hK13.out _ _ ?_ (fun hHeld3 => ?_)
          · (try dsimp only); go_keep
          clear hK13 K13 hHeld2
          try simp only [Act.put, List.setIfInBounds_toArray, List.set_cons_zero, List.set_cons_succ]
          refine wpAnyH_take (i := 14) (oi := { dst := some 28, op := Go.Op.move (Go.Operand.tmp 42), type := 40, pos := "l15_stack.go:58", after := #[{ on := 13, ground := Go.Ground.data }], guard := none }) (v := ?_) rfl (by kernel_rfl) (by kernel_rfl) (by kernel_rfl) (fun _ _ _ h => h) (Or.inl ⟨by rfl, ?_⟩) (by assumption) ?_
          rotate_left
          · (intro w hSw; (try dsimp only at hSw); go_simp; try with_reducible rfl)
          try simp only [Act.put, List.setIfInBounds_toArray, List.set_cons_zero, List.set_cons_succ]
          refine wpAnyH_take (i := 15) (oi := { dst := some 43, op := Go.Op.extract (Go.Operand.tmp 28) 0, type := 27, pos := "l15_stack.go:58", after := #[{ on := 14, ground := Go.Ground.data }], guard := none }) (v := ?_) rfl (by kernel_rfl) (by kernel_rfl) (by kernel_rfl) (fun _ _ _ h => h) (Or.inl ⟨by rfl, ?_⟩) (by assumption) ?_
          rotate_left
          · (intro w hSw; (try dsimp only at hSw); go_simp; try with_reducible rfl)
          try simp only [Act.put, List.setIfInBounds_toArray, List.set_cons_zero, List.set_cons_succ]
          refine wpAnyH_take (i := 16) (oi := { dst := some 44, op := Go.Op.extract (Go.Operand.tmp 28) 1, type := 4, pos := "l15_stack.go:58", after := #[{ on := 14, ground := Go.Ground.data }, { on := 19, ground := Go.Ground.gcOnly Go.Departure.lateStores }], guard := none }) (v := ?_) rfl (by kernel_rfl) (by kernel_rfl) (by kernel_rfl) (fun _ _ _ h => h) (Or.inl ⟨by rfl, ?_⟩) (by assumption) ?_
          rotate_left
          · (intro w hSw; (try dsimp only at hSw); go_simp; try with_reducible rfl)
          try simp only [Act.put, List.setIfInBounds_toArray, List.set_cons_zero, List.set_cons_succ]
          refine wpAnyH_take (i := 17) (oi := { dst := some 45, op := Go.Op.nilCheck (Go.Operand.tmp 29), type := 0, pos := "l15_stack.go:58", after := #[{ on := 0, ground := Go.Ground.data }, { on := 0, ground := Go.Ground.phase }, { on := 1, ground := Go.Ground.phase }, { on := 2, ground := Go.Ground.phase }, { on := 3, ground := Go.Ground.phase }, { on := 4, ground := Go.Ground.phase }, { on := 5, ground := Go.Ground.phase }, { on := 6, ground := Go.Ground.phase }, { on := 7, ground := Go.Ground.phase }, { on := 8, ground := Go.Ground.phase }, { on := 9, ground := Go.Ground.phase }, { on := 10, ground := Go.Ground.phase }, { on := 11, ground := Go.Ground.phase }, { on := 12, ground := Go.Ground.phase }, { on := 13, ground := Go.Ground.phase }, { on := 14, ground := Go.Ground.phase }, { on := 15, ground := Go.Ground.phase }, { on := 16, ground := Go.Ground.textOnly Go.Departure.lateStores }], guard := none }) (v := ?_) rfl (by kernel_rfl) (by kernel_rfl) (by kernel_rfl) (fun _ _ _ h => h) (Or.inl ⟨by rfl, ?_⟩) (by assumption) ?_
          rotate_left
          · (intro w hSw; (try dsimp only at hSw); go_simp; try with_reducible rfl)
          try simp only [Act.put, List.setIfInBounds_toArray, List.set_cons_zero, List.set_cons_succ]
          refine wpAnyH_take (i := 18) (oi := { dst := some 46, op := Go.Op.fieldAddr 81 (Go.Operand.tmp 45) 0, type := 0, pos := "l15_stack.go:58", after := #[{ on := 17, ground := Go.Ground.data }, { on := 0, ground := Go.Ground.phase }, { on := 1, ground := Go.Ground.phase }, { on := 2, ground := Go.Ground.phase }, { on := 3, ground := Go.Ground.phase }, { on := 4, ground := Go.Ground.phase }, { on := 5, ground := Go.Ground.phase }, { on := 6, ground := Go.Ground.phase }, { on := 7, ground := Go.Ground.phase }, { on := 8, ground := Go.Ground.phase }, { on := 9, ground := Go.Ground.phase }, { on := 10, ground := Go.Ground.phase }, { on := 11, ground := Go.Ground.phase }, { on := 12, ground := Go.Ground.phase }, { on := 13, ground := Go.Ground.phase }, { on := 14, ground := Go.Ground.phase }, { on := 15, ground := Go.Ground.phase }, { on := 16, ground := Go.Ground.textOnly Go.Departure.lateStores }], guard := none }) (v := ?_) rfl (by kernel_rfl) (by kernel_rfl) (by kernel_rfl) (fun _ _ _ h => h) (Or.inl ⟨by rfl, ?_⟩) (by assumption) ?_
          rotate_left
          · (intro w hSw; (try dsimp only at hSw); go_simp; try with_reducible rfl)
          try simp only [Act.put, List.setIfInBounds_toArray, List.set_cons_zero, List.set_cons_succ]
          refine wpAnyH_ready (rs := [19]) (by kernel_rfl) (by simp) ?_
          refine AllReadyH.cons (o := { dst := none, op := Go.Op.store 27 (Go.Operand.tmp 46) (Go.Operand.tmp 43), type := 0, pos := "l15_stack.go:58", after := #[{ on := 18, ground := Go.Ground.data }, { on := 15, ground := Go.Ground.data }, { on := 13, ground := Go.Ground.chain }, { on := 0, ground := Go.Ground.phase }, { on := 1, ground := Go.Ground.phase }, { on := 2, ground := Go.Ground.phase }, { on := 3, ground := Go.Ground.phase }, { on := 4, ground := Go.Ground.phase }, { on := 5, ground := Go.Ground.phase }, { on := 6, ground := Go.Ground.phase }, { on := 7, ground := Go.Ground.phase }, { on := 8, ground := Go.Ground.phase }, { on := 9, ground := Go.Ground.phase }, { on := 10, ground := Go.Ground.phase }, { on := 11, ground := Go.Ground.phase }, { on := 12, ground := Go.Ground.phase }, { on := 13, ground := Go.Ground.phase }, { on := 14, ground := Go.Ground.phase }, { on := 15, ground := Go.Ground.phase }, { on := 16, ground := Go.Ground.textOnly Go.Departure.lateStores }], guard := none }) rfl (fun K19 hK19 => ?_) AllReadyH.nil
          go_simp
          refine hK19.out _ _ ?_ (fun hHeld4 => ?_)
          · (try dsimp only); exact ⟨(pop6_cells (Hj4.out.maz o2).1.1.1).1.1, (pop6_cells (Hj4.out.maz o2).1.1.1).1.2.1⟩
          clear hK19 K19 hHeld3
          try simp only [Act.put, List.setIfInBounds_toArray, List.set_cons_zero, List.set_cons_succ]
          refine wpAnyH_done (by kernel_rfl) ?_ _
          (have Hj5 := Lib.hid (Hj4.out.maz o2); clear Hj4 Hj3 l0 l1 l2 n0 n1 n2; generalize ((v2.setCell ⟨P, 0, none⟩ (.int .i64 x)).setCell ⟨P, 1, none⟩ (.int .i64 y)).setCell ⟨P, 2, none⟩ (.int .i64 o2) = X5 at *; have p3 := (pop6_cells Hj5.out.1.1.1).1.2.2.2.1; have Hown := Lib.hid Hj5.out.1.1.2.1; have HIn := Lib.hid (fun (X' : World) a g => (JQ.inn (X' := X') (u := (ku : Int)) Hj5.out a g : JQ W P bi bt n x y (.slice (some ad) n c) t (L1 ++ [(ku : Int)]) o2 X')); go_wp2_with (at_mapUpdate; go_loud (refine wpList_mapUpdate_own _ rfl _ _ _ 66 rfl 3 4 lawI Try.underlying66 _ bi L1.length _ rfl Hown.out (by unfold maxLen; omega) _ _ _ rfl rfl Hkey.out _ [] (plainElem_bool Try.underlying4 true) ?_); intro w6 hown6 hgrow6; have HN := Lib.hid (HIn.out _ hown6 hgrow6); clear hown6 hgrow6); go_roundw; (case rel => exact ⟨j + 1, by omega, by go_num, by rw [HL.out, HJn.out]; exact HN.out⟩); (case measure => (simp [intOf]; omega)))
    · obtain rfl : j = w.length := by omega
      rw [List.take_length] at Hjq hjq
      clear hjq
      go_wp2_with fail
      go_end0
      exact ⟨rfl, Hjq.out⟩
end Go.Proofs.Ytcoikcnijaniaaa.popI
