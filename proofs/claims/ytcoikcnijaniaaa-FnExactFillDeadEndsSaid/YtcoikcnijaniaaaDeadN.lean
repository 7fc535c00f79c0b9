/- The contract of the model's filling of dead ends. -/
import Derived.Test.YtcoikcnijaniaaaDeadN1
namespace Go.Proofs.Ytcoikcnijaniaaa.deadN
open Go.ChangeShapes Go.WideShapes Go.ChangeAt Go.RowKit
open draw gridP gridC gridE bitP mazeP mazeC mazeM mazeR mazeS intsP reachP reachM reachN reachD intA listK forest deadP deadR deadM
set_option linter.unusedVariables false

set_option maxRecDepth 100000 in
set_option maxHeartbeats 2000000 in
theorem fill_any (x y z : Int) (A : Option Addr) (n c : Nat) (K : List Int) (W : World) (hn : K.length = n) (hm : n ≤ 1048576) (hi : IntsIn W W.heap.size A K) :
    Calls Try.prog 26 #[.agg #[.int .i64 x, .int .i64 y, .int .i64 z], .slice A n c] W (Mz x y (fdZ x y z K) W) := by
  have HH := Lib.hid (fun a X => reachS.has_any x y z a X)
  have HIn := Lib.hid (fun u X h => in_any A n c K u X hn hm h)
  have HDe := Lib.hid (fun z X => deadEnds_any x y z X)
  have HWs := Lib.hid (fun z k X => waysFrom_any x y z k X)
  have HGp := Lib.hid (fun k d X => gridS.gapAt_any x y k d X)
  have HSg := Lib.hid (fun z g X => setGap_any x y z g false X)
  have HW := Lib.hid (fun T1 T2 => @fw_new W x y z A K hi T1 T2)
  have HNo : Hid (keB x y z K = false → z = fdZ x y z K) := fun h => by unfold fdZ; rw [if_neg (by rw [h]; simp)]
  have HYes : Hid (keB x y z K = true → fdN x y K 24 z = fdZ x y z K) := fun h => by unfold fdZ; rw [if_pos h]
  have Hn := Lib.hid hn
  have HLe := Lib.hid (fun z => @de_len x y z)
  generalize hfin : fdZ x y z K = fin at *
  clear hi hn hfin
  go_enter Try.func26, Try.ntmps26
  go_wp2_with fail
  have hfw0 := Lib.hid (HW.out 27 27)
  clear HW
  go_loopw [5] (fun u5 wr => ∃ k : Nat, k ≤ n ∧ u5 = .int .i64 k ∧ (∀ j d, j < k → K[j]? = some d → hasB x y z d = true) ∧ FW W x y z A K wr) (fun u5 _ => n - (intOf u5).toNat)
  case atStart => exact ⟨0, Nat.zero_le _, rfl, fun j d hj => absurd hj (by omega), hfw0.out⟩
  case round =>
    clear hfw0
    obtain ⟨k, hk, rfl, hin, hfw0⟩ := hrel
    have hfw := Lib.hid hfw0
    have HAll := Lib.hid hin
    obtain ⟨⟨m0, m1, m2⟩, -⟩ := row3_cells hfw0.2.1
    clear hin hfw0
    by_cases hkn : k < n
    · obtain ⟨u, hu, hmem⟩ : ∃ u, K[k]? = some u ∧ u ∈ K := by
        have hkl : k < K.length := by have := Hn.out; omega
        exact ⟨K[k], List.getElem?_eq_getElem hkl, List.getElem_mem hkl⟩
      obtain ⟨ad, rfl, hab, hcell⟩ := ints_cell hfw.out.2.2.2 hu
      have hk0 : (0 : Int) ≤ (k : Int) := Int.natCast_nonneg _
      have hk1 : (k : Int) < (n : Int) := by omega
      have HU := Lib.hid hu
      have HH1 := Lib.hid (fun X => HH.out u X)
      cases hh : hasB x y z u with
      | true =>
        rw [hh] at HH1
        have HN : Hid (∀ j d, j < k + 1 → K[j]? = some d → hasB x y z d = true) := fun j d hj hl => by
          rcases Nat.lt_or_ge j k with h | h
          · exact HAll.out j d h hl
          · obtain rfl : j = k := by omega
            rw [HU.out] at hl; cases hl; exact hh
        clear hh hu hmem
        go_wp2_with fail
        try simp only [List.cons_append, List.nil_append, List.append_eq]
        refine wp_region_held_drew (S := (fun w' => w'.cell? (ad.add k) = some (.int .i64 u) ∧ w'.cell? ⟨W.heap.size, 0, none⟩ = some (.int .i64 x) ∧ w'.cell? ⟨W.heap.size, 1, none⟩ = some (.int .i64 y) ∧ w'.cell? ⟨W.heap.size, 2, none⟩ = some (.int .i64 z))) (by kernel_rfl) ?_ (fun hHeld0 => ?_)
        · (try dsimp only); go_keep
        refine wpAnyH_take (i := 0) (oi := { dst := some 15, op := Go.Op.load 27 (Go.Operand.tmp 2), type := 27, pos := "l07_dead.go:58", after := #[], guard := none }) (v := ?_) rfl (by kernel_rfl) (by kernel_rfl) (by kernel_rfl) (fun _ _ _ h => h) (Or.inl ⟨by rfl, ?_⟩) (by assumption) ?_
        rotate_left
        · (intro w hSw; (try dsimp only at hSw); go_simp; try with_reducible rfl)
        try simp only [Act.put, List.setIfInBounds_toArray, List.set_cons_zero, List.set_cons_succ]
        refine wpAnyH_take (i := 1) (oi := { dst := some 16, op := Go.Op.move (Go.Operand.tmp 1), type := 32, pos := "l07_dead.go:58", after := #[], guard := none }) (v := ?_) rfl (by kernel_rfl) (by kernel_rfl) (by kernel_rfl) (fun _ _ _ h => h) (Or.inl ⟨by rfl, ?_⟩) (by assumption) ?_
        rotate_left
        · (intro w hSw; (try dsimp only at hSw); go_simp; try with_reducible rfl)
        try simp only [Act.put, List.setIfInBounds_toArray, List.set_cons_zero, List.set_cons_succ]
        refine wpAnyH_take (i := 2) (oi := { dst := some 17, op := Go.Op.move (Go.Operand.tmp 5), type := 3, pos := "l07_dead.go:58", after := #[], guard := none }) (v := ?_) rfl (by kernel_rfl) (by kernel_rfl) (by kernel_rfl) (fun _ _ _ h => h) (Or.inl ⟨by rfl, ?_⟩) (by assumption) ?_
        rotate_left
        · (intro w hSw; (try dsimp only at hSw); go_simp; try with_reducible rfl)
        try simp only [Act.put, List.setIfInBounds_toArray, List.set_cons_zero, List.set_cons_succ]
        refine wpAnyH_take (i := 3) (oi := { dst := some 18, op := Go.Op.indexAddr 32 (Go.Operand.tmp 16) (Go.Operand.tmp 17), type := 0, pos := "l07_dead.go:58", after := #[{ on := 1, ground := Go.Ground.data }, { on := 2, ground := Go.Ground.data }], guard := none }) (v := ?_) rfl (by kernel_rfl) (by kernel_rfl) (by kernel_rfl) (fun _ _ _ h => h) (Or.inl ⟨by rfl, ?_⟩) (by assumption) ?_
        rotate_left
        · (intro w hSw; (try dsimp only at hSw); go_simp; try with_reducible rfl)
        try simp only [Act.put, List.setIfInBounds_toArray, List.set_cons_zero, List.set_cons_succ]
        refine wpAnyH_take (i := 4) (oi := { dst := some 19, op := Go.Op.load 3 (Go.Operand.tmp 18), type := 3, pos := "l07_dead.go:58", after := #[{ on := 3, ground := Go.Ground.data }], guard := none }) (v := ?_) rfl (by kernel_rfl) (by kernel_rfl) (by kernel_rfl) (fun _ _ _ h => h) (Or.inl ⟨by rfl, ?_⟩) (by assumption) ?_
        rotate_left
        · (intro w hSw; (try dsimp only at hSw); go_simp; try with_reducible rfl)
        try simp only [Act.put, List.setIfInBounds_toArray, List.set_cons_zero, List.set_cons_succ]
        refine wpAnyH_ready (rs := [5]) (by kernel_rfl) (by simp) ?_
        refine AllReadyH.cons (o := { dst := some 20, op := Go.Op.call { callee := Go.Callee.value (Go.Operand.func 64), args := #[Go.Operand.tmp 15, Go.Operand.tmp 19], argTypes := #[27, 3] }, type := 4, pos := "l07_dead.go:58", after := #[{ on := 0, ground := Go.Ground.data }, { on := 4, ground := Go.Ground.data }], guard := none }) rfl (fun K5 hK5 => ?_) AllReadyH.nil
        go_simp
        (refine (HH1.out _).mono ?_; rintro e v1 ⟨rfl, hb1⟩; have hw2 := Lib.hid (hfw.out.dr.call hb1); obtain ⟨⟨p1, q1, r1⟩, -⟩ := row3_cells hw2.out.2.1; obtain ⟨ad', hae, -, hc1⟩ := ints_cell hw2.out.2.2.2 HU.out; cases hae)
        go_wp2_with fail
        refine hK5.out _ _ ?_ (fun hHeld1 => ?_)
        · (try dsimp only); go_keep
        clear hK5 K5 hHeld0
        try simp only [Act.put, List.setIfInBounds_toArray, List.set_cons_zero, List.set_cons_succ]
        refine wpAnyH_take (i := 6) (oi := { dst := some 21, op := Go.Op.unOp Go.UnOp.not 4 (Go.Operand.tmp 20), type := 4, pos := "l07_dead.go:58", after := #[{ on := 5, ground := Go.Ground.data }], guard := none }) (v := ?_) rfl (by kernel_rfl) (by kernel_rfl) (by kernel_rfl) (fun _ _ _ h => h) (Or.inl ⟨by rfl, ?_⟩) (by assumption) ?_
        rotate_left
        · (intro w hSw; (try dsimp only at hSw); go_simp; try with_reducible rfl)
        try simp only [Act.put, List.setIfInBounds_toArray, List.set_cons_zero, List.set_cons_succ]
        refine wpAnyH_done (by kernel_rfl) ?_ _
        go_wp2_with fail
        go_roundw
        case rel => exact ⟨k + 1, by omega, by go_num, HN.out, hw2.out⟩
        case measure => simp [intOf]; omega
      | false =>
        rw [hh] at HH1
        have HE := Lib.hid (HNo.out (by
          unfold keB; rw [← Bool.not_eq_true, List.all_eq_true]
          intro h
          have := h u hmem
          rw [hh] at this; cases this))
        clear hh hu hmem HNo HYes
        go_wp2_with fail
        try simp only [List.cons_append, List.nil_append, List.append_eq]
        refine wp_region_held_drew (S := (fun w' => w'.cell? (ad.add k) = some (.int .i64 u) ∧ w'.cell? ⟨W.heap.size, 0, none⟩ = some (.int .i64 x) ∧ w'.cell? ⟨W.heap.size, 1, none⟩ = some (.int .i64 y) ∧ w'.cell? ⟨W.heap.size, 2, none⟩ = some (.int .i64 z))) (by kernel_rfl) ?_ (fun hHeld0 => ?_)
        · (try dsimp only); go_keep
        refine wpAnyH_take (i := 0) (oi := { dst := some 15, op := Go.Op.load 27 (Go.Operand.tmp 2), type := 27, pos := "l07_dead.go:58", after := #[], guard := none }) (v := ?_) rfl (by kernel_rfl) (by kernel_rfl) (by kernel_rfl) (fun _ _ _ h => h) (Or.inl ⟨by rfl, ?_⟩) (by assumption) ?_
        rotate_left
        · (intro w hSw; (try dsimp only at hSw); go_simp; try with_reducible rfl)
        try simp only [Act.put, List.setIfInBounds_toArray, List.set_cons_zero, List.set_cons_succ]
        refine wpAnyH_take (i := 1) (oi := { dst := some 16, op := Go.Op.move (Go.Operand.tmp 1), type := 32, pos := "l07_dead.go:58", after := #[], guard := none }) (v := ?_) rfl (by kernel_rfl) (by kernel_rfl) (by kernel_rfl) (fun _ _ _ h => h) (Or.inl ⟨by rfl, ?_⟩) (by assumption) ?_
        rotate_left
        · (intro w hSw; (try dsimp only at hSw); go_simp; try with_reducible rfl)
        try simp only [Act.put, List.setIfInBounds_toArray, List.set_cons_zero, List.set_cons_succ]
        refine wpAnyH_take (i := 2) (oi := { dst := some 17, op := Go.Op.move (Go.Operand.tmp 5), type := 3, pos := "l07_dead.go:58", after := #[], guard := none }) (v := ?_) rfl (by kernel_rfl) (by kernel_rfl) (by kernel_rfl) (fun _ _ _ h => h) (Or.inl ⟨by rfl, ?_⟩) (by assumption) ?_
        rotate_left
        · (intro w hSw; (try dsimp only at hSw); go_simp; try with_reducible rfl)
        try simp only [Act.put, List.setIfInBounds_toArray, List.set_cons_zero, List.set_cons_succ]
        refine wpAnyH_take (i := 3) (oi := { dst := some 18, op := Go.Op.indexAddr 32 (Go.Operand.tmp 16) (Go.Operand.tmp 17), type := 0, pos := "l07_dead.go:58", after := #[{ on := 1, ground := Go.Ground.data }, { on := 2, ground := Go.Ground.data }], guard := none }) (v := ?_) rfl (by kernel_rfl) (by kernel_rfl) (by kernel_rfl) (fun _ _ _ h => h) (Or.inl ⟨by rfl, ?_⟩) (by assumption) ?_
        rotate_left
        · (intro w hSw; (try dsimp only at hSw); go_simp; try with_reducible rfl)
        try simp only [Act.put, List.setIfInBounds_toArray, List.set_cons_zero, List.set_cons_succ]
        refine wpAnyH_take (i := 4) (oi := { dst := some 19, op := Go.Op.load 3 (Go.Operand.tmp 18), type := 3, pos := "l07_dead.go:58", after := #[{ on := 3, ground := Go.Ground.data }], guard := none }) (v := ?_) rfl (by kernel_rfl) (by kernel_rfl) (by kernel_rfl) (fun _ _ _ h => h) (Or.inl ⟨by rfl, ?_⟩) (by assumption) ?_
        rotate_left
        · (intro w hSw; (try dsimp only at hSw); go_simp; try with_reducible rfl)
        try simp only [Act.put, List.setIfInBounds_toArray, List.set_cons_zero, List.set_cons_succ]
        refine wpAnyH_ready (rs := [5]) (by kernel_rfl) (by simp) ?_
        refine AllReadyH.cons (o := { dst := some 20, op := Go.Op.call { callee := Go.Callee.value (Go.Operand.func 64), args := #[Go.Operand.tmp 15, Go.Operand.tmp 19], argTypes := #[27, 3] }, type := 4, pos := "l07_dead.go:58", after := #[{ on := 0, ground := Go.Ground.data }, { on := 4, ground := Go.Ground.data }], guard := none }) rfl (fun K5 hK5 => ?_) AllReadyH.nil
        go_simp
        (refine (HH1.out _).mono ?_; rintro e v1 ⟨rfl, hb1⟩; have hw2 := Lib.hid (hfw.out.dr.call hb1); obtain ⟨⟨p1, q1, r1⟩, -⟩ := row3_cells hw2.out.2.1; obtain ⟨ad', hae, -, hc1⟩ := ints_cell hw2.out.2.2.2 HU.out; cases hae)
        go_wp2_with fail
        refine hK5.out _ _ ?_ (fun hHeld1 => ?_)
        · (try dsimp only); go_keep
        clear hK5 K5 hHeld0
        try simp only [Act.put, List.setIfInBounds_toArray, List.set_cons_zero, List.set_cons_succ]
        refine wpAnyH_take (i := 6) (oi := { dst := some 21, op := Go.Op.unOp Go.UnOp.not 4 (Go.Operand.tmp 20), type := 4, pos := "l07_dead.go:58", after := #[{ on := 5, ground := Go.Ground.data }], guard := none }) (v := ?_) rfl (by kernel_rfl) (by kernel_rfl) (by kernel_rfl) (fun _ _ _ h => h) (Or.inl ⟨by rfl, ?_⟩) (by assumption) ?_
        rotate_left
        · (intro w hSw; (try dsimp only at hSw); go_simp; try with_reducible rfl)
        try simp only [Act.put, List.setIfInBounds_toArray, List.set_cons_zero, List.set_cons_succ]
        refine wpAnyH_done (by kernel_rfl) ?_ _
        obtain ⟨⟨e0, e1, e2⟩, f0, f1, f2⟩ := row3_cells hw2.out.2.2.1
        go_wp2_with fail
        refine ret_set3 e0 e1 e2 fun Y g0 g1 g2 hY => ?_
        exact bodyPost_ret (v := .agg #[.int .i64 x, .int .i64 y, .int .i64 z]) (by simp [results, Try.results26, go_sem, g0, g1, g2]) rfl (fw_end hw2.out HE.out hY)
    · obtain rfl : k = n := by omega
      have HF := Lib.hid (HYes.out (by
        unfold keB; rw [List.all_eq_true]
        intro a ha
        obtain ⟨j, hj⟩ := List.getElem?_of_mem ha
        have := (List.getElem?_eq_some_iff.1 hj).1
        exact HAll.out j a (by have := Hn.out; omega) hj))
      clear HNo HYes HAll HH m0 m1 m2
      go_wp2_with fail
      go_loopw [6] (fun u6 wr => ∃ (f : Nat) (z' : Int), fdN x y K f z' = fin ∧ FQ x y z' f ∧ FW W x y z' A K wr) (fun _ wr => msr W (gN x y) wr)
      case atStart => exact ⟨24, z, HF.out, fq_start x y z, hfw.out⟩
      case round =>
        clear hfw HF
        obtain ⟨f, z', hf, hq, hfw0⟩ := hrel
        have hfw := Lib.hid hfw0
        have Hf := Lib.hid hf
        have Hq := Lib.hid hq
        obtain ⟨⟨m0, m1, m2⟩, -⟩ := row3_cells hfw0.2.1
        have HDz := Lib.hid (fun X => HDe.out z' X)
        have HMs : Hid (msr W (gN x y) wr = pcN z'.toNat (gN x y)) := Lib.hid (msr_is hfw.out)
        have hlen := HLe.out z'
        clear hf hq hfw0
        go_wp2_with fail
        refine (HDz.out _).mono ?_
        rintro e w1 ⟨vl, rfl, ho, hb⟩
        have hfw1 := Lib.hid (hfw.out.call hb)
        have ho1 := Lib.hid ho
        obtain ⟨Al, cl, rfl⟩ := own_form ho
        have hat : Hid (fsZ K (deL x y z') = atZ x y z' K) := rfl
        have hw1 : IntKind.i64.wrap (((deL x y z').length : Int) - 1) = ((deL x y z').length : Int) - 1 := IntWalk.i64_in _ (by omega)
        have hszr := hfw.out.1.size
        clear ho hb hfw m0 m1 m2
        generalize deL x y z' = l at *
        go_wp2_with fail
        go_loopw [7, 8] (fun u7 u8 wq => ∃ (i : Nat) (j : Int), i ≤ l.length ∧ j = (i : Int) - 1 ∧ u8 = .int .i64 j ∧ u7 = .int .i64 (fsZ K (l.drop i)) ∧ FW W x y z' A K wq ∧ wq.ownsRow W.heap.size 3 1 (.slice Al l.length cl) l.length (icells l)) (fun _ u8 _ => (intOf u8 + 1).toNat)
        case atStart => exact ⟨l.length, _, Nat.le_refl _, rfl, rfl, by rw [List.drop_length]; rfl, hfw1.out, own_base ho1.out (by omega)⟩
        case round =>
          clear hfw1 ho1
          obtain ⟨i, j, hi, hj, rfl, rfl, hfw0, ho0⟩ := hrel
          have hfw := Lib.hid hfw0
          have ho := Lib.hid ho0
          have hsz := hfw0.1.size
          clear hfw0 ho0
          by_cases hj0 : 0 ≤ j
          · obtain ⟨k', rfl⟩ := Int.eq_ofNat_of_zero_le hj0
            obtain rfl : i = k' + 1 := by omega
            obtain ⟨u, hu⟩ : ∃ u, l[k']? = some u := by
              have hkl : k' < l.length := by omega
              exact ⟨l[k'], List.getElem?_eq_getElem hkl⟩
            have hdrop : l.drop k' = u :: l.drop (k' + 1) := by
              obtain ⟨hkl, e⟩ := List.getElem?_eq_some_iff.1 hu
              rw [List.drop_eq_getElem_cons hkl, e]
            have hfs : Hid (fsZ K (l.drop k') = if u ∈ K then fsZ K (l.drop (k' + 1)) else u) := Lib.hid (by rw [hdrop, fs_cons])
            obtain ⟨gl, cg, hge, -, -⟩ := own_some ho.out (by omega)
            cases hge
            have hcell := own_cellI ho.out hu
            have hk1 : (k' : Int) < (l.length : Int) := by omega
            have HI1 := Lib.hid (HIn.out u wr (hfw.out.2.2.2.more hsz))
            have q3 : IntKind.i64.wrap ((k' : Int) - 1) = (k' : Int) - 1 := IntWalk.i64_in _ (by omega)
            clear hu hdrop hj
            generalize fsZ K (l.drop (k' + 1)) = s at *
            generalize hs' : fsZ K (l.drop k') = s' at *
            by_cases huK : u ∈ K
            · rw [decide_eq_true huK] at HI1
              have hS : Hid (s' = s) := Lib.hid (by rw [hfs.out, if_pos huK])
              clear huK hfs
              go_wp2_with fail
              refine (HI1.out).mono ?_
              rintro e w' ⟨rfl, rfl⟩
              go_wp2_with fail
              go_roundw
              case rel => exact ⟨k', _, by omega, rfl, rfl, by rw [hs', hS.out], hfw.out, ho.out⟩
              case measure => simp [intOf]
            · rw [decide_eq_false huK] at HI1
              have hS : Hid (s' = u) := Lib.hid (by rw [hfs.out, if_neg huK])
              clear huK hfs
              go_wp2_with fail
              refine (HI1.out).mono ?_
              rintro e w' ⟨rfl, rfl⟩
              go_wp2_with fail
              go_roundw
              case rel => exact ⟨k', _, by omega, rfl, rfl, by rw [hs', hS.out], hfw.out, ho.out⟩
              case measure => simp [intOf]
          · obtain rfl : i = 0 := by omega
            obtain rfl : j = -1 := by omega
            rw [show l.drop 0 = l from rfl, hat.out]
            obtain ⟨⟨m0, m1, m2⟩, f0, f1, f2⟩ := row3_cells hfw.out.2.1
            clear hj hj0 hi ho hw1
            by_cases hneg : atZ x y z' K < 0
            · have hc : decide (atZ x y z' K < 0) = true := decide_eq_true hneg
              have hE : Hid (z' = fin) := Lib.hid (by
                rw [← Hf.out]
                cases f with
                | zero => rfl
                | succ f => unfold fdN; rw [if_pos hneg])
              obtain ⟨⟨e0, e1, e2⟩, g0, g1, g2⟩ := row3_cells hfw.out.2.2.1
              clear hneg hat
              generalize atZ x y z' K = av at *
              go_wp2_with fail
              refine ret_set3 e0 e1 e2 fun Y b0 b1 b2 hY => ?_
              exact bodyPost_ret (v := .agg #[.int .i64 x, .int .i64 y, .int .i64 z']) (by simp [results, Try.results26, go_sem, b0, b1, b2]) rfl (fw_end hfw.out hE.out hY)
            · have hv : OkM x y z' := by
                apply Classical.byContradiction
                intro h
                apply hneg
                unfold atZ deL; rw [if_neg h]; unfold fsZ; simp
              obtain ⟨hk', o, rfl, ho'⟩ := okm_of hv
              rcases at_spec hk' ho' K with ⟨h1, -⟩ | ⟨c', q, g, h1, h2, h3, h4, h5, h6, h7, h8, h9, h10, h11, -⟩
              · exact absurd h1 hneg
              · have hc : decide (atZ x y o K < 0) = false := decide_eq_false hneg
                have hpc := Hq.out hv
                rw [Int.toNat_natCast] at hpc
                have HF2 : Hid (∃ f', fdN x y K f' ((o - 2 ^ g : Nat) : Int) = fin ∧ FQ x y ((o - 2 ^ g : Nat) : Int) f') := Lib.hid (by
                  cases f with
                  | zero => omega
                  | succ f =>
                    refine ⟨f, ?_, fun _ => by rw [Int.toNat_natCast]; omega⟩
                    have := Hf.out
                    unfold fdN at this
                    rw [if_neg hneg, h1, h9] at this
                    exact this)
                have HM : Hid (pcN (o - 2 ^ g) (gN x y) < pcN o (gN x y)) := Lib.hid (by omega)
                have HW1 := Lib.hid (HWs.out o c')
                rw [h4] at HW1
                have HG1 := Lib.hid (HGp.out c' q)
                rw [h6] at HG1
                have HS1 := Lib.hid (HSg.out o g)
                have hsg : sgZ x y o g false = ((o - 2 ^ g : Nat) : Int) := by
                  rw [← h9]; unfold fd1
                  rw [h4, show ([(q : Int)] : List Int).getD 0 0 = (q : Int) from rfl, h6]
                rw [hsg] at HS1
                rw [h1] at hc ⊢
                clear hneg hat hv h1 h2 h3 h4 h5 h6 h7 h8 h9 h10 h11 hpc hsg Hf Hq
                generalize sgB x y o g = sb at *
                generalize hO2 : o - 2 ^ g = o2 at *
                go_wp2_with fail
                refine fill_round W _ x y o o2 c' q g sb A K _ _ _ _ _ _ _ _ _ _ _ _ _ _ _ _ _ _ _ _ _ _ _ _ _ _ _ _ _ _ _ _ _ _ _ _ _ _ _ _ _ _ _ _ _ _ _ _ _ _ _ _ _ _ _ _ _ _ _ hfw.out HW1 HG1 HS1 (fun d v c a w h => by cases d <;> exact h) (Lib.hid fun v46 v47 v48 v49 v50 v51 v52 v53 v54 v55 v56 v57 v58 v59 X hX => ?_)
                have HN := Lib.hid hX
                clear hX
                go_wp2_with fail
                go_roundw
                case rel =>
                  obtain ⟨f', r1, r2⟩ := HF2.out
                  exact ⟨f', _, r1, r2, HN.out⟩
                case measure =>
                  rw [msr_is HN.out, HMs.out]
                  simpa using HM.out
end Go.Proofs.Ytcoikcnijaniaaa.deadN
