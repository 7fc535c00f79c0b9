/- The law of counts: its walk, over the contracts of the program's functions. -/
import Derived.Test.YthgnhamokikhkaaCntH
import Derived.Test.YthgnhamokikhkaaCntD
namespace Go.Proofs.Ythgnhamokikhkaa.fnCounts
open Go.ChangeShapes Go.WideShapes Go.ChangeAt Go.RowKit
open draw gridP gridC bitP mazeP mazeC mazeM mazeE bigK reachP reachM reachN reachD forest deadP trcP cntQ cntN cntF cntH cntD
set_option linter.unusedVariables false

/-- The law's answer. -/
def Yes (w : World) (e : Ending) (w' : World) : Prop := e = .returned (.bool true) ∧ Below w.heap.size w w'
theorem yes_mk {w w' : World} (h : Below w.heap.size w w') : Yes w (.returned (.bool true)) w' := ⟨rfl, h⟩
/-- While the law goes on: the maze that was drawn. -/
def LM (w : World) (M : Nat) (x y z : Int) (X : World) : Prop := Below w.heap.size w X ∧ MBox M x y z X
theorem LM.call {w X X' : World} {M : Nat} {x y z : Int} (h : LM w M x y z X) (hb : Below X.heap.size X X') : LM w M x y z X' := ⟨below_call h.1 hb, h.2.call hb⟩
theorem LM.dr {w X : World} {M : Nat} {x y z : Int} (h : LM w M x y z X) : LM w M x y z X.drew := h.call ⟨rfl, rfl, rfl, Nat.le_refl _, fun _ _ => rfl⟩

set_option maxRecDepth 100000 in
set_option maxHeartbeats 4000000 in
theorem walk_at (A : Option Addr) (n c : Nat) (w : World) (hn : n ≤ maxLen) (hb : BytesIn w w.heap.size A n)
    (HCw : Hid (∀ x y z g X, Calls Try.prog 45 #[.agg #[.int .i64 x, .int .i64 y, .int .i64 z], .int .i64 g] X (Nm (cwZ x y z g) X)))
    (HCt : Hid (∀ x y z X, Calls Try.prog 42 #[.agg #[.int .i64 x, .int .i64 y, .int .i64 z]] X (Nm (ctZ x y z) X)))
    (HCf : Hid (∀ x y a b X, Calls Try.prog 44 #[.agg #[.int .i64 x, .int .i64 y], .int .i64 a, .int .i64 b] X (Nm (cfZ x y a b) X))) :
    Calls Try.prog 8 #[.slice A n c] w (Yes w) := by
  have HK := @Lib.hid _ (fun w' h => @yes_mk w w' h)
  have HR := Lib.hid (Below.refl w.heap.size w)
  have HD := Lib.hid (drawOpenMaze_any A n c w hn hb)
  have HY := Lib.hid hb
  have HN := Lib.hid hn
  unfold maxLen at hn
  clear hb
  by_cases hbig : 1048576 < n
  · go_enter Try.func8, Try.ntmps8
    go_wp2_with fail
    refine (big_yes A n c w HN.out hbig).mono ?_
    rintro e w' ⟨rfl, rfl⟩
    go_wp2_with fail
    go_ret
    exact HK.out _ HR.out
  · go_enter Try.func8, Try.ntmps8
    go_wp2_with fail
    refine (big_no A n c w HN.out (by omega)).mono ?_
    rintro e w' ⟨rfl, rfl⟩
    go_wp2_with fail
    refine HD.out.mono ?_
    rintro e w1 ⟨x, y, z, hv, rfl, hb1⟩
    obtain ⟨hk, o, rfl, ho⟩ := okm_of hv
    obtain ⟨h1, h2, h3, h4⟩ := id hk
    obtain ⟨n1, n2, n3⟩ := perfP.nn hk
    obtain ⟨f1, f2, f3, f4⟩ := counts hk ho
    have hgp := gps_bd h1 h2 h3 h4
    have HC : Hid (∀ X, Calls Try.prog 39 #[.agg #[.int .i64 x, .int .i64 y]] X (Nm (x * y) X)) := fun X => gridS.countCells_yes x y X h1 h2 h3 h4
    have HG : Hid (∀ X, Calls Try.prog 20 #[.agg #[.int .i64 x, .int .i64 y]] X (Nm (gpsZ x y) X)) := fun X => gridS.countGaps_yes x y X h1 h2 h3 h4
    have hGe : gpsZ x y = (gN x y : Int) := by unfold gN; omega
    have hT := ctz_bd x y o
    have hcw := cw_bd hk o
    have A1 : Hid (∀ k, k < gN x y → ∀ X, Calls Try.prog 45 #[.agg #[.int .i64 x, .int .i64 y, .int .i64 o], .int .i64 k] X (Nm (cwN x y o k) X)) := Lib.hid fun k hk' X => by
      have := HCw.out x y o k X
      rwa [f2 k hk'] at this
    have A2 := Lib.hid (HCt.out x y o)
    have A3 := Lib.hid (HCf.out x y 0 0)
    have A4 := Lib.hid (fun g : Nat => HCf.out x y ((2 ^ g : Nat) : Int) 0)
    have A5 := Lib.hid (fun g : Nat => HCf.out x y 0 ((2 ^ g : Nat) : Int))
    have F4 := Lib.hid (fun g (hg : g < gN x y) => (⟨f4 g hg, cntU.cf_bd x y ((2 ^ g : Nat) : Int) 0, cntU.cf_bd x y 0 ((2 ^ g : Nat) : Int)⟩ : _ ∧ _ ∧ _))
    have hq := cntU.cf_bd x y 0 0
    rw [hGe] at HG hgp
    rw [n1] at HC f3
    have hz1 := hb1.size
    have hlm0 : Hid (∀ T, LM w w1.heap.size x y o (w1.alloc (.cells #[.int .i64 x, .int .i64 y, .int .i64 o] T))) := fun T => ⟨hb1.alloc hz1 _, mbox_new x y o w1 T⟩
    have HY1 := Lib.hid (fun X (h : Below w.heap.size w X) => (HY.out.keep (w' := X) fun p hp => h.cell hp))
    clear HCw HCt HCf HD HR HY hb1 hk ho hv h1 h2 h3 h4 f2 f4 hGe n1
    generalize cfZ x y 0 0 = q at *
    generalize ctZ x y o = T at *
    generalize cwN x y o = cw at *
    generalize cN x y = N at *
    generalize gN x y = G at *
    have hS := sm_le hcw
    have hSs : ∀ k, smN cw (k + 1) = smN cw k + cw k := fun _ => rfl
    have HF3 := Lib.hid f3
    have HS := Lib.hid hS
    have HSs := Lib.hid hSs
    have HCb := Lib.hid hcw
    generalize smN cw = S at *
    clear f3 hS hSs hcw
    go_wp2_with fail
    refine (HG.out _).mono ?_
    rintro e w2 ⟨rfl, hb⟩
    have hlm2 := Lib.hid ((hlm0.out _).call hb)
    clear hb hlm0
    go_wp2_with fail
    go_loopw [5, 6] (fun u5 u6 wr => ∃ k : Nat, k ≤ G ∧ u5 = .int .i64 (S k) ∧ u6 = .int .i64 k ∧ LM w w1.heap.size x y o wr) (fun _ u6 _ => G - (intOf u6).toNat)
    case atStart => exact ⟨0, Nat.zero_le _, by have := HS.out 0; rw [show S 0 = 0 by omega]; rfl, rfl, hlm2.out⟩
    case round =>
      clear hlm2
      obtain ⟨k, hk, rfl, rfl, hlm0⟩ := hrel
      have hlm := Lib.hid hlm0
      obtain ⟨m0, m1, m2⟩ := hlm0.2.1
      clear hlm0
      by_cases hkG : k < G
      · have hd1 : decide ((k : Int) < (G : Int)) = true := decide_eq_true (by omega)
        have hs1 := HS.out k
        have hs2 := HCb.out k
        have q1 : IntKind.i64.wrap ((S k : Int) + (cw k : Int)) = (S (k + 1) : Int) := by rw [HSs.out k]; rw [IntWalk.i64_in _ (by omega)]; omega
        have q2 : IntKind.i64.wrap ((k : Int) + 1) = ((k + 1 : Nat) : Int) := by rw [IntWalk.i64_in _ (by omega)]; omega
        have A1k := Lib.hid (A1.out k hkG)
        go_wp2_with fail
        refine (A1k.out _).mono ?_
        rintro e w3 ⟨rfl, hb⟩
        have hlm3 := Lib.hid (hlm.out.call hb)
        clear hb
        go_wp2_with fail
        go_roundw
        case rel => exact ⟨k + 1, by omega, rfl, rfl, hlm3.out⟩
        case measure => simp [intOf]; omega
      · obtain rfl : k = G := by omega
        have hd1 : decide ((k : Int) < (k : Int)) = false := decide_eq_false (by omega)
        have hd2 : decide (q < 1) = false := decide_eq_false (by omega)
        have hf3 := HF3.out
        have q1 : IntKind.i64.wrap ((N : Int) - 1) = (N : Int) - 1 := IntWalk.i64_in _ (by omega)
        have hs1 := HS.out k
        have q2 : IntKind.i64.wrap (T * ((N : Int) - 1)) = (S k : Int) := by rw [← hf3]; exact IntWalk.i64_in _ (by omega)
        clear HF3 hf3
        go_wp2_with fail
        try simp only [List.cons_append, List.nil_append, List.append_eq]
        refine wp_region_held_drew (S := (fun w' => w'.cell? ⟨w1.heap.size, 0, none⟩ = some (.int .i64 x) ∧ w'.cell? ⟨w1.heap.size, 1, none⟩ = some (.int .i64 y) ∧ w'.cell? ⟨w1.heap.size, 2, none⟩ = some (.int .i64 o))) (by kernel_rfl) ?_ (fun hHeld0 => ?_)
        · (try dsimp only); go_keep
        refine wpAnyH_take (i := 0) (oi := { dst := some 25, op := Go.Op.fieldAddr 27 (Go.Operand.tmp 3) 0, type := 0, pos := "laws.go:384", after := #[], guard := none }) (v := ?_) rfl (by kernel_rfl) (by kernel_rfl) (by kernel_rfl) (fun _ _ _ h => h) (Or.inl ⟨by rfl, ?_⟩) (by assumption) ?_
        rotate_left
        · (intro w hSw; (try dsimp only at hSw); go_simp; try with_reducible rfl)
        try simp only [Act.put, List.setIfInBounds_toArray, List.set_cons_zero, List.set_cons_succ]
        refine wpAnyH_take (i := 1) (oi := { dst := some 26, op := Go.Op.load 25 (Go.Operand.tmp 25), type := 25, pos := "laws.go:384", after := #[{ on := 0, ground := Go.Ground.data }], guard := none }) (v := ?_) rfl (by kernel_rfl) (by kernel_rfl) (by kernel_rfl) (fun _ _ _ h => h) (Or.inl ⟨by rfl, ?_⟩) (by assumption) ?_
        rotate_left
        · (intro w hSw; (try dsimp only at hSw); go_simp; try with_reducible rfl)
        try simp only [Act.put, List.setIfInBounds_toArray, List.set_cons_zero, List.set_cons_succ]
        refine wpAnyH_ready (rs := [2]) (by kernel_rfl) (by simp) ?_
        refine AllReadyH.cons (o := { dst := some 27, op := Go.Op.call { callee := Go.Callee.value (Go.Operand.func 44), args := #[Go.Operand.tmp 26, Go.Operand.const (Go.Value.int Go.IntKind.i64 0), Go.Operand.const (Go.Value.int Go.IntKind.i64 0)], argTypes := #[25, 3, 3] }, type := 3, pos := "laws.go:384", after := #[{ on := 1, ground := Go.Ground.data }], guard := none }) rfl (fun K2 hK2 => ?_) AllReadyH.nil
        go_simp
        (refine (A3.out _).mono ?_; rintro e v1 ⟨rfl, hb1⟩; have hM1 := Lib.hid (hlm.out.dr.call hb1); clear hb1; obtain ⟨p1, p2, p3⟩ := hM1.out.2.1)
        go_wp2_with fail
        refine hK2.out _ _ ?_ (fun hHeld1 => ?_)
        · (try dsimp only); go_keep
        clear hK2 K2 hHeld0
        try simp only [Act.put, List.setIfInBounds_toArray, List.set_cons_zero, List.set_cons_succ]
        refine wpAnyH_take (i := 3) (oi := { dst := some 28, op := Go.Op.binOp Go.BinOp.lss 3 (Go.Operand.tmp 27) (Go.Operand.const (Go.Value.int Go.IntKind.i64 1)) 3, type := 4, pos := "laws.go:384", after := #[{ on := 2, ground := Go.Ground.data }], guard := none }) (v := ?_) rfl (by kernel_rfl) (by kernel_rfl) (by kernel_rfl) (fun _ _ _ h => h) (Or.inl ⟨by rfl, ?_⟩) (by assumption) ?_
        rotate_left
        · (intro w hSw; (try dsimp only at hSw); go_simp; try with_reducible rfl)
        try simp only [Act.put, List.setIfInBounds_toArray, List.set_cons_zero, List.set_cons_succ]
        refine wpAnyH_take (i := 4) (oi := { dst := some 29, op := Go.Op.move (Go.Operand.tmp 28), type := 4, pos := "laws.go:384", after := #[{ on := 3, ground := Go.Ground.data }, { on := 2, ground := Go.Ground.chain }], guard := none }) (v := ?_) rfl (by kernel_rfl) (by kernel_rfl) (by kernel_rfl) (fun _ _ _ h => h) (Or.inl ⟨by rfl, ?_⟩) (by assumption) ?_
        rotate_left
        · (intro w hSw; (try dsimp only at hSw); go_simp; try with_reducible rfl)
        try simp only [Act.put, List.setIfInBounds_toArray, List.set_cons_zero, List.set_cons_succ]
        refine wpAnyH_take (i := 5) (oi := { dst := some 30, op := Go.Op.move (Go.Operand.tmp 5), type := 3, pos := "laws.go:384", after := #[{ on := 4, ground := Go.Ground.guard }], guard := some (4, false) }) (v := ?_) rfl (by kernel_rfl) (by kernel_rfl) (by kernel_rfl) (fun _ _ _ h => h) (Or.inl ⟨by rfl, ?_⟩) (by assumption) ?_
        rotate_left
        · (intro w hSw; (try dsimp only at hSw); go_simp; try with_reducible rfl)
        try simp only [Act.put, List.setIfInBounds_toArray, List.set_cons_zero, List.set_cons_succ]
        refine wpAnyH_take (i := 6) (oi := { dst := some 31, op := Go.Op.load 27 (Go.Operand.tmp 3), type := 27, pos := "laws.go:384", after := #[{ on := 4, ground := Go.Ground.guard }], guard := some (4, false) }) (v := ?_) rfl (by kernel_rfl) (by kernel_rfl) (by kernel_rfl) (fun _ _ _ h => h) (Or.inl ⟨by rfl, ?_⟩) (by assumption) ?_
        rotate_left
        · (intro w hSw; (try dsimp only at hSw); go_simp; try with_reducible rfl)
        try simp only [Act.put, List.setIfInBounds_toArray, List.set_cons_zero, List.set_cons_succ]
        refine wpAnyH_take (i := 8) (oi := { dst := some 33, op := Go.Op.fieldAddr 27 (Go.Operand.tmp 3) 0, type := 0, pos := "laws.go:384", after := #[{ on := 4, ground := Go.Ground.guard }], guard := some (4, false) }) (v := ?_) rfl (by kernel_rfl) (by kernel_rfl) (by kernel_rfl) (fun _ _ _ h => h) (Or.inl ⟨by rfl, ?_⟩) (by assumption) ?_
        rotate_left
        · (intro w hSw; (try dsimp only at hSw); go_simp; try with_reducible rfl)
        try simp only [Act.put, List.setIfInBounds_toArray, List.set_cons_zero, List.set_cons_succ]
        refine wpAnyH_take (i := 9) (oi := { dst := some 34, op := Go.Op.load 25 (Go.Operand.tmp 33), type := 25, pos := "laws.go:384", after := #[{ on := 8, ground := Go.Ground.data }, { on := 4, ground := Go.Ground.guard }], guard := some (4, false) }) (v := ?_) rfl (by kernel_rfl) (by kernel_rfl) (by kernel_rfl) (fun _ _ _ h => h) (Or.inl ⟨by rfl, ?_⟩) (by assumption) ?_
        rotate_left
        · (intro w hSw; (try dsimp only at hSw); go_simp; try with_reducible rfl)
        try simp only [Act.put, List.setIfInBounds_toArray, List.set_cons_zero, List.set_cons_succ]
        refine wpAnyH_ready (rs := [7]) (by kernel_rfl) (by simp) ?_
        refine AllReadyH.cons (o := { dst := some 32, op := Go.Op.call { callee := Go.Callee.value (Go.Operand.func 42), args := #[Go.Operand.tmp 31], argTypes := #[27] }, type := 3, pos := "laws.go:384", after := #[{ on := 6, ground := Go.Ground.data }, { on := 4, ground := Go.Ground.chain }, { on := 4, ground := Go.Ground.guard }], guard := some (4, false) }) rfl (fun K7 hK7 => ?_) AllReadyH.nil
        go_simp
        (refine (A2.out _).mono ?_; rintro e v2 ⟨rfl, hb2⟩; have hM2 := Lib.hid (hM1.out.call hb2); clear hb2; obtain ⟨p4, p5, p6⟩ := hM2.out.2.1)
        go_wp2_with fail
        refine hK7.out _ _ ?_ (fun hHeld2 => ?_)
        · (try dsimp only); go_keep
        clear hK7 K7 hHeld1
        try simp only [Act.put, List.setIfInBounds_toArray, List.set_cons_zero, List.set_cons_succ]
        refine wpAnyH_ready (rs := [10]) (by kernel_rfl) (by simp) ?_
        refine AllReadyH.cons (o := { dst := some 35, op := Go.Op.call { callee := Go.Callee.value (Go.Operand.func 39), args := #[Go.Operand.tmp 34], argTypes := #[25] }, type := 3, pos := "laws.go:384", after := #[{ on := 9, ground := Go.Ground.data }, { on := 7, ground := Go.Ground.chain }, { on := 4, ground := Go.Ground.guard }], guard := some (4, false) }) rfl (fun K10 hK10 => ?_) AllReadyH.nil
        go_simp
        (refine (HC.out _).mono ?_; rintro e v3 ⟨rfl, hb3⟩; have hM3 := Lib.hid (hM2.out.call hb3); clear hb3; obtain ⟨p7, p8, p9⟩ := hM3.out.2.1)
        go_wp2_with fail
        refine hK10.out _ _ ?_ (fun hHeld3 => ?_)
        · (try dsimp only); go_keep
        clear hK10 K10 hHeld2
        try simp only [Act.put, List.setIfInBounds_toArray, List.set_cons_zero, List.set_cons_succ]
        refine wpAnyH_take (i := 11) (oi := { dst := some 36, op := Go.Op.binOp Go.BinOp.sub 3 (Go.Operand.tmp 35) (Go.Operand.const (Go.Value.int Go.IntKind.i64 1)) 3, type := 3, pos := "laws.go:384", after := #[{ on := 10, ground := Go.Ground.data }, { on := 4, ground := Go.Ground.guard }], guard := some (4, false) }) (v := ?_) rfl (by kernel_rfl) (by kernel_rfl) (by kernel_rfl) (fun _ _ _ h => h) (Or.inl ⟨by rfl, ?_⟩) (by assumption) ?_
        rotate_left
        · (intro w hSw; (try dsimp only at hSw); go_simp; try with_reducible rfl)
        try simp only [Act.put, List.setIfInBounds_toArray, List.set_cons_zero, List.set_cons_succ]
        refine wpAnyH_take (i := 12) (oi := { dst := some 37, op := Go.Op.binOp Go.BinOp.mul 3 (Go.Operand.tmp 32) (Go.Operand.tmp 36) 3, type := 3, pos := "laws.go:384", after := #[{ on := 7, ground := Go.Ground.data }, { on := 11, ground := Go.Ground.data }, { on := 4, ground := Go.Ground.guard }], guard := some (4, false) }) (v := ?_) rfl (by kernel_rfl) (by kernel_rfl) (by kernel_rfl) (fun _ _ _ h => h) (Or.inl ⟨by rfl, ?_⟩) (by assumption) ?_
        rotate_left
        · (intro w hSw; (try dsimp only at hSw); go_simp; try with_reducible rfl)
        try simp only [Act.put, List.setIfInBounds_toArray, List.set_cons_zero, List.set_cons_succ]
        refine wpAnyH_take (i := 13) (oi := { dst := some 38, op := Go.Op.binOp Go.BinOp.neq 3 (Go.Operand.tmp 30) (Go.Operand.tmp 37) 3, type := 4, pos := "laws.go:384", after := #[{ on := 5, ground := Go.Ground.data }, { on := 12, ground := Go.Ground.data }, { on := 4, ground := Go.Ground.guard }], guard := some (4, false) }) (v := ?_) rfl (by kernel_rfl) (by kernel_rfl) (by kernel_rfl) (fun _ _ _ h => h) (Or.inl ⟨by rfl, ?_⟩) (by assumption) ?_
        rotate_left
        · (intro w hSw; (try dsimp only at hSw); go_simp; try with_reducible rfl)
        try simp only [Act.put, List.setIfInBounds_toArray, List.set_cons_zero, List.set_cons_succ]
        refine wpAnyH_take (i := 14) (oi := { dst := some 39, op := Go.Op.pick (Go.Operand.tmp 29) (Go.Operand.const (Go.Value.bool true)) (Go.Operand.tmp 38), type := 4, pos := "laws.go:384", after := #[{ on := 4, ground := Go.Ground.data }, { on := 13, ground := Go.Ground.data }], guard := none }) (v := ?_) rfl (by kernel_rfl) (by kernel_rfl) (by kernel_rfl) (fun _ _ _ h => h) (Or.inl ⟨by rfl, ?_⟩) (by assumption) ?_
        rotate_left
        · (intro w hSw; (try dsimp only at hSw); go_simp; try with_reducible rfl)
        try simp only [Act.put, List.setIfInBounds_toArray, List.set_cons_zero, List.set_cons_succ]
        refine wpAnyH_done (by kernel_rfl) ?_ _
        clear A1 A2 hlm
        by_cases hk0 : k = 0
        · have hd3 : ((k : Int) == 0) = true := by rw [hk0]; rfl
          go_wp2_with fail
          go_ret
          exact HK.out _ hM3.out.1
        · have hd3 : ((k : Int) == 0) = false := by rw [beq_eq_false_iff_ne]; omega
          have HAt := Lib.hid (at_any A n c (0 : Int) v3 w.heap.size HN.out (HY1.out _ hM3.out.1) (by omega) (by omega))
          have hN0 : ((k : Int) = 0) = False := by simp; omega
          go_wp2_with fail
          refine HAt.out.mono ?_
          rintro e v4 ⟨r, hr, rfl, rfl⟩
          obtain ⟨g, hg⟩ : ∃ g : Nat, ((r : Int)).tmod (k : Int) = (g : Int) := ⟨r % k, by rw [IntWalk.rem_in _ _ (by omega)]; simp⟩
          have hgk : g < k := by
            rw [IntWalk.rem_in _ _ (by omega)] at hg
            have := Int.emod_lt_of_pos (r : Int) (show (0 : Int) < k by omega)
            omega
          obtain ⟨g1, g2, g3⟩ := F4.out g hgk
          have B1 := Lib.hid (A4.out g)
          have B2 := Lib.hid (A5.out g)
          clear F4 A4 A5 HAt
          generalize hpw : ((2 ^ g : Nat) : Int) = pw at *
          generalize cfZ x y pw 0 = qa at *
          generalize cfZ x y 0 pw = qb at *
          have hsh : Hid (IntKind.i64.wrap ((2 : Int) ^ g) = pw) := Lib.hid (by
            have h1 : 2 ^ g < 2 ^ 24 := Nat.pow_lt_pow_right (by decide) (by omega)
            obtain ⟨P, hP⟩ : ∃ P, 2 ^ g = P := ⟨_, rfl⟩
            rw [hP] at hpw h1
            rw [show ((2 : Int) ^ g) = (P : Int) by rw [← hP]; simp, IntWalk.i64_in _ (by omega)]
            exact hpw)
          have hg0 : (0 : Int) ≤ (g : Int) := Int.natCast_nonneg _
          have hg64 : (g : Int) < 64 := by omega
          have q3 : IntKind.i64.wrap (qa + qb) = q := by rw [g1]; exact IntWalk.i64_in _ (by omega)
          clear hpw g1 HSs HS HCb q2 hs1
          go_wp2_with fail
          try simp only [List.cons_append, List.nil_append, List.append_eq]
          refine wp_region_held_drew (S := (fun w' => w'.cell? ⟨w1.heap.size, 0, none⟩ = some (.int .i64 x) ∧ w'.cell? ⟨w1.heap.size, 1, none⟩ = some (.int .i64 y) ∧ w'.cell? ⟨w1.heap.size, 2, none⟩ = some (.int .i64 o))) (by kernel_rfl) ?_ (fun hHeld0 => ?_)
          · (try dsimp only); go_keep
          refine wpAnyH_take (i := 0) (oi := { dst := some 46, op := Go.Op.fieldAddr 27 (Go.Operand.tmp 3) 0, type := 0, pos := "laws.go:391", after := #[], guard := none }) (v := ?_) rfl (by kernel_rfl) (by kernel_rfl) (by kernel_rfl) (fun _ _ _ h => h) (Or.inl ⟨by rfl, ?_⟩) (by assumption) ?_
          rotate_left
          · (intro w hSw; (try dsimp only at hSw); go_simp; try with_reducible rfl)
          try simp only [Act.put, List.setIfInBounds_toArray, List.set_cons_zero, List.set_cons_succ]
          refine wpAnyH_take (i := 1) (oi := { dst := some 47, op := Go.Op.load 25 (Go.Operand.tmp 46), type := 25, pos := "laws.go:391", after := #[{ on := 0, ground := Go.Ground.data }], guard := none }) (v := ?_) rfl (by kernel_rfl) (by kernel_rfl) (by kernel_rfl) (fun _ _ _ h => h) (Or.inl ⟨by rfl, ?_⟩) (by assumption) ?_
          rotate_left
          · (intro w hSw; (try dsimp only at hSw); go_simp; try with_reducible rfl)
          try simp only [Act.put, List.setIfInBounds_toArray, List.set_cons_zero, List.set_cons_succ]
          refine wpAnyH_take (i := 2) (oi := { dst := some 48, op := Go.Op.move (Go.Operand.tmp 7), type := 3, pos := "laws.go:391", after := #[], guard := none }) (v := ?_) rfl (by kernel_rfl) (by kernel_rfl) (by kernel_rfl) (fun _ _ _ h => h) (Or.inl ⟨by rfl, ?_⟩) (by assumption) ?_
          rotate_left
          · (intro w hSw; (try dsimp only at hSw); go_simp; try with_reducible rfl)
          try simp only [Act.put, List.setIfInBounds_toArray, List.set_cons_zero, List.set_cons_succ]
          refine wpAnyH_take (i := 3) (oi := { dst := some 49, op := Go.Op.binOp Go.BinOp.shl 3 (Go.Operand.const (Go.Value.int Go.IntKind.i64 1)) (Go.Operand.tmp 48) 3, type := 3, pos := "laws.go:391", after := #[{ on := 2, ground := Go.Ground.data }], guard := none }) (v := ?_) rfl (by kernel_rfl) (by kernel_rfl) (by kernel_rfl) (fun _ _ _ h => h) (Or.inl ⟨by rfl, ?_⟩) (by assumption) ?_
          rotate_left
          · (intro w hSw; (try dsimp only at hSw); go_simp; try with_reducible rfl)
          try simp only [Act.put, List.setIfInBounds_toArray, List.set_cons_zero, List.set_cons_succ]
          refine wpAnyH_take (i := 5) (oi := { dst := some 51, op := Go.Op.fieldAddr 27 (Go.Operand.tmp 3) 0, type := 0, pos := "laws.go:391", after := #[], guard := none }) (v := ?_) rfl (by kernel_rfl) (by kernel_rfl) (by kernel_rfl) (fun _ _ _ h => h) (Or.inl ⟨by rfl, ?_⟩) (by assumption) ?_
          rotate_left
          · (intro w hSw; (try dsimp only at hSw); go_simp; try with_reducible rfl)
          try simp only [Act.put, List.setIfInBounds_toArray, List.set_cons_zero, List.set_cons_succ]
          refine wpAnyH_take (i := 6) (oi := { dst := some 52, op := Go.Op.load 25 (Go.Operand.tmp 51), type := 25, pos := "laws.go:391", after := #[{ on := 5, ground := Go.Ground.data }], guard := none }) (v := ?_) rfl (by kernel_rfl) (by kernel_rfl) (by kernel_rfl) (fun _ _ _ h => h) (Or.inl ⟨by rfl, ?_⟩) (by assumption) ?_
          rotate_left
          · (intro w hSw; (try dsimp only at hSw); go_simp; try with_reducible rfl)
          try simp only [Act.put, List.setIfInBounds_toArray, List.set_cons_zero, List.set_cons_succ]
          refine wpAnyH_take (i := 7) (oi := { dst := some 53, op := Go.Op.move (Go.Operand.tmp 7), type := 3, pos := "laws.go:391", after := #[], guard := none }) (v := ?_) rfl (by kernel_rfl) (by kernel_rfl) (by kernel_rfl) (fun _ _ _ h => h) (Or.inl ⟨by rfl, ?_⟩) (by assumption) ?_
          rotate_left
          · (intro w hSw; (try dsimp only at hSw); go_simp; try with_reducible rfl)
          try simp only [Act.put, List.setIfInBounds_toArray, List.set_cons_zero, List.set_cons_succ]
          refine wpAnyH_take (i := 8) (oi := { dst := some 54, op := Go.Op.binOp Go.BinOp.shl 3 (Go.Operand.const (Go.Value.int Go.IntKind.i64 1)) (Go.Operand.tmp 53) 3, type := 3, pos := "laws.go:391", after := #[{ on := 7, ground := Go.Ground.data }], guard := none }) (v := ?_) rfl (by kernel_rfl) (by kernel_rfl) (by kernel_rfl) (fun _ _ _ h => h) (Or.inl ⟨by rfl, ?_⟩) (by assumption) ?_
          rotate_left
          · (intro w hSw; (try dsimp only at hSw); go_simp; try with_reducible rfl)
          try simp only [Act.put, List.setIfInBounds_toArray, List.set_cons_zero, List.set_cons_succ]
          refine wpAnyH_take (i := 11) (oi := { dst := some 57, op := Go.Op.fieldAddr 27 (Go.Operand.tmp 3) 0, type := 0, pos := "laws.go:391", after := #[], guard := none }) (v := ?_) rfl (by kernel_rfl) (by kernel_rfl) (by kernel_rfl) (fun _ _ _ h => h) (Or.inl ⟨by rfl, ?_⟩) (by assumption) ?_
          rotate_left
          · (intro w hSw; (try dsimp only at hSw); go_simp; try with_reducible rfl)
          try simp only [Act.put, List.setIfInBounds_toArray, List.set_cons_zero, List.set_cons_succ]
          refine wpAnyH_take (i := 12) (oi := { dst := some 58, op := Go.Op.load 25 (Go.Operand.tmp 57), type := 25, pos := "laws.go:391", after := #[{ on := 11, ground := Go.Ground.data }], guard := none }) (v := ?_) rfl (by kernel_rfl) (by kernel_rfl) (by kernel_rfl) (fun _ _ _ h => h) (Or.inl ⟨by rfl, ?_⟩) (by assumption) ?_
          rotate_left
          · (intro w hSw; (try dsimp only at hSw); go_simp; try with_reducible rfl)
          try simp only [Act.put, List.setIfInBounds_toArray, List.set_cons_zero, List.set_cons_succ]
          refine wpAnyH_ready (rs := [4]) (by kernel_rfl) (by simp) ?_
          refine AllReadyH.cons (o := { dst := some 50, op := Go.Op.call { callee := Go.Callee.value (Go.Operand.func 44), args := #[Go.Operand.tmp 47, Go.Operand.tmp 49, Go.Operand.const (Go.Value.int Go.IntKind.i64 0)], argTypes := #[25, 3, 3] }, type := 3, pos := "laws.go:391", after := #[{ on := 1, ground := Go.Ground.data }, { on := 3, ground := Go.Ground.data }], guard := none }) rfl (fun K4 hK4 => ?_) AllReadyH.nil
          go_simp
          (simp only [hsh.out]; refine (B1.out _).mono ?_; rintro e v5 ⟨rfl, hb1⟩; have hM5 := Lib.hid (hM3.out.dr.call hb1); clear hb1; obtain ⟨k1, k2, k3⟩ := hM5.out.2.1)
          go_wp2_with fail
          refine hK4.out _ _ ?_ (fun hHeld1 => ?_)
          · (try dsimp only); go_keep
          clear hK4 K4 hHeld0
          try simp only [Act.put, List.setIfInBounds_toArray, List.set_cons_zero, List.set_cons_succ]
          refine wpAnyH_ready (rs := [9]) (by kernel_rfl) (by simp) ?_
          refine AllReadyH.cons (o := { dst := some 55, op := Go.Op.call { callee := Go.Callee.value (Go.Operand.func 44), args := #[Go.Operand.tmp 52, Go.Operand.const (Go.Value.int Go.IntKind.i64 0), Go.Operand.tmp 54], argTypes := #[25, 3, 3] }, type := 3, pos := "laws.go:391", after := #[{ on := 6, ground := Go.Ground.data }, { on := 8, ground := Go.Ground.data }, { on := 4, ground := Go.Ground.chain }], guard := none }) rfl (fun K9 hK9 => ?_) AllReadyH.nil
          go_simp
          ((try simp only [hsh.out]); refine (B2.out _).mono ?_; rintro e v6 ⟨rfl, hb2⟩; have hM6 := Lib.hid (hM5.out.call hb2); clear hb2; obtain ⟨k4, k5, k6⟩ := hM6.out.2.1)
          go_wp2_with fail
          refine hK9.out _ _ ?_ (fun hHeld2 => ?_)
          · (try dsimp only); go_keep
          clear hK9 K9 hHeld1
          try simp only [Act.put, List.setIfInBounds_toArray, List.set_cons_zero, List.set_cons_succ]
          refine wpAnyH_take (i := 10) (oi := { dst := some 56, op := Go.Op.binOp Go.BinOp.add 3 (Go.Operand.tmp 50) (Go.Operand.tmp 55) 3, type := 3, pos := "laws.go:391", after := #[{ on := 4, ground := Go.Ground.data }, { on := 9, ground := Go.Ground.data }], guard := none }) (v := ?_) rfl (by kernel_rfl) (by kernel_rfl) (by kernel_rfl) (fun _ _ _ h => h) (Or.inl ⟨by rfl, ?_⟩) (by assumption) ?_
          rotate_left
          · (intro w hSw; (try dsimp only at hSw); go_simp; try with_reducible rfl)
          try simp only [Act.put, List.setIfInBounds_toArray, List.set_cons_zero, List.set_cons_succ]
          refine wpAnyH_ready (rs := [13]) (by kernel_rfl) (by simp) ?_
          refine AllReadyH.cons (o := { dst := some 59, op := Go.Op.call { callee := Go.Callee.value (Go.Operand.func 44), args := #[Go.Operand.tmp 58, Go.Operand.const (Go.Value.int Go.IntKind.i64 0), Go.Operand.const (Go.Value.int Go.IntKind.i64 0)], argTypes := #[25, 3, 3] }, type := 3, pos := "laws.go:391", after := #[{ on := 12, ground := Go.Ground.data }, { on := 9, ground := Go.Ground.chain }], guard := none }) rfl (fun K13 hK13 => ?_) AllReadyH.nil
          go_simp
          (refine (A3.out _).mono ?_; rintro e v7 ⟨rfl, hb3⟩; have hM7 := Lib.hid (hM6.out.call hb3); clear hb3; obtain ⟨k7, k8, k9⟩ := hM7.out.2.1)
          go_wp2_with fail
          refine hK13.out _ _ ?_ (fun hHeld3 => ?_)
          · (try dsimp only); go_keep
          clear hK13 K13 hHeld2
          try simp only [Act.put, List.setIfInBounds_toArray, List.set_cons_zero, List.set_cons_succ]
          refine wpAnyH_take (i := 14) (oi := { dst := some 60, op := Go.Op.binOp Go.BinOp.eql 3 (Go.Operand.tmp 56) (Go.Operand.tmp 59) 3, type := 4, pos := "laws.go:391", after := #[{ on := 10, ground := Go.Ground.data }, { on := 13, ground := Go.Ground.data }], guard := none }) (v := ?_) rfl (by kernel_rfl) (by kernel_rfl) (by kernel_rfl) (fun _ _ _ h => h) (Or.inl ⟨by rfl, ?_⟩) (by assumption) ?_
          rotate_left
          · (intro w hSw; (try dsimp only at hSw); go_simp; try with_reducible rfl)
          try simp only [Act.put, List.setIfInBounds_toArray, List.set_cons_zero, List.set_cons_succ]
          refine wpAnyH_take (i := 15) (oi := { dst := some 2, op := Go.Op.assign (Go.Operand.tmp 60), type := 4, pos := "laws.go:391", after := #[{ on := 14, ground := Go.Ground.data }, { on := 13, ground := Go.Ground.chain }, { on := 0, ground := Go.Ground.phase }, { on := 1, ground := Go.Ground.phase }, { on := 2, ground := Go.Ground.phase }, { on := 3, ground := Go.Ground.phase }, { on := 4, ground := Go.Ground.phase }, { on := 5, ground := Go.Ground.phase }, { on := 6, ground := Go.Ground.phase }, { on := 7, ground := Go.Ground.phase }, { on := 8, ground := Go.Ground.phase }, { on := 9, ground := Go.Ground.phase }, { on := 10, ground := Go.Ground.phase }, { on := 11, ground := Go.Ground.phase }, { on := 12, ground := Go.Ground.phase }, { on := 13, ground := Go.Ground.phase }, { on := 14, ground := Go.Ground.phase }], guard := none }) (v := ?_) rfl (by kernel_rfl) (by kernel_rfl) (by kernel_rfl) (fun _ _ _ h => h) (Or.inl ⟨by rfl, ?_⟩) (by assumption) ?_
          rotate_left
          · (intro w hSw; (try dsimp only at hSw); go_simp; try with_reducible rfl)
          try simp only [Act.put, List.setIfInBounds_toArray, List.set_cons_zero, List.set_cons_succ]
          refine wpAnyH_done (by kernel_rfl) ?_ _
          go_wp2_with fail
          go_ret
          exact HK.out _ hM7.out.1
end Go.Proofs.Ythgnhamokikhkaa.fnCounts
