/- The draw of a maze with at most 12 passages. -/
import Derived.Test.YthgnhamokikhkaaCntD
import Derived.Test.YthgnhamokikhkaaSmls
namespace Go.Proofs.Ythgnhamokikhkaa.cntS
open Go.ChangeShapes Go.WideShapes Go.ChangeAt Go.RowKit
open draw gridP gridC gridE bitP mazeP mazeQ mazeC mazeM mazeR mazeS mazeE reachM forest cntD lcgP drawX smlP
set_option linter.unusedVariables false

/-- What is drawn: a maze with at most 12 passages. -/
def DrawnSm (g : Nat) (w : World) (e : Ending) (w' : World) : Prop := ∃ x y z : Int, (OkM x y z ∧ cpZ x y z ≤ 12) ∧ e = .returned (.agg #[.int .i64 x, .int .i64 y, .int .i64 z]) ∧ Cur w' g ∧ w.grownBy w' (some g)
def SmallDrawn (w : World) (e : Ending) (w' : World) : Prop := ∃ x y z : Int, (OkM x y z ∧ cpZ x y z ≤ 12) ∧ e = .returned (.agg #[.int .i64 x, .int .i64 y, .int .i64 z]) ∧ Below w.heap.size w w'
theorem smallDrawn_mk {w X Y : World} {x y z : Int} (h : OkM x y z ∧ cpZ x y z ≤ 12) (hb : Below w.heap.size w X) (hY : Y = ((X.setCell ⟨w.heap.size, 0, none⟩ (.int .i64 x)).setCell ⟨w.heap.size, 1, none⟩ (.int .i64 y)).setCell ⟨w.heap.size, 2, none⟩ (.int .i64 z)) : SmallDrawn w (.returned (.agg #[.int .i64 x, .int .i64 y, .int .i64 z])) Y := by
  obtain ⟨x', y', z', h1, h2, h3⟩ := mazeDrawn_mk h.1 hb hY
  exact ⟨x, y, z, h, rfl, h3⟩
/-- At the loop's head, with the rank d. -/
def RK (w : World) (g b : Nat) (x y : Int) (d : Nat) (X : World) : Prop :=
  ∃ (m o : Nat) (h : Int), KS w g b x y o X ∧ CurX X g m h ∧ o < 2 ^ gN x y ∧ d = rk (gN x y) m o h

/-- What a draw below G leaves of the cursor. -/
def Left (g m : Nat) (h G : Int) (t : Nat) (X : World) : Prop := (0 < m ∧ ∃ h', CurX X g (m - 1) h') ∨ (m = 0 ∧ CurX X g 0 (stp h) ∧ (t : Int) = byX (stp h) % G)
theorem Left.cur {g m t : Nat} {h G : Int} {X : World} (hl : Left g m h G t X) : Cur X g := by
  rcases hl with ⟨_, _, hc⟩ | ⟨_, hc, _⟩
  · exact hc.cur
  · exact hc.cur
theorem Left.below {g m t : Nat} {h G : Int} {X X' : World} (hl : Left g m h G t X) (hb : Below X.heap.size X X') : Left g m h G t X' := by
  rcases hl with ⟨h1, h', hc⟩ | ⟨h1, hc, h2⟩
  · exact .inl ⟨h1, h', hc.kept hb hc.cur.lt⟩
  · exact .inr ⟨h1, hc.kept hb hc.cur.lt, h2⟩
theorem rk_next {w X : World} {g b m o t : Nat} {x y h : Int} (hG : gN x y ≤ 24) (ks : KS w g b x y o X) (hl : Left g m h (gN x y) t X) (hs : ∃ t, t < gN x y ∧ bt o t = 1) (ht : t < gN x y) (ho : o < 2 ^ gN x y) (hok : OkM x y (clr o t)) :
    ∃ d, d < rk (gN x y) m o h ∧ RK w g b x y d (((X.setCell ⟨b, 0, none⟩ (.int .i64 x)).setCell ⟨b, 1, none⟩ (.int .i64 y)).setCell ⟨b, 2, none⟩ (.int .i64 (clr o t))) := by
  have hgb : g < b := by have := ks.2.2.2.2.2; omega
  have ho' : clr o t < 2 ^ gN x y := Nat.lt_of_le_of_lt (clr_le o t) ho
  have hput : ∀ {m' : Nat} {h' : Int}, CurX X g m' h' → CurX (((X.setCell ⟨b, 0, none⟩ (.int .i64 x)).setCell ⟨b, 1, none⟩ (.int .i64 y)).setCell ⟨b, 2, none⟩ (.int .i64 (clr o t))) g m' h' := fun hc => ((hc.put hgb _).put hgb _).put hgb _
  rcases hl with ⟨h1, h', hc⟩ | ⟨rfl, hc, e⟩
  · exact ⟨_, rk_take hG h1, m - 1, clr o t, h', ks.put hok, hput hc, ho', rfl⟩
  · exact ⟨_, rk_skip hG hs ht e, 0, clr o t, stp h, ks.put hok, hput hc, ho', rfl⟩

set_option maxRecDepth 100000 in
set_option maxHeartbeats 4000000 in
theorem smallMaze_any (g : Nat) (w : World) (hc : Cur w g) : Calls Try.prog 98 #[.pointer (some ⟨g, 0, none⟩)] w (DrawnSm g w) := by
  have hlt := hc.lt
  go_enter Try.func98, Try.ntmps98
  go_wp2_with fail
  refine (openMaze_any g _ (hc.alloc1 _)).mono ?_
  rintro e w1 ⟨x, y, z, hv, rfl, hc1, hg1⟩
  obtain ⟨hk, o0, rfl, ho0⟩ := okm_of hv
  obtain ⟨h1, h2, h3, h4⟩ := id hk
  have HR1 := Lib.hid (zero_cells hg1 hlt)
  have HG1 := Lib.hid (only_trans (only_alloc1 (World.grownBy.refl w (some g)) _) hg1)
  have HC1 := Lib.hid hc1
  clear hg1 hc1
  obtain ⟨q0, q1⟩ := gps_bd h1 h2 h3 h4
  have hGe : gpsZ x y = (gN x y : Int) := by unfold gN; omega
  have hG24 : gN x y ≤ 24 := by omega
  have HG : Hid (∀ X, Calls Try.prog 20 #[.agg #[.int .i64 x, .int .i64 y]] X (Nm (gpsZ x y) X)) := fun X => gridS.countGaps_yes x y X h1 h2 h3 h4
  have ks0 := Lib.hid (ks_start HC1.out HG1.out HR1.out hv hlt 27)
  have hHc : Hid (∀ o : Nat, o < 2 ^ gN x y → ∀ X, Calls Try.prog 106 #[.agg #[.int .i64 x, .int .i64 y, .int .i64 o]] X (Nm (pcN o (gN x y)) X)) := Lib.hid fun o ho X => by
    have := countPassages_any x y o X
    rwa [perfP.cp_pc hk ho] at this
  have hHs : Hid (∀ o t : Nat, o < 2 ^ gN x y → t < gN x y → ∀ X, Calls Try.prog 109 #[.agg #[.int .i64 x, .int .i64 y, .int .i64 o], .int .i64 t, .bool false] X (MzB x y (clr o t) (sgB x y o t) X)) := Lib.hid fun o t ho ht X => by
    have := setGap_any x y o t false X
    rwa [sg_clr hk ho ht] at this
  have hFin : Hid (∀ o : Nat, o < 2 ^ gN x y → pcN o (gN x y) ≤ 12 → OkM x y o ∧ cpZ x y o ≤ 12) := Lib.hid fun o ho hp => ⟨okm hk ho, by rw [perfP.cp_pc hk ho]; omega⟩
  have hOk : Hid (∀ o : Nat, o < 2 ^ gN x y → OkM x y o) := Lib.hid fun o ho => okm hk ho
  rw [hGe] at HG
  clear HR1 HG1 HC1 hv hk h1 h2 h3 h4 q0 q1 hGe
  go_wp2_with fail
  generalize w1.alloc (.cells #[.int .i64 x, .int .i64 y, .int .i64 o0] 27) = w3 at *
  generalize w1.heap.size = b at *
  go_loopw [] (fun wr => ∃ d, RK w g b x y d wr) (fun wr => least fun d => RK w g b x y d wr)
  case atStart =>
    obtain ⟨m, h, hx⟩ := curX_of ks0.out.1
    exact ⟨_, m, o0, h, ks0.out, hx, ho0, rfl⟩
  case round =>
    clear ks0
    obtain ⟨hD, -⟩ := least_is hrel
    have HL := Lib.hid (fun (X : World) d' (h : RK w g b x y d' X) => (least_is (p := fun d => RK w g b x y d X) ⟨d', h⟩).2 d' h)
    obtain ⟨D, hDD⟩ : ∃ D, (least fun d => RK w g b x y d wr) = D := ⟨_, rfl⟩
    have HDD := Lib.hid hDD
    rw [hDD] at hD
    obtain ⟨m, o, h, ks00, hx, ho, hrk⟩ := hD
    have ks := Lib.hid ks00
    have HX := Lib.hid hx
    have HRk := Lib.hid hrk
    clear ks00 hx hrk hDD hrel
    obtain ⟨-, -, ⟨b0, b1, b2⟩, -⟩ := ks.out.parts
    have hHo := Lib.hid (hHc.out o ho)
    have HT := Lib.hid (fun t ht => hHs.out o t ho ht)
    have hFo := Lib.hid (hFin.out o ho)
    by_cases hp : 12 < pcN o (gN x y)
    · have hs : ∃ t, t < gN x y ∧ bt o t = 1 := pc_some (by omega)
      have hG0 : 0 < gN x y := by obtain ⟨t, ht, -⟩ := hs; omega
      have hd1 : decide ((12 : Int) < (pcN o (gN x y) : Int)) = true := decide_eq_true (by omega)
      have HN := Lib.hid (fun (X : World) t (k : KS w g b x y o X) (l : Left g m h (gN x y) t X) ht => rk_next hG24 k l hs ht ho (hOk.out _ (Nat.lt_of_le_of_lt (clr_le o t) ho)))
      rw [← HRk.out] at HN
      clear hs hHc hHs hFin hOk HRk
      generalize hGG : gN x y = G at *
      go_wp2_with fail
      refine (hHo.out _).mono ?_
      rintro e w4 ⟨rfl, hb⟩
      have ks1 := Lib.hid (ks.out.below hb)
      have HX1 := Lib.hid (HX.out.kept hb HX.out.cur.lt)
      clear hb b0 b1 b2 HX ks
      obtain ⟨-, -, ⟨b0, b1, b2⟩, fb0, fb1, fb2⟩ := ks1.out.parts
      go_wp2_with fail
      try simp only [List.cons_append, List.nil_append, List.append_eq]
      refine wp_region_held_drew (S := (fun w' => w'.cell? ⟨b, 0, none⟩ = some (.int .i64 x) ∧ w'.cell? ⟨b, 1, none⟩ = some (.int .i64 y))) (by kernel_rfl) ?_ (fun hHeld0 => ?_)
      · (try dsimp only); first | go_keep | exact ⟨ks1.out.parts.2.2.1.1, ks1.out.parts.2.2.1.2.1⟩ | exact ⟨ks2.out.parts.2.2.1.1, ks2.out.parts.2.2.1.2.1⟩ | exact ⟨ks3.out.parts.2.2.1.1, ks3.out.parts.2.2.1.2.1⟩ | exact ⟨ks4.out.parts.2.2.1.1, ks4.out.parts.2.2.1.2.1⟩
      refine wpAnyH_take (i := 1) (oi := { dst := some 11, op := Go.Op.move (Go.Operand.tmp 0), type := 68, pos := "l12_count.go:121", after := #[], guard := none }) (v := ?_) rfl (by kernel_rfl) (by kernel_rfl) (by kernel_rfl) (fun _ _ _ h => h) (Or.inl ⟨by rfl, ?_⟩) (by assumption) ?_
      rotate_left
      · (intro w hSw; (try dsimp only at hSw); go_simp; try with_reducible rfl)
      try simp only [Act.put, List.setIfInBounds_toArray, List.set_cons_zero, List.set_cons_succ]
      refine wpAnyH_take (i := 2) (oi := { dst := some 12, op := Go.Op.fieldAddr 27 (Go.Operand.tmp 3) 0, type := 0, pos := "l12_count.go:121", after := #[], guard := none }) (v := ?_) rfl (by kernel_rfl) (by kernel_rfl) (by kernel_rfl) (fun _ _ _ h => h) (Or.inl ⟨by rfl, ?_⟩) (by assumption) ?_
      rotate_left
      · (intro w hSw; (try dsimp only at hSw); go_simp; try with_reducible rfl)
      try simp only [Act.put, List.setIfInBounds_toArray, List.set_cons_zero, List.set_cons_succ]
      refine wpAnyH_take (i := 3) (oi := { dst := some 13, op := Go.Op.load 25 (Go.Operand.tmp 12), type := 25, pos := "l12_count.go:121", after := #[{ on := 2, ground := Go.Ground.data }], guard := none }) (v := ?_) rfl (by kernel_rfl) (by kernel_rfl) (by kernel_rfl) (fun _ _ _ h => h) (Or.inl ⟨by rfl, ?_⟩) (by assumption) ?_
      rotate_left
      · (intro w hSw; (try dsimp only at hSw); go_simp; try with_reducible rfl)
      try simp only [Act.put, List.setIfInBounds_toArray, List.set_cons_zero, List.set_cons_succ]
      refine wpAnyH_ready (rs := [0, 4]) (by kernel_rfl) (by simp) ?_
      refine (AllReadyH.cons (o := { dst := some 10, op := Go.Op.load 27 (Go.Operand.tmp 3), type := 27, pos := "l12_count.go:121", after := #[], guard := none }) rfl (fun K0 hK0 => ?_) (AllReadyH.cons (o := { dst := some 14, op := Go.Op.call { callee := Go.Callee.value (Go.Operand.func 20), args := #[Go.Operand.tmp 13], argTypes := #[25] }, type := 3, pos := "l12_count.go:121", after := #[{ on := 3, ground := Go.Ground.data }], guard := none }) rfl (fun K4 hK4 => ?_) AllReadyH.nil))
      · as_aux_lemma =>
          go_simp
          refine hK0.out _ _ ?_ (fun hHeld1 => ?_)
          · (try dsimp only); first | go_keep | exact ⟨ks1.out.parts.2.2.1.1, ks1.out.parts.2.2.1.2.1⟩ | exact ⟨ks2.out.parts.2.2.1.1, ks2.out.parts.2.2.1.2.1⟩ | exact ⟨ks3.out.parts.2.2.1.1, ks3.out.parts.2.2.1.2.1⟩ | exact ⟨ks4.out.parts.2.2.1.1, ks4.out.parts.2.2.1.2.1⟩
          clear hK0 K0 hHeld0
          try simp only [Act.put, List.setIfInBounds_toArray, List.set_cons_zero, List.set_cons_succ]
          refine wpAnyH_ready (rs := [4]) (by kernel_rfl) (by simp) ?_
          refine AllReadyH.cons (o := { dst := some 14, op := Go.Op.call { callee := Go.Callee.value (Go.Operand.func 20), args := #[Go.Operand.tmp 13], argTypes := #[25] }, type := 3, pos := "l12_count.go:121", after := #[{ on := 3, ground := Go.Ground.data }], guard := none }) rfl (fun K4 hK4 => ?_) AllReadyH.nil
          go_simp
          (refine (HG.out _).mono ?_; rintro e v1 ⟨rfl, hb1⟩; have ks2 := Lib.hid (ks1.out.dr.below hb1); have HX2 := Lib.hid ((show CurX w4.drew g m h from HX1.out).kept hb1 HX1.out.cur.lt); clear hb1; obtain ⟨-, -, ⟨c0, c1, c2⟩, fc0, fc1, fc2⟩ := ks2.out.parts)
          go_wp2_with fail
          refine hK4.out _ _ ?_ (fun hHeld2 => ?_)
          · (try dsimp only); first | go_keep | exact ⟨ks1.out.parts.2.2.1.1, ks1.out.parts.2.2.1.2.1⟩ | exact ⟨ks2.out.parts.2.2.1.1, ks2.out.parts.2.2.1.2.1⟩ | exact ⟨ks3.out.parts.2.2.1.1, ks3.out.parts.2.2.1.2.1⟩ | exact ⟨ks4.out.parts.2.2.1.1, ks4.out.parts.2.2.1.2.1⟩
          clear hK4 K4 hHeld1
          try simp only [Act.put, List.setIfInBounds_toArray, List.set_cons_zero, List.set_cons_succ]
          refine wpAnyH_ready (rs := [5]) (by kernel_rfl) (by simp) ?_
          refine AllReadyH.cons (o := { dst := some 15, op := Go.Op.call { callee := Go.Callee.value (Go.Operand.func 126), args := #[Go.Operand.tmp 11, Go.Operand.tmp 14], argTypes := #[68, 3] }, type := 3, pos := "l12_count.go:121", after := #[{ on := 1, ground := Go.Ground.data }, { on := 4, ground := Go.Ground.data }, { on := 4, ground := Go.Ground.chain }], guard := none }) rfl (fun K5 hK5 => ?_) AllReadyH.nil
          go_simp
          (refine (below_x g m h (G : Int) _ HX2.out (by omega) (by omega)).mono ?_; rintro e v2 ⟨t, ht, rfl, hg2, hd2⟩; have HL3 : Hid (Left g m h (G : Int) t v2) := Lib.hid hd2; have ks3 := Lib.hid (ks2.out.draw HL3.out.cur hg2); have ht' : t < G := (by omega); clear hg2 hd2 ht; obtain ⟨-, -, ⟨d0, d1, d2⟩, fd0, fd1, fd2⟩ := ks3.out.parts)
          go_wp2_with fail
          refine hK5.out _ _ ?_ (fun hHeld3 => ?_)
          · (try dsimp only); first | go_keep | exact ⟨ks1.out.parts.2.2.1.1, ks1.out.parts.2.2.1.2.1⟩ | exact ⟨ks2.out.parts.2.2.1.1, ks2.out.parts.2.2.1.2.1⟩ | exact ⟨ks3.out.parts.2.2.1.1, ks3.out.parts.2.2.1.2.1⟩ | exact ⟨ks4.out.parts.2.2.1.1, ks4.out.parts.2.2.1.2.1⟩
          clear hK5 K5 hHeld2
          try simp only [Act.put, List.setIfInBounds_toArray, List.set_cons_zero, List.set_cons_succ]
          refine wpAnyH_ready (rs := [6]) (by kernel_rfl) (by simp) ?_
          refine AllReadyH.cons (o := { dst := some 16, op := Go.Op.call { callee := Go.Callee.value (Go.Operand.func 109), args := #[Go.Operand.tmp 10, Go.Operand.tmp 15, Go.Operand.const (Go.Value.bool false)], argTypes := #[27, 3, 4] }, type := 36, pos := "l12_count.go:121", after := #[{ on := 0, ground := Go.Ground.data }, { on := 5, ground := Go.Ground.data }, { on := 5, ground := Go.Ground.chain }], guard := none }) rfl (fun K6 hK6 => ?_) AllReadyH.nil
          go_simp
          (refine (HT.out t ht' _).mono ?_; rintro e v3 ⟨rfl, hb3⟩; have ks4 := Lib.hid (ks3.out.below hb3); have HL4 := Lib.hid (HL3.out.below hb3); clear hb3; obtain ⟨-, -, ⟨e0, e1, e2⟩, fe0, fe1, fe2⟩ := ks4.out.parts)
          go_wp2_with fail
          refine hK6.out _ _ ?_ (fun hHeld4 => ?_)
          · (try dsimp only); first | go_keep | exact ⟨ks1.out.parts.2.2.1.1, ks1.out.parts.2.2.1.2.1⟩ | exact ⟨ks2.out.parts.2.2.1.1, ks2.out.parts.2.2.1.2.1⟩ | exact ⟨ks3.out.parts.2.2.1.1, ks3.out.parts.2.2.1.2.1⟩ | exact ⟨ks4.out.parts.2.2.1.1, ks4.out.parts.2.2.1.2.1⟩
          clear hK6 K6 hHeld3
          try simp only [Act.put, List.setIfInBounds_toArray, List.set_cons_zero, List.set_cons_succ]
          refine wpAnyH_take (i := 7) (oi := { dst := some 9, op := Go.Op.move (Go.Operand.tmp 16), type := 36, pos := "l12_count.go:121", after := #[{ on := 6, ground := Go.Ground.data }], guard := none }) (v := ?_) rfl (by kernel_rfl) (by kernel_rfl) (by kernel_rfl) (fun _ _ _ h => h) (Or.inl ⟨by rfl, ?_⟩) (by assumption) ?_
          rotate_left
          · (intro w hSw; (try dsimp only at hSw); go_simp; try with_reducible rfl)
          try simp only [Act.put, List.setIfInBounds_toArray, List.set_cons_zero, List.set_cons_succ]
          refine wpAnyH_take (i := 8) (oi := { dst := some 17, op := Go.Op.extract (Go.Operand.tmp 9) 0, type := 27, pos := "l12_count.go:121", after := #[{ on := 7, ground := Go.Ground.data }], guard := none }) (v := ?_) rfl (by kernel_rfl) (by kernel_rfl) (by kernel_rfl) (fun _ _ _ h => h) (Or.inl ⟨by rfl, ?_⟩) (by assumption) ?_
          rotate_left
          · (intro w hSw; (try dsimp only at hSw); go_simp; try with_reducible rfl)
          try simp only [Act.put, List.setIfInBounds_toArray, List.set_cons_zero, List.set_cons_succ]
          refine wpAnyH_take (i := 9) (oi := { dst := some 18, op := Go.Op.extract (Go.Operand.tmp 9) 1, type := 4, pos := "l12_count.go:121", after := #[{ on := 7, ground := Go.Ground.data }, { on := 10, ground := Go.Ground.gcOnly Go.Departure.lateStores }], guard := none }) (v := ?_) rfl (by kernel_rfl) (by kernel_rfl) (by kernel_rfl) (fun _ _ _ h => h) (Or.inl ⟨by rfl, ?_⟩) (by assumption) ?_
          rotate_left
          · (intro w hSw; (try dsimp only at hSw); go_simp; try with_reducible rfl)
          try simp only [Act.put, List.setIfInBounds_toArray, List.set_cons_zero, List.set_cons_succ]
          refine wpAnyH_ready (rs := [10]) (by kernel_rfl) (by simp) ?_
          refine AllReadyH.cons (o := { dst := none, op := Go.Op.store 27 (Go.Operand.tmp 3) (Go.Operand.tmp 17), type := 0, pos := "l12_count.go:121", after := #[{ on := 8, ground := Go.Ground.data }, { on := 6, ground := Go.Ground.chain }, { on := 0, ground := Go.Ground.phase }, { on := 1, ground := Go.Ground.phase }, { on := 2, ground := Go.Ground.phase }, { on := 3, ground := Go.Ground.phase }, { on := 4, ground := Go.Ground.phase }, { on := 5, ground := Go.Ground.phase }, { on := 6, ground := Go.Ground.phase }, { on := 7, ground := Go.Ground.phase }, { on := 8, ground := Go.Ground.phase }, { on := 9, ground := Go.Ground.textOnly Go.Departure.lateStores }], guard := none }) rfl (fun K10 hK10 => ?_) AllReadyH.nil
          go_simp
          refine hK10.out _ _ ?_ (fun hHeld5 => ?_)
          · (try dsimp only); exact ⟨(row3_cells (row3_all ks4.out.2.2.2.2.1)).1.1, (row3_cells (row3_all ks4.out.2.2.2.2.1)).1.2.1⟩
          clear hK10 K10 hHeld4
          try simp only [Act.put, List.setIfInBounds_toArray, List.set_cons_zero, List.set_cons_succ]
          refine wpAnyH_done (by kernel_rfl) ?_ _
          (obtain ⟨d, hd, hrk⟩ := HN.out v3 t ks4.out HL4.out ht'; have Hrk := Lib.hid hrk; have Hd := Lib.hid hd; clear hd hrk; go_wp2_with fail; go_roundw; (case rel => exact ⟨d, Hrk.out⟩); (case measure => exact Nat.lt_of_le_of_lt (HL.out _ d Hrk.out) (by rw [HDD.out]; exact Hd.out)))
      · as_aux_lemma =>
          go_simp
          (refine (HG.out _).mono ?_; rintro e v1 ⟨rfl, hb1⟩; have ks2 := Lib.hid (ks1.out.dr.below hb1); have HX2 := Lib.hid ((show CurX w4.drew g m h from HX1.out).kept hb1 HX1.out.cur.lt); clear hb1; obtain ⟨-, -, ⟨c0, c1, c2⟩, fc0, fc1, fc2⟩ := ks2.out.parts)
          go_wp2_with fail
          refine hK4.out _ _ ?_ (fun hHeld1 => ?_)
          · (try dsimp only); first | go_keep | exact ⟨ks1.out.parts.2.2.1.1, ks1.out.parts.2.2.1.2.1⟩ | exact ⟨ks2.out.parts.2.2.1.1, ks2.out.parts.2.2.1.2.1⟩ | exact ⟨ks3.out.parts.2.2.1.1, ks3.out.parts.2.2.1.2.1⟩ | exact ⟨ks4.out.parts.2.2.1.1, ks4.out.parts.2.2.1.2.1⟩
          clear hK4 K4 hHeld0
          try simp only [Act.put, List.setIfInBounds_toArray, List.set_cons_zero, List.set_cons_succ]
          refine wpAnyH_ready (rs := [0, 5]) (by kernel_rfl) (by simp) ?_
          refine (AllReadyH.cons (o := { dst := some 10, op := Go.Op.load 27 (Go.Operand.tmp 3), type := 27, pos := "l12_count.go:121", after := #[], guard := none }) rfl (fun K0 hK0 => ?_) (AllReadyH.cons (o := { dst := some 15, op := Go.Op.call { callee := Go.Callee.value (Go.Operand.func 126), args := #[Go.Operand.tmp 11, Go.Operand.tmp 14], argTypes := #[68, 3] }, type := 3, pos := "l12_count.go:121", after := #[{ on := 1, ground := Go.Ground.data }, { on := 4, ground := Go.Ground.data }, { on := 4, ground := Go.Ground.chain }], guard := none }) rfl (fun K5 hK5 => ?_) AllReadyH.nil))
          · as_aux_lemma =>
              go_simp
              refine hK0.out _ _ ?_ (fun hHeld2 => ?_)
              · (try dsimp only); first | go_keep | exact ⟨ks1.out.parts.2.2.1.1, ks1.out.parts.2.2.1.2.1⟩ | exact ⟨ks2.out.parts.2.2.1.1, ks2.out.parts.2.2.1.2.1⟩ | exact ⟨ks3.out.parts.2.2.1.1, ks3.out.parts.2.2.1.2.1⟩ | exact ⟨ks4.out.parts.2.2.1.1, ks4.out.parts.2.2.1.2.1⟩
              clear hK0 K0 hHeld1
              try simp only [Act.put, List.setIfInBounds_toArray, List.set_cons_zero, List.set_cons_succ]
              refine wpAnyH_ready (rs := [5]) (by kernel_rfl) (by simp) ?_
              refine AllReadyH.cons (o := { dst := some 15, op := Go.Op.call { callee := Go.Callee.value (Go.Operand.func 126), args := #[Go.Operand.tmp 11, Go.Operand.tmp 14], argTypes := #[68, 3] }, type := 3, pos := "l12_count.go:121", after := #[{ on := 1, ground := Go.Ground.data }, { on := 4, ground := Go.Ground.data }, { on := 4, ground := Go.Ground.chain }], guard := none }) rfl (fun K5 hK5 => ?_) AllReadyH.nil
              go_simp
              (refine (below_x g m h (G : Int) _ HX2.out (by omega) (by omega)).mono ?_; rintro e v2 ⟨t, ht, rfl, hg2, hd2⟩; have HL3 : Hid (Left g m h (G : Int) t v2) := Lib.hid hd2; have ks3 := Lib.hid (ks2.out.draw HL3.out.cur hg2); have ht' : t < G := (by omega); clear hg2 hd2 ht; obtain ⟨-, -, ⟨d0, d1, d2⟩, fd0, fd1, fd2⟩ := ks3.out.parts)
              go_wp2_with fail
              refine hK5.out _ _ ?_ (fun hHeld3 => ?_)
              · (try dsimp only); first | go_keep | exact ⟨ks1.out.parts.2.2.1.1, ks1.out.parts.2.2.1.2.1⟩ | exact ⟨ks2.out.parts.2.2.1.1, ks2.out.parts.2.2.1.2.1⟩ | exact ⟨ks3.out.parts.2.2.1.1, ks3.out.parts.2.2.1.2.1⟩ | exact ⟨ks4.out.parts.2.2.1.1, ks4.out.parts.2.2.1.2.1⟩
              clear hK5 K5 hHeld2
              try simp only [Act.put, List.setIfInBounds_toArray, List.set_cons_zero, List.set_cons_succ]
              refine wpAnyH_ready (rs := [6]) (by kernel_rfl) (by simp) ?_
              refine AllReadyH.cons (o := { dst := some 16, op := Go.Op.call { callee := Go.Callee.value (Go.Operand.func 109), args := #[Go.Operand.tmp 10, Go.Operand.tmp 15, Go.Operand.const (Go.Value.bool false)], argTypes := #[27, 3, 4] }, type := 36, pos := "l12_count.go:121", after := #[{ on := 0, ground := Go.Ground.data }, { on := 5, ground := Go.Ground.data }, { on := 5, ground := Go.Ground.chain }], guard := none }) rfl (fun K6 hK6 => ?_) AllReadyH.nil
              go_simp
              (refine (HT.out t ht' _).mono ?_; rintro e v3 ⟨rfl, hb3⟩; have ks4 := Lib.hid (ks3.out.below hb3); have HL4 := Lib.hid (HL3.out.below hb3); clear hb3; obtain ⟨-, -, ⟨e0, e1, e2⟩, fe0, fe1, fe2⟩ := ks4.out.parts)
              go_wp2_with fail
              refine hK6.out _ _ ?_ (fun hHeld4 => ?_)
              · (try dsimp only); first | go_keep | exact ⟨ks1.out.parts.2.2.1.1, ks1.out.parts.2.2.1.2.1⟩ | exact ⟨ks2.out.parts.2.2.1.1, ks2.out.parts.2.2.1.2.1⟩ | exact ⟨ks3.out.parts.2.2.1.1, ks3.out.parts.2.2.1.2.1⟩ | exact ⟨ks4.out.parts.2.2.1.1, ks4.out.parts.2.2.1.2.1⟩
              clear hK6 K6 hHeld3
              try simp only [Act.put, List.setIfInBounds_toArray, List.set_cons_zero, List.set_cons_succ]
              refine wpAnyH_take (i := 7) (oi := { dst := some 9, op := Go.Op.move (Go.Operand.tmp 16), type := 36, pos := "l12_count.go:121", after := #[{ on := 6, ground := Go.Ground.data }], guard := none }) (v := ?_) rfl (by kernel_rfl) (by kernel_rfl) (by kernel_rfl) (fun _ _ _ h => h) (Or.inl ⟨by rfl, ?_⟩) (by assumption) ?_
              rotate_left
              · (intro w hSw; (try dsimp only at hSw); go_simp; try with_reducible rfl)
              try simp only [Act.put, List.setIfInBounds_toArray, List.set_cons_zero, List.set_cons_succ]
              refine wpAnyH_take (i := 8) (oi := { dst := some 17, op := Go.Op.extract (Go.Operand.tmp 9) 0, type := 27, pos := "l12_count.go:121", after := #[{ on := 7, ground := Go.Ground.data }], guard := none }) (v := ?_) rfl (by kernel_rfl) (by kernel_rfl) (by kernel_rfl) (fun _ _ _ h => h) (Or.inl ⟨by rfl, ?_⟩) (by assumption) ?_
              rotate_left
              · (intro w hSw; (try dsimp only at hSw); go_simp; try with_reducible rfl)
              try simp only [Act.put, List.setIfInBounds_toArray, List.set_cons_zero, List.set_cons_succ]
              refine wpAnyH_take (i := 9) (oi := { dst := some 18, op := Go.Op.extract (Go.Operand.tmp 9) 1, type := 4, pos := "l12_count.go:121", after := #[{ on := 7, ground := Go.Ground.data }, { on := 10, ground := Go.Ground.gcOnly Go.Departure.lateStores }], guard := none }) (v := ?_) rfl (by kernel_rfl) (by kernel_rfl) (by kernel_rfl) (fun _ _ _ h => h) (Or.inl ⟨by rfl, ?_⟩) (by assumption) ?_
              rotate_left
              · (intro w hSw; (try dsimp only at hSw); go_simp; try with_reducible rfl)
              try simp only [Act.put, List.setIfInBounds_toArray, List.set_cons_zero, List.set_cons_succ]
              refine wpAnyH_ready (rs := [10]) (by kernel_rfl) (by simp) ?_
              refine AllReadyH.cons (o := { dst := none, op := Go.Op.store 27 (Go.Operand.tmp 3) (Go.Operand.tmp 17), type := 0, pos := "l12_count.go:121", after := #[{ on := 8, ground := Go.Ground.data }, { on := 6, ground := Go.Ground.chain }, { on := 0, ground := Go.Ground.phase }, { on := 1, ground := Go.Ground.phase }, { on := 2, ground := Go.Ground.phase }, { on := 3, ground := Go.Ground.phase }, { on := 4, ground := Go.Ground.phase }, { on := 5, ground := Go.Ground.phase }, { on := 6, ground := Go.Ground.phase }, { on := 7, ground := Go.Ground.phase }, { on := 8, ground := Go.Ground.phase }, { on := 9, ground := Go.Ground.textOnly Go.Departure.lateStores }], guard := none }) rfl (fun K10 hK10 => ?_) AllReadyH.nil
              go_simp
              refine hK10.out _ _ ?_ (fun hHeld5 => ?_)
              · (try dsimp only); exact ⟨(row3_cells (row3_all ks4.out.2.2.2.2.1)).1.1, (row3_cells (row3_all ks4.out.2.2.2.2.1)).1.2.1⟩
              clear hK10 K10 hHeld4
              try simp only [Act.put, List.setIfInBounds_toArray, List.set_cons_zero, List.set_cons_succ]
              refine wpAnyH_done (by kernel_rfl) ?_ _
              (obtain ⟨d, hd, hrk⟩ := HN.out v3 t ks4.out HL4.out ht'; have Hrk := Lib.hid hrk; have Hd := Lib.hid hd; clear hd hrk; go_wp2_with fail; go_roundw; (case rel => exact ⟨d, Hrk.out⟩); (case measure => exact Nat.lt_of_le_of_lt (HL.out _ d Hrk.out) (by rw [HDD.out]; exact Hd.out)))
          · as_aux_lemma =>
              go_simp
              (refine (below_x g m h (G : Int) _ HX2.out (by omega) (by omega)).mono ?_; rintro e v2 ⟨t, ht, rfl, hg2, hd2⟩; have HL3 : Hid (Left g m h (G : Int) t v2) := Lib.hid hd2; have ks3 := Lib.hid (ks2.out.draw HL3.out.cur hg2); have ht' : t < G := (by omega); clear hg2 hd2 ht; obtain ⟨-, -, ⟨d0, d1, d2⟩, fd0, fd1, fd2⟩ := ks3.out.parts)
              go_wp2_with fail
              refine hK5.out _ _ ?_ (fun hHeld2 => ?_)
              · (try dsimp only); first | go_keep | exact ⟨ks1.out.parts.2.2.1.1, ks1.out.parts.2.2.1.2.1⟩ | exact ⟨ks2.out.parts.2.2.1.1, ks2.out.parts.2.2.1.2.1⟩ | exact ⟨ks3.out.parts.2.2.1.1, ks3.out.parts.2.2.1.2.1⟩ | exact ⟨ks4.out.parts.2.2.1.1, ks4.out.parts.2.2.1.2.1⟩
              clear hK5 K5 hHeld1
              try simp only [Act.put, List.setIfInBounds_toArray, List.set_cons_zero, List.set_cons_succ]
              refine wpAnyH_ready (rs := [0]) (by kernel_rfl) (by simp) ?_
              refine AllReadyH.cons (o := { dst := some 10, op := Go.Op.load 27 (Go.Operand.tmp 3), type := 27, pos := "l12_count.go:121", after := #[], guard := none }) rfl (fun K0 hK0 => ?_) AllReadyH.nil
              go_simp
              refine hK0.out _ _ ?_ (fun hHeld3 => ?_)
              · (try dsimp only); first | go_keep | exact ⟨ks1.out.parts.2.2.1.1, ks1.out.parts.2.2.1.2.1⟩ | exact ⟨ks2.out.parts.2.2.1.1, ks2.out.parts.2.2.1.2.1⟩ | exact ⟨ks3.out.parts.2.2.1.1, ks3.out.parts.2.2.1.2.1⟩ | exact ⟨ks4.out.parts.2.2.1.1, ks4.out.parts.2.2.1.2.1⟩
              clear hK0 K0 hHeld2
              try simp only [Act.put, List.setIfInBounds_toArray, List.set_cons_zero, List.set_cons_succ]
              refine wpAnyH_ready (rs := [6]) (by kernel_rfl) (by simp) ?_
              refine AllReadyH.cons (o := { dst := some 16, op := Go.Op.call { callee := Go.Callee.value (Go.Operand.func 109), args := #[Go.Operand.tmp 10, Go.Operand.tmp 15, Go.Operand.const (Go.Value.bool false)], argTypes := #[27, 3, 4] }, type := 36, pos := "l12_count.go:121", after := #[{ on := 0, ground := Go.Ground.data }, { on := 5, ground := Go.Ground.data }, { on := 5, ground := Go.Ground.chain }], guard := none }) rfl (fun K6 hK6 => ?_) AllReadyH.nil
              go_simp
              (refine (HT.out t ht' _).mono ?_; rintro e v3 ⟨rfl, hb3⟩; have ks4 := Lib.hid (ks3.out.below hb3); have HL4 := Lib.hid (HL3.out.below hb3); clear hb3; obtain ⟨-, -, ⟨e0, e1, e2⟩, fe0, fe1, fe2⟩ := ks4.out.parts)
              go_wp2_with fail
              refine hK6.out _ _ ?_ (fun hHeld4 => ?_)
              · (try dsimp only); first | go_keep | exact ⟨ks1.out.parts.2.2.1.1, ks1.out.parts.2.2.1.2.1⟩ | exact ⟨ks2.out.parts.2.2.1.1, ks2.out.parts.2.2.1.2.1⟩ | exact ⟨ks3.out.parts.2.2.1.1, ks3.out.parts.2.2.1.2.1⟩ | exact ⟨ks4.out.parts.2.2.1.1, ks4.out.parts.2.2.1.2.1⟩
              clear hK6 K6 hHeld3
              try simp only [Act.put, List.setIfInBounds_toArray, List.set_cons_zero, List.set_cons_succ]
              refine wpAnyH_take (i := 7) (oi := { dst := some 9, op := Go.Op.move (Go.Operand.tmp 16), type := 36, pos := "l12_count.go:121", after := #[{ on := 6, ground := Go.Ground.data }], guard := none }) (v := ?_) rfl (by kernel_rfl) (by kernel_rfl) (by kernel_rfl) (fun _ _ _ h => h) (Or.inl ⟨by rfl, ?_⟩) (by assumption) ?_
              rotate_left
              · (intro w hSw; (try dsimp only at hSw); go_simp; try with_reducible rfl)
              try simp only [Act.put, List.setIfInBounds_toArray, List.set_cons_zero, List.set_cons_succ]
              refine wpAnyH_take (i := 8) (oi := { dst := some 17, op := Go.Op.extract (Go.Operand.tmp 9) 0, type := 27, pos := "l12_count.go:121", after := #[{ on := 7, ground := Go.Ground.data }], guard := none }) (v := ?_) rfl (by kernel_rfl) (by kernel_rfl) (by kernel_rfl) (fun _ _ _ h => h) (Or.inl ⟨by rfl, ?_⟩) (by assumption) ?_
              rotate_left
              · (intro w hSw; (try dsimp only at hSw); go_simp; try with_reducible rfl)
              try simp only [Act.put, List.setIfInBounds_toArray, List.set_cons_zero, List.set_cons_succ]
              refine wpAnyH_take (i := 9) (oi := { dst := some 18, op := Go.Op.extract (Go.Operand.tmp 9) 1, type := 4, pos := "l12_count.go:121", after := #[{ on := 7, ground := Go.Ground.data }, { on := 10, ground := Go.Ground.gcOnly Go.Departure.lateStores }], guard := none }) (v := ?_) rfl (by kernel_rfl) (by kernel_rfl) (by kernel_rfl) (fun _ _ _ h => h) (Or.inl ⟨by rfl, ?_⟩) (by assumption) ?_
              rotate_left
              · (intro w hSw; (try dsimp only at hSw); go_simp; try with_reducible rfl)
              try simp only [Act.put, List.setIfInBounds_toArray, List.set_cons_zero, List.set_cons_succ]
              refine wpAnyH_ready (rs := [10]) (by kernel_rfl) (by simp) ?_
              refine AllReadyH.cons (o := { dst := none, op := Go.Op.store 27 (Go.Operand.tmp 3) (Go.Operand.tmp 17), type := 0, pos := "l12_count.go:121", after := #[{ on := 8, ground := Go.Ground.data }, { on := 6, ground := Go.Ground.chain }, { on := 0, ground := Go.Ground.phase }, { on := 1, ground := Go.Ground.phase }, { on := 2, ground := Go.Ground.phase }, { on := 3, ground := Go.Ground.phase }, { on := 4, ground := Go.Ground.phase }, { on := 5, ground := Go.Ground.phase }, { on := 6, ground := Go.Ground.phase }, { on := 7, ground := Go.Ground.phase }, { on := 8, ground := Go.Ground.phase }, { on := 9, ground := Go.Ground.textOnly Go.Departure.lateStores }], guard := none }) rfl (fun K10 hK10 => ?_) AllReadyH.nil
              go_simp
              refine hK10.out _ _ ?_ (fun hHeld5 => ?_)
              · (try dsimp only); exact ⟨(row3_cells (row3_all ks4.out.2.2.2.2.1)).1.1, (row3_cells (row3_all ks4.out.2.2.2.2.1)).1.2.1⟩
              clear hK10 K10 hHeld4
              try simp only [Act.put, List.setIfInBounds_toArray, List.set_cons_zero, List.set_cons_succ]
              refine wpAnyH_done (by kernel_rfl) ?_ _
              (obtain ⟨d, hd, hrk⟩ := HN.out v3 t ks4.out HL4.out ht'; have Hrk := Lib.hid hrk; have Hd := Lib.hid hd; clear hd hrk; go_wp2_with fail; go_roundw; (case rel => exact ⟨d, Hrk.out⟩); (case measure => exact Nat.lt_of_le_of_lt (HL.out _ d Hrk.out) (by rw [HDD.out]; exact Hd.out)))
    · have hd1 : decide ((12 : Int) < (pcN o (gN x y) : Int)) = false := decide_eq_false (by omega)
      have hz := hFo.out (by omega)
      have HZ := Lib.hid hz
      clear hz hHc hHs hFin hOk HRk
      go_wp2_with fail
      refine (hHo.out _).mono ?_
      rintro e w4 ⟨rfl, hb⟩
      have ks1 := Lib.hid (ks.out.below hb)
      clear hb b0 b1 b2 HX ks
      obtain ⟨⟨c0, c1, c2⟩, ⟨fc0, fc1, fc2⟩, ⟨b0, b1, b2⟩, fb0, fb1, fb2⟩ := ks1.out.parts
      have hfin : Hid (∀ Y, Y = ((w4.setCell ⟨w.heap.size, 0, none⟩ (.int .i64 x)).setCell ⟨w.heap.size, 1, none⟩ (.int .i64 y)).setCell ⟨w.heap.size, 2, none⟩ (.int .i64 o) → DrawnSm g w (.returned (.agg #[.int .i64 x, .int .i64 y, .int .i64 o])) Y) := Lib.hid fun Y hY => by
        subst hY
        have hlt := ks1.out.2.2.2.2.2.1
        exact ⟨x, y, o, HZ.out, rfl, cur_set (cur_set (cur_set ks1.out.1 hlt _) hlt _) hlt _, grown_put (grown_put (grown_put ks1.out.2.1 (Nat.le_refl _) _) (Nat.le_refl _) _) (Nat.le_refl _) _⟩
      go_wp2_with fail
      refine ret_set3 c0 c1 c2 fun Y e0 e1 e2 hY => ?_
      exact bodyPost_ret (v := .agg #[.int .i64 x, .int .i64 y, .int .i64 o]) (by simp [results, Try.results98, go_sem, e0, e1, e2]) rfl (hfin.out Y hY)

theorem drawSmallMaze_any (A : Option Addr) (n c : Nat) (w : World) (hn : n ≤ maxLen) (hb : BytesIn w w.heap.size A n) :
    Calls Try.prog 38 #[.slice A n c] w (SmallDrawn w) := by
  have HK := @Lib.hid _ (fun X Y x y z a b d => @smallDrawn_mk w X Y x y z a b d)
  have HB := Lib.hid ((Below.refl w.heap.size w).alloc (Nat.le_refl _) (.cells #[.int .i64 0, .int .i64 0, .int .i64 0] 27))
  have HY := Lib.hid ((hb.keep (w' := w.alloc (.cells #[.int .i64 0, .int .i64 0, .int .i64 0] 27)) fun p hp => HB.out.cell hp).more (B' := w.heap.size + 1) (by omega))
  clear hb
  go_enter Try.func38, Try.ntmps38
  go_wp2_with fail
  refine (new_any A n c _ hn (by simpa using HY.out)).mono ?_
  rintro e w1 ⟨rfl, hc1, hb1, hs1⟩
  have HR1 := Lib.hid (Row3.call (row3_new 0 0 0 w _) hb1)
  have HB1 := Lib.hid (HB.out.trans (hb1.mono (by simp)))
  have hz : w1.heap.size = w.heap.size + 2 := by simp at hs1; omega
  have hz1 : w.heap.size + 2 ≤ w1.heap.size := by omega
  clear hs1 hb1 hz
  go_wp2_with fail
  refine (smallMaze_any _ _ (by simpa using hc1)).mono ?_
  rintro e w2 ⟨x, y, z, hv, rfl, hc2, hg2⟩
  have HV := Lib.hid hv
  have HR2 := Lib.hid (row3_grown HR1.out hg2 (by omega))
  have HB2 := Lib.hid (HB1.out.grown hg2 (by omega) (fun k hk => by cases hk; omega))
  obtain ⟨⟨c0, c1, c2⟩, f0, f1, f2⟩ := row3_cells HR2.out
  clear hg2 hc1 hc2 hv
  go_wp2_with fail
  refine ret_set3 c0 c1 c2 fun Y e0 e1 e2 hY => ?_
  exact bodyPost_ret (v := .agg #[.int .i64 x, .int .i64 y, .int .i64 z]) (by simp [results, Try.results38, go_sem, e0, e1, e2]) rfl (HK.out _ _ _ _ _ HV.out HB2.out hY)

end Go.Proofs.Ythgnhamokikhkaa.cntS
