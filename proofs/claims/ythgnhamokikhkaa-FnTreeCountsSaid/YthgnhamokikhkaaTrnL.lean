/- The law of the number of perfect mazes: its walk, over the contracts of the program's functions. -/
import Derived.Test.YthgnhamokikhkaaCntS
import Derived.Test.YthgnhamokikhkaaCntZ
import Derived.Test.YthgnhamokikhkaaCouQ
import Derived.Test.YthgnhamokikhkaaRowsP
namespace Go.Proofs.Ythgnhamokikhkaa.fnTreeCounts
open Go.ChangeShapes Go.WideShapes Go.ChangeAt Go.RowKit
open draw gridP gridC bitP mazeP mazeQ mazeC mazeM mazeR mazeE bigK intsP listK reachP reachM reachN reachD forest deadP trcP rowsP matP matR listZ cntQ cntN cntF cntH cntD cntS cntV cntW couQ perfP
set_option linter.unusedVariables false

theorem sub_none {q o : Nat} (h : q &&& o = q) (ho : o < 16777216) : bits .andNot .i64 (q : Int) (o : Int) = 0 := by
  have hq := sub_le h
  rw [andNot_i64 _ _ (by omega) (by omega)]
  have e := sub_comp 64 o 0 (by omega) (Nat.zero_and o)
  have : q &&& (18446744073709551615 - o) = 0 := by
    rw [← h, Nat.and_assoc, Nat.and_comm o, show 18446744073709551615 - o = 2 ^ 64 - 1 - (o - 0) by omega, e, Nat.and_zero]
  rw [this]; rfl
theorem andNot_full {G b : Nat} (hG : G ≤ 24) (hb : b < 2 ^ G) : bits .andNot .i64 ((2 ^ G - 1 : Nat) : Int) (b : Int) = ((2 ^ G - 1 - b : Nat) : Int) := by
  have h24 : 2 ^ G ≤ 16777216 := Nat.le_trans (Nat.pow_le_pow_right (by decide) hG) (by decide)
  rw [andNot_i64 _ _ (by omega) (by omega), Nat.and_comm]
  have := sub_comp 64 (2 ^ G - 1) (2 ^ G - 1 - b) (by omega) (by rw [Nat.and_two_pow_sub_one_eq_mod, Nat.mod_eq_of_lt (by omega)])
  rw [show (2 : Nat) ^ 64 - 1 - (2 ^ G - 1 - (2 ^ G - 1 - b)) = 18446744073709551615 - b by omega] at this
  rw [this]
/-- What the list is. -/
theorem lt_facts {x y : Int} (hk : OkZ x y) {o : Nat} (ho : o < 2 ^ gN x y) (hc : cpZ x y o ≤ 12) :
    (∀ i q : Nat, (ltZ x y o)[i]? = some q → ipB x y q = true ∧ q &&& o = q) ∧ (∀ i j q r : Nat, i < j → (ltZ x y o)[j]? = some q → (ltZ x y o)[i]? = some r → r < q) ∧ ((ltZ x y o).length : Int) = ctZ x y o := by
  have e : ltZ x y o = (List.range (2 ^ gN x y)).filter (tcB x y 0 (2 ^ gN x y - 1 - o)) := by
    unfold ltZ
    rw [if_pos ⟨okm hk ho, hc⟩, Int.toNat_natCast]
  rw [e]
  refine ⟨fun i q h => ?_, fun i j q r hij hj hi => ?_, ?_⟩
  · obtain ⟨h1, h2⟩ := List.mem_filter.1 (List.mem_of_getElem? h)
    have hs := tr_sub hk ho (List.mem_range.1 h1) h2
    exact ⟨by rw [← tr_here hk ho hs]; exact h2, hs⟩
  · have hp : ((List.range (2 ^ gN x y)).filter (tcB x y 0 (2 ^ gN x y - 1 - o))).Pairwise (· < ·) := List.Pairwise.filter _ List.pairwise_lt_range
    obtain ⟨hjl, ej⟩ := List.getElem?_eq_some_iff.1 hj
    obtain ⟨hil, ei⟩ := List.getElem?_eq_some_iff.1 hi
    have := List.pairwise_iff_getElem.1 hp i j hil hjl hij
    omega
  · rw [couP.cnt_filter]
    unfold ctZ
    rw [if_pos (okm hk ho), Int.toNat_natCast]; rfl

/-- The law's answer. -/
def Yes (w : World) (e : Ending) (w' : World) : Prop := e = .returned (.bool true) ∧ Below w.heap.size w w'
theorem yes_mk {w w' : World} (h : Below w.heap.size w w') : Yes w (.returned (.bool true)) w' := ⟨rfl, h⟩
/-- While the law goes on: the two mazes that were drawn. -/
def TW (w : World) (M1 M2 : Nat) (x y o x2 y2 o2 : Int) (X : World) : Prop := Below w.heap.size w X ∧ MBox M1 x y o X ∧ MBox M2 x2 y2 o2 X
theorem TW.call {w X X' : World} {M1 M2 : Nat} {x y o x2 y2 o2 : Int} (h : TW w M1 M2 x y o x2 y2 o2 X) (hb : Below X.heap.size X X') : TW w M1 M2 x y o x2 y2 o2 X' := ⟨below_call h.1 hb, h.2.1.call hb, h.2.2.call hb⟩
theorem TW.dr {w X : World} {M1 M2 : Nat} {x y o x2 y2 o2 : Int} (h : TW w M1 M2 x y o x2 y2 o2 X) : TW w M1 M2 x y o x2 y2 o2 X.drew := h.call ⟨rfl, rfl, rfl, Nat.le_refl _, fun _ _ => rfl⟩
/-- .. and the list. -/
def TL (w : World) (M1 M2 B : Nat) (x y o x2 y2 o2 : Int) (v : Value) (l : List (Int × Int × Int)) (X : World) : Prop := TW w M1 M2 x y o x2 y2 o2 X ∧ X.ownsRow B 27 3 v l.length (zcl l)
theorem TL.call {w X X' : World} {M1 M2 B : Nat} {x y o x2 y2 o2 : Int} {v : Value} {l : List (Int × Int × Int)} (h : TL w M1 M2 B x y o x2 y2 o2 v l X) (hb : Below X.heap.size X X') : TL w M1 M2 B x y o x2 y2 o2 v l X' := ⟨h.1.call hb, own_call h.2 hb⟩
theorem TL.dr {w X : World} {M1 M2 B : Nat} {x y o x2 y2 o2 : Int} {v : Value} {l : List (Int × Int × Int)} (h : TL w M1 M2 B x y o x2 y2 o2 v l X) : TL w M1 M2 B x y o x2 y2 o2 v l X.drew := h.call ⟨rfl, rfl, rfl, Nat.le_refl _, fun _ _ => rfl⟩

set_option maxRecDepth 100000 in
set_option maxHeartbeats 4000000 in
theorem walk_at (A : Option Addr) (n c : Nat) (w : World) (hn : n ≤ maxLen) (hb : BytesIn w w.heap.size A n)
    (HLt : Hid (∀ x y z X, Calls Try.prog 40 #[.agg #[.int .i64 x, .int .i64 y, .int .i64 z]] X (Mzs (mzL x y (ltZ x y z)) X)))
    (HIp : Hid (∀ x y z X, Calls Try.prog 24 #[.agg #[.int .i64 x, .int .i64 y, .int .i64 z]] X (Bl (ipB x y z) X)))
    (HFm : Hid (∀ x y X, Calls Try.prog 41 #[.agg #[.int .i64 x, .int .i64 y]] X (Mz (fmX x y) (fmY x y) (fmO x y) X)))
    (HCt : Hid (∀ x y z X, Calls Try.prog 42 #[.agg #[.int .i64 x, .int .i64 y, .int .i64 z]] X (Nm (ctZ x y z) X)))
    (HLp : Hid (∀ x y z X, Calls Try.prog 43 #[.agg #[.int .i64 x, .int .i64 y, .int .i64 z]] X (Mtx (lpZ x y z) X)))
    (HWo : Hid (∀ (A : Option Addr) (n c : Nat) (ls : List (List Int)) (k : Int) (X : World), ls.length = n → n ≤ 1048576 → (∀ l ∈ ls, l.length ≤ 1048576) → MxIn X X.heap.size A ls → Calls Try.prog 36 #[.slice A n c, .int .i64 k] X (Mtx (woL ls k) X)))
    (HDe : Hid (∀ (A : Option Addr) (n c : Nat) (ls : List (List Int)) (X : World), ls.length = n → n ≤ 1048576 → (∀ l ∈ ls, l.length ≤ 1048576) → MxIn X X.heap.size A ls → Calls Try.prog 34 #[.slice A n c] X (Nm (deZ ls) X)))
    (HCf : Hid (∀ x y a b X, Calls Try.prog 44 #[.agg #[.int .i64 x, .int .i64 y], .int .i64 a, .int .i64 b] X (Nm (cfZ x y a b) X))) :
    Calls Try.prog 7 #[.slice A n c] w (Yes w) := by
  have HK := @Lib.hid _ (fun w' h => @yes_mk w w' h)
  have HR := Lib.hid (Below.refl w.heap.size w)
  have HD := Lib.hid (drawOpenMaze_any A n c w hn hb)
  have HY := Lib.hid hb
  have HN := Lib.hid hn
  unfold maxLen at hn
  clear hb
  by_cases hbig : 1048576 < n
  · go_enter Try.func7, Try.ntmps7
    go_wp2_with fail
    refine (big_yes A n c w HN.out hbig).mono ?_
    rintro e w' ⟨rfl, rfl⟩
    go_wp2_with fail
    go_ret
    exact HK.out _ HR.out
  · go_enter Try.func7, Try.ntmps7
    go_wp2_with fail
    refine (big_no A n c w HN.out (by omega)).mono ?_
    rintro e w' ⟨rfl, rfl⟩
    go_wp2_with fail
    refine HD.out.mono ?_
    rintro e w1 ⟨x, y, z, hv, rfl, hb1⟩
    have HY1 := Lib.hid (fun X (h : Below w.heap.size w X) => (HY.out.keep (w' := X) fun p hp => h.cell hp))
    have hz1 := hb1.size
    have hbx1 : Hid (∀ T, Below w.heap.size w (w1.alloc (.cells #[.int .i64 x, .int .i64 y, .int .i64 z] T)) ∧ MBox w1.heap.size x y z (w1.alloc (.cells #[.int .i64 x, .int .i64 y, .int .i64 z] T))) := Lib.hid fun T => ⟨hb1.alloc hz1 _, mbox_new x y z w1 T⟩
    have HD2 := Lib.hid (fun X (h : Below w.heap.size w X) => drawSmallMaze_any A n c X HN.out ((HY1.out X h).more h.size))
    clear HD HR HY hb1
    go_wp2_with fail
    refine (HD2.out _ (hbx1.out _).1).mono ?_
    rintro e w2 ⟨x2, y2, z2, ⟨hv2, hc2⟩, rfl, hb2⟩
    have hbl2 := Lib.hid (below_call (hbx1.out _).1 hb2)
    have hm2 := Lib.hid ((hbx1.out _).2.call hb2)
    clear hbx1 hb2 HD2
    obtain ⟨hk, o, rfl, ho⟩ := okm_of hv
    obtain ⟨hk2, o2, rfl, ho2⟩ := okm_of hv2
    obtain ⟨h1, h2, h3, h4⟩ := id hk
    obtain ⟨n1, n2, n3⟩ := perfP.nn hk
    have hc16 := c16 hk
    have HC : Hid (∀ X, Calls Try.prog 39 #[.agg #[.int .i64 x, .int .i64 y]] X (Nm (x * y) X)) := fun X => gridS.countCells_yes x y X h1 h2 h3 h4
    have hg24 : gN x y ≤ 24 := by have := gps_bd h1 h2 h3 h4; unfold gN; omega
    have hg24' : gN x2 y2 ≤ 24 := by have := gps_bd hk2.1 hk2.2.1 hk2.2.2.1 hk2.2.2.2; unfold gN; omega
    have ho24 : o2 < 16777216 := Nat.lt_of_lt_of_le ho2 (Nat.le_trans (Nat.pow_le_pow_right (by decide) hg24') (by decide))
    obtain ⟨f1, f2, f3⟩ := lt_facts hk2 ho2 hc2
    have F1 := Lib.hid f1
    have F2 := Lib.hid f2
    have F3 := Lib.hid f3
    have F4 := Lib.hid (fun q h => @sub_none q o2 h ho24)
    have A1 := Lib.hid (fun X => HLt.out x2 y2 o2 X)
    have A2 := Lib.hid (fun q X => HIp.out x2 y2 q X)
    have A3 := Lib.hid (fun X => HFm.out x y X)
    have hfm : fmX x y = x ∧ fmY x y = y ∧ fmO x y = topZ x y := by
      unfold fmX fmY fmO
      rw [if_pos ⟨h1, h2, h3, h4⟩, if_pos ⟨h1, h2, h3, h4⟩, if_pos ⟨h1, h2, h3, h4⟩]
      exact ⟨rfl, rfl, rfl⟩
    rw [hfm.1, hfm.2.1, hfm.2.2] at A3
    have htop : topZ x y = ((2 ^ gN x y - 1 : Nat) : Int) := cntH.top_is hk
    have hfull := ct_full hk
    have hT2b := cntN.ctz_bd x2 y2 o2
    have A4 := Lib.hid (fun X => HCt.out x y (topZ x y) X)
    have A5 := Lib.hid (fun X => HCt.out x y o X)
    have A6 := Lib.hid (fun X => HCt.out x2 y2 o2 X)
    have A7 := Lib.hid (fun X => HLp.out x y o X)
    obtain ⟨l1, l2⟩ := lp_len' hk ho
    have A8 := Lib.hid (fun A c (k : Int) X h => HWo.out A (lpZ x y o).length c (lpZ x y o) k X rfl (by omega) (fun l hl => by have := (l2 l hl).1; omega) h)
    have A9 := Lib.hid (fun A c (k : Nat) (hkk : k < cN x y) X h => HDe.out A (woL (lpZ x y o) k).length c (woL (lpZ x y o) k) X rfl (by have := (wo_len' hk ho hkk).1; omega) (fun l hl => by have := ((wo_len' hk ho hkk).2 l hl).1; omega) h)
    have hdet : ∀ k, k < cN x y → deZ (woL (lpZ x y o) k) = ctZ x y o := fun k hkk => by
      rw [det_trees hk ho hkk]
      unfold ctZ
      rw [if_pos hv, Int.toNat_natCast]
    have A9' : Hid (∀ A c (k : Nat), k < cN x y → ∀ X, MxIn X X.heap.size A (woL (lpZ x y o) k) → Calls Try.prog 34 #[.slice A (woL (lpZ x y o) k).length c] X (Nm (ctZ x y o) X)) := Lib.hid fun A c k hkk X h => by
      have := A9.out A c k hkk X h
      rwa [hdet k hkk] at this
    have A10 := Lib.hid (fun X => HCf.out x y 0 ((2 ^ gN x y - 1 - o : Nat) : Int) X)
    rw [cf_walls hk ho] at A10
    have hnt := andNot_full hg24 ho
    rw [← htop] at hnt
    rw [n1] at HC
    clear HLt HIp HFm HCt HLp HWo HDe HCf A9 hdet hfm htop l1 l2 f1 f2 f3 hv hv2 hc2 hk hk2 ho ho2 h1 h2 h3 h4 n1 n2 n3 hg24 hg24'
    generalize (2 ^ gN x y - 1 - o : Nat) = E at *
    generalize ctZ x y (topZ x y) = TF at *
    generalize topZ x y = tp at *
    generalize ctZ x y o = T at *
    generalize lpZ x y o = ls at *
    generalize cN x y = N at *
    generalize ctZ x2 y2 o2 = T2 at *
    have htw3 : Hid (∀ T', TW w w1.heap.size w2.heap.size x y o x2 y2 o2 (w2.alloc (.cells #[.int .i64 x2, .int .i64 y2, .int .i64 o2] T'))) := Lib.hid fun T' =>
      ⟨hbl2.out.alloc hbl2.out.size _, hm2.out.call (below_box _ _), mbox_new x2 y2 o2 w2 T'⟩
    clear hbl2 hm2
    have hN0 : ((N : Int) = 0) = False := by simp; omega
    have hN1 : (N = 0) = False := by simp; omega
    have HLl : Hid (∀ i q : Nat, (ltZ x2 y2 o2)[i]? = some q → (mzL x2 y2 (ltZ x2 y2 o2))[i]? = some (x2, y2, (q : Int))) := Lib.hid fun i q h => by
      unfold mzL
      rw [List.getElem?_map, h]; rfl
    have HMl : Hid ((mzL x2 y2 (ltZ x2 y2 o2)).length = (ltZ x2 y2 o2).length) := Lib.hid (mzL_len _ _ _)
    generalize mzL x2 y2 (ltZ x2 y2 o2) = l at *
    generalize ltZ x2 y2 o2 = L at *
    go_wp2_with fail
    obtain ⟨p1, p2, p3⟩ := (htw3.out 27).2.1.1
    have ht3 := Lib.hid (htw3.out 27)
    clear htw3
    generalize w2.alloc (.cells #[.int .i64 x2, .int .i64 y2, .int .i64 o2] 27) = w3 at *
    try simp only [List.cons_append, List.nil_append, List.append_eq]
    refine wp_region_held_drew (S := (fun w' => w'.cell? ⟨w1.heap.size, 0, none⟩ = some (.int .i64 x) ∧ w'.cell? ⟨w1.heap.size, 1, none⟩ = some (.int .i64 y) ∧ w'.cell? ⟨w1.heap.size, 2, none⟩ = some (.int .i64 o))) (by kernel_rfl) ?_ (fun hHeld0 => ?_)
    · (try dsimp only); go_keep
    refine wpAnyH_take (i := 0) (oi := { dst := some 15, op := Go.Op.move (Go.Operand.tmp 0), type := 22, pos := "laws.go:362", after := #[], guard := none }) (v := ?_) rfl (by kernel_rfl) (by kernel_rfl) (by kernel_rfl) (fun _ _ _ h => h) (Or.inl ⟨by rfl, ?_⟩) (by assumption) ?_
    rotate_left
    · (intro w hSw; (try dsimp only at hSw); go_simp; try with_reducible rfl)
    try simp only [Act.put, List.setIfInBounds_toArray, List.set_cons_zero, List.set_cons_succ]
    refine wpAnyH_take (i := 2) (oi := { dst := some 17, op := Go.Op.fieldAddr 27 (Go.Operand.tmp 3) 0, type := 0, pos := "laws.go:362", after := #[], guard := none }) (v := ?_) rfl (by kernel_rfl) (by kernel_rfl) (by kernel_rfl) (fun _ _ _ h => h) (Or.inl ⟨by rfl, ?_⟩) (by assumption) ?_
    rotate_left
    · (intro w hSw; (try dsimp only at hSw); go_simp; try with_reducible rfl)
    try simp only [Act.put, List.setIfInBounds_toArray, List.set_cons_zero, List.set_cons_succ]
    refine wpAnyH_take (i := 3) (oi := { dst := some 18, op := Go.Op.load 25 (Go.Operand.tmp 17), type := 25, pos := "laws.go:362", after := #[{ on := 2, ground := Go.Ground.data }], guard := none }) (v := ?_) rfl (by kernel_rfl) (by kernel_rfl) (by kernel_rfl) (fun _ _ _ h => h) (Or.inl ⟨by rfl, ?_⟩) (by assumption) ?_
    rotate_left
    · (intro w hSw; (try dsimp only at hSw); go_simp; try with_reducible rfl)
    try simp only [Act.put, List.setIfInBounds_toArray, List.set_cons_zero, List.set_cons_succ]
    refine wpAnyH_ready (rs := [1]) (by kernel_rfl) (by simp) ?_
    refine AllReadyH.cons (o := { dst := some 16, op := Go.Op.call { callee := Go.Callee.value (Go.Operand.func 27), args := #[Go.Operand.tmp 15, Go.Operand.const (Go.Value.int Go.IntKind.i64 0)], argTypes := #[22, 3] }, type := 3, pos := "laws.go:362", after := #[{ on := 0, ground := Go.Ground.data }], guard := none }) rfl (fun K1 hK1 => ?_) AllReadyH.nil
    go_simp
    (refine (at_any A n c (0 : Int) _ w.heap.size HN.out (HY1.out _ ht3.out.dr.1) (by omega) (by omega)).mono ?_; rintro e v1 ⟨r, hr, rfl, rfl⟩; obtain ⟨κ, hκ⟩ : ∃ κ : Nat, ((r : Int)).tmod (N : Int) = (κ : Int) := ⟨r % N, (by rw [IntWalk.rem_in _ _ (by omega)]; simp)⟩; have hκN : κ < N := (by rw [IntWalk.rem_in _ _ (by omega)] at hκ; have := Int.emod_lt_of_pos (r : Int) (show (0 : Int) < N by omega); omega))
    go_wp2_with fail
    refine hK1.out _ _ ?_ (fun hHeld1 => ?_)
    · (try dsimp only); go_keep
    clear hK1 K1 hHeld0
    try simp only [Act.put, List.setIfInBounds_toArray, List.set_cons_zero, List.set_cons_succ]
    refine wpAnyH_ready (rs := [4]) (by kernel_rfl) (by simp) ?_
    refine AllReadyH.cons (o := { dst := some 19, op := Go.Op.call { callee := Go.Callee.value (Go.Operand.func 39), args := #[Go.Operand.tmp 18], argTypes := #[25] }, type := 3, pos := "laws.go:362", after := #[{ on := 3, ground := Go.Ground.data }, { on := 1, ground := Go.Ground.chain }], guard := none }) rfl (fun K4 hK4 => ?_) AllReadyH.nil
    go_simp
    (refine (HC.out _).mono ?_; rintro e v2 ⟨rfl, hb2⟩; have ht2 := Lib.hid (ht3.out.dr.call hb2); clear hb2; obtain ⟨p4, p5, p6⟩ := ht2.out.2.1.1)
    go_wp2_with fail
    refine hK4.out _ _ ?_ (fun hHeld2 => ?_)
    · (try dsimp only); go_keep
    clear hK4 K4 hHeld1
    try simp only [Act.put, List.setIfInBounds_toArray, List.set_cons_zero, List.set_cons_succ]
    refine wpAnyH_take (i := 5) (oi := { dst := some 20, op := Go.Op.binOp Go.BinOp.rem 3 (Go.Operand.tmp 16) (Go.Operand.tmp 19) 3, type := 3, pos := "laws.go:362", after := #[{ on := 1, ground := Go.Ground.data }, { on := 4, ground := Go.Ground.data }], guard := none }) (v := ?_) rfl (by kernel_rfl) (by kernel_rfl) (by kernel_rfl) (fun _ _ _ h => h) (Or.inl ⟨by rfl, ?_⟩) (by assumption) ?_
    rotate_left
    · (intro w hSw; (try dsimp only at hSw); go_simp; try with_reducible rfl)
    try simp only [Act.put, List.setIfInBounds_toArray, List.set_cons_zero, List.set_cons_succ]
    refine wpAnyH_take (i := 6) (oi := { dst := some 5, op := Go.Op.assign (Go.Operand.tmp 20), type := 3, pos := "laws.go:362", after := #[{ on := 5, ground := Go.Ground.data }, { on := 4, ground := Go.Ground.chain }, { on := 0, ground := Go.Ground.phase }, { on := 1, ground := Go.Ground.phase }, { on := 2, ground := Go.Ground.phase }, { on := 3, ground := Go.Ground.phase }, { on := 4, ground := Go.Ground.phase }, { on := 5, ground := Go.Ground.phase }], guard := none }) (v := ?_) rfl (by kernel_rfl) (by kernel_rfl) (by kernel_rfl) (fun _ _ _ h => h) (Or.inl ⟨by rfl, ?_⟩) (by assumption) ?_
    rotate_left
    · (intro w hSw; (try dsimp only at hSw); go_simp; try with_reducible rfl)
    try simp only [Act.put, List.setIfInBounds_toArray, List.set_cons_zero, List.set_cons_succ]
    refine wpAnyH_done (by kernel_rfl) ?_ _
    clear p1 p2 p3 ht3
    obtain ⟨s0, s1, s2⟩ := ht2.out.2.2.1
    go_wp2_with fail
    refine (A1.out _).mono ?_
    rintro e w4 ⟨v, rfl, hown, hb⟩
    have htl0 : Hid (TL w w1.heap.size w2.heap.size v2.heap.size x y o x2 y2 o2 v l w4) := Lib.hid ⟨ht2.out.call hb, hown⟩
    obtain ⟨A4', c4, rfl⟩ := intsP.own_form hown
    clear hown hb ht2 p4 p5 p6 s0 s1 s2 A1
    have hmT := F3.out
    rw [← HMl.out] at hmT
    obtain ⟨m, hm⟩ : ∃ m, l.length = m := ⟨_, rfl⟩
    rw [hm] at hmT htl0 ⊢
    have hm24 : m ≤ 16777216 := by omega
    have HmT := Lib.hid hmT
    clear hmT
    have HM := Lib.hid hm
    clear hm
    go_wp2_with fail
    go_loopw [7] (fun u7 wr => ∃ i : Nat, i ≤ m ∧ u7 = .int .i64 i ∧ TL w w1.heap.size w2.heap.size v2.heap.size x y o x2 y2 o2 (.slice A4' m c4) l wr) (fun u7 _ => m - (intOf u7).toNat)
    case atStart => exact ⟨0, Nat.zero_le _, rfl, htl0.out⟩
    case round =>
      clear htl0
      obtain ⟨i, hi, rfl, htl1⟩ := hrel
      have htl := Lib.hid htl1
      clear htl1
      have hi0 : (0 : Int) ≤ (i : Int) := Int.natCast_nonneg _
      by_cases him : i < m
      · have hd1 : decide ((i : Int) < (m : Int)) = true := decide_eq_true (by omega)
        have hi1 : (i : Int) < (m : Int) := by omega
        obtain ⟨q, hq⟩ : ∃ q, L[i]? = some q := by
          have h1 := HMl.out
          have h2 := HM.out
          exact ⟨L[i]'(by omega), List.getElem?_eq_getElem (by omega)⟩
        obtain ⟨q1, q2⟩ := F1.out i q hq
        have q3 := F4.out q q2
        have hown := htl.out.2
        rw [HM.out] at hown
        obtain ⟨g, c5, e1, -, -⟩ := own_some hown (by omega)
        cases e1
        clear hown
        have HCl := Lib.hid (fun (X : World) (h : TL w w1.heap.size w2.heap.size v2.heap.size x y o x2 y2 o2 (.slice (some ⟨g, 0, none⟩) m c4) l X) (k qk : Nat) (hk : L[k]? = some qk) => zl_cell (n := m) (by have := h.2; rw [HM.out] at this; exact this) (HLl.out k qk hk))
        have A2q := Lib.hid (fun X => A2.out q X)
        rw [q1] at A2q
        obtain ⟨k0, k1, k2⟩ := HCl.out _ htl.out i q hq
        obtain ⟨s0, s1, s2⟩ := htl.out.1.2.2.1
        simp only at k0 k1 k2
        clear q1 q2
        by_cases hi2 : i = 0
        · have hd2 : decide ((0 : Int) < (i : Int)) = false := decide_eq_false (by omega)
          have hd4 : decide (0 < i) = false := decide_eq_false (by omega)
          have HSk := Lib.hid (fun X (h : TL w w1.heap.size w2.heap.size v2.heap.size x y o x2 y2 o2 (.slice (some ⟨g, 0, none⟩) m c4) l X) => (⟨(HCl.out _ h i q hq).1, (HCl.out _ h i q hq).2.1, (HCl.out _ h i q hq).2.2, h.1.2.2.1.2.2⟩ : X.cell? ⟨g, i * 3, none⟩ = some (.int .i64 x2) ∧ X.cell? ⟨g, i * 3 + 1, none⟩ = some (.int .i64 y2) ∧ X.cell? ⟨g, i * 3 + 2, none⟩ = some (.int .i64 (q : Int)) ∧ X.cell? ⟨w2.heap.size, 2, none⟩ = some (.int .i64 o2)))
          clear hi2 hq
          go_wp2_with fail
          try simp only [List.cons_append, List.nil_append, List.append_eq]
          refine wp_region_held_drew (S := (fun w' => w'.cell? ⟨g, i * 3, none⟩ = some (.int .i64 x2) ∧ w'.cell? ⟨g, i * 3 + 1, none⟩ = some (.int .i64 y2) ∧ w'.cell? ⟨g, i * 3 + 2, none⟩ = some (.int .i64 (q : Int)) ∧ w'.cell? ⟨w2.heap.size, 2, none⟩ = some (.int .i64 o2))) (by kernel_rfl) ?_ (fun hHeld0 => ?_)
          · (try dsimp only); first | go_keep | exact HSk.out _ htl2.out
          refine wpAnyH_take (i := 0) (oi := { dst := some 29, op := Go.Op.move (Go.Operand.tmp 6), type := 43, pos := "laws.go:365", after := #[], guard := none }) (v := ?_) rfl (by kernel_rfl) (by kernel_rfl) (by kernel_rfl) (fun _ _ _ h => h) (Or.inl ⟨by rfl, ?_⟩) (by assumption) ?_
          rotate_left
          · (intro w hSw; (try dsimp only at hSw); go_simp; try with_reducible rfl)
          try simp only [Act.put, List.setIfInBounds_toArray, List.set_cons_zero, List.set_cons_succ]
          refine wpAnyH_take (i := 1) (oi := { dst := some 30, op := Go.Op.move (Go.Operand.tmp 7), type := 3, pos := "laws.go:365", after := #[], guard := none }) (v := ?_) rfl (by kernel_rfl) (by kernel_rfl) (by kernel_rfl) (fun _ _ _ h => h) (Or.inl ⟨by rfl, ?_⟩) (by assumption) ?_
          rotate_left
          · (intro w hSw; (try dsimp only at hSw); go_simp; try with_reducible rfl)
          try simp only [Act.put, List.setIfInBounds_toArray, List.set_cons_zero, List.set_cons_succ]
          refine wpAnyH_take (i := 2) (oi := { dst := some 31, op := Go.Op.indexAddr 43 (Go.Operand.tmp 29) (Go.Operand.tmp 30), type := 0, pos := "laws.go:365", after := #[{ on := 0, ground := Go.Ground.data }, { on := 1, ground := Go.Ground.data }], guard := none }) (v := ?_) rfl (by kernel_rfl) (by kernel_rfl) (by kernel_rfl) (fun _ _ _ h => h) (Or.inl ⟨by rfl, ?_⟩) (by assumption) ?_
          rotate_left
          · (intro w hSw; (try dsimp only at hSw); go_simp; try with_reducible rfl)
          try simp only [Act.put, List.setIfInBounds_toArray, List.set_cons_zero, List.set_cons_succ]
          refine wpAnyH_take (i := 3) (oi := { dst := some 32, op := Go.Op.load 27 (Go.Operand.tmp 31), type := 27, pos := "laws.go:365", after := #[{ on := 2, ground := Go.Ground.data }], guard := none }) (v := ?_) rfl (by kernel_rfl) (by kernel_rfl) (by kernel_rfl) (fun _ _ _ h => h) (Or.inl ⟨by rfl, ?_⟩) (by assumption) ?_
          rotate_left
          · (intro w hSw; (try dsimp only at hSw); go_simp; try with_reducible rfl)
          try simp only [Act.put, List.setIfInBounds_toArray, List.set_cons_zero, List.set_cons_succ]
          refine wpAnyH_ready (rs := [4]) (by kernel_rfl) (by simp) ?_
          refine AllReadyH.cons (o := { dst := some 33, op := Go.Op.call { callee := Go.Callee.value (Go.Operand.func 24), args := #[Go.Operand.tmp 32], argTypes := #[27] }, type := 4, pos := "laws.go:365", after := #[{ on := 3, ground := Go.Ground.data }], guard := none }) rfl (fun K4 hK4 => ?_) AllReadyH.nil
          go_simp
          (refine (A2q.out _).mono ?_; rintro e v3 ⟨rfl, hb3⟩; have htl2 := Lib.hid (htl.out.dr.call hb3); clear hb3)
          go_wp2_with fail
          refine hK4.out _ _ ?_ (fun hHeld1 => ?_)
          · (try dsimp only); first | go_keep | exact HSk.out _ htl2.out
          clear hK4 K4 hHeld0
          try simp only [Act.put, List.setIfInBounds_toArray, List.set_cons_zero, List.set_cons_succ]
          refine wpAnyH_take (i := 5) (oi := { dst := some 34, op := Go.Op.unOp Go.UnOp.not 4 (Go.Operand.tmp 33), type := 4, pos := "laws.go:365", after := #[{ on := 4, ground := Go.Ground.data }], guard := none }) (v := ?_) rfl (by kernel_rfl) (by kernel_rfl) (by kernel_rfl) (fun _ _ _ h => h) (Or.inl ⟨by rfl, ?_⟩) (by assumption) ?_
          rotate_left
          · (intro w hSw; (try dsimp only at hSw); go_simp; try with_reducible rfl)
          try simp only [Act.put, List.setIfInBounds_toArray, List.set_cons_zero, List.set_cons_succ]
          refine wpAnyH_take (i := 6) (oi := { dst := some 35, op := Go.Op.move (Go.Operand.tmp 34), type := 4, pos := "laws.go:365", after := #[{ on := 5, ground := Go.Ground.data }, { on := 4, ground := Go.Ground.chain }], guard := none }) (v := ?_) rfl (by kernel_rfl) (by kernel_rfl) (by kernel_rfl) (fun _ _ _ h => h) (Or.inl ⟨by rfl, ?_⟩) (by assumption) ?_
          rotate_left
          · (intro w hSw; (try dsimp only at hSw); go_simp; try with_reducible rfl)
          try simp only [Act.put, List.setIfInBounds_toArray, List.set_cons_zero, List.set_cons_succ]
          refine wpAnyH_take (i := 7) (oi := { dst := some 36, op := Go.Op.move (Go.Operand.tmp 6), type := 43, pos := "laws.go:365", after := #[{ on := 6, ground := Go.Ground.guard }], guard := some (6, false) }) (v := ?_) rfl (by kernel_rfl) (by kernel_rfl) (by kernel_rfl) (fun _ _ _ h => h) (Or.inl ⟨by rfl, ?_⟩) (by assumption) ?_
          rotate_left
          · (intro w hSw; (try dsimp only at hSw); go_simp; try with_reducible rfl)
          try simp only [Act.put, List.setIfInBounds_toArray, List.set_cons_zero, List.set_cons_succ]
          refine wpAnyH_take (i := 8) (oi := { dst := some 37, op := Go.Op.move (Go.Operand.tmp 7), type := 3, pos := "laws.go:365", after := #[{ on := 6, ground := Go.Ground.guard }], guard := some (6, false) }) (v := ?_) rfl (by kernel_rfl) (by kernel_rfl) (by kernel_rfl) (fun _ _ _ h => h) (Or.inl ⟨by rfl, ?_⟩) (by assumption) ?_
          rotate_left
          · (intro w hSw; (try dsimp only at hSw); go_simp; try with_reducible rfl)
          try simp only [Act.put, List.setIfInBounds_toArray, List.set_cons_zero, List.set_cons_succ]
          refine wpAnyH_take (i := 9) (oi := { dst := some 38, op := Go.Op.indexAddr 43 (Go.Operand.tmp 36) (Go.Operand.tmp 37), type := 0, pos := "laws.go:365", after := #[{ on := 7, ground := Go.Ground.data }, { on := 8, ground := Go.Ground.data }, { on := 6, ground := Go.Ground.guard }], guard := some (6, false) }) (v := ?_) rfl (by kernel_rfl) (by kernel_rfl) (by kernel_rfl) (fun _ _ _ h => h) (Or.inl ⟨by rfl, ?_⟩) (by assumption) ?_
          rotate_left
          · (intro w hSw; (try dsimp only at hSw); go_simp; try with_reducible rfl)
          try simp only [Act.put, List.setIfInBounds_toArray, List.set_cons_zero, List.set_cons_succ]
          refine wpAnyH_take (i := 10) (oi := { dst := some 39, op := Go.Op.fieldAddr 27 (Go.Operand.tmp 38) 1, type := 0, pos := "laws.go:365", after := #[{ on := 9, ground := Go.Ground.data }, { on := 6, ground := Go.Ground.guard }], guard := some (6, false) }) (v := ?_) rfl (by kernel_rfl) (by kernel_rfl) (by kernel_rfl) (fun _ _ _ h => h) (Or.inl ⟨by rfl, ?_⟩) (by assumption) ?_
          rotate_left
          · (intro w hSw; (try dsimp only at hSw); go_simp; try with_reducible rfl)
          try simp only [Act.put, List.setIfInBounds_toArray, List.set_cons_zero, List.set_cons_succ]
          refine wpAnyH_take (i := 11) (oi := { dst := some 40, op := Go.Op.load 3 (Go.Operand.tmp 39), type := 3, pos := "laws.go:365", after := #[{ on := 10, ground := Go.Ground.data }, { on := 6, ground := Go.Ground.guard }], guard := some (6, false) }) (v := ?_) rfl (by kernel_rfl) (by kernel_rfl) (by kernel_rfl) (fun _ _ _ h => h) (Or.inl ⟨by rfl, ?_⟩) (by assumption) ?_
          rotate_left
          · (intro w hSw; (try dsimp only at hSw); go_simp; try with_reducible rfl)
          try simp only [Act.put, List.setIfInBounds_toArray, List.set_cons_zero, List.set_cons_succ]
          refine wpAnyH_take (i := 12) (oi := { dst := some 41, op := Go.Op.fieldAddr 27 (Go.Operand.tmp 4) 1, type := 0, pos := "laws.go:365", after := #[{ on := 6, ground := Go.Ground.guard }], guard := some (6, false) }) (v := ?_) rfl (by kernel_rfl) (by kernel_rfl) (by kernel_rfl) (fun _ _ _ h => h) (Or.inl ⟨by rfl, ?_⟩) (by assumption) ?_
          rotate_left
          · (intro w hSw; (try dsimp only at hSw); go_simp; try with_reducible rfl)
          try simp only [Act.put, List.setIfInBounds_toArray, List.set_cons_zero, List.set_cons_succ]
          refine wpAnyH_take (i := 13) (oi := { dst := some 42, op := Go.Op.load 3 (Go.Operand.tmp 41), type := 3, pos := "laws.go:365", after := #[{ on := 12, ground := Go.Ground.data }, { on := 6, ground := Go.Ground.guard }], guard := some (6, false) }) (v := ?_) rfl (by kernel_rfl) (by kernel_rfl) (by kernel_rfl) (fun _ _ _ h => h) (Or.inl ⟨by rfl, ?_⟩) (by assumption) ?_
          rotate_left
          · (intro w hSw; (try dsimp only at hSw); go_simp; try with_reducible rfl)
          try simp only [Act.put, List.setIfInBounds_toArray, List.set_cons_zero, List.set_cons_succ]
          refine wpAnyH_take (i := 14) (oi := { dst := some 43, op := Go.Op.binOp Go.BinOp.andNot 3 (Go.Operand.tmp 40) (Go.Operand.tmp 42) 3, type := 3, pos := "laws.go:365", after := #[{ on := 11, ground := Go.Ground.data }, { on := 13, ground := Go.Ground.data }, { on := 6, ground := Go.Ground.guard }], guard := some (6, false) }) (v := ?_) rfl (by kernel_rfl) (by kernel_rfl) (by kernel_rfl) (fun _ _ _ h => h) (Or.inl ⟨by rfl, ?_⟩) (by assumption) ?_
          rotate_left
          · (intro w hSw; (try dsimp only at hSw); go_simp; try with_reducible rfl)
          try simp only [Act.put, List.setIfInBounds_toArray, List.set_cons_zero, List.set_cons_succ]
          refine wpAnyH_take (i := 15) (oi := { dst := some 44, op := Go.Op.binOp Go.BinOp.neq 3 (Go.Operand.tmp 43) (Go.Operand.const (Go.Value.int Go.IntKind.i64 0)) 3, type := 4, pos := "laws.go:365", after := #[{ on := 14, ground := Go.Ground.data }, { on := 6, ground := Go.Ground.guard }], guard := some (6, false) }) (v := ?_) rfl (by kernel_rfl) (by kernel_rfl) (by kernel_rfl) (fun _ _ _ h => h) (Or.inl ⟨by rfl, ?_⟩) (by assumption) ?_
          rotate_left
          · (intro w hSw; (try dsimp only at hSw); go_simp; try with_reducible rfl)
          try simp only [Act.put, List.setIfInBounds_toArray, List.set_cons_zero, List.set_cons_succ]
          refine wpAnyH_take (i := 16) (oi := { dst := some 45, op := Go.Op.pick (Go.Operand.tmp 35) (Go.Operand.const (Go.Value.bool true)) (Go.Operand.tmp 44), type := 4, pos := "laws.go:365", after := #[{ on := 6, ground := Go.Ground.data }, { on := 15, ground := Go.Ground.data }], guard := none }) (v := ?_) rfl (by kernel_rfl) (by kernel_rfl) (by kernel_rfl) (fun _ _ _ h => h) (Or.inl ⟨by rfl, ?_⟩) (by assumption) ?_
          rotate_left
          · (intro w hSw; (try dsimp only at hSw); go_simp; try with_reducible rfl)
          try simp only [Act.put, List.setIfInBounds_toArray, List.set_cons_zero, List.set_cons_succ]
          refine wpAnyH_take (i := 17) (oi := { dst := some 46, op := Go.Op.move (Go.Operand.tmp 45), type := 4, pos := "laws.go:365", after := #[{ on := 16, ground := Go.Ground.data }, { on := 6, ground := Go.Ground.chain }], guard := none }) (v := ?_) rfl (by kernel_rfl) (by kernel_rfl) (by kernel_rfl) (fun _ _ _ h => h) (Or.inl ⟨by rfl, ?_⟩) (by assumption) ?_
          rotate_left
          · (intro w hSw; (try dsimp only at hSw); go_simp; try with_reducible rfl)
          try simp only [Act.put, List.setIfInBounds_toArray, List.set_cons_zero, List.set_cons_succ]
          refine wpAnyH_take (i := 18) (oi := { dst := some 47, op := Go.Op.move (Go.Operand.tmp 7), type := 3, pos := "laws.go:365", after := #[{ on := 17, ground := Go.Ground.guard }], guard := some (17, false) }) (v := ?_) rfl (by kernel_rfl) (by kernel_rfl) (by kernel_rfl) (fun _ _ _ h => h) (Or.inl ⟨by rfl, ?_⟩) (by assumption) ?_
          rotate_left
          · (intro w hSw; (try dsimp only at hSw); go_simp; try with_reducible rfl)
          try simp only [Act.put, List.setIfInBounds_toArray, List.set_cons_zero, List.set_cons_succ]
          refine wpAnyH_take (i := 19) (oi := { dst := some 48, op := Go.Op.binOp Go.BinOp.gtr 3 (Go.Operand.tmp 47) (Go.Operand.const (Go.Value.int Go.IntKind.i64 0)) 3, type := 4, pos := "laws.go:365", after := #[{ on := 18, ground := Go.Ground.data }, { on := 17, ground := Go.Ground.guard }], guard := some (17, false) }) (v := ?_) rfl (by kernel_rfl) (by kernel_rfl) (by kernel_rfl) (fun _ _ _ h => h) (Or.inl ⟨by rfl, ?_⟩) (by assumption) ?_
          rotate_left
          · (intro w hSw; (try dsimp only at hSw); go_simp; try with_reducible rfl)
          try simp only [Act.put, List.setIfInBounds_toArray, List.set_cons_zero, List.set_cons_succ]
          refine wpAnyH_take (i := 20) (oi := { dst := some 49, op := Go.Op.move (Go.Operand.tmp 48), type := 4, pos := "laws.go:365", after := #[{ on := 19, ground := Go.Ground.data }, { on := 17, ground := Go.Ground.chain }, { on := 17, ground := Go.Ground.guard }], guard := some (17, false) }) (v := ?_) rfl (by kernel_rfl) (by kernel_rfl) (by kernel_rfl) (fun _ _ _ h => h) (Or.inl ⟨by rfl, ?_⟩) (by assumption) ?_
          rotate_left
          · (intro w hSw; (try dsimp only at hSw); go_simp; try with_reducible rfl)
          try simp only [Act.put, List.setIfInBounds_toArray, List.set_cons_zero, List.set_cons_succ]
          refine wpAnyH_take (i := 21) (oi := { dst := some 50, op := Go.Op.move (Go.Operand.tmp 6), type := 43, pos := "laws.go:365", after := #[{ on := 20, ground := Go.Ground.guard }], guard := some (20, true) }) (v := undef) rfl (by kernel_rfl) (by kernel_rfl) (by kernel_rfl) (fun _ _ _ h => h) (Or.inr ⟨by rfl, rfl⟩) (by assumption) ?_
          try simp only [Act.put, List.setIfInBounds_toArray, List.set_cons_zero, List.set_cons_succ]
          refine wpAnyH_take (i := 22) (oi := { dst := some 51, op := Go.Op.move (Go.Operand.tmp 7), type := 3, pos := "laws.go:365", after := #[{ on := 20, ground := Go.Ground.guard }], guard := some (20, true) }) (v := undef) rfl (by kernel_rfl) (by kernel_rfl) (by kernel_rfl) (fun _ _ _ h => h) (Or.inr ⟨by rfl, rfl⟩) (by assumption) ?_
          try simp only [Act.put, List.setIfInBounds_toArray, List.set_cons_zero, List.set_cons_succ]
          refine wpAnyH_take (i := 23) (oi := { dst := some 52, op := Go.Op.indexAddr 43 (Go.Operand.tmp 50) (Go.Operand.tmp 51), type := 0, pos := "laws.go:365", after := #[{ on := 21, ground := Go.Ground.data }, { on := 22, ground := Go.Ground.data }, { on := 20, ground := Go.Ground.guard }], guard := some (20, true) }) (v := undef) rfl (by kernel_rfl) (by kernel_rfl) (by kernel_rfl) (fun _ _ _ h => h) (Or.inr ⟨by rfl, rfl⟩) (by assumption) ?_
          try simp only [Act.put, List.setIfInBounds_toArray, List.set_cons_zero, List.set_cons_succ]
          refine wpAnyH_take (i := 24) (oi := { dst := some 53, op := Go.Op.fieldAddr 27 (Go.Operand.tmp 52) 1, type := 0, pos := "laws.go:365", after := #[{ on := 23, ground := Go.Ground.data }, { on := 20, ground := Go.Ground.guard }], guard := some (20, true) }) (v := undef) rfl (by kernel_rfl) (by kernel_rfl) (by kernel_rfl) (fun _ _ _ h => h) (Or.inr ⟨by rfl, rfl⟩) (by assumption) ?_
          try simp only [Act.put, List.setIfInBounds_toArray, List.set_cons_zero, List.set_cons_succ]
          refine wpAnyH_take (i := 25) (oi := { dst := some 54, op := Go.Op.load 3 (Go.Operand.tmp 53), type := 3, pos := "laws.go:365", after := #[{ on := 24, ground := Go.Ground.data }, { on := 20, ground := Go.Ground.guard }], guard := some (20, true) }) (v := undef) rfl (by kernel_rfl) (by kernel_rfl) (by kernel_rfl) (fun _ _ _ h => h) (Or.inr ⟨by rfl, rfl⟩) (by assumption) ?_
          try simp only [Act.put, List.setIfInBounds_toArray, List.set_cons_zero, List.set_cons_succ]
          refine wpAnyH_take (i := 26) (oi := { dst := some 55, op := Go.Op.move (Go.Operand.tmp 6), type := 43, pos := "laws.go:365", after := #[{ on := 20, ground := Go.Ground.guard }], guard := some (20, true) }) (v := undef) rfl (by kernel_rfl) (by kernel_rfl) (by kernel_rfl) (fun _ _ _ h => h) (Or.inr ⟨by rfl, rfl⟩) (by assumption) ?_
          try simp only [Act.put, List.setIfInBounds_toArray, List.set_cons_zero, List.set_cons_succ]
          refine wpAnyH_take (i := 27) (oi := { dst := some 56, op := Go.Op.move (Go.Operand.tmp 7), type := 3, pos := "laws.go:365", after := #[{ on := 20, ground := Go.Ground.guard }], guard := some (20, true) }) (v := undef) rfl (by kernel_rfl) (by kernel_rfl) (by kernel_rfl) (fun _ _ _ h => h) (Or.inr ⟨by rfl, rfl⟩) (by assumption) ?_
          try simp only [Act.put, List.setIfInBounds_toArray, List.set_cons_zero, List.set_cons_succ]
          refine wpAnyH_take (i := 28) (oi := { dst := some 57, op := Go.Op.binOp Go.BinOp.sub 3 (Go.Operand.tmp 56) (Go.Operand.const (Go.Value.int Go.IntKind.i64 1)) 3, type := 3, pos := "laws.go:365", after := #[{ on := 27, ground := Go.Ground.data }, { on := 20, ground := Go.Ground.guard }], guard := some (20, true) }) (v := undef) rfl (by kernel_rfl) (by kernel_rfl) (by kernel_rfl) (fun _ _ _ h => h) (Or.inr ⟨by rfl, rfl⟩) (by assumption) ?_
          try simp only [Act.put, List.setIfInBounds_toArray, List.set_cons_zero, List.set_cons_succ]
          refine wpAnyH_take (i := 29) (oi := { dst := some 58, op := Go.Op.indexAddr 43 (Go.Operand.tmp 55) (Go.Operand.tmp 57), type := 0, pos := "laws.go:365", after := #[{ on := 26, ground := Go.Ground.data }, { on := 28, ground := Go.Ground.data }, { on := 20, ground := Go.Ground.guard }], guard := some (20, true) }) (v := undef) rfl (by kernel_rfl) (by kernel_rfl) (by kernel_rfl) (fun _ _ _ h => h) (Or.inr ⟨by rfl, rfl⟩) (by assumption) ?_
          try simp only [Act.put, List.setIfInBounds_toArray, List.set_cons_zero, List.set_cons_succ]
          refine wpAnyH_take (i := 30) (oi := { dst := some 59, op := Go.Op.fieldAddr 27 (Go.Operand.tmp 58) 1, type := 0, pos := "laws.go:365", after := #[{ on := 29, ground := Go.Ground.data }, { on := 20, ground := Go.Ground.guard }], guard := some (20, true) }) (v := undef) rfl (by kernel_rfl) (by kernel_rfl) (by kernel_rfl) (fun _ _ _ h => h) (Or.inr ⟨by rfl, rfl⟩) (by assumption) ?_
          try simp only [Act.put, List.setIfInBounds_toArray, List.set_cons_zero, List.set_cons_succ]
          refine wpAnyH_take (i := 31) (oi := { dst := some 60, op := Go.Op.load 3 (Go.Operand.tmp 59), type := 3, pos := "laws.go:365", after := #[{ on := 30, ground := Go.Ground.data }, { on := 20, ground := Go.Ground.guard }], guard := some (20, true) }) (v := undef) rfl (by kernel_rfl) (by kernel_rfl) (by kernel_rfl) (fun _ _ _ h => h) (Or.inr ⟨by rfl, rfl⟩) (by assumption) ?_
          try simp only [Act.put, List.setIfInBounds_toArray, List.set_cons_zero, List.set_cons_succ]
          refine wpAnyH_take (i := 32) (oi := { dst := some 61, op := Go.Op.binOp Go.BinOp.leq 3 (Go.Operand.tmp 54) (Go.Operand.tmp 60) 3, type := 4, pos := "laws.go:365", after := #[{ on := 25, ground := Go.Ground.data }, { on := 31, ground := Go.Ground.data }, { on := 20, ground := Go.Ground.guard }], guard := some (20, true) }) (v := undef) rfl (by kernel_rfl) (by kernel_rfl) (by kernel_rfl) (fun _ _ _ h => h) (Or.inr ⟨by rfl, rfl⟩) (by assumption) ?_
          try simp only [Act.put, List.setIfInBounds_toArray, List.set_cons_zero, List.set_cons_succ]
          refine wpAnyH_take (i := 33) (oi := { dst := some 62, op := Go.Op.pick (Go.Operand.tmp 49) (Go.Operand.tmp 61) (Go.Operand.const (Go.Value.bool false)), type := 4, pos := "laws.go:365", after := #[{ on := 20, ground := Go.Ground.data }, { on := 32, ground := Go.Ground.data }, { on := 17, ground := Go.Ground.guard }], guard := some (17, false) }) (v := ?_) rfl (by kernel_rfl) (by kernel_rfl) (by kernel_rfl) (fun _ _ _ h => h) (Or.inl ⟨by rfl, ?_⟩) (by assumption) ?_
          rotate_left
          · (intro w hSw; (try dsimp only at hSw); go_simp; try with_reducible rfl)
          try simp only [Act.put, List.setIfInBounds_toArray, List.set_cons_zero, List.set_cons_succ]
          refine wpAnyH_take (i := 34) (oi := { dst := some 63, op := Go.Op.pick (Go.Operand.tmp 46) (Go.Operand.const (Go.Value.bool true)) (Go.Operand.tmp 62), type := 4, pos := "laws.go:365", after := #[{ on := 17, ground := Go.Ground.data }, { on := 33, ground := Go.Ground.data }], guard := none }) (v := ?_) rfl (by kernel_rfl) (by kernel_rfl) (by kernel_rfl) (fun _ _ _ h => h) (Or.inl ⟨by rfl, ?_⟩) (by assumption) ?_
          rotate_left
          · (intro w hSw; (try dsimp only at hSw); go_simp; try with_reducible rfl)
          try simp only [Act.put, List.setIfInBounds_toArray, List.set_cons_zero, List.set_cons_succ]
          refine wpAnyH_done (by kernel_rfl) ?_ _
          go_wp2_with fail
          go_roundw
          case rel => exact ⟨i + 1, by omega, by go_num, htl2.out⟩
          case measure => simp [intOf]; omega
        · have hd2 : decide ((0 : Int) < (i : Int)) = true := decide_eq_true (by omega)
          have hd4 : decide (0 < i) = true := decide_eq_true (by omega)
          obtain ⟨j, hj⟩ : ∃ j, i = j + 1 := ⟨i - 1, by omega⟩
          obtain ⟨r2, hr2⟩ : ∃ q, L[j]? = some q := by
            have h1 := HMl.out
            have h2 := HM.out
            exact ⟨L[j]'(by omega), List.getElem?_eq_getElem (by omega)⟩
          have hlt := F2.out j i q r2 (by omega) hq hr2
          have hd3 : decide ((q : Int) ≤ (r2 : Int)) = false := decide_eq_false (by omega)
          have hd5 : decide (q ≤ r2) = false := decide_eq_false (by omega)
          have hj0 : (0 : Int) ≤ (j : Int) := Int.natCast_nonneg _
          have hj1 : (j : Int) < (m : Int) := by omega
          have hjw : IntKind.i64.wrap ((i : Int) - 1) = (j : Int) := by rw [IntWalk.i64_in _ (by omega)]; omega
          have hjw2 : wrap64 ((i : Int) - 1) = (j : Int) := by unfold wrap64; omega
          have HSk := Lib.hid (fun X (h : TL w w1.heap.size w2.heap.size v2.heap.size x y o x2 y2 o2 (.slice (some ⟨g, 0, none⟩) m c4) l X) => (⟨(HCl.out _ h i q hq).1, (HCl.out _ h i q hq).2.1, (HCl.out _ h i q hq).2.2, h.1.2.2.1.2.2, (HCl.out _ h j r2 hr2).2.2⟩ : X.cell? ⟨g, i * 3, none⟩ = some (.int .i64 x2) ∧ X.cell? ⟨g, i * 3 + 1, none⟩ = some (.int .i64 y2) ∧ X.cell? ⟨g, i * 3 + 2, none⟩ = some (.int .i64 (q : Int)) ∧ X.cell? ⟨w2.heap.size, 2, none⟩ = some (.int .i64 o2) ∧ X.cell? ⟨g, j * 3 + 2, none⟩ = some (.int .i64 (r2 : Int))))
          have k5 := (HSk.out _ htl.out).2.2.2.2
          clear hi2 hq hr2 hj hlt
          go_wp2_with fail
          try simp only [List.cons_append, List.nil_append, List.append_eq]
          refine wp_region_held_drew (S := (fun w' => w'.cell? ⟨g, i * 3, none⟩ = some (.int .i64 x2) ∧ w'.cell? ⟨g, i * 3 + 1, none⟩ = some (.int .i64 y2) ∧ w'.cell? ⟨g, i * 3 + 2, none⟩ = some (.int .i64 (q : Int)) ∧ w'.cell? ⟨w2.heap.size, 2, none⟩ = some (.int .i64 o2) ∧ w'.cell? ⟨g, j * 3 + 2, none⟩ = some (.int .i64 (r2 : Int)))) (by kernel_rfl) ?_ (fun hHeld0 => ?_)
          · (try dsimp only); first | go_keep | exact HSk.out _ htl2.out
          refine wpAnyH_take (i := 0) (oi := { dst := some 29, op := Go.Op.move (Go.Operand.tmp 6), type := 43, pos := "laws.go:365", after := #[], guard := none }) (v := ?_) rfl (by kernel_rfl) (by kernel_rfl) (by kernel_rfl) (fun _ _ _ h => h) (Or.inl ⟨by rfl, ?_⟩) (by assumption) ?_
          rotate_left
          · (intro w hSw; (try dsimp only at hSw); go_simp; try with_reducible rfl)
          try simp only [Act.put, List.setIfInBounds_toArray, List.set_cons_zero, List.set_cons_succ]
          refine wpAnyH_take (i := 1) (oi := { dst := some 30, op := Go.Op.move (Go.Operand.tmp 7), type := 3, pos := "laws.go:365", after := #[], guard := none }) (v := ?_) rfl (by kernel_rfl) (by kernel_rfl) (by kernel_rfl) (fun _ _ _ h => h) (Or.inl ⟨by rfl, ?_⟩) (by assumption) ?_
          rotate_left
          · (intro w hSw; (try dsimp only at hSw); go_simp; try with_reducible rfl)
          try simp only [Act.put, List.setIfInBounds_toArray, List.set_cons_zero, List.set_cons_succ]
          refine wpAnyH_take (i := 2) (oi := { dst := some 31, op := Go.Op.indexAddr 43 (Go.Operand.tmp 29) (Go.Operand.tmp 30), type := 0, pos := "laws.go:365", after := #[{ on := 0, ground := Go.Ground.data }, { on := 1, ground := Go.Ground.data }], guard := none }) (v := ?_) rfl (by kernel_rfl) (by kernel_rfl) (by kernel_rfl) (fun _ _ _ h => h) (Or.inl ⟨by rfl, ?_⟩) (by assumption) ?_
          rotate_left
          · (intro w hSw; (try dsimp only at hSw); go_simp; try with_reducible rfl)
          try simp only [Act.put, List.setIfInBounds_toArray, List.set_cons_zero, List.set_cons_succ]
          refine wpAnyH_take (i := 3) (oi := { dst := some 32, op := Go.Op.load 27 (Go.Operand.tmp 31), type := 27, pos := "laws.go:365", after := #[{ on := 2, ground := Go.Ground.data }], guard := none }) (v := ?_) rfl (by kernel_rfl) (by kernel_rfl) (by kernel_rfl) (fun _ _ _ h => h) (Or.inl ⟨by rfl, ?_⟩) (by assumption) ?_
          rotate_left
          · (intro w hSw; (try dsimp only at hSw); go_simp; try with_reducible rfl)
          try simp only [Act.put, List.setIfInBounds_toArray, List.set_cons_zero, List.set_cons_succ]
          refine wpAnyH_ready (rs := [4]) (by kernel_rfl) (by simp) ?_
          refine AllReadyH.cons (o := { dst := some 33, op := Go.Op.call { callee := Go.Callee.value (Go.Operand.func 24), args := #[Go.Operand.tmp 32], argTypes := #[27] }, type := 4, pos := "laws.go:365", after := #[{ on := 3, ground := Go.Ground.data }], guard := none }) rfl (fun K4 hK4 => ?_) AllReadyH.nil
          go_simp
          (refine (A2q.out _).mono ?_; rintro e v3 ⟨rfl, hb3⟩; have htl2 := Lib.hid (htl.out.dr.call hb3); clear hb3)
          go_wp2_with fail
          refine hK4.out _ _ ?_ (fun hHeld1 => ?_)
          · (try dsimp only); first | go_keep | exact HSk.out _ htl2.out
          clear hK4 K4 hHeld0
          try simp only [Act.put, List.setIfInBounds_toArray, List.set_cons_zero, List.set_cons_succ]
          refine wpAnyH_take (i := 5) (oi := { dst := some 34, op := Go.Op.unOp Go.UnOp.not 4 (Go.Operand.tmp 33), type := 4, pos := "laws.go:365", after := #[{ on := 4, ground := Go.Ground.data }], guard := none }) (v := ?_) rfl (by kernel_rfl) (by kernel_rfl) (by kernel_rfl) (fun _ _ _ h => h) (Or.inl ⟨by rfl, ?_⟩) (by assumption) ?_
          rotate_left
          · (intro w hSw; (try dsimp only at hSw); go_simp; try with_reducible rfl)
          try simp only [Act.put, List.setIfInBounds_toArray, List.set_cons_zero, List.set_cons_succ]
          refine wpAnyH_take (i := 6) (oi := { dst := some 35, op := Go.Op.move (Go.Operand.tmp 34), type := 4, pos := "laws.go:365", after := #[{ on := 5, ground := Go.Ground.data }, { on := 4, ground := Go.Ground.chain }], guard := none }) (v := ?_) rfl (by kernel_rfl) (by kernel_rfl) (by kernel_rfl) (fun _ _ _ h => h) (Or.inl ⟨by rfl, ?_⟩) (by assumption) ?_
          rotate_left
          · (intro w hSw; (try dsimp only at hSw); go_simp; try with_reducible rfl)
          try simp only [Act.put, List.setIfInBounds_toArray, List.set_cons_zero, List.set_cons_succ]
          refine wpAnyH_take (i := 7) (oi := { dst := some 36, op := Go.Op.move (Go.Operand.tmp 6), type := 43, pos := "laws.go:365", after := #[{ on := 6, ground := Go.Ground.guard }], guard := some (6, false) }) (v := ?_) rfl (by kernel_rfl) (by kernel_rfl) (by kernel_rfl) (fun _ _ _ h => h) (Or.inl ⟨by rfl, ?_⟩) (by assumption) ?_
          rotate_left
          · (intro w hSw; (try dsimp only at hSw); go_simp; try with_reducible rfl)
          try simp only [Act.put, List.setIfInBounds_toArray, List.set_cons_zero, List.set_cons_succ]
          refine wpAnyH_take (i := 8) (oi := { dst := some 37, op := Go.Op.move (Go.Operand.tmp 7), type := 3, pos := "laws.go:365", after := #[{ on := 6, ground := Go.Ground.guard }], guard := some (6, false) }) (v := ?_) rfl (by kernel_rfl) (by kernel_rfl) (by kernel_rfl) (fun _ _ _ h => h) (Or.inl ⟨by rfl, ?_⟩) (by assumption) ?_
          rotate_left
          · (intro w hSw; (try dsimp only at hSw); go_simp; try with_reducible rfl)
          try simp only [Act.put, List.setIfInBounds_toArray, List.set_cons_zero, List.set_cons_succ]
          refine wpAnyH_take (i := 9) (oi := { dst := some 38, op := Go.Op.indexAddr 43 (Go.Operand.tmp 36) (Go.Operand.tmp 37), type := 0, pos := "laws.go:365", after := #[{ on := 7, ground := Go.Ground.data }, { on := 8, ground := Go.Ground.data }, { on := 6, ground := Go.Ground.guard }], guard := some (6, false) }) (v := ?_) rfl (by kernel_rfl) (by kernel_rfl) (by kernel_rfl) (fun _ _ _ h => h) (Or.inl ⟨by rfl, ?_⟩) (by assumption) ?_
          rotate_left
          · (intro w hSw; (try dsimp only at hSw); go_simp; try with_reducible rfl)
          try simp only [Act.put, List.setIfInBounds_toArray, List.set_cons_zero, List.set_cons_succ]
          refine wpAnyH_take (i := 10) (oi := { dst := some 39, op := Go.Op.fieldAddr 27 (Go.Operand.tmp 38) 1, type := 0, pos := "laws.go:365", after := #[{ on := 9, ground := Go.Ground.data }, { on := 6, ground := Go.Ground.guard }], guard := some (6, false) }) (v := ?_) rfl (by kernel_rfl) (by kernel_rfl) (by kernel_rfl) (fun _ _ _ h => h) (Or.inl ⟨by rfl, ?_⟩) (by assumption) ?_
          rotate_left
          · (intro w hSw; (try dsimp only at hSw); go_simp; try with_reducible rfl)
          try simp only [Act.put, List.setIfInBounds_toArray, List.set_cons_zero, List.set_cons_succ]
          refine wpAnyH_take (i := 11) (oi := { dst := some 40, op := Go.Op.load 3 (Go.Operand.tmp 39), type := 3, pos := "laws.go:365", after := #[{ on := 10, ground := Go.Ground.data }, { on := 6, ground := Go.Ground.guard }], guard := some (6, false) }) (v := ?_) rfl (by kernel_rfl) (by kernel_rfl) (by kernel_rfl) (fun _ _ _ h => h) (Or.inl ⟨by rfl, ?_⟩) (by assumption) ?_
          rotate_left
          · (intro w hSw; (try dsimp only at hSw); go_simp; try with_reducible rfl)
          try simp only [Act.put, List.setIfInBounds_toArray, List.set_cons_zero, List.set_cons_succ]
          refine wpAnyH_take (i := 12) (oi := { dst := some 41, op := Go.Op.fieldAddr 27 (Go.Operand.tmp 4) 1, type := 0, pos := "laws.go:365", after := #[{ on := 6, ground := Go.Ground.guard }], guard := some (6, false) }) (v := ?_) rfl (by kernel_rfl) (by kernel_rfl) (by kernel_rfl) (fun _ _ _ h => h) (Or.inl ⟨by rfl, ?_⟩) (by assumption) ?_
          rotate_left
          · (intro w hSw; (try dsimp only at hSw); go_simp; try with_reducible rfl)
          try simp only [Act.put, List.setIfInBounds_toArray, List.set_cons_zero, List.set_cons_succ]
          refine wpAnyH_take (i := 13) (oi := { dst := some 42, op := Go.Op.load 3 (Go.Operand.tmp 41), type := 3, pos := "laws.go:365", after := #[{ on := 12, ground := Go.Ground.data }, { on := 6, ground := Go.Ground.guard }], guard := some (6, false) }) (v := ?_) rfl (by kernel_rfl) (by kernel_rfl) (by kernel_rfl) (fun _ _ _ h => h) (Or.inl ⟨by rfl, ?_⟩) (by assumption) ?_
          rotate_left
          · (intro w hSw; (try dsimp only at hSw); go_simp; try with_reducible rfl)
          try simp only [Act.put, List.setIfInBounds_toArray, List.set_cons_zero, List.set_cons_succ]
          refine wpAnyH_take (i := 14) (oi := { dst := some 43, op := Go.Op.binOp Go.BinOp.andNot 3 (Go.Operand.tmp 40) (Go.Operand.tmp 42) 3, type := 3, pos := "laws.go:365", after := #[{ on := 11, ground := Go.Ground.data }, { on := 13, ground := Go.Ground.data }, { on := 6, ground := Go.Ground.guard }], guard := some (6, false) }) (v := ?_) rfl (by kernel_rfl) (by kernel_rfl) (by kernel_rfl) (fun _ _ _ h => h) (Or.inl ⟨by rfl, ?_⟩) (by assumption) ?_
          rotate_left
          · (intro w hSw; (try dsimp only at hSw); go_simp; try with_reducible rfl)
          try simp only [Act.put, List.setIfInBounds_toArray, List.set_cons_zero, List.set_cons_succ]
          refine wpAnyH_take (i := 15) (oi := { dst := some 44, op := Go.Op.binOp Go.BinOp.neq 3 (Go.Operand.tmp 43) (Go.Operand.const (Go.Value.int Go.IntKind.i64 0)) 3, type := 4, pos := "laws.go:365", after := #[{ on := 14, ground := Go.Ground.data }, { on := 6, ground := Go.Ground.guard }], guard := some (6, false) }) (v := ?_) rfl (by kernel_rfl) (by kernel_rfl) (by kernel_rfl) (fun _ _ _ h => h) (Or.inl ⟨by rfl, ?_⟩) (by assumption) ?_
          rotate_left
          · (intro w hSw; (try dsimp only at hSw); go_simp; try with_reducible rfl)
          try simp only [Act.put, List.setIfInBounds_toArray, List.set_cons_zero, List.set_cons_succ]
          refine wpAnyH_take (i := 16) (oi := { dst := some 45, op := Go.Op.pick (Go.Operand.tmp 35) (Go.Operand.const (Go.Value.bool true)) (Go.Operand.tmp 44), type := 4, pos := "laws.go:365", after := #[{ on := 6, ground := Go.Ground.data }, { on := 15, ground := Go.Ground.data }], guard := none }) (v := ?_) rfl (by kernel_rfl) (by kernel_rfl) (by kernel_rfl) (fun _ _ _ h => h) (Or.inl ⟨by rfl, ?_⟩) (by assumption) ?_
          rotate_left
          · (intro w hSw; (try dsimp only at hSw); go_simp; try with_reducible rfl)
          try simp only [Act.put, List.setIfInBounds_toArray, List.set_cons_zero, List.set_cons_succ]
          refine wpAnyH_take (i := 17) (oi := { dst := some 46, op := Go.Op.move (Go.Operand.tmp 45), type := 4, pos := "laws.go:365", after := #[{ on := 16, ground := Go.Ground.data }, { on := 6, ground := Go.Ground.chain }], guard := none }) (v := ?_) rfl (by kernel_rfl) (by kernel_rfl) (by kernel_rfl) (fun _ _ _ h => h) (Or.inl ⟨by rfl, ?_⟩) (by assumption) ?_
          rotate_left
          · (intro w hSw; (try dsimp only at hSw); go_simp; try with_reducible rfl)
          try simp only [Act.put, List.setIfInBounds_toArray, List.set_cons_zero, List.set_cons_succ]
          refine wpAnyH_take (i := 18) (oi := { dst := some 47, op := Go.Op.move (Go.Operand.tmp 7), type := 3, pos := "laws.go:365", after := #[{ on := 17, ground := Go.Ground.guard }], guard := some (17, false) }) (v := ?_) rfl (by kernel_rfl) (by kernel_rfl) (by kernel_rfl) (fun _ _ _ h => h) (Or.inl ⟨by rfl, ?_⟩) (by assumption) ?_
          rotate_left
          · (intro w hSw; (try dsimp only at hSw); go_simp; try with_reducible rfl)
          try simp only [Act.put, List.setIfInBounds_toArray, List.set_cons_zero, List.set_cons_succ]
          refine wpAnyH_take (i := 19) (oi := { dst := some 48, op := Go.Op.binOp Go.BinOp.gtr 3 (Go.Operand.tmp 47) (Go.Operand.const (Go.Value.int Go.IntKind.i64 0)) 3, type := 4, pos := "laws.go:365", after := #[{ on := 18, ground := Go.Ground.data }, { on := 17, ground := Go.Ground.guard }], guard := some (17, false) }) (v := ?_) rfl (by kernel_rfl) (by kernel_rfl) (by kernel_rfl) (fun _ _ _ h => h) (Or.inl ⟨by rfl, ?_⟩) (by assumption) ?_
          rotate_left
          · (intro w hSw; (try dsimp only at hSw); go_simp; try with_reducible rfl)
          try simp only [Act.put, List.setIfInBounds_toArray, List.set_cons_zero, List.set_cons_succ]
          refine wpAnyH_take (i := 20) (oi := { dst := some 49, op := Go.Op.move (Go.Operand.tmp 48), type := 4, pos := "laws.go:365", after := #[{ on := 19, ground := Go.Ground.data }, { on := 17, ground := Go.Ground.chain }, { on := 17, ground := Go.Ground.guard }], guard := some (17, false) }) (v := ?_) rfl (by kernel_rfl) (by kernel_rfl) (by kernel_rfl) (fun _ _ _ h => h) (Or.inl ⟨by rfl, ?_⟩) (by assumption) ?_
          rotate_left
          · (intro w hSw; (try dsimp only at hSw); go_simp; try with_reducible rfl)
          try simp only [Act.put, List.setIfInBounds_toArray, List.set_cons_zero, List.set_cons_succ]
          refine wpAnyH_take (i := 21) (oi := { dst := some 50, op := Go.Op.move (Go.Operand.tmp 6), type := 43, pos := "laws.go:365", after := #[{ on := 20, ground := Go.Ground.guard }], guard := some (20, true) }) (v := ?_) rfl (by kernel_rfl) (by kernel_rfl) (by kernel_rfl) (fun _ _ _ h => h) (Or.inl ⟨by rfl, ?_⟩) (by assumption) ?_
          rotate_left
          · (intro w hSw; (try dsimp only at hSw); go_simp; try with_reducible rfl)
          try simp only [Act.put, List.setIfInBounds_toArray, List.set_cons_zero, List.set_cons_succ]
          refine wpAnyH_take (i := 22) (oi := { dst := some 51, op := Go.Op.move (Go.Operand.tmp 7), type := 3, pos := "laws.go:365", after := #[{ on := 20, ground := Go.Ground.guard }], guard := some (20, true) }) (v := ?_) rfl (by kernel_rfl) (by kernel_rfl) (by kernel_rfl) (fun _ _ _ h => h) (Or.inl ⟨by rfl, ?_⟩) (by assumption) ?_
          rotate_left
          · (intro w hSw; (try dsimp only at hSw); go_simp; try with_reducible rfl)
          try simp only [Act.put, List.setIfInBounds_toArray, List.set_cons_zero, List.set_cons_succ]
          refine wpAnyH_take (i := 23) (oi := { dst := some 52, op := Go.Op.indexAddr 43 (Go.Operand.tmp 50) (Go.Operand.tmp 51), type := 0, pos := "laws.go:365", after := #[{ on := 21, ground := Go.Ground.data }, { on := 22, ground := Go.Ground.data }, { on := 20, ground := Go.Ground.guard }], guard := some (20, true) }) (v := ?_) rfl (by kernel_rfl) (by kernel_rfl) (by kernel_rfl) (fun _ _ _ h => h) (Or.inl ⟨by rfl, ?_⟩) (by assumption) ?_
          rotate_left
          · (intro w hSw; (try dsimp only at hSw); go_simp; try with_reducible rfl)
          try simp only [Act.put, List.setIfInBounds_toArray, List.set_cons_zero, List.set_cons_succ]
          refine wpAnyH_take (i := 24) (oi := { dst := some 53, op := Go.Op.fieldAddr 27 (Go.Operand.tmp 52) 1, type := 0, pos := "laws.go:365", after := #[{ on := 23, ground := Go.Ground.data }, { on := 20, ground := Go.Ground.guard }], guard := some (20, true) }) (v := ?_) rfl (by kernel_rfl) (by kernel_rfl) (by kernel_rfl) (fun _ _ _ h => h) (Or.inl ⟨by rfl, ?_⟩) (by assumption) ?_
          rotate_left
          · (intro w hSw; (try dsimp only at hSw); go_simp; try with_reducible rfl)
          try simp only [Act.put, List.setIfInBounds_toArray, List.set_cons_zero, List.set_cons_succ]
          refine wpAnyH_take (i := 25) (oi := { dst := some 54, op := Go.Op.load 3 (Go.Operand.tmp 53), type := 3, pos := "laws.go:365", after := #[{ on := 24, ground := Go.Ground.data }, { on := 20, ground := Go.Ground.guard }], guard := some (20, true) }) (v := ?_) rfl (by kernel_rfl) (by kernel_rfl) (by kernel_rfl) (fun _ _ _ h => h) (Or.inl ⟨by rfl, ?_⟩) (by assumption) ?_
          rotate_left
          · (intro w hSw; (try dsimp only at hSw); go_simp; try with_reducible rfl)
          try simp only [Act.put, List.setIfInBounds_toArray, List.set_cons_zero, List.set_cons_succ]
          refine wpAnyH_take (i := 26) (oi := { dst := some 55, op := Go.Op.move (Go.Operand.tmp 6), type := 43, pos := "laws.go:365", after := #[{ on := 20, ground := Go.Ground.guard }], guard := some (20, true) }) (v := ?_) rfl (by kernel_rfl) (by kernel_rfl) (by kernel_rfl) (fun _ _ _ h => h) (Or.inl ⟨by rfl, ?_⟩) (by assumption) ?_
          rotate_left
          · (intro w hSw; (try dsimp only at hSw); go_simp; try with_reducible rfl)
          try simp only [Act.put, List.setIfInBounds_toArray, List.set_cons_zero, List.set_cons_succ]
          refine wpAnyH_take (i := 27) (oi := { dst := some 56, op := Go.Op.move (Go.Operand.tmp 7), type := 3, pos := "laws.go:365", after := #[{ on := 20, ground := Go.Ground.guard }], guard := some (20, true) }) (v := ?_) rfl (by kernel_rfl) (by kernel_rfl) (by kernel_rfl) (fun _ _ _ h => h) (Or.inl ⟨by rfl, ?_⟩) (by assumption) ?_
          rotate_left
          · (intro w hSw; (try dsimp only at hSw); go_simp; try with_reducible rfl)
          try simp only [Act.put, List.setIfInBounds_toArray, List.set_cons_zero, List.set_cons_succ]
          refine wpAnyH_take (i := 28) (oi := { dst := some 57, op := Go.Op.binOp Go.BinOp.sub 3 (Go.Operand.tmp 56) (Go.Operand.const (Go.Value.int Go.IntKind.i64 1)) 3, type := 3, pos := "laws.go:365", after := #[{ on := 27, ground := Go.Ground.data }, { on := 20, ground := Go.Ground.guard }], guard := some (20, true) }) (v := ?_) rfl (by kernel_rfl) (by kernel_rfl) (by kernel_rfl) (fun _ _ _ h => h) (Or.inl ⟨by rfl, ?_⟩) (by assumption) ?_
          rotate_left
          · (intro w hSw; (try dsimp only at hSw); go_simp; try with_reducible rfl)
          try simp only [Act.put, List.setIfInBounds_toArray, List.set_cons_zero, List.set_cons_succ]
          refine wpAnyH_take (i := 29) (oi := { dst := some 58, op := Go.Op.indexAddr 43 (Go.Operand.tmp 55) (Go.Operand.tmp 57), type := 0, pos := "laws.go:365", after := #[{ on := 26, ground := Go.Ground.data }, { on := 28, ground := Go.Ground.data }, { on := 20, ground := Go.Ground.guard }], guard := some (20, true) }) (v := ?_) rfl (by kernel_rfl) (by kernel_rfl) (by kernel_rfl) (fun _ _ _ h => h) (Or.inl ⟨by rfl, ?_⟩) (by assumption) ?_
          rotate_left
          · (intro w hSw; (try dsimp only at hSw); go_simp; try with_reducible rfl)
          try simp only [Act.put, List.setIfInBounds_toArray, List.set_cons_zero, List.set_cons_succ]
          refine wpAnyH_take (i := 30) (oi := { dst := some 59, op := Go.Op.fieldAddr 27 (Go.Operand.tmp 58) 1, type := 0, pos := "laws.go:365", after := #[{ on := 29, ground := Go.Ground.data }, { on := 20, ground := Go.Ground.guard }], guard := some (20, true) }) (v := ?_) rfl (by kernel_rfl) (by kernel_rfl) (by kernel_rfl) (fun _ _ _ h => h) (Or.inl ⟨by rfl, ?_⟩) (by assumption) ?_
          rotate_left
          · (intro w hSw; (try dsimp only at hSw); go_simp; try with_reducible rfl)
          try simp only [Act.put, List.setIfInBounds_toArray, List.set_cons_zero, List.set_cons_succ]
          refine wpAnyH_take (i := 31) (oi := { dst := some 60, op := Go.Op.load 3 (Go.Operand.tmp 59), type := 3, pos := "laws.go:365", after := #[{ on := 30, ground := Go.Ground.data }, { on := 20, ground := Go.Ground.guard }], guard := some (20, true) }) (v := ?_) rfl (by kernel_rfl) (by kernel_rfl) (by kernel_rfl) (fun _ _ _ h => h) (Or.inl ⟨by rfl, ?_⟩) (by assumption) ?_
          rotate_left
          · (intro w hSw; (try dsimp only at hSw); go_simp; try with_reducible rfl)
          try simp only [Act.put, List.setIfInBounds_toArray, List.set_cons_zero, List.set_cons_succ]
          refine wpAnyH_take (i := 32) (oi := { dst := some 61, op := Go.Op.binOp Go.BinOp.leq 3 (Go.Operand.tmp 54) (Go.Operand.tmp 60) 3, type := 4, pos := "laws.go:365", after := #[{ on := 25, ground := Go.Ground.data }, { on := 31, ground := Go.Ground.data }, { on := 20, ground := Go.Ground.guard }], guard := some (20, true) }) (v := ?_) rfl (by kernel_rfl) (by kernel_rfl) (by kernel_rfl) (fun _ _ _ h => h) (Or.inl ⟨by rfl, ?_⟩) (by assumption) ?_
          rotate_left
          · (intro w hSw; (try dsimp only at hSw); go_simp; try with_reducible rfl)
          try simp only [Act.put, List.setIfInBounds_toArray, List.set_cons_zero, List.set_cons_succ]
          refine wpAnyH_take (i := 33) (oi := { dst := some 62, op := Go.Op.pick (Go.Operand.tmp 49) (Go.Operand.tmp 61) (Go.Operand.const (Go.Value.bool false)), type := 4, pos := "laws.go:365", after := #[{ on := 20, ground := Go.Ground.data }, { on := 32, ground := Go.Ground.data }, { on := 17, ground := Go.Ground.guard }], guard := some (17, false) }) (v := ?_) rfl (by kernel_rfl) (by kernel_rfl) (by kernel_rfl) (fun _ _ _ h => h) (Or.inl ⟨by rfl, ?_⟩) (by assumption) ?_
          rotate_left
          · (intro w hSw; (try dsimp only at hSw); go_simp; try with_reducible rfl)
          try simp only [Act.put, List.setIfInBounds_toArray, List.set_cons_zero, List.set_cons_succ]
          refine wpAnyH_take (i := 34) (oi := { dst := some 63, op := Go.Op.pick (Go.Operand.tmp 46) (Go.Operand.const (Go.Value.bool true)) (Go.Operand.tmp 62), type := 4, pos := "laws.go:365", after := #[{ on := 17, ground := Go.Ground.data }, { on := 33, ground := Go.Ground.data }], guard := none }) (v := ?_) rfl (by kernel_rfl) (by kernel_rfl) (by kernel_rfl) (fun _ _ _ h => h) (Or.inl ⟨by rfl, ?_⟩) (by assumption) ?_
          rotate_left
          · (intro w hSw; (try dsimp only at hSw); go_simp; try with_reducible rfl)
          try simp only [Act.put, List.setIfInBounds_toArray, List.set_cons_zero, List.set_cons_succ]
          refine wpAnyH_done (by kernel_rfl) ?_ _
          go_wp2_with fail
          go_roundw
          case rel => exact ⟨i + 1, by omega, by go_num, htl2.out⟩
          case measure => simp [intOf]; omega
      · obtain rfl : i = m := by omega
        have hd1 : decide ((i : Int) < (i : Int)) = false := decide_eq_false (by omega)
        have ht4 := Lib.hid htl.out.1
        obtain ⟨p1, p2, p3⟩ := ht4.out.2.1.1
        have hTF : decide (1 ≤ TF) = true := decide_eq_true hfull
        have hT2 : ((i : Int) == T2) = true := by rw [HmT.out]; simp
        clear htl A2 F1 F2 F3 F4 HLl HMl HM HmT hfull
        go_wp2_with fail
        refine (A3.out _).mono ?_
        rintro e w5 ⟨rfl, hb⟩
        have ht5 := Lib.hid (ht4.out.call hb)
        have ht6 := Lib.hid (ht5.out.call (below_box w5 (.cells #[.int .i64 x, .int .i64 y, .int .i64 tp] 27)))
        have hm6 := Lib.hid (mbox_new x y tp w5 27)
        clear hb ht4 ht5 p1 p2 p3
        go_wp2_with fail
        generalize w5.alloc (.cells #[.int .i64 x, .int .i64 y, .int .i64 tp] 27) = w6 at *
        generalize w5.heap.size = M3 at *
        generalize w1.heap.size = M1 at *
        generalize w2.heap.size = M2 at *
        obtain ⟨p1, p2, p3⟩ := ht6.out.2.1.1
        obtain ⟨s1, s2, s3⟩ := ht6.out.2.2.1
        obtain ⟨r1, r2, r3⟩ := hm6.out.1
        have HSk := Lib.hid (fun X (h : TW w M1 M2 x y o x2 y2 o2 X) (h' : MBox M3 x y tp X) => (⟨h.2.1.1, h.2.2.1, h'.1⟩ : (X.cell? ⟨M1, 0, none⟩ = some (.int .i64 x) ∧ X.cell? ⟨M1, 1, none⟩ = some (.int .i64 y) ∧ X.cell? ⟨M1, 2, none⟩ = some (.int .i64 (o : Int))) ∧ (X.cell? ⟨M2, 0, none⟩ = some (.int .i64 x2) ∧ X.cell? ⟨M2, 1, none⟩ = some (.int .i64 y2) ∧ X.cell? ⟨M2, 2, none⟩ = some (.int .i64 (o2 : Int))) ∧ (X.cell? ⟨M3, 0, none⟩ = some (.int .i64 x) ∧ X.cell? ⟨M3, 1, none⟩ = some (.int .i64 y) ∧ X.cell? ⟨M3, 2, none⟩ = some (.int .i64 tp))))
        try simp only [List.cons_append, List.nil_append, List.append_eq]
        refine wp_region_held_drew (S := (fun w' => (w'.cell? ⟨M1, 0, none⟩ = some (.int .i64 x) ∧ w'.cell? ⟨M1, 1, none⟩ = some (.int .i64 y) ∧ w'.cell? ⟨M1, 2, none⟩ = some (.int .i64 (o : Int))) ∧ (w'.cell? ⟨M2, 0, none⟩ = some (.int .i64 x2) ∧ w'.cell? ⟨M2, 1, none⟩ = some (.int .i64 y2) ∧ w'.cell? ⟨M2, 2, none⟩ = some (.int .i64 (o2 : Int))) ∧ (w'.cell? ⟨M3, 0, none⟩ = some (.int .i64 x) ∧ w'.cell? ⟨M3, 1, none⟩ = some (.int .i64 y) ∧ w'.cell? ⟨M3, 2, none⟩ = some (.int .i64 tp)))) (by kernel_rfl) ?_ (fun hHeld0 => ?_)
        · (try dsimp only); first | exact HSk.out _ hy8.out hx8.out | exact HSk.out _ hy7.out hx7.out | exact HSk.out _ hy6.out hx6.out | exact HSk.out _ hy5.out hx5.out | exact HSk.out _ hy4.out hx4.out | exact HSk.out _ hy3.out hx3.out | exact HSk.out _ hy2.out hx2.out | exact HSk.out _ hy1.out hx1.out | exact HSk.out _ ht6.out hm6.out | exact HSk.out _ ht6.out.dr (show MBox M3 x y tp w6.drew from hm6.out)
        refine wpAnyH_take (i := 0) (oi := { dst := some 67, op := Go.Op.load 27 (Go.Operand.tmp 8), type := 27, pos := "laws.go:370", after := #[], guard := none }) (v := ?_) rfl (by kernel_rfl) (by kernel_rfl) (by kernel_rfl) (fun _ _ _ h => h) (Or.inl ⟨by rfl, ?_⟩) (by assumption) ?_
        rotate_left
        · (intro w hSw; (try dsimp only at hSw); go_simp; try with_reducible rfl)
        try simp only [Act.put, List.setIfInBounds_toArray, List.set_cons_zero, List.set_cons_succ]
        refine wpAnyH_ready (rs := [1]) (by kernel_rfl) (by simp) ?_
        refine AllReadyH.cons (o := { dst := some 68, op := Go.Op.call { callee := Go.Callee.value (Go.Operand.func 42), args := #[Go.Operand.tmp 67], argTypes := #[27] }, type := 3, pos := "laws.go:370", after := #[{ on := 0, ground := Go.Ground.data }], guard := none }) rfl (fun K1 hK1 => ?_) AllReadyH.nil
        go_simp
        (refine (A4.out _).mono ?_; rintro e b1 ⟨rfl, hb1⟩; have hy1 := Lib.hid (ht6.out.dr.call hb1); have hx1 := Lib.hid ((show MBox M3 x y tp w6.drew from hm6.out).call hb1); clear hb1)
        go_wp2_with fail
        refine hK1.out _ _ ?_ (fun hHeld1 => ?_)
        · (try dsimp only); first | exact HSk.out _ hy8.out hx8.out | exact HSk.out _ hy7.out hx7.out | exact HSk.out _ hy6.out hx6.out | exact HSk.out _ hy5.out hx5.out | exact HSk.out _ hy4.out hx4.out | exact HSk.out _ hy3.out hx3.out | exact HSk.out _ hy2.out hx2.out | exact HSk.out _ hy1.out hx1.out | exact HSk.out _ ht6.out hm6.out | exact HSk.out _ ht6.out.dr (show MBox M3 x y tp w6.drew from hm6.out)
        clear hK1 K1 hHeld0
        try simp only [Act.put, List.setIfInBounds_toArray, List.set_cons_zero, List.set_cons_succ]
        refine wpAnyH_take (i := 2) (oi := { dst := some 69, op := Go.Op.binOp Go.BinOp.geq 3 (Go.Operand.tmp 68) (Go.Operand.const (Go.Value.int Go.IntKind.i64 1)) 3, type := 4, pos := "laws.go:370", after := #[{ on := 1, ground := Go.Ground.data }], guard := none }) (v := ?_) rfl (by kernel_rfl) (by kernel_rfl) (by kernel_rfl) (fun _ _ _ h => h) (Or.inl ⟨by rfl, ?_⟩) (by assumption) ?_
        rotate_left
        · (intro w hSw; (try dsimp only at hSw); go_simp; try with_reducible rfl)
        try simp only [Act.put, List.setIfInBounds_toArray, List.set_cons_zero, List.set_cons_succ]
        refine wpAnyH_take (i := 3) (oi := { dst := some 70, op := Go.Op.move (Go.Operand.tmp 69), type := 4, pos := "laws.go:370", after := #[{ on := 2, ground := Go.Ground.data }, { on := 1, ground := Go.Ground.chain }], guard := none }) (v := ?_) rfl (by kernel_rfl) (by kernel_rfl) (by kernel_rfl) (fun _ _ _ h => h) (Or.inl ⟨by rfl, ?_⟩) (by assumption) ?_
        rotate_left
        · (intro w hSw; (try dsimp only at hSw); go_simp; try with_reducible rfl)
        try simp only [Act.put, List.setIfInBounds_toArray, List.set_cons_zero, List.set_cons_succ]
        refine wpAnyH_take (i := 4) (oi := { dst := some 71, op := Go.Op.load 27 (Go.Operand.tmp 3), type := 27, pos := "laws.go:370", after := #[{ on := 3, ground := Go.Ground.guard }], guard := some (3, true) }) (v := ?_) rfl (by kernel_rfl) (by kernel_rfl) (by kernel_rfl) (fun _ _ _ h => h) (Or.inl ⟨by rfl, ?_⟩) (by assumption) ?_
        rotate_left
        · (intro w hSw; (try dsimp only at hSw); go_simp; try with_reducible rfl)
        try simp only [Act.put, List.setIfInBounds_toArray, List.set_cons_zero, List.set_cons_succ]
        refine wpAnyH_take (i := 6) (oi := { dst := some 73, op := Go.Op.move (Go.Operand.tmp 5), type := 3, pos := "laws.go:370", after := #[{ on := 3, ground := Go.Ground.guard }], guard := some (3, true) }) (v := ?_) rfl (by kernel_rfl) (by kernel_rfl) (by kernel_rfl) (fun _ _ _ h => h) (Or.inl ⟨by rfl, ?_⟩) (by assumption) ?_
        rotate_left
        · (intro w hSw; (try dsimp only at hSw); go_simp; try with_reducible rfl)
        try simp only [Act.put, List.setIfInBounds_toArray, List.set_cons_zero, List.set_cons_succ]
        refine wpAnyH_take (i := 9) (oi := { dst := some 76, op := Go.Op.load 27 (Go.Operand.tmp 3), type := 27, pos := "laws.go:370", after := #[{ on := 3, ground := Go.Ground.guard }], guard := some (3, true) }) (v := ?_) rfl (by kernel_rfl) (by kernel_rfl) (by kernel_rfl) (fun _ _ _ h => h) (Or.inl ⟨by rfl, ?_⟩) (by assumption) ?_
        rotate_left
        · (intro w hSw; (try dsimp only at hSw); go_simp; try with_reducible rfl)
        try simp only [Act.put, List.setIfInBounds_toArray, List.set_cons_zero, List.set_cons_succ]
        refine wpAnyH_ready (rs := [5]) (by kernel_rfl) (by simp) ?_
        refine AllReadyH.cons (o := { dst := some 72, op := Go.Op.call { callee := Go.Callee.value (Go.Operand.func 43), args := #[Go.Operand.tmp 71], argTypes := #[27] }, type := 38, pos := "laws.go:370", after := #[{ on := 4, ground := Go.Ground.data }, { on := 3, ground := Go.Ground.chain }, { on := 3, ground := Go.Ground.guard }], guard := some (3, true) }) rfl (fun K5 hK5 => ?_) AllReadyH.nil
        go_simp
        (refine (A7.out _).mono ?_; rintro e b2 ⟨va, rfl, ho2, hb2⟩; have hy2 := Lib.hid (hy1.out.call hb2); have hx2 := Lib.hid (hx1.out.call hb2); obtain ⟨Aa, ca, rfl⟩ := ho2.form; have HIa := Lib.hid ho2.read; clear hb2 ho2)
        go_wp2_with fail
        refine hK5.out _ _ ?_ (fun hHeld2 => ?_)
        · (try dsimp only); first | exact HSk.out _ hy8.out hx8.out | exact HSk.out _ hy7.out hx7.out | exact HSk.out _ hy6.out hx6.out | exact HSk.out _ hy5.out hx5.out | exact HSk.out _ hy4.out hx4.out | exact HSk.out _ hy3.out hx3.out | exact HSk.out _ hy2.out hx2.out | exact HSk.out _ hy1.out hx1.out | exact HSk.out _ ht6.out hm6.out | exact HSk.out _ ht6.out.dr (show MBox M3 x y tp w6.drew from hm6.out)
        clear hK5 K5 hHeld1
        try simp only [Act.put, List.setIfInBounds_toArray, List.set_cons_zero, List.set_cons_succ]
        refine wpAnyH_ready (rs := [7]) (by kernel_rfl) (by simp) ?_
        refine AllReadyH.cons (o := { dst := some 74, op := Go.Op.call { callee := Go.Callee.value (Go.Operand.func 36), args := #[Go.Operand.tmp 72, Go.Operand.tmp 73], argTypes := #[38, 3] }, type := 38, pos := "laws.go:370", after := #[{ on := 5, ground := Go.Ground.data }, { on := 6, ground := Go.Ground.data }, { on := 5, ground := Go.Ground.chain }, { on := 3, ground := Go.Ground.guard }], guard := some (3, true) }) rfl (fun K7 hK7 => ?_) AllReadyH.nil
        go_simp
        (refine (A8.out Aa ca κ _ HIa.out).mono ?_; rintro e b3 ⟨vb, rfl, ho3, hb3⟩; have hy3 := Lib.hid (hy2.out.call hb3); have hx3 := Lib.hid (hx2.out.call hb3); obtain ⟨Ab, cb, rfl⟩ := ho3.form; have HIb := Lib.hid ho3.read; clear hb3 ho3)
        go_wp2_with fail
        refine hK7.out _ _ ?_ (fun hHeld3 => ?_)
        · (try dsimp only); first | exact HSk.out _ hy8.out hx8.out | exact HSk.out _ hy7.out hx7.out | exact HSk.out _ hy6.out hx6.out | exact HSk.out _ hy5.out hx5.out | exact HSk.out _ hy4.out hx4.out | exact HSk.out _ hy3.out hx3.out | exact HSk.out _ hy2.out hx2.out | exact HSk.out _ hy1.out hx1.out | exact HSk.out _ ht6.out hm6.out | exact HSk.out _ ht6.out.dr (show MBox M3 x y tp w6.drew from hm6.out)
        clear hK7 K7 hHeld2
        try simp only [Act.put, List.setIfInBounds_toArray, List.set_cons_zero, List.set_cons_succ]
        refine wpAnyH_ready (rs := [8]) (by kernel_rfl) (by simp) ?_
        refine AllReadyH.cons (o := { dst := some 75, op := Go.Op.call { callee := Go.Callee.value (Go.Operand.func 34), args := #[Go.Operand.tmp 74], argTypes := #[38] }, type := 3, pos := "laws.go:370", after := #[{ on := 7, ground := Go.Ground.data }, { on := 7, ground := Go.Ground.chain }, { on := 3, ground := Go.Ground.guard }], guard := some (3, true) }) rfl (fun K8 hK8 => ?_) AllReadyH.nil
        go_simp
        (refine (A9'.out Ab cb κ hκN _ HIb.out).mono ?_; rintro e b4 ⟨rfl, hb4⟩; have hy4 := Lib.hid (hy3.out.call hb4); have hx4 := Lib.hid (hx3.out.call hb4); clear hb4)
        go_wp2_with fail
        refine hK8.out _ _ ?_ (fun hHeld4 => ?_)
        · (try dsimp only); first | exact HSk.out _ hy8.out hx8.out | exact HSk.out _ hy7.out hx7.out | exact HSk.out _ hy6.out hx6.out | exact HSk.out _ hy5.out hx5.out | exact HSk.out _ hy4.out hx4.out | exact HSk.out _ hy3.out hx3.out | exact HSk.out _ hy2.out hx2.out | exact HSk.out _ hy1.out hx1.out | exact HSk.out _ ht6.out hm6.out | exact HSk.out _ ht6.out.dr (show MBox M3 x y tp w6.drew from hm6.out)
        clear hK8 K8 hHeld3
        try simp only [Act.put, List.setIfInBounds_toArray, List.set_cons_zero, List.set_cons_succ]
        refine wpAnyH_ready (rs := [10]) (by kernel_rfl) (by simp) ?_
        refine AllReadyH.cons (o := { dst := some 77, op := Go.Op.call { callee := Go.Callee.value (Go.Operand.func 42), args := #[Go.Operand.tmp 76], argTypes := #[27] }, type := 3, pos := "laws.go:370", after := #[{ on := 9, ground := Go.Ground.data }, { on := 8, ground := Go.Ground.chain }, { on := 3, ground := Go.Ground.guard }], guard := some (3, true) }) rfl (fun K10 hK10 => ?_) AllReadyH.nil
        go_simp
        (refine (A5.out _).mono ?_; rintro e b5 ⟨rfl, hb5⟩; have hy5 := Lib.hid (hy4.out.call hb5); have hx5 := Lib.hid (hx4.out.call hb5); clear hb5)
        go_wp2_with fail
        refine hK10.out _ _ ?_ (fun hHeld5 => ?_)
        · (try dsimp only); first | exact HSk.out _ hy8.out hx8.out | exact HSk.out _ hy7.out hx7.out | exact HSk.out _ hy6.out hx6.out | exact HSk.out _ hy5.out hx5.out | exact HSk.out _ hy4.out hx4.out | exact HSk.out _ hy3.out hx3.out | exact HSk.out _ hy2.out hx2.out | exact HSk.out _ hy1.out hx1.out | exact HSk.out _ ht6.out hm6.out | exact HSk.out _ ht6.out.dr (show MBox M3 x y tp w6.drew from hm6.out)
        clear hK10 K10 hHeld4
        try simp only [Act.put, List.setIfInBounds_toArray, List.set_cons_zero, List.set_cons_succ]
        refine wpAnyH_take (i := 11) (oi := { dst := some 78, op := Go.Op.binOp Go.BinOp.eql 3 (Go.Operand.tmp 75) (Go.Operand.tmp 77) 3, type := 4, pos := "laws.go:370", after := #[{ on := 8, ground := Go.Ground.data }, { on := 10, ground := Go.Ground.data }, { on := 3, ground := Go.Ground.guard }], guard := some (3, true) }) (v := ?_) rfl (by kernel_rfl) (by kernel_rfl) (by kernel_rfl) (fun _ _ _ h => h) (Or.inl ⟨by rfl, ?_⟩) (by assumption) ?_
        rotate_left
        · (intro w hSw; (try dsimp only at hSw); go_simp; try with_reducible rfl)
        try simp only [Act.put, List.setIfInBounds_toArray, List.set_cons_zero, List.set_cons_succ]
        refine wpAnyH_take (i := 12) (oi := { dst := some 79, op := Go.Op.pick (Go.Operand.tmp 70) (Go.Operand.tmp 78) (Go.Operand.const (Go.Value.bool false)), type := 4, pos := "laws.go:370", after := #[{ on := 3, ground := Go.Ground.data }, { on := 11, ground := Go.Ground.data }], guard := none }) (v := ?_) rfl (by kernel_rfl) (by kernel_rfl) (by kernel_rfl) (fun _ _ _ h => h) (Or.inl ⟨by rfl, ?_⟩) (by assumption) ?_
        rotate_left
        · (intro w hSw; (try dsimp only at hSw); go_simp; try with_reducible rfl)
        try simp only [Act.put, List.setIfInBounds_toArray, List.set_cons_zero, List.set_cons_succ]
        refine wpAnyH_take (i := 13) (oi := { dst := some 80, op := Go.Op.move (Go.Operand.tmp 79), type := 4, pos := "laws.go:370", after := #[{ on := 12, ground := Go.Ground.data }, { on := 10, ground := Go.Ground.chain }], guard := none }) (v := ?_) rfl (by kernel_rfl) (by kernel_rfl) (by kernel_rfl) (fun _ _ _ h => h) (Or.inl ⟨by rfl, ?_⟩) (by assumption) ?_
        rotate_left
        · (intro w hSw; (try dsimp only at hSw); go_simp; try with_reducible rfl)
        try simp only [Act.put, List.setIfInBounds_toArray, List.set_cons_zero, List.set_cons_succ]
        refine wpAnyH_take (i := 14) (oi := { dst := some 81, op := Go.Op.move (Go.Operand.tmp 6), type := 43, pos := "laws.go:370", after := #[{ on := 13, ground := Go.Ground.guard }], guard := some (13, true) }) (v := ?_) rfl (by kernel_rfl) (by kernel_rfl) (by kernel_rfl) (fun _ _ _ h => h) (Or.inl ⟨by rfl, ?_⟩) (by assumption) ?_
        rotate_left
        · (intro w hSw; (try dsimp only at hSw); go_simp; try with_reducible rfl)
        try simp only [Act.put, List.setIfInBounds_toArray, List.set_cons_zero, List.set_cons_succ]
        refine wpAnyH_take (i := 15) (oi := { dst := some 82, op := Go.Op.call { callee := Go.Callee.builtin Go.Builtin.len, args := #[Go.Operand.tmp 81], argTypes := #[43] }, type := 3, pos := "laws.go:370", after := #[{ on := 14, ground := Go.Ground.data }, { on := 13, ground := Go.Ground.guard }], guard := some (13, true) }) (v := ?_) rfl (by kernel_rfl) (by kernel_rfl) (by kernel_rfl) (fun _ _ _ h => h) (Or.inl ⟨by rfl, ?_⟩) (by assumption) ?_
        rotate_left
        · (intro w hSw; (try dsimp only at hSw); go_simp; try with_reducible rfl)
        try simp only [Act.put, List.setIfInBounds_toArray, List.set_cons_zero, List.set_cons_succ]
        refine wpAnyH_take (i := 16) (oi := { dst := some 83, op := Go.Op.load 27 (Go.Operand.tmp 4), type := 27, pos := "laws.go:370", after := #[{ on := 13, ground := Go.Ground.guard }], guard := some (13, true) }) (v := ?_) rfl (by kernel_rfl) (by kernel_rfl) (by kernel_rfl) (fun _ _ _ h => h) (Or.inl ⟨by rfl, ?_⟩) (by assumption) ?_
        rotate_left
        · (intro w hSw; (try dsimp only at hSw); go_simp; try with_reducible rfl)
        try simp only [Act.put, List.setIfInBounds_toArray, List.set_cons_zero, List.set_cons_succ]
        refine wpAnyH_ready (rs := [17]) (by kernel_rfl) (by simp) ?_
        refine AllReadyH.cons (o := { dst := some 84, op := Go.Op.call { callee := Go.Callee.value (Go.Operand.func 42), args := #[Go.Operand.tmp 83], argTypes := #[27] }, type := 3, pos := "laws.go:370", after := #[{ on := 16, ground := Go.Ground.data }, { on := 13, ground := Go.Ground.chain }, { on := 13, ground := Go.Ground.guard }], guard := some (13, true) }) rfl (fun K17 hK17 => ?_) AllReadyH.nil
        go_simp
        (refine (A6.out _).mono ?_; rintro e b6 ⟨rfl, hb6⟩; have hy6 := Lib.hid (hy5.out.call hb6); have hx6 := Lib.hid (hx5.out.call hb6); clear hb6)
        go_wp2_with fail
        refine hK17.out _ _ ?_ (fun hHeld6 => ?_)
        · (try dsimp only); first | exact HSk.out _ hy8.out hx8.out | exact HSk.out _ hy7.out hx7.out | exact HSk.out _ hy6.out hx6.out | exact HSk.out _ hy5.out hx5.out | exact HSk.out _ hy4.out hx4.out | exact HSk.out _ hy3.out hx3.out | exact HSk.out _ hy2.out hx2.out | exact HSk.out _ hy1.out hx1.out | exact HSk.out _ ht6.out hm6.out | exact HSk.out _ ht6.out.dr (show MBox M3 x y tp w6.drew from hm6.out)
        clear hK17 K17 hHeld5
        try simp only [Act.put, List.setIfInBounds_toArray, List.set_cons_zero, List.set_cons_succ]
        refine wpAnyH_take (i := 18) (oi := { dst := some 85, op := Go.Op.binOp Go.BinOp.eql 3 (Go.Operand.tmp 82) (Go.Operand.tmp 84) 3, type := 4, pos := "laws.go:370", after := #[{ on := 15, ground := Go.Ground.data }, { on := 17, ground := Go.Ground.data }, { on := 13, ground := Go.Ground.guard }], guard := some (13, true) }) (v := ?_) rfl (by kernel_rfl) (by kernel_rfl) (by kernel_rfl) (fun _ _ _ h => h) (Or.inl ⟨by rfl, ?_⟩) (by assumption) ?_
        rotate_left
        · (intro w hSw; (try dsimp only at hSw); go_simp; try with_reducible rfl)
        try simp only [Act.put, List.setIfInBounds_toArray, List.set_cons_zero, List.set_cons_succ]
        refine wpAnyH_take (i := 19) (oi := { dst := some 86, op := Go.Op.pick (Go.Operand.tmp 80) (Go.Operand.tmp 85) (Go.Operand.const (Go.Value.bool false)), type := 4, pos := "laws.go:370", after := #[{ on := 13, ground := Go.Ground.data }, { on := 18, ground := Go.Ground.data }], guard := none }) (v := ?_) rfl (by kernel_rfl) (by kernel_rfl) (by kernel_rfl) (fun _ _ _ h => h) (Or.inl ⟨by rfl, ?_⟩) (by assumption) ?_
        rotate_left
        · (intro w hSw; (try dsimp only at hSw); go_simp; try with_reducible rfl)
        try simp only [Act.put, List.setIfInBounds_toArray, List.set_cons_zero, List.set_cons_succ]
        refine wpAnyH_take (i := 20) (oi := { dst := some 87, op := Go.Op.move (Go.Operand.tmp 86), type := 4, pos := "laws.go:370", after := #[{ on := 19, ground := Go.Ground.data }, { on := 17, ground := Go.Ground.chain }], guard := none }) (v := ?_) rfl (by kernel_rfl) (by kernel_rfl) (by kernel_rfl) (fun _ _ _ h => h) (Or.inl ⟨by rfl, ?_⟩) (by assumption) ?_
        rotate_left
        · (intro w hSw; (try dsimp only at hSw); go_simp; try with_reducible rfl)
        try simp only [Act.put, List.setIfInBounds_toArray, List.set_cons_zero, List.set_cons_succ]
        refine wpAnyH_take (i := 21) (oi := { dst := some 88, op := Go.Op.fieldAddr 27 (Go.Operand.tmp 3) 0, type := 0, pos := "laws.go:370", after := #[{ on := 20, ground := Go.Ground.guard }], guard := some (20, true) }) (v := ?_) rfl (by kernel_rfl) (by kernel_rfl) (by kernel_rfl) (fun _ _ _ h => h) (Or.inl ⟨by rfl, ?_⟩) (by assumption) ?_
        rotate_left
        · (intro w hSw; (try dsimp only at hSw); go_simp; try with_reducible rfl)
        try simp only [Act.put, List.setIfInBounds_toArray, List.set_cons_zero, List.set_cons_succ]
        refine wpAnyH_take (i := 22) (oi := { dst := some 89, op := Go.Op.load 25 (Go.Operand.tmp 88), type := 25, pos := "laws.go:370", after := #[{ on := 21, ground := Go.Ground.data }, { on := 20, ground := Go.Ground.guard }], guard := some (20, true) }) (v := ?_) rfl (by kernel_rfl) (by kernel_rfl) (by kernel_rfl) (fun _ _ _ h => h) (Or.inl ⟨by rfl, ?_⟩) (by assumption) ?_
        rotate_left
        · (intro w hSw; (try dsimp only at hSw); go_simp; try with_reducible rfl)
        try simp only [Act.put, List.setIfInBounds_toArray, List.set_cons_zero, List.set_cons_succ]
        refine wpAnyH_take (i := 23) (oi := { dst := some 90, op := Go.Op.fieldAddr 27 (Go.Operand.tmp 8) 1, type := 0, pos := "laws.go:370", after := #[{ on := 20, ground := Go.Ground.guard }], guard := some (20, true) }) (v := ?_) rfl (by kernel_rfl) (by kernel_rfl) (by kernel_rfl) (fun _ _ _ h => h) (Or.inl ⟨by rfl, ?_⟩) (by assumption) ?_
        rotate_left
        · (intro w hSw; (try dsimp only at hSw); go_simp; try with_reducible rfl)
        try simp only [Act.put, List.setIfInBounds_toArray, List.set_cons_zero, List.set_cons_succ]
        refine wpAnyH_take (i := 24) (oi := { dst := some 91, op := Go.Op.load 3 (Go.Operand.tmp 90), type := 3, pos := "laws.go:370", after := #[{ on := 23, ground := Go.Ground.data }, { on := 20, ground := Go.Ground.guard }], guard := some (20, true) }) (v := ?_) rfl (by kernel_rfl) (by kernel_rfl) (by kernel_rfl) (fun _ _ _ h => h) (Or.inl ⟨by rfl, ?_⟩) (by assumption) ?_
        rotate_left
        · (intro w hSw; (try dsimp only at hSw); go_simp; try with_reducible rfl)
        try simp only [Act.put, List.setIfInBounds_toArray, List.set_cons_zero, List.set_cons_succ]
        refine wpAnyH_take (i := 25) (oi := { dst := some 92, op := Go.Op.fieldAddr 27 (Go.Operand.tmp 3) 1, type := 0, pos := "laws.go:370", after := #[{ on := 20, ground := Go.Ground.guard }], guard := some (20, true) }) (v := ?_) rfl (by kernel_rfl) (by kernel_rfl) (by kernel_rfl) (fun _ _ _ h => h) (Or.inl ⟨by rfl, ?_⟩) (by assumption) ?_
        rotate_left
        · (intro w hSw; (try dsimp only at hSw); go_simp; try with_reducible rfl)
        try simp only [Act.put, List.setIfInBounds_toArray, List.set_cons_zero, List.set_cons_succ]
        refine wpAnyH_take (i := 26) (oi := { dst := some 93, op := Go.Op.load 3 (Go.Operand.tmp 92), type := 3, pos := "laws.go:370", after := #[{ on := 25, ground := Go.Ground.data }, { on := 20, ground := Go.Ground.guard }], guard := some (20, true) }) (v := ?_) rfl (by kernel_rfl) (by kernel_rfl) (by kernel_rfl) (fun _ _ _ h => h) (Or.inl ⟨by rfl, ?_⟩) (by assumption) ?_
        rotate_left
        · (intro w hSw; (try dsimp only at hSw); go_simp; try with_reducible rfl)
        try simp only [Act.put, List.setIfInBounds_toArray, List.set_cons_zero, List.set_cons_succ]
        refine wpAnyH_take (i := 27) (oi := { dst := some 94, op := Go.Op.binOp Go.BinOp.andNot 3 (Go.Operand.tmp 91) (Go.Operand.tmp 93) 3, type := 3, pos := "laws.go:370", after := #[{ on := 24, ground := Go.Ground.data }, { on := 26, ground := Go.Ground.data }, { on := 20, ground := Go.Ground.guard }], guard := some (20, true) }) (v := ?_) rfl (by kernel_rfl) (by kernel_rfl) (by kernel_rfl) (fun _ _ _ h => h) (Or.inl ⟨by rfl, ?_⟩) (by assumption) ?_
        rotate_left
        · (intro w hSw; (try dsimp only at hSw); go_simp; try with_reducible rfl)
        try simp only [Act.put, List.setIfInBounds_toArray, List.set_cons_zero, List.set_cons_succ]
        refine wpAnyH_take (i := 29) (oi := { dst := some 96, op := Go.Op.load 27 (Go.Operand.tmp 3), type := 27, pos := "laws.go:370", after := #[{ on := 20, ground := Go.Ground.guard }], guard := some (20, true) }) (v := ?_) rfl (by kernel_rfl) (by kernel_rfl) (by kernel_rfl) (fun _ _ _ h => h) (Or.inl ⟨by rfl, ?_⟩) (by assumption) ?_
        rotate_left
        · (intro w hSw; (try dsimp only at hSw); go_simp; try with_reducible rfl)
        try simp only [Act.put, List.setIfInBounds_toArray, List.set_cons_zero, List.set_cons_succ]
        refine wpAnyH_ready (rs := [28]) (by kernel_rfl) (by simp) ?_
        refine AllReadyH.cons (o := { dst := some 95, op := Go.Op.call { callee := Go.Callee.value (Go.Operand.func 44), args := #[Go.Operand.tmp 89, Go.Operand.const (Go.Value.int Go.IntKind.i64 0), Go.Operand.tmp 94], argTypes := #[25, 3, 3] }, type := 3, pos := "laws.go:370", after := #[{ on := 22, ground := Go.Ground.data }, { on := 27, ground := Go.Ground.data }, { on := 20, ground := Go.Ground.chain }, { on := 20, ground := Go.Ground.guard }], guard := some (20, true) }) rfl (fun K28 hK28 => ?_) AllReadyH.nil
        go_simp
        (refine (A10.out _).mono ?_; rintro e b7 ⟨rfl, hb7⟩; have hy7 := Lib.hid (hy6.out.call hb7); have hx7 := Lib.hid (hx6.out.call hb7); clear hb7)
        go_wp2_with fail
        refine hK28.out _ _ ?_ (fun hHeld7 => ?_)
        · (try dsimp only); first | exact HSk.out _ hy8.out hx8.out | exact HSk.out _ hy7.out hx7.out | exact HSk.out _ hy6.out hx6.out | exact HSk.out _ hy5.out hx5.out | exact HSk.out _ hy4.out hx4.out | exact HSk.out _ hy3.out hx3.out | exact HSk.out _ hy2.out hx2.out | exact HSk.out _ hy1.out hx1.out | exact HSk.out _ ht6.out hm6.out | exact HSk.out _ ht6.out.dr (show MBox M3 x y tp w6.drew from hm6.out)
        clear hK28 K28 hHeld6
        try simp only [Act.put, List.setIfInBounds_toArray, List.set_cons_zero, List.set_cons_succ]
        refine wpAnyH_ready (rs := [30]) (by kernel_rfl) (by simp) ?_
        refine AllReadyH.cons (o := { dst := some 97, op := Go.Op.call { callee := Go.Callee.value (Go.Operand.func 42), args := #[Go.Operand.tmp 96], argTypes := #[27] }, type := 3, pos := "laws.go:370", after := #[{ on := 29, ground := Go.Ground.data }, { on := 28, ground := Go.Ground.chain }, { on := 20, ground := Go.Ground.guard }], guard := some (20, true) }) rfl (fun K30 hK30 => ?_) AllReadyH.nil
        go_simp
        (refine (A5.out _).mono ?_; rintro e b8 ⟨rfl, hb8⟩; have hy8 := Lib.hid (hy7.out.call hb8); have hx8 := Lib.hid (hx7.out.call hb8); clear hb8)
        go_wp2_with fail
        refine hK30.out _ _ ?_ (fun hHeld8 => ?_)
        · (try dsimp only); first | exact HSk.out _ hy8.out hx8.out | exact HSk.out _ hy7.out hx7.out | exact HSk.out _ hy6.out hx6.out | exact HSk.out _ hy5.out hx5.out | exact HSk.out _ hy4.out hx4.out | exact HSk.out _ hy3.out hx3.out | exact HSk.out _ hy2.out hx2.out | exact HSk.out _ hy1.out hx1.out | exact HSk.out _ ht6.out hm6.out | exact HSk.out _ ht6.out.dr (show MBox M3 x y tp w6.drew from hm6.out)
        clear hK30 K30 hHeld7
        try simp only [Act.put, List.setIfInBounds_toArray, List.set_cons_zero, List.set_cons_succ]
        refine wpAnyH_take (i := 31) (oi := { dst := some 98, op := Go.Op.binOp Go.BinOp.eql 3 (Go.Operand.tmp 95) (Go.Operand.tmp 97) 3, type := 4, pos := "laws.go:370", after := #[{ on := 28, ground := Go.Ground.data }, { on := 30, ground := Go.Ground.data }, { on := 20, ground := Go.Ground.guard }], guard := some (20, true) }) (v := ?_) rfl (by kernel_rfl) (by kernel_rfl) (by kernel_rfl) (fun _ _ _ h => h) (Or.inl ⟨by rfl, ?_⟩) (by assumption) ?_
        rotate_left
        · (intro w hSw; (try dsimp only at hSw); go_simp; try with_reducible rfl)
        try simp only [Act.put, List.setIfInBounds_toArray, List.set_cons_zero, List.set_cons_succ]
        refine wpAnyH_take (i := 32) (oi := { dst := some 99, op := Go.Op.pick (Go.Operand.tmp 87) (Go.Operand.tmp 98) (Go.Operand.const (Go.Value.bool false)), type := 4, pos := "laws.go:370", after := #[{ on := 20, ground := Go.Ground.data }, { on := 31, ground := Go.Ground.data }], guard := none }) (v := ?_) rfl (by kernel_rfl) (by kernel_rfl) (by kernel_rfl) (fun _ _ _ h => h) (Or.inl ⟨by rfl, ?_⟩) (by assumption) ?_
        rotate_left
        · (intro w hSw; (try dsimp only at hSw); go_simp; try with_reducible rfl)
        try simp only [Act.put, List.setIfInBounds_toArray, List.set_cons_zero, List.set_cons_succ]
        refine wpAnyH_take (i := 33) (oi := { dst := some 2, op := Go.Op.assign (Go.Operand.tmp 99), type := 4, pos := "laws.go:370", after := #[{ on := 32, ground := Go.Ground.data }, { on := 30, ground := Go.Ground.chain }, { on := 0, ground := Go.Ground.phase }, { on := 1, ground := Go.Ground.phase }, { on := 2, ground := Go.Ground.phase }, { on := 3, ground := Go.Ground.phase }, { on := 4, ground := Go.Ground.phase }, { on := 5, ground := Go.Ground.phase }, { on := 6, ground := Go.Ground.phase }, { on := 7, ground := Go.Ground.phase }, { on := 8, ground := Go.Ground.phase }, { on := 9, ground := Go.Ground.phase }, { on := 10, ground := Go.Ground.phase }, { on := 11, ground := Go.Ground.phase }, { on := 12, ground := Go.Ground.phase }, { on := 13, ground := Go.Ground.phase }, { on := 14, ground := Go.Ground.phase }, { on := 15, ground := Go.Ground.phase }, { on := 16, ground := Go.Ground.phase }, { on := 17, ground := Go.Ground.phase }, { on := 18, ground := Go.Ground.phase }, { on := 19, ground := Go.Ground.phase }, { on := 20, ground := Go.Ground.phase }, { on := 21, ground := Go.Ground.phase }, { on := 22, ground := Go.Ground.phase }, { on := 23, ground := Go.Ground.phase }, { on := 24, ground := Go.Ground.phase }, { on := 25, ground := Go.Ground.phase }, { on := 26, ground := Go.Ground.phase }, { on := 27, ground := Go.Ground.phase }, { on := 28, ground := Go.Ground.phase }, { on := 29, ground := Go.Ground.phase }, { on := 30, ground := Go.Ground.phase }, { on := 31, ground := Go.Ground.phase }, { on := 32, ground := Go.Ground.phase }], guard := none }) (v := ?_) rfl (by kernel_rfl) (by kernel_rfl) (by kernel_rfl) (fun _ _ _ h => h) (Or.inl ⟨by rfl, ?_⟩) (by assumption) ?_
        rotate_left
        · (intro w hSw; (try dsimp only at hSw); go_simp; try with_reducible rfl)
        try simp only [Act.put, List.setIfInBounds_toArray, List.set_cons_zero, List.set_cons_succ]
        refine wpAnyH_done (by kernel_rfl) ?_ _
        go_wp2_with fail
        go_ret
        exact HK.out _ hy8.out.1
end Go.Proofs.Ythgnhamokikhkaa.fnTreeCounts
