/- The contracts of the model's functions on mazes that answer a number or a truth value. -/
import Derived.Test.YthakbjdkcdppjaaMzB
import Derived.Test.YthakbjdkcdppjaaModG

namespace Go.Proofs.Ythakbjdkcdppjaa.mazeS
open Go.ChangeShapes Go.WideShapes Go.ChangeAt Go.RowKit
open draw gridP gridC bitP mazeP mazeC
set_option linter.unusedVariables false

/-- Whether a number is in a range. -/
def inB (x a b : Int) : Bool := decide (a ≤ x ∧ x ≤ b)
theorem in_b (x a b : Int) (W : World) :
    Calls Try.prog 55 #[.int .i64 x, .int .i64 a, .int .i64 b] W fun e w' => e = .returned (.bool (inB x a b)) ∧ W = w' := by
  by_cases h : a ≤ x ∧ x ≤ b
  · rw [show inB x a b = true from decide_eq_true h]; exact gridS.in_yes x a b W h.1 h.2
  · rw [show inB x a b = false from decide_eq_false h]; exact gridS.in_no x a b W h

/-- Whether a place is 1. -/
def btB (o g : Int) : Bool := decide (bitZ o g = 1)

theorem bit_b (o g : Int) (W : World) (o0 : 0 ≤ o) (o1 : o < 16777216) (g0 : 0 ≤ g) (g1 : g < 24) :
    Calls Try.prog 58 #[.int .i64 o, .int .i64 g] W fun e w' => e = .returned (.bool (btB o g)) ∧ W = w' := by
  have hp : (bits .and .i64 (o / 2 ^ g.toNat) 1 == 1) = btB o g := by
    rw [bit_is o0 o1 g0]; unfold btB; rw [Bool.eq_iff_iff]; simp
  have HP := Lib.hid hp
  clear hp
  go_enter Try.func58, Try.ntmps58
  go_wp2_with fail
  go_ret
  exact ⟨by rw [← HP.out]; rfl, rfl⟩

set_option maxHeartbeats 1000000 in
theorem ok_bad (w h o : Int) (W : World) (hn : ¬ (1 ≤ w ∧ w ≤ 4 ∧ 1 ≤ h ∧ h ≤ 4)) :
    Calls Try.prog 57 #[.agg #[.int .i64 w, .int .i64 h, .int .i64 o]] W (Bl false W) := by
  have HK := @Lib.hid _ (fun w' b => @bl_mk false false W w' rfl b)
  have HO := Lib.hid (fun X => gridS.gridOk_no w h X hn)
  have hx := Lib.hid (mbox_new w h o W 30)
  clear hn
  go_enter Try.func57, Try.ntmps57
  go_wp2_with fail
  first
    | go_region_with ((go_at_call 34; refine (HO.out _).mono ?_; rintro e w1 ⟨rfl, hb⟩; obtain ⟨c0, c1, c2⟩ := (mbox_after hb hx.out).1))
    | fail
  all_goals
    go_wp2_with fail
    go_ret
    exact HK.out _ (by refine below_call ?_ hb; repeat (first | exact Below.refl _ _ | refine Below.drew ?_ | refine Below.alloc ?_ (by simp) _))

theorem ok_good (w h o : Int) (W : World) (h1 : 1 ≤ w) (h2 : w ≤ 4) (h3 : 1 ≤ h) (h4 : h ≤ 4) :
    Calls Try.prog 57 #[.agg #[.int .i64 w, .int .i64 h, .int .i64 o]] W (Bl (okB w h o) W) := by
  have HK := @Lib.hid _ (fun w' a (e : a = okB w h o) b => @bl_mk a _ W w' e b)
  have HO := Lib.hid (fun X => gridS.gridOk_yes w h X h1 h2 h3 h4)
  have HG : Hid (∀ X, Calls Try.prog 36 #[.agg #[.int .i64 w, .int .i64 h]] X (Nm (gpsZ w h) X)) := fun X => gridS.countGaps_yes w h X h1 h2 h3 h4
  have hx := Lib.hid (mbox_new w h o W 30)
  obtain ⟨g0, g1⟩ := gps_bd h1 h2 h3 h4
  have HT : Hid (∀ z, z = 2 ^ (gpsZ w h).toNat - 1 → inB o 0 z = okB w h o) := fun z hz => by
    subst hz; unfold inB okB OkM topZ; simp [h1, h2, h3, h4]
  have HP := Lib.hid (pow_bd _ g1)
  generalize gpsZ w h = G at *
  generalize okB w h o = v at *
  go_enter Try.func57, Try.ntmps57
  go_wp2_with fail
  go_region_held3 (fun w' => w'.cell? ⟨W.heap.size, 0, none⟩ = some (.int .i64 w) ∧ w'.cell? ⟨W.heap.size, 1, none⟩ = some (.int .i64 h) ∧ w'.cell? ⟨W.heap.size, 2, none⟩ = some (.int .i64 o)) (go_keep)
    (first | (go_at_call 34; refine (HO.out _).mono ?_; rintro e w1 ⟨rfl, hb⟩; have hx1 := Lib.hid (mbox_after hb hx.out); obtain ⟨c0, c1, c2⟩ := hx1.out.1) | (go_at_call 36; refine (HG.out _).mono ?_; rintro e w2 ⟨rfl, hb2⟩; obtain ⟨c0', c1', c2'⟩ := (mbox_after hb2 hx1.out).1) | (go_at_call 55; refine (in_b _ _ _ _).mono ?_; rintro e w3 ⟨rfl, rfl⟩))
  all_goals
    go_wp2_with fail
    go_ret
    exact HK.out _ _ (HT.out _ (by have := HP.out; rw [IntWalk.i64_in (2 ^ G.toNat) (by omega), IntWalk.i64_in _ (by omega)])) (by repeat (first | exact Below.refl _ _ | refine below_call ?_ hb2 | refine below_call ?_ hb | refine Below.drew ?_ | refine Below.alloc ?_ (by simp) _))

theorem ok_any (w h o : Int) (W : World) :
    Calls Try.prog 57 #[.agg #[.int .i64 w, .int .i64 h, .int .i64 o]] W (Bl (okB w h o) W) := by
  by_cases hn : 1 ≤ w ∧ w ≤ 4 ∧ 1 ≤ h ∧ h ≤ 4
  · obtain ⟨h1, h2, h3, h4⟩ := hn
    exact ok_good w h o W h1 h2 h3 h4
  · have : okB w h o = false := by unfold okB OkM; simp only [hn, false_and, decide_false]
    rw [this]; exact ok_bad w h o W hn

end Go.Proofs.Ythakbjdkcdppjaa.mazeS

/- The contracts of the model's step and count of passages. -/
namespace Go.Proofs.Ythakbjdkcdppjaa.mazeS
open Go.ChangeShapes Go.WideShapes Go.ChangeAt Go.RowKit
open draw gridP gridC bitP mazeP mazeC
set_option linter.unusedVariables false

/-- At the head of a round: k gaps are counted. -/
def CpRel (W : World) (b : Nat) (w h o : Int) (u3 u4 : Value) (wr : World) : Prop :=
  ∃ k : Nat, (k : Int) ≤ gpsZ w h ∧ u4 = .int .i64 k ∧ u3 = .int .i64 ((pcN o.toNat k : Nat) : Int) ∧ Below W.heap.size W wr ∧ MBox b w h o wr
theorem cp_next {W wr : World} {b : Nat} {w h o : Int} {k : Nat} {c : Int} (hk : (k : Int) < gpsZ w h) (hc : c = ((pcN o.toNat (k + 1) : Nat) : Int)) (hb : Below W.heap.size W wr) (hx : MBox b w h o wr) : CpRel W b w h o (.int .i64 c) (.int .i64 ((k : Int) + 1)) wr :=
  ⟨k + 1, by omega, by go_num, by rw [hc], hb, hx⟩
theorem bt_pc {o : Int} (o0 : 0 ≤ o) (k : Nat) : (btB o k = true → ((pcN o.toNat k : Nat) : Int) + 1 = ((pcN o.toNat (k + 1) : Nat) : Int)) ∧ (btB o k = false → ((pcN o.toNat k : Nat) : Int) = ((pcN o.toNat (k + 1) : Nat) : Int)) := by
  obtain ⟨n, rfl⟩ := Int.eq_ofNat_of_zero_le o0
  have hz : bitZ (n : Int) (k : Int) = ((n / 2 ^ k % 2 : Nat) : Int) := by unfold bitZ; simp
  have hm : n / 2 ^ k % 2 < 2 := Nat.mod_lt _ (by decide)
  have hs : pcN n (k + 1) = pcN n k + n / 2 ^ k % 2 := rfl
  simp only [Int.toNat_natCast]
  unfold btB
  rw [hz, hs]
  refine ⟨fun h => ?_, fun h => ?_⟩
  · have := of_decide_eq_true h; omega
  · have := of_decide_eq_false h; omega

end Go.Proofs.Ythakbjdkcdppjaa.mazeS

/- The contract of the model's directions in which a passage leads on. -/
namespace Go.Proofs.Ythakbjdkcdppjaa.mazeS
open Go.ChangeShapes Go.WideShapes Go.ChangeAt Go.RowKit
open draw gridP gridC bitP mazeP mazeC mazeM intsP mazeV
set_option linter.unusedVariables false

theorem own_zero (W : World) (o : Obj) : ((W.alloc o).alloc (.cells #[] 3)).ownsRow (W.heap.size + 1) 3 1 (.slice (some ⟨W.heap.size + 1, 0, none⟩) 0 0) 0 [] := by
  have := World.ownsRow_lit (base := W.heap.size + 1) (e := 3) (size := 1) (W.alloc o) #[] 0 (by simp) (by decide) rfl
  simpa using this

end Go.Proofs.Ythakbjdkcdppjaa.mazeS

/- The contracts of the model's functions that answer a maze. -/
namespace Go.Proofs.Ythakbjdkcdppjaa.mazeS
open Go.ChangeShapes Go.WideShapes Go.ChangeAt Go.RowKit
open draw gridP gridC bitP mazeP mazeC mazeM
set_option linter.unusedVariables false

theorem fullMaze_no (w h : Int) (W : World) (hn : ¬ (1 ≤ w ∧ w ≤ 4 ∧ 1 ≤ h ∧ h ≤ 4)) :
    Calls Try.prog 42 #[.agg #[.int .i64 w, .int .i64 h]] W (Mz 0 0 0 W) := by
  have HK := @Lib.hid _ (fun w' b => @mz_mk 0 0 0 W w' b)
  have HB := Lib.hid (below_two W)
  have HO : Hid (∀ X, Calls Try.prog 34 #[.agg #[.int .i64 w, .int .i64 h]] X (Bl false X)) := fun X => gridS.gridOk_no w h X hn
  clear hn
  go_enter Try.func42, Try.ntmps42
  go_wp2_with fail
  refine (HO.out _).mono ?_
  rintro e w1 ⟨rfl, hb⟩
  have hbl1 := Lib.hid (below_call (HB.out _ _) hb)
  obtain ⟨⟨c0, c1, c2⟩, f0, f1, f2⟩ := mres hb rfl
  clear hb
  go_wp2_with fail
  refine bodyPost_ret (v := .agg #[.int .i64 0, .int .i64 0, .int .i64 0]) (by simp [results, Try.results42, go_sem, c0, c1, c2]) rfl (HK.out _ ?_)
  repeat (first | exact hbl1.out | refine Below.setCell ?_ (by simp) _)

theorem fullMaze_yes (w h : Int) (W : World) (h1 : 1 ≤ w) (h2 : w ≤ 4) (h3 : 1 ≤ h) (h4 : h ≤ 4) :
    Calls Try.prog 42 #[.agg #[.int .i64 w, .int .i64 h]] W (Mz w h (topZ w h) W) := by
  have HK := @Lib.hid _ (fun w' b => @mz_mk w h (topZ w h) W w' b)
  have HB := Lib.hid (below_two W)
  have HO : Hid (∀ X, Calls Try.prog 34 #[.agg #[.int .i64 w, .int .i64 h]] X (Bl true X)) := fun X => gridS.gridOk_yes w h X h1 h2 h3 h4
  have HA : Hid (∀ X, Calls Try.prog 36 #[.agg #[.int .i64 w, .int .i64 h]] X (Nm (gpsZ w h) X)) := fun X => gridS.countGaps_yes w h X h1 h2 h3 h4
  obtain ⟨q0, q1⟩ := gps_bd h1 h2 h3 h4
  have hpw := pow_bd _ q1
  have hT : topZ w h = IntKind.i64.wrap (IntKind.i64.wrap (2 ^ (gpsZ w h).toNat) - 1) := by
    rw [IntWalk.i64_in (2 ^ (gpsZ w h).toNat) (by omega), IntWalk.i64_in _ (by omega)]; rfl
  rw [hT] at HK ⊢
  clear hT hpw
  generalize gpsZ w h = G at *
  go_enter Try.func42, Try.ntmps42
  go_wp2_with fail
  refine (HO.out _).mono ?_
  rintro e w1 ⟨rfl, hb⟩
  have hbl1 := Lib.hid (below_call (HB.out _ _) hb)
  have hx := Lib.hid ((box_two w h W _ _).call hb)
  have hr := Lib.hid (mres_block hb rfl)
  clear hb
  obtain ⟨c0, c1⟩ := hx.out.1
  go_wp2_with fail
  first
    | go_region_with ((go_at_call 36; refine (HA.out _).mono ?_; rintro e w2 ⟨rfl, hb2⟩; have hbl2 := Lib.hid (below_call (below_dr hbl1.out) hb2); obtain ⟨d0, d1⟩ := (box_after' hb2 hx.out); obtain ⟨⟨e0, e1, e2⟩, f0, f1, f2⟩ := mres2 hb2 hr.out))
    | fail
  all_goals
    go_wp2_with fail
    refine bodyPost_ret (v := .agg #[.int .i64 w, .int .i64 h,   .int .i64 _]) (by simp [results, Try.results42, go_sem, e0, e1, e2]) rfl (HK.out _ ?_)
    repeat (first | exact hbl2.out | refine Below.setCell ?_ (by simp) _)

theorem setGap_no (w h o g : Int) (b : Bool) (W : World) (hv : okB w h o = false) :
    Calls Try.prog 39 #[.agg #[.int .i64 w, .int .i64 h, .int .i64 o], .int .i64 g, .bool b] W (MzB w h o false W) := by
  have HK := @Lib.hid _ (fun w' c => @mzb_mk w h o o false false W w' rfl rfl c)
  have HB := Lib.hid (below_two W)
  have HO := Lib.hid (fun X => ok_any w h o X)
  rw [hv] at HO
  clear hv
  go_enter Try.func39, Try.ntmps39
  go_wp2_with fail
  refine (HO.out _).mono ?_
  rintro e w1 ⟨rfl, hb⟩
  have hbl1 := Lib.hid (below_call (HB.out _ _) hb)
  obtain ⟨⟨c0, c1, c2⟩, -⟩ := (mbox_two w h o W _ _).call hb
  obtain ⟨⟨e0, e1, e2⟩, f0, f1, f2⟩ := mres hb rfl
  clear hb
  go_wp2_with fail
  refine bodyPost_ret (v := .tuple #[.agg #[.int .i64 w, .int .i64 h, .int .i64 o], .bool false]) (by simp [results, Try.results39, go_sem, e0, e1, e2]) rfl (HK.out _ ?_)
  repeat (first | exact hbl1.out | refine Below.setCell ?_ (by simp) _)

theorem setGap_out (w h o g : Int) (b : Bool) (W : World) (hv : OkM w h o) (hg : ¬ (0 ≤ g ∧ g < gpsZ w h)) :
    Calls Try.prog 39 #[.agg #[.int .i64 w, .int .i64 h, .int .i64 o], .int .i64 g, .bool b] W (MzB w h o false W) := by
  have HK := @Lib.hid _ (fun w' c => @mzb_mk w h o o false false W w' rfl rfl c)
  have HB := Lib.hid (below_two W)
  have HO := Lib.hid (fun X => ok_any w h o X)
  rw [show okB w h o = true from decide_eq_true hv] at HO
  have HG : Hid (∀ X, Calls Try.prog 36 #[.agg #[.int .i64 w, .int .i64 h]] X (Nm (gpsZ w h) X)) := fun X => gridS.countGaps_yes w h X hv.1.1 hv.1.2.1 hv.1.2.2.1 hv.1.2.2.2
  obtain ⟨q0, q1⟩ := gps_bd hv.1.1 hv.1.2.1 hv.1.2.2.1 hv.1.2.2.2
  have HI : Hid (∀ X, Calls Try.prog 55 #[.int .i64 g, .int .i64 0, .int .i64 (gpsZ w h - 1)] X fun e w' => e = .returned (.bool false) ∧ X = w') := fun X => gridS.in_no g 0 _ X (by omega)
  clear hv hg
  generalize gpsZ w h = G at *
  go_enter Try.func39, Try.ntmps39
  go_wp2_with fail
  refine (HO.out _).mono ?_
  rintro e w1 ⟨rfl, hb⟩
  have hbl1 := Lib.hid (below_call (HB.out _ _) hb)
  have hxc1 := Lib.hid ((mbox_two w h o W _ _).call hb)
  have hr1 := Lib.hid (mres_block hb rfl)
  obtain ⟨c0, c1, c2⟩ := hxc1.out.1
  clear hb
  go_wp2_with fail
  refine (HG.out _).mono ?_
  rintro e w2 ⟨rfl, hb⟩
  have hbl2 := Lib.hid (below_call hbl1.out hb)
  have hxc2 := Lib.hid (hxc1.out.call hb)
  obtain ⟨⟨e0, e1, e2⟩, f0, f1, f2⟩ := mres2 hb hr1.out
  clear hb c0 c1 c2
  obtain ⟨c0, c1, c2⟩ := hxc2.out.1
  go_wp2_with fail
  refine (HI.out _).mono ?_
  rintro e w' ⟨rfl, rfl⟩
  go_wp2_with fail
  refine bodyPost_ret (v := .tuple #[.agg #[.int .i64 w, .int .i64 h, .int .i64 o], .bool false]) (by simp [results, Try.results39, go_sem, e0, e1, e2]) rfl (HK.out _ ?_)
  repeat (first | exact hbl2.out | refine Below.setCell ?_ (by simp) _)

theorem setGap_in (w h o g : Int) (b : Bool) (W : World) (hv : OkM w h o) (hg : 0 ≤ g ∧ g < gpsZ w h) :
    Calls Try.prog 39 #[.agg #[.int .i64 w, .int .i64 h, .int .i64 o], .int .i64 g, .bool b] W (MzB w h (sgZ w h o g b) true W) := by
  have HB := Lib.hid (below_two W)
  have HO := Lib.hid (fun X => ok_any w h o X)
  rw [show okB w h o = true from decide_eq_true hv] at HO
  have HG : Hid (∀ X, Calls Try.prog 36 #[.agg #[.int .i64 w, .int .i64 h]] X (Nm (gpsZ w h) X)) := fun X => gridS.countGaps_yes w h X hv.1.1 hv.1.2.1 hv.1.2.2.1 hv.1.2.2.2
  obtain ⟨q0, q1⟩ := gps_bd hv.1.1 hv.1.2.1 hv.1.2.2.1 hv.1.2.2.2
  have HI : Hid (∀ X, Calls Try.prog 55 #[.int .i64 g, .int .i64 0, .int .i64 (gpsZ w h - 1)] X fun e w' => e = .returned (.bool true) ∧ X = w') := fun X => gridS.in_yes g 0 _ X hg.1 (by omega)
  have hlt := hv.lt
  have g0 := hg.1
  have g1 : g < 24 := by omega
  have hsg : sgB w h o g = true := decide_eq_true ⟨hv, hg⟩
  have hpw := pow_bd g (by omega)
  have HT := Lib.hid (fun X => bit_b o g X hlt.1 hlt.2 g0 g1)
  have hbd := bit_bd o g
  have hxr : bits .xor .i64 o (wrap64 (2 ^ g.toNat)) = if btB o g = true then o - 2 ^ g.toNat else o + 2 ^ g.toNat := by
    rw [IntWalk.wrap64_in _ (by omega), xor_is hlt.1 hlt.2 g0 g1]; unfold btB; simp
  have hsz : sgZ w h o g b = if btB o g = b then o else if btB o g = true then o - 2 ^ g.toNat else o + 2 ^ g.toNat := by
    unfold sgZ; rw [if_pos hsg]
    by_cases h1 : bitZ o g = 1
    · have e : btB o g = true := decide_eq_true h1
      rw [if_pos h1, e]; cases b <;> simp
    · have e : btB o g = false := decide_eq_false h1
      rw [if_neg h1, e]; cases b <;> simp
  clear hsg hpw hbd
  by_cases hsame : btB o g = b
  · have hz : o = sgZ w h o g b := by rw [hsz, if_pos hsame]
    have HK := @Lib.hid _ (fun w' c => @mzb_mk w h _ _ true true W w' hz rfl c)
    rw [hsame] at HT
    have hne : (b != b) = false := by cases b <;> rfl
    clear hv hg hlt hz hsz hxr hsame
    generalize gpsZ w h = G at *
    go_enter Try.func39, Try.ntmps39
    go_wp2_with fail
    refine (HO.out _).mono ?_
    rintro e w1 ⟨rfl, hb⟩
    have hbl1 := Lib.hid (below_call (HB.out _ _) hb)
    have hxc1 := Lib.hid (Row3.call (row3_two w h o W _ _) hb)
    have hr1 := Lib.hid (mres_block hb rfl)
    obtain ⟨⟨c0, c1, c2⟩, -⟩ := row3_cells hxc1.out
    clear hb
    go_wp2_with fail
    refine (HG.out _).mono ?_
    rintro e w2 ⟨rfl, hb⟩
    have hbl2 := Lib.hid (below_call hbl1.out hb)
    have hxc2 := Lib.hid (Row3.call hxc1.out hb)
    obtain ⟨⟨e0, e1, e2⟩, f0, f1, f2⟩ := mres2 hb hr1.out
    clear hb c0 c1 c2
    obtain ⟨⟨c0, c1, c2⟩, k0, k1, k2⟩ := row3_cells hxc2.out
    go_wp2_with fail
    refine (HI.out _).mono ?_
    rintro e w' ⟨rfl, rfl⟩
    go_wp2_with fail
    refine (HT.out _).mono ?_
    rintro e w' ⟨rfl, rfl⟩
    go_wp2_with fail
    refine bodyPost_ret (v := .tuple #[.agg #[.int .i64 w, .int .i64 h, .int .i64 o], .bool true]) (by simp [results, Try.results39, go_sem, e0, e1, e2]) rfl (HK.out _ ?_)
    repeat (first | exact hbl2.out | refine Below.drew ?_ | refine Below.setCell ?_ (by simp) _)
  · have hz : bits .xor .i64 o (wrap64 (2 ^ g.toNat)) = sgZ w h o g b := by rw [hsz, if_neg hsame, hxr]
    have HK := @Lib.hid _ (fun w' c => @mzb_mk w h _ _ true true W w' hz rfl c)
    have hbt : btB o g = !b := by revert hsame; cases btB o g <;> cases b <;> simp
    rw [hbt] at HT
    clear hv hg hlt hz hsz hxr hsame hbt
    generalize gpsZ w h = G at *
    have hne : ((!b) != b) = true := by cases b <;> rfl
    go_enter Try.func39, Try.ntmps39
    go_wp2_with fail
    refine (HO.out _).mono ?_
    rintro e w1 ⟨rfl, hb⟩
    have hbl1 := Lib.hid (below_call (HB.out _ _) hb)
    have hxc1 := Lib.hid (Row3.call (row3_two w h o W _ _) hb)
    have hr1 := Lib.hid (mres_block hb rfl)
    obtain ⟨⟨c0, c1, c2⟩, -⟩ := row3_cells hxc1.out
    clear hb
    go_wp2_with fail
    refine (HG.out _).mono ?_
    rintro e w2 ⟨rfl, hb⟩
    have hbl2 := Lib.hid (below_call hbl1.out hb)
    have hxc2 := Lib.hid (Row3.call hxc1.out hb)
    obtain ⟨⟨e0, e1, e2⟩, f0, f1, f2⟩ := mres2 hb hr1.out
    clear hb c0 c1 c2
    obtain ⟨⟨c0, c1, c2⟩, k0, k1, k2⟩ := row3_cells hxc2.out
    go_wp2_with fail
    refine (HI.out _).mono ?_
    rintro e w' ⟨rfl, rfl⟩
    go_wp2_with fail
    refine (HT.out _).mono ?_
    rintro e w' ⟨rfl, rfl⟩
    go_wp2_with fail
    go_region
    all_goals
      go_wp2_with fail
      refine bodyPost_ret (v := .tuple #[.agg #[.int .i64 w, .int .i64 h, .int .i64 (bits .xor .i64 o (wrap64 (2 ^ g.toNat)))], .bool true]) (by simp [results, Try.results39, go_sem, e0, e1, e2]) rfl (HK.out _ ?_)
      repeat (first | exact hbl2.out | refine Below.drew ?_ | refine Below.setCell ?_ (by simp) _)

theorem setGap_any (w h o g : Int) (b : Bool) (W : World) :
    Calls Try.prog 39 #[.agg #[.int .i64 w, .int .i64 h, .int .i64 o], .int .i64 g, .bool b] W (MzB w h (sgZ w h o g b) (sgB w h o g) W) := by
  by_cases hs : OkM w h o ∧ 0 ≤ g ∧ g < gpsZ w h
  · rw [show sgB w h o g = true from decide_eq_true hs]
    exact setGap_in w h o g b W hs.1 hs.2
  · have h1 : sgB w h o g = false := decide_eq_false hs
    have h2 : sgZ w h o g b = o := by unfold sgZ; rw [h1]; simp
    rw [h1, h2]
    by_cases hv : OkM w h o
    · exact setGap_out w h o g b W hv (fun e => hs ⟨hv, e⟩)
    · exact setGap_no w h o g b W (decide_eq_false hv)

theorem fullMaze_any (w h : Int) (W : World) :
    Calls Try.prog 42 #[.agg #[.int .i64 w, .int .i64 h]] W (Mz (fmX w h) (fmY w h) (fmO w h) W) := by
  by_cases hn : 1 ≤ w ∧ w ≤ 4 ∧ 1 ≤ h ∧ h ≤ 4
  · unfold fmX fmY fmO; rw [if_pos hn, if_pos hn, if_pos hn]
    exact fullMaze_yes w h W hn.1 hn.2.1 hn.2.2.1 hn.2.2.2
  · unfold fmX fmY fmO; rw [if_neg hn, if_neg hn, if_neg hn]
    exact fullMaze_no w h W hn
end Go.Proofs.Ythakbjdkcdppjaa.mazeS
