/- The contracts of the model's functions on mazes that answer a number or a truth value. -/
import Derived.Test.YtgocbnnhhpmndaaMzB
import Derived.Test.YtgocbnnhhpmndaaModG

namespace Go.Proofs.Ytgocbnnhhpmndaa.mazeS
open Go.ChangeShapes Go.WideShapes Go.ChangeAt Go.RowKit
open draw gridP gridC bitP mazeP mazeC
set_option linter.unusedVariables false

/-- Whether a number is in a range. -/
def inB (x a b : Int) : Bool := decide (a ≤ x ∧ x ≤ b)
theorem in_b (x a b : Int) (W : World) :
    Calls Try.prog 71 #[.int .i64 x, .int .i64 a, .int .i64 b] W fun e w' => e = .returned (.bool (inB x a b)) ∧ W = w' := by
  by_cases h : a ≤ x ∧ x ≤ b
  · rw [show inB x a b = true from decide_eq_true h]; exact gridS.in_yes x a b W h.1 h.2
  · rw [show inB x a b = false from decide_eq_false h]; exact gridS.in_no x a b W h

/-- Whether a place is 1. -/
def btB (o g : Int) : Bool := decide (bitZ o g = 1)

theorem bit_b (o g : Int) (W : World) (o0 : 0 ≤ o) (o1 : o < 16777216) (g0 : 0 ≤ g) (g1 : g < 24) :
    Calls Try.prog 77 #[.int .i64 o, .int .i64 g] W fun e w' => e = .returned (.bool (btB o g)) ∧ W = w' := by
  have hp : (bits .and .i64 (o / 2 ^ g.toNat) 1 == 1) = btB o g := by
    rw [bit_is o0 o1 g0]; unfold btB; rw [Bool.eq_iff_iff]; simp
  have HP := Lib.hid hp
  clear hp
  go_enter Try.func77, Try.ntmps77
  go_wp2_with fail
  go_ret
  exact ⟨by rw [← HP.out]; rfl, rfl⟩

set_option maxHeartbeats 1000000 in
theorem ok_bad (w h o : Int) (W : World) (hn : ¬ (1 ≤ w ∧ w ≤ 4 ∧ 1 ≤ h ∧ h ≤ 4)) :
    Calls Try.prog 70 #[.agg #[.int .i64 w, .int .i64 h, .int .i64 o]] W (Bl false W) := by
  have HK := @Lib.hid _ (fun w' b => @bl_mk false false W w' rfl b)
  have HO := Lib.hid (fun X => gridS.gridOk_no w h X hn)
  have hx := Lib.hid (mbox_new w h o W 30)
  clear hn
  go_enter Try.func70, Try.ntmps70
  go_wp2_with fail
  first
    | go_region_with ((go_at_call 41; refine (HO.out _).mono ?_; rintro e w1 ⟨rfl, hb⟩; obtain ⟨c0, c1, c2⟩ := (mbox_after hb hx.out).1))
    | fail
  all_goals
    go_wp2_with fail
    go_ret
    exact HK.out _ (by refine below_call ?_ hb; repeat (first | exact Below.refl _ _ | refine Below.drew ?_ | refine Below.alloc ?_ (by simp) _))

theorem ok_good (w h o : Int) (W : World) (h1 : 1 ≤ w) (h2 : w ≤ 4) (h3 : 1 ≤ h) (h4 : h ≤ 4) :
    Calls Try.prog 70 #[.agg #[.int .i64 w, .int .i64 h, .int .i64 o]] W (Bl (okB w h o) W) := by
  have HK := @Lib.hid _ (fun w' a (e : a = okB w h o) b => @bl_mk a _ W w' e b)
  have HO := Lib.hid (fun X => gridS.gridOk_yes w h X h1 h2 h3 h4)
  have HG : Hid (∀ X, Calls Try.prog 42 #[.agg #[.int .i64 w, .int .i64 h]] X (Nm (gpsZ w h) X)) := fun X => gridS.countGaps_yes w h X h1 h2 h3 h4
  have hx := Lib.hid (mbox_new w h o W 30)
  obtain ⟨g0, g1⟩ := gps_bd h1 h2 h3 h4
  have HT : Hid (∀ z, z = 2 ^ (gpsZ w h).toNat - 1 → inB o 0 z = okB w h o) := fun z hz => by
    subst hz; unfold inB okB OkM topZ; simp [h1, h2, h3, h4]
  have HP := Lib.hid (pow_bd _ g1)
  generalize gpsZ w h = G at *
  generalize okB w h o = v at *
  go_enter Try.func70, Try.ntmps70
  go_wp2_with fail
  go_region_held3 (fun w' => w'.cell? ⟨W.heap.size, 0, none⟩ = some (.int .i64 w) ∧ w'.cell? ⟨W.heap.size, 1, none⟩ = some (.int .i64 h) ∧ w'.cell? ⟨W.heap.size, 2, none⟩ = some (.int .i64 o)) (go_keep)
    (first | (go_at_call 41; refine (HO.out _).mono ?_; rintro e w1 ⟨rfl, hb⟩; have hx1 := Lib.hid (mbox_after hb hx.out); obtain ⟨c0, c1, c2⟩ := hx1.out.1) | (go_at_call 42; refine (HG.out _).mono ?_; rintro e w2 ⟨rfl, hb2⟩; obtain ⟨c0', c1', c2'⟩ := (mbox_after hb2 hx1.out).1) | (go_at_call 71; refine (in_b _ _ _ _).mono ?_; rintro e w3 ⟨rfl, rfl⟩))
  all_goals
    go_wp2_with fail
    go_ret
    exact HK.out _ _ (HT.out _ (by have := HP.out; rw [IntWalk.i64_in (2 ^ G.toNat) (by omega), IntWalk.i64_in _ (by omega)])) (by repeat (first | exact Below.refl _ _ | refine below_call ?_ hb2 | refine below_call ?_ hb | refine Below.drew ?_ | refine Below.alloc ?_ (by simp) _))

theorem ok_any (w h o : Int) (W : World) :
    Calls Try.prog 70 #[.agg #[.int .i64 w, .int .i64 h, .int .i64 o]] W (Bl (okB w h o) W) := by
  by_cases hn : 1 ≤ w ∧ w ≤ 4 ∧ 1 ≤ h ∧ h ≤ 4
  · obtain ⟨h1, h2, h3, h4⟩ := hn
    exact ok_good w h o W h1 h2 h3 h4
  · have : okB w h o = false := by unfold okB OkM; simp only [hn, false_and, decide_false]
    rw [this]; exact ok_bad w h o W hn

theorem isPassage_bad (w h o g : Int) (W : World) (hv : okB w h o = false) :
    Calls Try.prog 72 #[.agg #[.int .i64 w, .int .i64 h, .int .i64 o], .int .i64 g] W (Bl (psB w h o g) W) := by
  have hp : false = psB w h o g := by
    unfold psB; unfold okB at hv
    simp only [decide_eq_false_iff_not] at hv
    symm; rw [decide_eq_false_iff_not]; exact fun e => hv e.1
  have HK := @Lib.hid _ (fun w' b => @bl_mk false (psB w h o g) W w' hp b)
  have HB := Lib.hid below_box
  have HO := Lib.hid (fun X => ok_any w h o X)
  rw [hv] at HO
  clear hv hp
  go_enter Try.func72, Try.ntmps72
  go_wp2_with fail
  refine (HO.out _).mono ?_
  rintro e w1 ⟨rfl, hb⟩
  have hbl1 := Lib.hid (below_call (HB.out _ _) hb)
  clear hb
  go_wp2_with fail
  go_ret
  exact HK.out _ hbl1.out

theorem isPassage_on (w h o g : Int) (W : World) (hv : OkM w h o) :
    Calls Try.prog 72 #[.agg #[.int .i64 w, .int .i64 h, .int .i64 o], .int .i64 g] W (Bl (psB w h o g) W) := by
  have HB := Lib.hid below_box
  have HO := Lib.hid (fun X => ok_any w h o X)
  rw [show okB w h o = true from decide_eq_true hv] at HO
  have hv' := hv
  obtain ⟨⟨h1, h2, h3, h4⟩, -, -⟩ := hv'
  have HG : Hid (∀ X, Calls Try.prog 42 #[.agg #[.int .i64 w, .int .i64 h]] X (Nm (gpsZ w h) X)) := fun X => gridS.countGaps_yes w h X h1 h2 h3 h4
  obtain ⟨q0, q1⟩ := gps_bd h1 h2 h3 h4
  by_cases hg : 0 ≤ g ∧ g < gpsZ w h
  · have hlt := hv.lt
    have hp : btB o g = psB w h o g := by
      unfold btB psB; rw [Bool.eq_iff_iff]; simp [hv, hg.1, hg.2]
    have HK := @Lib.hid _ (fun w' b => @bl_mk _ (psB w h o g) W w' hp b)
    have HI : Hid (∀ X, Calls Try.prog 71 #[.int .i64 g, .int .i64 0, .int .i64 (gpsZ w h - 1)] X fun e w' => e = .returned (.bool true) ∧ X = w') := fun X => gridS.in_yes g 0 _ X hg.1 (by omega)
    have HT := Lib.hid (fun X => bit_b o g X hlt.1 hlt.2 hg.1 (by omega))
    clear hp hg hv hlt
    generalize gpsZ w h = G at *
    go_enter Try.func72, Try.ntmps72
    go_wp2_with fail
    refine (HO.out _).mono ?_
    rintro e w1 ⟨rfl, hb⟩
    have hbl1 := Lib.hid (below_call (HB.out _ _) hb)
    have hxc1 := Lib.hid ((mbox_new w h o W _).call hb)
    clear hb
    obtain ⟨c0, c1, c2⟩ := hxc1.out.1
    go_wp2_with fail
    refine (HG.out _).mono ?_
    rintro e w2 ⟨rfl, hb⟩
    have hbl2 := Lib.hid (below_call hbl1.out hb)
    have hxc2 := Lib.hid (hxc1.out.call hb)
    clear hb hbl1  hxc1 c0 c1 c2
    obtain ⟨c0, c1, c2⟩ := hxc2.out.1
    go_wp2_with fail
    refine (HI.out _).mono ?_
    rintro e w' ⟨rfl, rfl⟩
    go_wp2_with fail
    refine (HT.out _).mono ?_
    rintro e w' ⟨rfl, rfl⟩
    go_wp2_with fail
    go_ret
    exact HK.out _ hbl2.out
  · have hp : false = psB w h o g := by
      unfold psB; symm; rw [decide_eq_false_iff_not]; exact fun e => hg ⟨e.2.1, e.2.2.1⟩
    have HK := @Lib.hid _ (fun w' b => @bl_mk false (psB w h o g) W w' hp b)
    have HI : Hid (∀ X, Calls Try.prog 71 #[.int .i64 g, .int .i64 0, .int .i64 (gpsZ w h - 1)] X fun e w' => e = .returned (.bool false) ∧ X = w') := fun X => gridS.in_no g 0 _ X (by omega)
    clear hp hg hv
    generalize gpsZ w h = G at *
    go_enter Try.func72, Try.ntmps72
    go_wp2_with fail
    refine (HO.out _).mono ?_
    rintro e w1 ⟨rfl, hb⟩
    have hbl1 := Lib.hid (below_call (HB.out _ _) hb)
    have hxc1 := Lib.hid ((mbox_new w h o W _).call hb)
    clear hb
    obtain ⟨c0, c1, c2⟩ := hxc1.out.1
    go_wp2_with fail
    refine (HG.out _).mono ?_
    rintro e w2 ⟨rfl, hb⟩
    have hbl2 := Lib.hid (below_call hbl1.out hb)
    have hxc2 := Lib.hid (hxc1.out.call hb)
    clear hb hbl1  hxc1 c0 c1 c2
    obtain ⟨c0, c1, c2⟩ := hxc2.out.1
    go_wp2_with fail
    refine (HI.out _).mono ?_
    rintro e w' ⟨rfl, rfl⟩
    go_wp2_with fail
    go_ret
    exact HK.out _ hbl2.out

theorem isPassage_any (w h o g : Int) (W : World) :
    Calls Try.prog 72 #[.agg #[.int .i64 w, .int .i64 h, .int .i64 o], .int .i64 g] W (Bl (psB w h o g) W) := by
  by_cases hv : OkM w h o
  · exact isPassage_on w h o g W hv
  · exact isPassage_bad w h o g W (decide_eq_false hv)
end Go.Proofs.Ytgocbnnhhpmndaa.mazeS

/- The contracts of the model's step and count of passages. -/
namespace Go.Proofs.Ytgocbnnhhpmndaa.mazeS
open Go.ChangeShapes Go.WideShapes Go.ChangeAt Go.RowKit
open draw gridP gridC bitP mazeP mazeC
set_option linter.unusedVariables false

set_option maxHeartbeats 1000000 in
theorem step_bad (w h o k d : Int) (W : World) (hv : okB w h o = false) :
    Calls Try.prog 40 #[.agg #[.int .i64 w, .int .i64 h, .int .i64 o], .int .i64 k, .int .i64 d] W (Nm (stZ w h o k d) W) := by
  have hp : psB w h o (gpZ w h k d) = false := by
    unfold psB; unfold okB at hv
    simp only [decide_eq_false_iff_not] at hv
    rw [decide_eq_false_iff_not]; exact fun e => hv e.1
  have hs : -1 = stZ w h o k d := by unfold stZ; rw [if_neg (by rw [hp]; decide)]
  have HK := @Lib.hid _ (fun w' b => @nm_mk _ _ W w' hs b)
  have HO := Lib.hid (fun X => ok_any w h o X)
  have hx := Lib.hid (mbox_new w h o W 30)
  rw [hv] at HO
  clear hv hp hs
  go_enter Try.func40, Try.ntmps40
  go_wp2_with fail
  first
    | go_region_with ((go_at_call 70; refine (HO.out _).mono ?_; rintro e w1 ⟨rfl, hb⟩; obtain ⟨c0, c1, c2⟩ := (mbox_after hb hx.out).1))
    | fail
  all_goals
    go_wp2_with fail
    go_ret
    exact HK.out _ (by refine below_call ?_ hb; repeat (first | exact Below.refl _ _ | refine Below.drew ?_ | refine Below.alloc ?_ (by simp) _))

set_option maxHeartbeats 1000000 in
theorem step_good (w h o k d : Int) (W : World) (hv : okB w h o = true) :
    Calls Try.prog 40 #[.agg #[.int .i64 w, .int .i64 h, .int .i64 o], .int .i64 k, .int .i64 d] W (Nm (stZ w h o k d) W) := by
  have HO := Lib.hid (fun X => ok_any w h o X)
  have HG := Lib.hid (fun X => gridS.gapAt_any w h k d X)
  have HN := Lib.hid (fun X => gridS.neighbor_any w h k d X)
  have HP := Lib.hid (fun X => isPassage_any w h o (gpZ w h k d) X)
  have hx := Lib.hid (mbox_new w h o W 30)
  rw [hv] at HO
  clear hv
  by_cases hp : psB w h o (gpZ w h k d) = true
  · have hs : nbZ w h k d = stZ w h o k d := by unfold stZ; rw [if_pos hp]
    have HK := @Lib.hid _ (fun w' b => @nm_mk _ _ W w' hs b)
    rw [hp] at HP
    clear hs hp
    generalize gpZ w h k d = g at *
    generalize nbZ w h k d = v at *
    go_enter Try.func40, Try.ntmps40
    go_wp2_with fail
    go_region_held3 (fun w' => w'.cell? ⟨W.heap.size, 0, none⟩ = some (.int .i64 w) ∧ w'.cell? ⟨W.heap.size, 1, none⟩ = some (.int .i64 h) ∧ w'.cell? ⟨W.heap.size, 2, none⟩ = some (.int .i64 o)) (go_keep)
      (first | (go_at_call 70; refine (HO.out _).mono ?_; rintro e w0 ⟨rfl, hb0⟩; have hx0 := Lib.hid (mbox_after hb0 hx.out); obtain ⟨b0, b1, b2⟩ := hx0.out.1) | (go_at_call 52; refine (HG.out _).mono ?_; rintro e w1 ⟨rfl, hb⟩; have hx1 := Lib.hid (mbox_after hb hx0.out); obtain ⟨c0, c1, c2⟩ := hx1.out.1) | (go_at_call 72; refine (HP.out _).mono ?_; rintro e w2 ⟨rfl, hb2⟩; have hx2 := Lib.hid (mbox_after hb2 hx1.out); obtain ⟨c0', c1', c2'⟩ := hx2.out.1))
    all_goals
      go_wp2_with fail
      refine (HN.out _).mono ?_
      rintro e w3 ⟨rfl, hb3⟩
      go_wp2_with fail
      go_ret
      exact HK.out _ (by repeat (first | exact Below.refl _ _ | refine below_call ?_ hb3 | refine below_call ?_ hb2 | refine below_call ?_ hb | refine below_call ?_ hb0 | refine Below.drew ?_ | refine Below.alloc ?_ (by simp) _))
  · have hp' : psB w h o (gpZ w h k d) = false := by simpa using hp
    have hs : -1 = stZ w h o k d := by unfold stZ; rw [if_neg hp]
    have HK := @Lib.hid _ (fun w' b => @nm_mk _ _ W w' hs b)
    rw [hp'] at HP
    clear hs hp hp'
    generalize gpZ w h k d = g at *
    generalize nbZ w h k d = v at *
    go_enter Try.func40, Try.ntmps40
    go_wp2_with fail
    go_region_held3 (fun w' => w'.cell? ⟨W.heap.size, 0, none⟩ = some (.int .i64 w) ∧ w'.cell? ⟨W.heap.size, 1, none⟩ = some (.int .i64 h) ∧ w'.cell? ⟨W.heap.size, 2, none⟩ = some (.int .i64 o)) (go_keep)
      (first | (go_at_call 70; refine (HO.out _).mono ?_; rintro e w0 ⟨rfl, hb0⟩; have hx0 := Lib.hid (mbox_after hb0 hx.out); obtain ⟨b0, b1, b2⟩ := hx0.out.1) | (go_at_call 52; refine (HG.out _).mono ?_; rintro e w1 ⟨rfl, hb⟩; have hx1 := Lib.hid (mbox_after hb hx0.out); obtain ⟨c0, c1, c2⟩ := hx1.out.1) | (go_at_call 72; refine (HP.out _).mono ?_; rintro e w2 ⟨rfl, hb2⟩; have hx2 := Lib.hid (mbox_after hb2 hx1.out); obtain ⟨c0', c1', c2'⟩ := hx2.out.1))
    all_goals
      go_wp2_with fail
      go_ret
      exact HK.out _ (by repeat (first | exact Below.refl _ _ | refine below_call ?_ hb2 | refine below_call ?_ hb | refine below_call ?_ hb0 | refine Below.drew ?_ | refine Below.alloc ?_ (by simp) _))

theorem step_any (w h o k d : Int) (W : World) :
    Calls Try.prog 40 #[.agg #[.int .i64 w, .int .i64 h, .int .i64 o], .int .i64 k, .int .i64 d] W (Nm (stZ w h o k d) W) := by
  by_cases hv : okB w h o = true
  · exact step_good w h o k d W hv
  · exact step_bad w h o k d W (by simpa using hv)

/-- At the head of a round: k gaps are counted. -/
def CpRel (W : World) (b : Nat) (w h o : Int) (u3 u4 : Value) (wr : World) : Prop :=
  ∃ k : Nat, (k : Int) ≤ gpsZ w h ∧ u4 = .int .i64 k ∧ u3 = .int .i64 ((pcN o.toNat k : Nat) : Int) ∧ Below W.heap.size W wr ∧ MBox b w h o wr
theorem cp_next {W wr : World} {b : Nat} {w h o : Int} {k : Nat} {c : Int} (hk : (k : Int) < gpsZ w h) (hc : c = ((pcN o.toNat (k + 1) : Nat) : Int)) (hb : Below W.heap.size W wr) (hx : MBox b w h o wr) : CpRel W b w h o (.int .i64 c) (.int .i64 ((k : Int) + 1)) wr :=
  ⟨k + 1, by omega, by go_num, by rw [hc], hb, hx⟩
theorem bt_pc {o : Int} (o0 : 0 ≤ o) (k : Nat) : (btB o k = true → ((pcN o.toNat k : Nat) : Int) + 1 = ((pcN o.toNat (k + 1) : Nat) : Int)) ∧ (btB o k = false → ((pcN o.toNat k : Nat) : Int) = ((pcN o.toNat (k + 1) : Nat) : Int)) := by
  obtain ⟨n, rfl⟩ := Int.eq_ofNat_of_zero_le o0
  have hz : bitZ (n : Int) (k : Int) = ((n / 2 ^ k % 2 : Nat) : Int) := by unfold bitZ; simp
  have hm : n / 2 ^ k % 2 < 2 := Nat.mod_lt _ (by decide)
  have hs : pcN n (k + 1) = pcN n k + n / 2 ^ k % 2 := rfl
  simp only [Int.toNat_natCast]
  unfold btB
  rw [hz, hs]
  refine ⟨fun h => ?_, fun h => ?_⟩
  · have := of_decide_eq_true h; omega
  · have := of_decide_eq_false h; omega

set_option maxRecDepth 100000 in
theorem countPassages_good (w h o : Int) (W : World) (hv : OkM w h o) :
    Calls Try.prog 79 #[.agg #[.int .i64 w, .int .i64 h, .int .i64 o]] W (Nm (cpZ w h o) W) := by
  have HO := Lib.hid (fun X => ok_any w h o X)
  rw [show okB w h o = true from decide_eq_true hv] at HO
  have hlt := hv.lt
  have hv' := hv
  obtain ⟨⟨h1, h2, h3, h4⟩, -, htop⟩ := hv'
  have HG : Hid (∀ X, Calls Try.prog 42 #[.agg #[.int .i64 w, .int .i64 h]] X (Nm (gpsZ w h) X)) := fun X => gridS.countGaps_yes w h X h1 h2 h3 h4
  obtain ⟨q0, q1⟩ := gps_bd h1 h2 h3 h4
  have hend : ((pcN o.toNat (gpsZ w h).toNat : Nat) : Int) = cpZ w h o := by
    unfold cpZ; rw [if_pos hv, pcN_top (n := o.toNat) (t := (gpsZ w h).toNat) ?_ 24 (by omega)]
    unfold topZ at htop
    have : ((2 ^ (gpsZ w h).toNat : Nat) : Int) = 2 ^ (gpsZ w h).toNat := by simp
    omega
  have HK := @Lib.hid _ (fun w' b => @nm_mk _ _ W w' hend b)
  have HB0 := Lib.hid (below_box W (.cells #[.int .i64 w, .int .i64 h, .int .i64 o] 30))
  have HX0 := Lib.hid (mbox_new w h o W 30)
  have HN := @Lib.hid _ (fun wr k c a e b d => @cp_next W wr W.heap.size w h o k c a e b d)
  clear hv htop hend
  generalize hGd : gpsZ w h = G at *
  have HGd := Lib.hid hGd
  clear hGd
  go_enter Try.func79, Try.ntmps79
  go_wp2_with fail
  go_loopw [3, 4] (fun u3 u4 wr => CpRel W W.heap.size w h o u3 u4 wr) (fun _ u4 _ => G.toNat - (intOf u4).toNat)
  case atStart => exact ⟨0, by rw [HGd.out]; omega, rfl, rfl, HB0.out, HX0.out⟩
  case round =>
    obtain ⟨k, hk, rfl, rfl, hb, hx⟩ := hrel
    rw [HGd.out] at hk
    have hbl0 := Lib.hid hb
    have hxc0 := Lib.hid hx
    obtain ⟨c0, c1, c2⟩ := hx.1
    have hle := pcN_le o.toNat k
    have BT := Lib.hid (bt_pc hlt.1 k)
    clear HB0 HX0 hb hx
    by_cases hk1 : (k : Int) < G
    · have HN' := @Lib.hid _ (fun wr c e b d => HN.out wr k c hk1 e b d)
      have HT := Lib.hid (fun X => bit_b o k X hlt.1 hlt.2 (by omega) (by omega))
      go_wp2_with fail
      refine (HG.out _).mono ?_
      rintro e w1 ⟨rfl, hb⟩
      have hbl1 := Lib.hid (below_call hbl0.out hb)
      have hxc1 := Lib.hid (hxc0.out.call hb)
      clear hb hbl0  hxc0 c0 c1 c2
      obtain ⟨c0, c1, c2⟩ := hxc1.out.1
      go_wp2_with fail
      refine (HO.out _).mono ?_
      rintro e w2 ⟨rfl, hb⟩
      have hbl2 := Lib.hid (below_call hbl1.out hb)
      have hxc2 := Lib.hid (hxc1.out.call hb)
      clear hb hbl1  hxc1 c0 c1 c2
      obtain ⟨c0, c1, c2⟩ := hxc2.out.1
      by_cases hb1 : btB o k = true
      · rw [hb1] at HT
        have hc := BT.out.1 hb1
        have HC := Lib.hid hc
        clear hc hb1 BT
        go_wp2_with fail
        refine (HT.out _).mono ?_
        rintro e w' ⟨rfl, rfl⟩
        go_wp2_with fail
        go_roundw
        case rel => exact HN'.out _ _ HC.out hbl2.out hxc2.out
        case measure => simp [intOf]; omega
      · have hb1' : btB o k = false := by simpa using hb1
        rw [hb1'] at HT
        have hc := BT.out.2 hb1'
        have HC := Lib.hid hc
        clear hc hb1 hb1' BT
        go_wp2_with fail
        refine (HT.out _).mono ?_
        rintro e w' ⟨rfl, rfl⟩
        go_wp2_with fail
        go_roundw
        case rel => exact HN'.out _ _ HC.out hbl2.out hxc2.out
        case measure => simp [intOf]; omega
    · have hk2 : k = G.toNat := by omega
      subst hk2
      go_wp2_with fail
      refine (HG.out _).mono ?_
      rintro e w1 ⟨rfl, hb⟩
      have hbl1 := Lib.hid (below_call hbl0.out hb)
      have hxc1 := Lib.hid (hxc0.out.call hb)
      clear hb hbl0  hxc0 c0 c1 c2
      obtain ⟨c0, c1, c2⟩ := hxc1.out.1
      go_wp2_with fail
      go_ret
      exact HK.out _ hbl1.out

set_option maxRecDepth 100000 in
theorem countPassages_bad (w h o : Int) (W : World) (hv : ¬ OkM w h o) :
    Calls Try.prog 79 #[.agg #[.int .i64 w, .int .i64 h, .int .i64 o]] W (Nm (cpZ w h o) W) := by
  have HO := Lib.hid (fun X => ok_any w h o X)
  rw [show okB w h o = false from decide_eq_false hv] at HO
  have hend : 0 = cpZ w h o := by unfold cpZ; rw [if_neg hv]
  have HK := @Lib.hid _ (fun w' b => @nm_mk _ _ W w' hend b)
  have HB0 := Lib.hid (below_box W (.cells #[.int .i64 w, .int .i64 h, .int .i64 o] 30))
  have HX0 := Lib.hid (mbox_new w h o W 30)
  have hgp : ∃ G : Int, 0 ≤ G ∧ G ≤ 24 ∧ ∀ X, Calls Try.prog 42 #[.agg #[.int .i64 w, .int .i64 h]] X (Nm G X) := by
    by_cases hn : 1 ≤ w ∧ w ≤ 4 ∧ 1 ≤ h ∧ h ≤ 4
    · exact ⟨gpsZ w h, (gps_bd hn.1 hn.2.1 hn.2.2.1 hn.2.2.2).1, (gps_bd hn.1 hn.2.1 hn.2.2.1 hn.2.2.2).2, fun X => gridS.countGaps_yes w h X hn.1 hn.2.1 hn.2.2.1 hn.2.2.2⟩
    · exact ⟨0, by omega, by omega, fun X => gridS.countGaps_no w h X hn⟩
  obtain ⟨G, q0, q1, hG⟩ := hgp
  have HG := Lib.hid hG
  clear hv hend hG
  go_enter Try.func79, Try.ntmps79
  go_wp2_with fail
  go_loopw [3, 4] (fun u3 u4 wr => u3 = .int .i64 0 ∧ u4 = .int .i64 0 ∧ Below W.heap.size W wr ∧ MBox W.heap.size w h o wr) (fun _ _ _ => 0)
  case atStart => exact ⟨rfl, rfl, HB0.out, HX0.out⟩
  case round =>
    obtain ⟨rfl, rfl, hb, hx⟩ := hrel
    have hbl0 := Lib.hid hb
    have hxc0 := Lib.hid hx
    obtain ⟨c0, c1, c2⟩ := hx.1
    clear HB0 HX0 hb hx
    by_cases hk1 : 0 < G
    · skip
      go_wp2_with fail
      refine (HG.out _).mono ?_
      rintro e w1 ⟨rfl, hb⟩
      have hbl1 := Lib.hid (below_call hbl0.out hb)
      have hxc1 := Lib.hid (hxc0.out.call hb)
      clear hb hbl0  hxc0 c0 c1 c2
      obtain ⟨c0, c1, c2⟩ := hxc1.out.1
      go_wp2_with fail
      refine (HO.out _).mono ?_
      rintro e w2 ⟨rfl, hb⟩
      have hbl2 := Lib.hid (below_call hbl1.out hb)
      have hxc2 := Lib.hid (hxc1.out.call hb)
      clear hb hbl1  hxc1 c0 c1 c2
      obtain ⟨c0, c1, c2⟩ := hxc2.out.1
      go_wp2_with fail
      go_ret
      exact HK.out _ hbl2.out
    · have hk2 : decide (0 < G) = false := by simpa using hk1
      go_wp2_with fail
      refine (HG.out _).mono ?_
      rintro e w1 ⟨rfl, hb⟩
      have hbl1 := Lib.hid (below_call hbl0.out hb)
      have hxc1 := Lib.hid (hxc0.out.call hb)
      clear hb hbl0  hxc0 c0 c1 c2
      obtain ⟨c0, c1, c2⟩ := hxc1.out.1
      go_wp2_with fail
      go_ret
      exact HK.out _ hbl1.out

theorem countPassages_any (w h o : Int) (W : World) :
    Calls Try.prog 79 #[.agg #[.int .i64 w, .int .i64 h, .int .i64 o]] W (Nm (cpZ w h o) W) := by
  by_cases hv : OkM w h o
  · exact countPassages_good w h o W hv
  · exact countPassages_bad w h o W hv
end Go.Proofs.Ytgocbnnhhpmndaa.mazeS

/- The contract of the model's directions in which a passage leads on. -/
namespace Go.Proofs.Ytgocbnnhhpmndaa.mazeS
open Go.ChangeShapes Go.WideShapes Go.ChangeAt Go.RowKit
open draw gridP gridC bitP mazeP mazeC mazeM intsP mazeV
set_option linter.unusedVariables false

theorem own_zero (W : World) (o : Obj) : ((W.alloc o).alloc (.cells #[] 3)).ownsRow (W.heap.size + 1) 3 1 (.slice (some ⟨W.heap.size + 1, 0, none⟩) 0 0) 0 [] := by
  have := World.ownsRow_lit (base := W.heap.size + 1) (e := 3) (size := 1) (W.alloc o) #[] 0 (by simp) (by decide) rfl
  simpa using this

set_option maxRecDepth 100000 in
theorem waysFrom_any (w h o k : Int) (W : World) :
    Calls Try.prog 57 #[.agg #[.int .i64 w, .int .i64 h, .int .i64 o], .int .i64 k] W (Ints (wlZ w h o k) W) := by
  have HK := @Lib.hid _ (fun w' v n base => @ints_mk (wlZ w h o k) W w' v n base)
  obtain ⟨i0, hi0, hz0, hz1, hz2⟩ := info_parts info_int
  have HN0 := Lib.hid (own_zero W (.cells #[.int .i64 w, .int .i64 h, .int .i64 o] 30))
  have HB0 := Lib.hid (below_two W (.cells #[.int .i64 w, .int .i64 h, .int .i64 o] 30))
  have HX0 := Lib.hid (mbox_two w h o W 30)
  go_enter Try.func57, Try.ntmps57
  go_wp2_with fail
  go_loopw [5, 6] (fun u5 u6 wr => WRel W W.heap.size w h o k u5 u6 wr) (fun _ u6 _ => 4 - (intOf u6).toNat)
  case atStart => exact ⟨0, by omega, rfl, HN0.out, HB0.out _, HX0.out _⟩
  case round =>
    obtain ⟨d, hd, rfl, hown, hb, hx⟩ := hrel
    obtain ⟨A5, c5, rfl⟩ := own_form hown
    have hbl0 := Lib.hid hb
    have hxc0 := Lib.hid hx
    have HO := Lib.hid hown
    have hlen := wlN_len w h o k d
    obtain ⟨c0, c1, c2⟩ := hx.1
    clear HN0 HB0 HX0 hb hx hown
    by_cases hd4 : d < 4
    · have HS : Hid (∀ X, Calls Try.prog 40 #[.agg #[.int .i64 w, .int .i64 h, .int .i64 o], .int .i64 k, .int .i64 d] X (Nm (stZ w h o k d) X)) := fun X => step_any w h o k d X
      have hge := st_ge w h o k d
      by_cases hs : 0 ≤ stZ w h o k d
      · have HA := @Lib.hid _ (fun w2 w3 gg cap v ob a b c e f => @w_add W w2 w3 W.heap.size w h o k d gg cap v ob hd4 hs a b c (Nat.le_refl _) e f)
        have hne : decide (0 ≤ stZ w h o k d) = true := by simpa using hs
        have hsz := hbl0.out.size
        clear hs hge
        generalize stZ w h o k d = s at *
        go_wp2_with fail
        refine (HS.out _).mono ?_
        rintro e w1 ⟨rfl, hb⟩
        have hown1 := own_call HO.out hb
        have hbl1 := below_call hbl0.out hb
        have HX1 := Lib.hid (hxc0.out.call hb)
        have hz1' := hbl1.size
        have hmb := HX1.out.2
        clear hb c0 c1 c2
        go_wp2_with (at_builtin; refine wpList_append_lies _ rfl (.tmp 17) (.tmp 19) 26 rfl (W.heap.size + 1) 3 i0 _ 1 8 Try.underlying26 hi0 hz0 hz1 hz2 rfl (by omega) _ (wlN w h o k d).length _ rfl (hown1.alloc _) ⟨w1.heap.size, 0, none⟩ 1 1 (icells [(d : Int)]) rfl rfl (news_eqI rfl (heap_alloc_new w1 _)) (oneCellI _) (by omega) (by unfold maxLen; omega) (by omega) (by simp; omega) (w1.heap.size + 1) (by simp) ?_; intro gg cap w3 hown' hgrow hat hlt2; clear hat hlt2)
        go_roundw
        case rel => exact HA.out _ _ _ _ _ _ hown1 hbl1 HX1.out hown' hgrow
        case measure => simp [intOf]; omega
      · have HA := @Lib.hid _ (fun w2 v a b c => @w_skip W w2 W.heap.size w h o k d v hd4 hs a b c)
        have hne : decide (0 ≤ stZ w h o k d) = false := by simpa using hs
        clear hs hge
        generalize stZ w h o k d = s at *
        go_wp2_with fail
        refine (HS.out _).mono ?_
        rintro e w1 ⟨rfl, hb⟩
        have hown1 := Lib.hid (own_call HO.out hb)
        have hbl1 := Lib.hid (below_call hbl0.out hb)
        have HX1 := Lib.hid (hxc0.out.call hb)
        clear hb c0 c1 c2
        go_wp2_with fail
        go_roundw
        case rel => exact HA.out _ _ hown1.out hbl1.out HX1.out
        case measure => simp [intOf]; omega
    · obtain rfl : d = 4 := by omega
      go_wp2_with fail
      go_ret
      exact HK.out _ _ _ _ rfl HO.out (by omega) hbl0.out
end Go.Proofs.Ytgocbnnhhpmndaa.mazeS

/- The contracts of the model's functions that answer a maze. -/
namespace Go.Proofs.Ytgocbnnhhpmndaa.mazeS
open Go.ChangeShapes Go.WideShapes Go.ChangeAt Go.RowKit
open draw gridP gridC bitP mazeP mazeC mazeM
set_option linter.unusedVariables false

theorem fullMaze_no (w h : Int) (W : World) (hn : ¬ (1 ≤ w ∧ w ≤ 4 ∧ 1 ≤ h ∧ h ≤ 4)) :
    Calls Try.prog 13 #[.agg #[.int .i64 w, .int .i64 h]] W (Mz 0 0 0 W) := by
  have HK := @Lib.hid _ (fun w' b => @mz_mk 0 0 0 W w' b)
  have HB := Lib.hid (below_two W)
  have HO : Hid (∀ X, Calls Try.prog 41 #[.agg #[.int .i64 w, .int .i64 h]] X (Bl false X)) := fun X => gridS.gridOk_no w h X hn
  clear hn
  go_enter Try.func13, Try.ntmps13
  go_wp2_with fail
  refine (HO.out _).mono ?_
  rintro e w1 ⟨rfl, hb⟩
  have hbl1 := Lib.hid (below_call (HB.out _ _) hb)
  obtain ⟨⟨c0, c1, c2⟩, f0, f1, f2⟩ := mres hb rfl
  clear hb
  go_wp2_with fail
  refine bodyPost_ret (v := .agg #[.int .i64 0, .int .i64 0, .int .i64 0]) (by simp [results, Try.results13, go_sem, c0, c1, c2]) rfl (HK.out _ ?_)
  repeat (first | exact hbl1.out | refine Below.setCell ?_ (by simp) _)

theorem fullMaze_yes (w h : Int) (W : World) (h1 : 1 ≤ w) (h2 : w ≤ 4) (h3 : 1 ≤ h) (h4 : h ≤ 4) :
    Calls Try.prog 13 #[.agg #[.int .i64 w, .int .i64 h]] W (Mz w h (topZ w h) W) := by
  have HK := @Lib.hid _ (fun w' b => @mz_mk w h (topZ w h) W w' b)
  have HB := Lib.hid (below_two W)
  have HO : Hid (∀ X, Calls Try.prog 41 #[.agg #[.int .i64 w, .int .i64 h]] X (Bl true X)) := fun X => gridS.gridOk_yes w h X h1 h2 h3 h4
  have HA : Hid (∀ X, Calls Try.prog 42 #[.agg #[.int .i64 w, .int .i64 h]] X (Nm (gpsZ w h) X)) := fun X => gridS.countGaps_yes w h X h1 h2 h3 h4
  obtain ⟨q0, q1⟩ := gps_bd h1 h2 h3 h4
  have hpw := pow_bd _ q1
  have hT : topZ w h = IntKind.i64.wrap (IntKind.i64.wrap (2 ^ (gpsZ w h).toNat) - 1) := by
    rw [IntWalk.i64_in (2 ^ (gpsZ w h).toNat) (by omega), IntWalk.i64_in _ (by omega)]; rfl
  rw [hT] at HK ⊢
  clear hT hpw
  generalize gpsZ w h = G at *
  go_enter Try.func13, Try.ntmps13
  go_wp2_with fail
  refine (HO.out _).mono ?_
  rintro e w1 ⟨rfl, hb⟩
  have hbl1 := Lib.hid (below_call (HB.out _ _) hb)
  have hx := Lib.hid ((box_two w h W _ _).call hb)
  have hr := Lib.hid (mres_block hb rfl)
  clear hb
  obtain ⟨c0, c1⟩ := hx.out.1
  go_wp2_with fail
  first
    | go_region_with ((go_at_call 42; refine (HA.out _).mono ?_; rintro e w2 ⟨rfl, hb2⟩; have hbl2 := Lib.hid (below_call (below_dr hbl1.out) hb2); obtain ⟨d0, d1⟩ := (box_after' hb2 hx.out); obtain ⟨⟨e0, e1, e2⟩, f0, f1, f2⟩ := mres2 hb2 hr.out))
    | fail
  all_goals
    go_wp2_with fail
    refine bodyPost_ret (v := .agg #[.int .i64 w, .int .i64 h,   .int .i64 _]) (by simp [results, Try.results13, go_sem, e0, e1, e2]) rfl (HK.out _ ?_)
    repeat (first | exact hbl2.out | refine Below.setCell ?_ (by simp) _)

theorem setGap_no (w h o g : Int) (b : Bool) (W : World) (hv : okB w h o = false) :
    Calls Try.prog 51 #[.agg #[.int .i64 w, .int .i64 h, .int .i64 o], .int .i64 g, .bool b] W (MzB w h o false W) := by
  have HK := @Lib.hid _ (fun w' c => @mzb_mk w h o o false false W w' rfl rfl c)
  have HB := Lib.hid (below_two W)
  have HO := Lib.hid (fun X => ok_any w h o X)
  rw [hv] at HO
  clear hv
  go_enter Try.func51, Try.ntmps51
  go_wp2_with fail
  refine (HO.out _).mono ?_
  rintro e w1 ⟨rfl, hb⟩
  have hbl1 := Lib.hid (below_call (HB.out _ _) hb)
  obtain ⟨⟨c0, c1, c2⟩, -⟩ := (mbox_two w h o W _ _).call hb
  obtain ⟨⟨e0, e1, e2⟩, f0, f1, f2⟩ := mres hb rfl
  clear hb
  go_wp2_with fail
  refine bodyPost_ret (v := .tuple #[.agg #[.int .i64 w, .int .i64 h, .int .i64 o], .bool false]) (by simp [results, Try.results51, go_sem, e0, e1, e2]) rfl (HK.out _ ?_)
  repeat (first | exact hbl1.out | refine Below.setCell ?_ (by simp) _)

theorem setGap_out (w h o g : Int) (b : Bool) (W : World) (hv : OkM w h o) (hg : ¬ (0 ≤ g ∧ g < gpsZ w h)) :
    Calls Try.prog 51 #[.agg #[.int .i64 w, .int .i64 h, .int .i64 o], .int .i64 g, .bool b] W (MzB w h o false W) := by
  have HK := @Lib.hid _ (fun w' c => @mzb_mk w h o o false false W w' rfl rfl c)
  have HB := Lib.hid (below_two W)
  have HO := Lib.hid (fun X => ok_any w h o X)
  rw [show okB w h o = true from decide_eq_true hv] at HO
  have HG : Hid (∀ X, Calls Try.prog 42 #[.agg #[.int .i64 w, .int .i64 h]] X (Nm (gpsZ w h) X)) := fun X => gridS.countGaps_yes w h X hv.1.1 hv.1.2.1 hv.1.2.2.1 hv.1.2.2.2
  obtain ⟨q0, q1⟩ := gps_bd hv.1.1 hv.1.2.1 hv.1.2.2.1 hv.1.2.2.2
  have HI : Hid (∀ X, Calls Try.prog 71 #[.int .i64 g, .int .i64 0, .int .i64 (gpsZ w h - 1)] X fun e w' => e = .returned (.bool false) ∧ X = w') := fun X => gridS.in_no g 0 _ X (by omega)
  clear hv hg
  generalize gpsZ w h = G at *
  go_enter Try.func51, Try.ntmps51
  go_wp2_with fail
  refine (HO.out _).mono ?_
  rintro e w1 ⟨rfl, hb⟩
  have hbl1 := Lib.hid (below_call (HB.out _ _) hb)
  have hxc1 := Lib.hid ((mbox_two w h o W _ _).call hb)
  have hr1 := Lib.hid (mres_block hb rfl)
  obtain ⟨c0, c1, c2⟩ := hxc1.out.1
  clear hb
  go_wp2_with fail
  refine (HG.out _).mono ?_
  rintro e w2 ⟨rfl, hb⟩
  have hbl2 := Lib.hid (below_call hbl1.out hb)
  have hxc2 := Lib.hid (hxc1.out.call hb)
  obtain ⟨⟨e0, e1, e2⟩, f0, f1, f2⟩ := mres2 hb hr1.out
  clear hb c0 c1 c2
  obtain ⟨c0, c1, c2⟩ := hxc2.out.1
  go_wp2_with fail
  refine (HI.out _).mono ?_
  rintro e w' ⟨rfl, rfl⟩
  go_wp2_with fail
  refine bodyPost_ret (v := .tuple #[.agg #[.int .i64 w, .int .i64 h, .int .i64 o], .bool false]) (by simp [results, Try.results51, go_sem, e0, e1, e2]) rfl (HK.out _ ?_)
  repeat (first | exact hbl2.out | refine Below.setCell ?_ (by simp) _)

theorem setGap_in (w h o g : Int) (b : Bool) (W : World) (hv : OkM w h o) (hg : 0 ≤ g ∧ g < gpsZ w h) :
    Calls Try.prog 51 #[.agg #[.int .i64 w, .int .i64 h, .int .i64 o], .int .i64 g, .bool b] W (MzB w h (sgZ w h o g b) true W) := by
  have HB := Lib.hid (below_two W)
  have HO := Lib.hid (fun X => ok_any w h o X)
  rw [show okB w h o = true from decide_eq_true hv] at HO
  have HG : Hid (∀ X, Calls Try.prog 42 #[.agg #[.int .i64 w, .int .i64 h]] X (Nm (gpsZ w h) X)) := fun X => gridS.countGaps_yes w h X hv.1.1 hv.1.2.1 hv.1.2.2.1 hv.1.2.2.2
  obtain ⟨q0, q1⟩ := gps_bd hv.1.1 hv.1.2.1 hv.1.2.2.1 hv.1.2.2.2
  have HI : Hid (∀ X, Calls Try.prog 71 #[.int .i64 g, .int .i64 0, .int .i64 (gpsZ w h - 1)] X fun e w' => e = .returned (.bool true) ∧ X = w') := fun X => gridS.in_yes g 0 _ X hg.1 (by omega)
  have hlt := hv.lt
  have g0 := hg.1
  have g1 : g < 24 := by omega
  have hsg : sgB w h o g = true := decide_eq_true ⟨hv, hg⟩
  have hpw := pow_bd g (by omega)
  have HT := Lib.hid (fun X => bit_b o g X hlt.1 hlt.2 g0 g1)
  have hbd := bit_bd o g
  have hxr : bits .xor .i64 o (wrap64 (2 ^ g.toNat)) = if btB o g = true then o - 2 ^ g.toNat else o + 2 ^ g.toNat := by
    rw [IntWalk.wrap64_in _ (by omega), xor_is hlt.1 hlt.2 g0 g1]; unfold btB; simp
  have hsz : sgZ w h o g b = if btB o g = b then o else if btB o g = true then o - 2 ^ g.toNat else o + 2 ^ g.toNat := by
    unfold sgZ; rw [if_pos hsg]
    by_cases h1 : bitZ o g = 1
    · have e : btB o g = true := decide_eq_true h1
      rw [if_pos h1, e]; cases b <;> simp
    · have e : btB o g = false := decide_eq_false h1
      rw [if_neg h1, e]; cases b <;> simp
  clear hsg hpw hbd
  by_cases hsame : btB o g = b
  · have hz : o = sgZ w h o g b := by rw [hsz, if_pos hsame]
    have HK := @Lib.hid _ (fun w' c => @mzb_mk w h _ _ true true W w' hz rfl c)
    rw [hsame] at HT
    have hne : (b != b) = false := by cases b <;> rfl
    clear hv hg hlt hz hsz hxr hsame
    generalize gpsZ w h = G at *
    go_enter Try.func51, Try.ntmps51
    go_wp2_with fail
    refine (HO.out _).mono ?_
    rintro e w1 ⟨rfl, hb⟩
    have hbl1 := Lib.hid (below_call (HB.out _ _) hb)
    have hxc1 := Lib.hid (Row3.call (row3_two w h o W _ _) hb)
    have hr1 := Lib.hid (mres_block hb rfl)
    obtain ⟨⟨c0, c1, c2⟩, -⟩ := row3_cells hxc1.out
    clear hb
    go_wp2_with fail
    refine (HG.out _).mono ?_
    rintro e w2 ⟨rfl, hb⟩
    have hbl2 := Lib.hid (below_call hbl1.out hb)
    have hxc2 := Lib.hid (Row3.call hxc1.out hb)
    obtain ⟨⟨e0, e1, e2⟩, f0, f1, f2⟩ := mres2 hb hr1.out
    clear hb c0 c1 c2
    obtain ⟨⟨c0, c1, c2⟩, k0, k1, k2⟩ := row3_cells hxc2.out
    go_wp2_with fail
    refine (HI.out _).mono ?_
    rintro e w' ⟨rfl, rfl⟩
    go_wp2_with fail
    refine (HT.out _).mono ?_
    rintro e w' ⟨rfl, rfl⟩
    go_wp2_with fail
    refine bodyPost_ret (v := .tuple #[.agg #[.int .i64 w, .int .i64 h, .int .i64 o], .bool true]) (by simp [results, Try.results51, go_sem, e0, e1, e2]) rfl (HK.out _ ?_)
    repeat (first | exact hbl2.out | refine Below.drew ?_ | refine Below.setCell ?_ (by simp) _)
  · have hz : bits .xor .i64 o (wrap64 (2 ^ g.toNat)) = sgZ w h o g b := by rw [hsz, if_neg hsame, hxr]
    have HK := @Lib.hid _ (fun w' c => @mzb_mk w h _ _ true true W w' hz rfl c)
    have hbt : btB o g = !b := by revert hsame; cases btB o g <;> cases b <;> simp
    rw [hbt] at HT
    clear hv hg hlt hz hsz hxr hsame hbt
    generalize gpsZ w h = G at *
    have hne : ((!b) != b) = true := by cases b <;> rfl
    go_enter Try.func51, Try.ntmps51
    go_wp2_with fail
    refine (HO.out _).mono ?_
    rintro e w1 ⟨rfl, hb⟩
    have hbl1 := Lib.hid (below_call (HB.out _ _) hb)
    have hxc1 := Lib.hid (Row3.call (row3_two w h o W _ _) hb)
    have hr1 := Lib.hid (mres_block hb rfl)
    obtain ⟨⟨c0, c1, c2⟩, -⟩ := row3_cells hxc1.out
    clear hb
    go_wp2_with fail
    refine (HG.out _).mono ?_
    rintro e w2 ⟨rfl, hb⟩
    have hbl2 := Lib.hid (below_call hbl1.out hb)
    have hxc2 := Lib.hid (Row3.call hxc1.out hb)
    obtain ⟨⟨e0, e1, e2⟩, f0, f1, f2⟩ := mres2 hb hr1.out
    clear hb c0 c1 c2
    obtain ⟨⟨c0, c1, c2⟩, k0, k1, k2⟩ := row3_cells hxc2.out
    go_wp2_with fail
    refine (HI.out _).mono ?_
    rintro e w' ⟨rfl, rfl⟩
    go_wp2_with fail
    refine (HT.out _).mono ?_
    rintro e w' ⟨rfl, rfl⟩
    go_wp2_with fail
    go_region
    all_goals
      go_wp2_with fail
      refine bodyPost_ret (v := .tuple #[.agg #[.int .i64 w, .int .i64 h, .int .i64 (bits .xor .i64 o (wrap64 (2 ^ g.toNat)))], .bool true]) (by simp [results, Try.results51, go_sem, e0, e1, e2]) rfl (HK.out _ ?_)
      repeat (first | exact hbl2.out | refine Below.drew ?_ | refine Below.setCell ?_ (by simp) _)

theorem setGap_any (w h o g : Int) (b : Bool) (W : World) :
    Calls Try.prog 51 #[.agg #[.int .i64 w, .int .i64 h, .int .i64 o], .int .i64 g, .bool b] W (MzB w h (sgZ w h o g b) (sgB w h o g) W) := by
  by_cases hs : OkM w h o ∧ 0 ≤ g ∧ g < gpsZ w h
  · rw [show sgB w h o g = true from decide_eq_true hs]
    exact setGap_in w h o g b W hs.1 hs.2
  · have h1 : sgB w h o g = false := decide_eq_false hs
    have h2 : sgZ w h o g b = o := by unfold sgZ; rw [h1]; simp
    rw [h1, h2]
    by_cases hv : OkM w h o
    · exact setGap_out w h o g b W hv (fun e => hs ⟨hv, e⟩)
    · exact setGap_no w h o g b W (decide_eq_false hv)

theorem fullMaze_any (w h : Int) (W : World) :
    Calls Try.prog 13 #[.agg #[.int .i64 w, .int .i64 h]] W (Mz (fmX w h) (fmY w h) (fmO w h) W) := by
  by_cases hn : 1 ≤ w ∧ w ≤ 4 ∧ 1 ≤ h ∧ h ≤ 4
  · unfold fmX fmY fmO; rw [if_pos hn, if_pos hn, if_pos hn]
    exact fullMaze_yes w h W hn.1 hn.2.1 hn.2.2.1 hn.2.2.2
  · unfold fmX fmY fmO; rw [if_neg hn, if_neg hn, if_neg hn]
    exact fullMaze_no w h W hn
end Go.Proofs.Ytgocbnnhhpmndaa.mazeS
