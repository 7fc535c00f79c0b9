/- The contracts of the model's step and count of passages. -/
import Derived.Test.YtomjfcmaoeoigaaMazeS
namespace Go.Proofs.Ytomjfcmaoeoigaa.mazeS
open Go.ChangeShapes Go.WideShapes Go.ChangeAt Go.RowKit
open draw gridP gridC bitP mazeP mazeC
set_option linter.unusedVariables false

set_option maxHeartbeats 1000000 in
theorem step_bad (w h o k d : Int) (W : World) (hv : okB w h o = false) :
    Calls Try.prog 49 #[.agg #[.int .i64 w, .int .i64 h, .int .i64 o], .int .i64 k, .int .i64 d] W (Nm (stZ w h o k d) W) := by
  have hp : psB w h o (gpZ w h k d) = false := by
    unfold psB; unfold okB at hv
    simp only [decide_eq_false_iff_not] at hv
    rw [decide_eq_false_iff_not]; exact fun e => hv e.1
  have hs : -1 = stZ w h o k d := by unfold stZ; rw [if_neg (by rw [hp]; decide)]
  have HK := @Lib.hid _ (fun w' b => @nm_mk _ _ W w' hs b)
  have HO := Lib.hid (fun X => ok_any w h o X)
  have hx := Lib.hid (mbox_new w h o W 27)
  rw [hv] at HO
  clear hv hp hs
  go_enter Try.func49, Try.ntmps49
  go_wp2_with fail
  first
    | go_region_with ((go_at_call 37; refine (HO.out _).mono ?_; rintro e w1 ⟨rfl, hb⟩; obtain ⟨c0, c1, c2⟩ := (mbox_after hb hx.out).1))
    | fail
  all_goals
    go_wp2_with fail
    go_ret
    exact HK.out _ (by refine below_call ?_ hb; repeat (first | exact Below.refl _ _ | refine Below.drew ?_ | refine Below.alloc ?_ (by simp) _))

set_option maxHeartbeats 1000000 in
theorem step_good (w h o k d : Int) (W : World) (hv : okB w h o = true) :
    Calls Try.prog 49 #[.agg #[.int .i64 w, .int .i64 h, .int .i64 o], .int .i64 k, .int .i64 d] W (Nm (stZ w h o k d) W) := by
  have HO := Lib.hid (fun X => ok_any w h o X)
  have HG := Lib.hid (fun X => gridS.gapAt_any w h k d X)
  have HN := Lib.hid (fun X => gridS.neighbor_any w h k d X)
  have HP := Lib.hid (fun X => isPassage_any w h o (gpZ w h k d) X)
  have hx := Lib.hid (mbox_new w h o W 27)
  rw [hv] at HO
  clear hv
  by_cases hp : psB w h o (gpZ w h k d) = true
  · have hs : nbZ w h k d = stZ w h o k d := by unfold stZ; rw [if_pos hp]
    have HK := @Lib.hid _ (fun w' b => @nm_mk _ _ W w' hs b)
    rw [hp] at HP
    clear hs hp
    generalize gpZ w h k d = g at *
    generalize nbZ w h k d = v at *
    go_enter Try.func49, Try.ntmps49
    go_wp2_with fail
    go_region_held3 (fun w' => w'.cell? ⟨W.heap.size, 0, none⟩ = some (.int .i64 w) ∧ w'.cell? ⟨W.heap.size, 1, none⟩ = some (.int .i64 h) ∧ w'.cell? ⟨W.heap.size, 2, none⟩ = some (.int .i64 o)) (go_keep)
      (first | (go_at_call 37; refine (HO.out _).mono ?_; rintro e w0 ⟨rfl, hb0⟩; have hx0 := Lib.hid (mbox_after hb0 hx.out); obtain ⟨b0, b1, b2⟩ := hx0.out.1) | (go_at_call 59; refine (HG.out _).mono ?_; rintro e w1 ⟨rfl, hb⟩; have hx1 := Lib.hid (mbox_after hb hx0.out); obtain ⟨c0, c1, c2⟩ := hx1.out.1) | (go_at_call 58; refine (HP.out _).mono ?_; rintro e w2 ⟨rfl, hb2⟩; have hx2 := Lib.hid (mbox_after hb2 hx1.out); obtain ⟨c0', c1', c2'⟩ := hx2.out.1))
    all_goals
      go_wp2_with fail
      refine (HN.out _).mono ?_
      rintro e w3 ⟨rfl, hb3⟩
      go_wp2_with fail
      go_ret
      exact HK.out _ (by repeat (first | exact Below.refl _ _ | refine below_call ?_ hb3 | refine below_call ?_ hb2 | refine below_call ?_ hb | refine below_call ?_ hb0 | refine Below.drew ?_ | refine Below.alloc ?_ (by simp) _))
  · have hp' : psB w h o (gpZ w h k d) = false := by simpa using hp
    have hs : -1 = stZ w h o k d := by unfold stZ; rw [if_neg hp]
    have HK := @Lib.hid _ (fun w' b => @nm_mk _ _ W w' hs b)
    rw [hp'] at HP
    clear hs hp hp'
    generalize gpZ w h k d = g at *
    generalize nbZ w h k d = v at *
    go_enter Try.func49, Try.ntmps49
    go_wp2_with fail
    go_region_held3 (fun w' => w'.cell? ⟨W.heap.size, 0, none⟩ = some (.int .i64 w) ∧ w'.cell? ⟨W.heap.size, 1, none⟩ = some (.int .i64 h) ∧ w'.cell? ⟨W.heap.size, 2, none⟩ = some (.int .i64 o)) (go_keep)
      (first | (go_at_call 37; refine (HO.out _).mono ?_; rintro e w0 ⟨rfl, hb0⟩; have hx0 := Lib.hid (mbox_after hb0 hx.out); obtain ⟨b0, b1, b2⟩ := hx0.out.1) | (go_at_call 59; refine (HG.out _).mono ?_; rintro e w1 ⟨rfl, hb⟩; have hx1 := Lib.hid (mbox_after hb hx0.out); obtain ⟨c0, c1, c2⟩ := hx1.out.1) | (go_at_call 58; refine (HP.out _).mono ?_; rintro e w2 ⟨rfl, hb2⟩; have hx2 := Lib.hid (mbox_after hb2 hx1.out); obtain ⟨c0', c1', c2'⟩ := hx2.out.1))
    all_goals
      go_wp2_with fail
      go_ret
      exact HK.out _ (by repeat (first | exact Below.refl _ _ | refine below_call ?_ hb2 | refine below_call ?_ hb | refine below_call ?_ hb0 | refine Below.drew ?_ | refine Below.alloc ?_ (by simp) _))

theorem step_any (w h o k d : Int) (W : World) :
    Calls Try.prog 49 #[.agg #[.int .i64 w, .int .i64 h, .int .i64 o], .int .i64 k, .int .i64 d] W (Nm (stZ w h o k d) W) := by
  by_cases hv : okB w h o = true
  · exact step_good w h o k d W hv
  · exact step_bad w h o k d W (by simpa using hv)

/-- At the head of a round: k gaps are counted. -/
def CpRel (W : World) (b : Nat) (w h o : Int) (u3 u4 : Value) (wr : World) : Prop :=
  ∃ k : Nat, (k : Int) ≤ gpsZ w h ∧ u4 = .int .i64 k ∧ u3 = .int .i64 ((pcN o.toNat k : Nat) : Int) ∧ Below W.heap.size W wr ∧ MBox b w h o wr
theorem cp_next {W wr : World} {b : Nat} {w h o : Int} {k : Nat} {c : Int} (hk : (k : Int) < gpsZ w h) (hc : c = ((pcN o.toNat (k + 1) : Nat) : Int)) (hb : Below W.heap.size W wr) (hx : MBox b w h o wr) : CpRel W b w h o (.int .i64 c) (.int .i64 ((k : Int) + 1)) wr :=
  ⟨k + 1, by omega, by go_num, by rw [hc], hb, hx⟩
theorem bt_pc {o : Int} (o0 : 0 ≤ o) (k : Nat) : (btB o k = true → ((pcN o.toNat k : Nat) : Int) + 1 = ((pcN o.toNat (k + 1) : Nat) : Int)) ∧ (btB o k = false → ((pcN o.toNat k : Nat) : Int) = ((pcN o.toNat (k + 1) : Nat) : Int)) := by
  obtain ⟨n, rfl⟩ := Int.eq_ofNat_of_zero_le o0
  have hz : bitZ (n : Int) (k : Int) = ((n / 2 ^ k % 2 : Nat) : Int) := by unfold bitZ; simp
  have hm : n / 2 ^ k % 2 < 2 := Nat.mod_lt _ (by decide)
  have hs : pcN n (k + 1) = pcN n k + n / 2 ^ k % 2 := rfl
  simp only [Int.toNat_natCast]
  unfold btB
  rw [hz, hs]
  refine ⟨fun h => ?_, fun h => ?_⟩
  · have := of_decide_eq_true h; omega
  · have := of_decide_eq_false h; omega

end Go.Proofs.Ytomjfcmaoeoigaa.mazeS
