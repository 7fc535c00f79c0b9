/- The law of grids: the walk of its loops. -/
import Derived.Test.YtjieeonfginkpaaDrawG
import Derived.Test.YtjieeonfginkpaaBigK
import Derived.Test.YtjieeonfginkpaaGridQ
import Derived.Test.YtjieeonfginkpaaGridK
import Derived.Test.YtjieeonfginkpaaGridN
import Derived.Test.YtjieeonfginkpaaGridS
namespace Go.Proofs.Ytjieeonfginkpaa.fnGrids
open Go.ChangeShapes Go.WideShapes Go.ChangeAt Go.RowKit
open draw gridP gridC gridQ gridE bigK
set_option linter.unusedVariables false

theorem box_on {b : Nat} {w h : Int} {X X' : World} (hb : Below X.heap.size X X') (hx : Box b w h X) : Box b w h X' := hx.call hb

/-- The law's answer. -/
def Yes (w : World) (e : Ending) (w' : World) : Prop := e = .returned (.bool true) ∧ Below w.heap.size w w'
theorem yes_mk {w w' : World} (h : Below w.heap.size w w') : Yes w (.returned (.bool true)) w' := ⟨rfl, h⟩

/-- At the head of the loop over the cells. -/
def OutRel (w : World) (b : Nat) (x y : Int) (u4 u5 : Value) (wr : World) : Prop := ∃ k : Nat, (k : Int) ≤ x * y ∧ u5 = .int .i64 k ∧ u4 = .int .i64 (cntK x y k) ∧ Below w.heap.size w wr ∧ Box b x y wr
/-- At the head of the loop over the directions. -/
def InRel (w : World) (b : Nat) (x y : Int) (k : Nat) (u4 u6 : Value) (wr : World) : Prop := ∃ d : Nat, d ≤ 4 ∧ u6 = .int .i64 d ∧ u4 = .int .i64 (cntK x y k + cntD x y k d) ∧ Below w.heap.size w wr ∧ Box b x y wr
theorem in_none {w : World} {b : Nat} {x y : Int} {k d : Nat} {wr : World} (hd : d < 4) (hn : nbZ x y k d < 0) (hb : Below w.heap.size w wr) (hx : Box b x y wr) :
    InRel w b x y k (.int .i64 (cntK x y k + cntD x y k d)) (.int .i64 ((d : Int) + 1)) wr :=
  ⟨d + 1, by omega, by go_num, by rw [cntD, if_pos hn, Int.add_zero], hb, hx⟩
theorem in_some {w : World} {b : Nat} {x y : Int} {k d : Nat} {wr : World} (hd : d < 4) (hn : ¬ nbZ x y k d < 0) (hb : Below w.heap.size w wr) (hx : Box b x y wr) :
    InRel w b x y k (.int .i64 (cntK x y k + cntD x y k d + 1)) (.int .i64 ((d : Int) + 1)) wr :=
  ⟨d + 1, by omega, by go_num, by rw [cntD, if_neg hn, Int.add_assoc], hb, hx⟩
theorem out_next {w : World} {b : Nat} {x y : Int} {k : Nat} {wr : World} (hk : (k : Int) < x * y) (hb : Below w.heap.size w wr) (hx : Box b x y wr) :
    OutRel w b x y (.int .i64 (cntK x y k + cntD x y k 4)) (.int .i64 ((k : Int) + 1)) wr :=
  ⟨k + 1, by omega, by go_num, rfl, hb, hx⟩

set_option maxRecDepth 100000 in
set_option maxHeartbeats 4000000 in
theorem walk (A : Option Addr) (n c : Nat) (w : World) (hn : n ≤ maxLen) (hb : BytesIn w w.heap.size A n) :
    Calls Try.prog 3 #[.slice A n c] w (Yes w) := by
  have HK := @Lib.hid _ (fun w' h => @yes_mk w w' h)
  have HR := Lib.hid (Below.refl w.heap.size w)
  have HD := Lib.hid (drawGrid_any A n c w hn hb)
  have HY := Lib.hid hb
  have HN := Lib.hid hn
  unfold maxLen at hn
  clear hb
  by_cases hbig : 1048576 < n
  · go_enter Try.func3, Try.ntmps3
    go_wp2_with fail
    refine (big_yes A n c w HN.out hbig).mono ?_
    rintro e w' ⟨rfl, rfl⟩
    go_wp2_with fail
    go_ret
    exact HK.out _ HR.out
  · go_enter Try.func3, Try.ntmps3
    go_wp2_with fail
    refine (big_no A n c w HN.out (by omega)).mono ?_
    rintro e w' ⟨rfl, rfl⟩
    go_wp2_with fail
    refine HD.out.mono ?_
    rintro e w1 ⟨x, y, hxy0, rfl, hb1⟩
    have hxy := Lib.hid hxy0
    clear hxy0 HD HR
    have hz1 := hb1.size
    have HB1 := Lib.hid hb1
    clear hb1
    go_wp2_with fail
    go_loopw [4, 5] (fun u4 u5 wr => OutRel w w1.heap.size x y u4 u5 wr) (fun _ u5 _ => 16 - (intOf u5).toNat)
    case atStart =>
      obtain ⟨h1, h2, h3, h4⟩ := hxy.out
      have := (mul_bd x y h1 h2 h3 h4).1
      exact ⟨0, by simp; omega, rfl, rfl, HB1.out.alloc hz1 _, box_new x y w1 _⟩
    case round =>
      obtain ⟨k, hk, rfl, rfl, hbl0, hbx0⟩ := hrel
      obtain ⟨h1, h2, h3, h4⟩ := hxy.out
      have hm := (mul_bd x y h1 h2 h3 h4).1
      have hbl := Lib.hid hbl0
      have hbx := Lib.hid hbx0
      obtain ⟨c0, c1⟩ := hbx0.1
      have kb := cntK_bd x y k
      clear hbl0 hbx0
      by_cases hlt : (k : Int) < x * y
      · go_wp2_with fail
        refine (gridS.countCells_yes x y _ h1 h2 h3 h4).mono ?_
        rintro e w2 ⟨rfl, hb2⟩
        have hbl2 := Lib.hid (below_call hbl.out hb2)
        have hbx2 := Lib.hid (hbx.out.call hb2)
        clear hb2 hbl hbx c0 c1
        go_wp2_with fail
        go_loopw [4, 6] (fun u4 u6 wq => InRel w w1.heap.size x y k u4 u6 wq) (fun _ u6 _ => 4 - (intOf u6).toNat)
        case atStart => exact ⟨0, by omega, rfl, by simp [cntD], hbl2.out, hbx2.out⟩
        case round =>
          obtain ⟨d, hd, rfl, rfl, hbl0, hbx0⟩ := hrel
          have hbl := Lib.hid hbl0
          have hbx := Lib.hid hbx0
          obtain ⟨c0, c1⟩ := hbx0.1
          have db := cntD_bd x y k d
          clear hbl0 hbx0 hbl2 hbx2
          by_cases hd4 : d < 4
          · have HNv : Hid (∀ X, Calls Try.prog 14 #[.agg #[.int .i64 x, .int .i64 y], .int .i64 k, .int .i64 d] X (Nm (nbZ x y k d) X)) := fun X => gridI.neighbor_any x y k d X
            have HGv : Hid (∀ X, Calls Try.prog 15 #[.agg #[.int .i64 x, .int .i64 y], .int .i64 k, .int .i64 d] X (Nm (gpZ x y k d) X)) := fun X => gridI.gapAt_any x y k d X
            by_cases hneg : nbZ x y k d < 0
            · have hg1 : gpZ x y k d = -1 := by unfold gpZ; rw [if_pos hneg]
              rw [hg1] at HGv
              have HE := @Lib.hid _ (fun wr => @in_none w w1.heap.size x y k d wr hd4 hneg)
              clear hg1
              generalize nbZ x y k d = v at *
              have v0 : decide (v < 0) = true := by simpa using hneg
              go_wp2_with fail
              refine (HNv.out _).mono ?_
              rintro e w3 ⟨rfl, hb3⟩
              have hbl3 := Lib.hid (below_call hbl.out hb3)
              have hbx3 := Lib.hid (hbx.out.call hb3)
              clear hb3 hbl hbx c0 c1
              obtain ⟨c0, c1⟩ := hbx3.out.1
              go_wp2_with fail
              refine (HGv.out _).mono ?_
              rintro e w4 ⟨rfl, hb4⟩
              have hbl4 := Lib.hid (below_call hbl3.out hb4)
              have hbx4 := Lib.hid (hbx3.out.call hb4)
              clear hb4 hbl3 hbx3 c0 c1
              obtain ⟨c0, c1⟩ := hbx4.out.1
              go_wp2_with fail
              go_roundw
              case rel => exact HE.out _ hbl4.out hbx4.out
              case measure => simp [intOf]; omega
            · obtain ⟨g0, f1, f2, f3, f4, f5⟩ := both x y k d hneg
              obtain ⟨-, -, -, n0, n1⟩ := nb_some hneg
              have HE := @Lib.hid _ (fun wr => @in_some w w1.heap.size x y k d wr hd4 hneg)
              have HEv : Hid (∀ X, Calls Try.prog 16 #[.agg #[.int .i64 x, .int .i64 y], .int .i64 (gpZ x y k d)] X (Nm2 (eaZ x y (gpZ x y k d)) (ebZ x y (gpZ x y k d)) X)) := fun X => gridI.endsOf_any x y _ X
              have HNw : Hid (∀ X, Calls Try.prog 14 #[.agg #[.int .i64 x, .int .i64 y], .int .i64 (nbZ x y k d), .int .i64 (((d : Int) + 2) % 4)] X (Nm (nbZ x y (nbZ x y k d) (((d : Int) + 2) % 4)) X)) := fun X => gridI.neighbor_any x y _ _ X
              have HGw : Hid (∀ X, Calls Try.prog 15 #[.agg #[.int .i64 x, .int .i64 y], .int .i64 (nbZ x y k d), .int .i64 (((d : Int) + 2) % 4)] X (Nm (gpZ x y (nbZ x y k d) (((d : Int) + 2) % 4)) X)) := fun X => gridI.gapAt_any x y _ _ X
              rw [f1] at HNw
              rw [f2] at HGw
              have F4 := Lib.hid f4
              have F5 := Lib.hid f5
              clear f1 f2 f4 f5 hneg
              generalize eaZ x y (gpZ x y k d) = a at *
              generalize ebZ x y (gpZ x y k d) = b at *
              generalize gpZ x y k d = g at *
              generalize nbZ x y k d = v at *
              have v0 : decide (v < 0) = false := by simpa using n0
              have g0' : decide (g < 0) = false := by simpa using g0
              go_wp2_with fail
              refine (HNv.out _).mono ?_
              rintro e w3 ⟨rfl, hb3⟩
              have hbl3 := Lib.hid (below_call hbl.out hb3)
              have hbx3 := Lib.hid (hbx.out.call hb3)
              clear hb3 hbl hbx c0 c1
              obtain ⟨c0, c1⟩ := hbx3.out.1
              go_wp2_with fail
              refine (HGv.out _).mono ?_
              rintro e w4 ⟨rfl, hb4⟩
              have hbl4 := Lib.hid (below_call hbl3.out hb4)
              have hbx4 := Lib.hid (hbx3.out.call hb4)
              clear hb4 hbl3 hbx3 c0 c1
              obtain ⟨c0, c1⟩ := hbx4.out.1
              go_wp2_with fail
              refine (HEv.out _).mono ?_
              rintro e w5 ⟨rfl, hb5⟩
              have hbl5 := Lib.hid (below_call hbl4.out hb5)
              have hbx5 := Lib.hid (hbx4.out.call hb5)
              clear hb5 hbl4 hbx4 c0 c1
              obtain ⟨c0, c1⟩ := hbx5.out.1
              go_wp2_with fail
              refine (HNw.out _).mono ?_
              rintro e w6 ⟨rfl, hb6⟩
              have hbl6 := Lib.hid (below_call hbl5.out hb6)
              have hbx6 := Lib.hid (hbx5.out.call hb6)
              clear hb6 hbl5 hbx5 c0 c1
              obtain ⟨c0, c1⟩ := hbx6.out.1
              go_wp2_with fail
              refine (HGw.out _).mono ?_
              rintro e w7 ⟨rfl, hb7⟩
              have hbl7 := Lib.hid (below_call hbl6.out hb7)
              have hbx7 := Lib.hid (hbx6.out.call hb7)
              clear hb7 hbl6 hbx6 c0 c1
              have e4 : (a != (k : Int)) = false ∨ (a != (k : Int)) = true ∧ (b != (k : Int)) = false := by
                have := F4.out
                by_cases h : a = k
                · exact .inl (by simp [h])
                · exact .inr ⟨by simp [h], by simp; omega⟩
              have e5 : (a != v) = false ∨ (a != v) = true ∧ (b != v) = false := by
                have := F5.out
                by_cases h : a = v
                · exact .inl (by simp [h])
                · exact .inr ⟨by simp [h], by simp; omega⟩
              rcases e4 with e4 | ⟨e4, e4'⟩
              all_goals
                rcases e5 with e5 | ⟨e5, e5'⟩
                all_goals
                  go_wp2_with fail
                  go_roundw
                  case rel => exact HE.out _ hbl7.out hbx7.out
                  case measure => simp [intOf]; omega
          · obtain rfl : d = 4 := by omega
            have HE := @Lib.hid _ (fun wr => @out_next w w1.heap.size x y k wr hlt)
            go_wp2_with fail
            go_roundw
            case rel => exact HE.out _ hbl.out hbx.out
            case measure => simp [intOf]; omega
      · have hk' : k = (x * y).toNat := by omega
        have ht : cntK x y k = 2 * ((x - 1) * y + x * (y - 1)) := by rw [hk']; exact total x y h1 h2 h3 h4
        have HG : Hid (∀ X, Calls Try.prog 18 #[.agg #[.int .i64 x, .int .i64 y]] X (Nm ((x - 1) * y + x * (y - 1)) X)) := fun X => gridI.countGaps_yes x y X h1 h2 h3 h4
        have HC : Hid (∀ X, Calls Try.prog 20 #[.agg #[.int .i64 x, .int .i64 y]] X (Nm (x * y) X)) := fun X => gridI.countCells_yes x y X h1 h2 h3 h4
        have HZ := Lib.hid (gridS.countCells_yes x y · h1 h2 h3 h4)
        obtain ⟨-, ⟨p1, p2⟩, ⟨p3, p4⟩⟩ := mul_bd x y h1 h2 h3 h4
        have G0 : 0 ≤ (x - 1) * y + x * (y - 1) := by omega
        have G1 : (x - 1) * y + x * (y - 1) ≤ 24 := by omega
        generalize (x - 1) * y + x * (y - 1) = G at *
        rw [ht]
        clear ht hk' p1 p2 p3 p4 kb
        have hlt' : x * y ≤ (k : Int) := by omega
        go_wp2_with fail
        refine (HZ.out _).mono ?_
        rintro e w2 ⟨rfl, hb2⟩
        have hbl2 := Lib.hid (below_call hbl.out hb2)
        have hbx2 := Lib.hid (hbx.out.call hb2)
        clear hb2 hbl hbx c0 c1
        go_wp2_with fail
        refine (at_any A n c 0 _ w.heap.size HN.out (HY.out.keep fun p hp => hbl2.out.cell hp) (by omega) (by omega)).mono ?_
        rintro e w3 ⟨a, ha, rfl, rfl⟩
        have hd0 : 0 ≤ (a : Int) % 4 := by omega
        have hd1 : (a : Int) % 4 < 4 := by omega
        have hx2 := Lib.hid hm
        clear HZ hlt
        obtain ⟨c0, c1⟩ := hbx2.out.1
        go_wp2_with fail
        generalize (a : Int) % 4 = d at *
        have q1 : IntKind.i64.wrap (d + 2) = d + 2 := IntWalk.i64_in _ (by omega)
        have q2 : (d + 2).tmod 4 = trZ (trZ d) := by rw [trz_two d hd0 hd1, IntWalk.rem_in _ _ (by omega)]
        have q3 : IntKind.i64.wrap (x * y) = x * y := IntWalk.i64_in _ (by omega)
        have q4 : IntKind.i64.wrap (2 * G) = 2 * G := IntWalk.i64_in _ (by omega)
        go_region_held3 (fun w' => w'.cell? ⟨w1.heap.size, 0, none⟩ = some (.int .i64 x) ∧ w'.cell? ⟨w1.heap.size, 1, none⟩ = some (.int .i64 y)) (go_keep)
          (first | (go_at_call 18; refine (HG.out _).mono ?_; rintro e w4 ⟨rfl, hb4⟩; have hbx4 := Lib.hid (box_on hb4 hbx2.out); obtain ⟨c0', c1'⟩ := hbx4.out.1) | (go_at_call 19; refine (gridI.turnRight_any _ _).mono ?_; rintro e w' ⟨rfl, rfl⟩) | (go_at_call 20; refine (HC.out _).mono ?_; rintro e w5 ⟨rfl, hb5⟩; have hbx5 := Lib.hid (box_on hb5 hbx4.out); obtain ⟨c0'', c1''⟩ := hbx5.out.1))
        go_wp2_with fail
        go_ret
        refine HK.out _ ?_
        refine below_call ?_ hb5
        repeat refine Below.drew ?_
        refine below_call ?_ hb4
        repeat refine Below.drew ?_
        exact hbl2.out
end Go.Proofs.Ytjieeonfginkpaa.fnGrids
