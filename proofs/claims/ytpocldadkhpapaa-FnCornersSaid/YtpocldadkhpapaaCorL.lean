/- The law of corners: its walk, over the contracts of the program's functions. -/
import Derived.Test.YtpocldadkhpapaaWalR
import Derived.Test.YtpocldadkhpapaaDrwA
import Derived.Test.YtpocldadkhpapaaWalM
namespace Go.Proofs.Ytpocldadkhpapaa.fnCorners
open Go.ChangeShapes Go.WideShapes Go.ChangeAt Go.RowKit
open draw gridP gridC gridE bitP mazeP mazeC mazeM mazeE intsP intK bigK reachP reachM reachN reachD forest perfP walP walR
set_option linter.unusedVariables false

/-- The law's answer. -/
def Yes (w : World) (e : Ending) (w' : World) : Prop := e = .returned (.bool true) ∧ Below w.heap.size w w'
theorem yes_mk {w w' : World} (h : Below w.heap.size w w') : Yes w (.returned (.bool true)) w' := ⟨rfl, h⟩
/-- 1 for true. -/
def biZ (b : Bool) : Int := if b = true then 1 else 0
theorem btoi_any (b : Bool) (w : World) : Calls Try.prog 21 #[.bool b] w fun e w' => e = .returned (.int .i64 (biZ b)) ∧ w = w' := by
  cases b <;>
  · go_enter Try.func21, Try.ntmps21
    go_wp2_with fail
    go_ret
    exact ⟨rfl, rfl⟩
theorem cnt_bi (p : Nat → Bool) (n : Nat) : (cnt p (n + 1) : Int) = (cnt p n : Int) + biZ (p n) := by
  rw [cnt]; unfold biZ
  split <;> simp
theorem cnt_le (p : Nat → Bool) : ∀ n, cnt p n ≤ n
  | 0 => Nat.le_refl _
  | n + 1 => by
    have := cnt_le p n
    unfold cnt
    split <;> omega
/-- While the law goes on: the grid. -/
def CW (w : World) (M : Nat) (x y : Int) (X : World) : Prop := Below w.heap.size w X ∧ Box M x y X
theorem CW.call {w X X' : World} {M : Nat} {x y : Int} (h : CW w M x y X) (hb : Below X.heap.size X X') : CW w M x y X' := ⟨below_call h.1 hb, h.2.call hb⟩

set_option maxRecDepth 100000 in
set_option maxHeartbeats 4000000 in
theorem walk_at (A : Option Addr) (n c : Nat) (w : World) (hn : n ≤ maxLen) (hb : BytesIn w w.heap.size A n)
    (HEd : Hid (∀ x y c X, Calls Try.prog 22 #[.agg #[.int .i64 x, .int .i64 y], .int .i64 c] X (Bl (edB x y c) X)))
    (HCs : Hid (∀ x y g X, Calls Try.prog 24 #[.agg #[.int .i64 x, .int .i64 y], .int .i64 g] X (Nm2 (c1Z x y g) (c2Z x y g) X)))
    (HCc : Hid (∀ x y X, Calls Try.prog 25 #[.agg #[.int .i64 x, .int .i64 y]] X (Nm (cosZ x y) X))) :
    Calls Try.prog 4 #[.slice A n c] w (Yes w) := by
  have HK := @Lib.hid _ (fun w' h => @yes_mk w w' h)
  have HR := Lib.hid (Below.refl w.heap.size w)
  have HD := Lib.hid (drawGrid_any A n c w hn hb)
  have HN := Lib.hid hn
  unfold maxLen at hn
  clear hb
  by_cases hbig : 1048576 < n
  · go_enter Try.func4, Try.ntmps4
    go_wp2_with fail
    refine (big_yes A n c w HN.out hbig).mono ?_
    rintro e w' ⟨rfl, rfl⟩
    go_wp2_with fail
    go_ret
    exact HK.out _ HR.out
  · go_enter Try.func4, Try.ntmps4
    go_wp2_with fail
    refine (big_no A n c w HN.out (by omega)).mono ?_
    rintro e w' ⟨rfl, rfl⟩
    go_wp2_with fail
    refine HD.out.mono ?_
    rintro e w1 ⟨x, y, hk, rfl, hb1⟩
    obtain ⟨h1, h2, h3, h4⟩ := id hk
    obtain ⟨c1, c2, c3, c4⟩ := co_pos hk
    have hgp := gps_bd h1 h2 h3 h4
    have HG : Hid (∀ X, Calls Try.prog 23 #[.agg #[.int .i64 x, .int .i64 y]] X (Nm (gpsZ x y) X)) := fun X => gridS.countGaps_yes x y X h1 h2 h3 h4
    have hG : gpsZ x y = (gN x y : Int) := by unfold gN; omega
    rw [hG] at HG hgp
    have HCo := Lib.hid (fun X => walM.countCorners_any x y X)
    have HA := Lib.hid (HCc.out x y)
    have HE := Lib.hid (HEd.out x y)
    have HC := Lib.hid (HCs.out x y)
    rw [c4] at HCo HA
    have HF := Lib.hid (fun g h => @corner x y g hk h)
    rw [c4] at HF
    have hin := inner hk
    have HI9 : Hid (0 ≤ (x - 1) * (y - 1) ∧ (x - 1) * (y - 1) ≤ 9) := Lib.hid (by
      rcases (by omega : x = 1 ∨ x = 2 ∨ x = 3 ∨ x = 4) with rfl | rfl | rfl | rfl <;> omega)
    have HJ := Lib.hid (fun b X => btoi_any b X)
    have HCi := Lib.hid (fun k => cnt_bi (fun c => !edB x y (c : Nat)) k)
    have HCl := Lib.hid (fun k => cnt_le (fun c => !edB x y (c : Nat)) k)
    have hz1 := hb1.size
    have hcw0 := @Lib.hid _ (fun T => (show CW w w1.heap.size x y (w1.alloc (.cells #[.int .i64 x, .int .i64 y] T)) from ⟨hb1.alloc hz1 _, box_new x y w1 T⟩))
    have q1 : IntKind.i64.wrap (x - 1) = x - 1 := IntWalk.i64_in _ (by omega)
    have q2 : IntKind.i64.wrap (y - 1) = y - 1 := IntWalk.i64_in _ (by omega)
    have q5 : IntKind.i64.wrap (x + 1) = x + 1 := IntWalk.i64_in _ (by omega)
    clear HEd HCs HCc HD HR hb1 hk h3 h1 c1 c4 hG
    generalize coN x y = N at *
    generalize gN x y = G at *
    go_wp2_with fail
    have hcw1 := Lib.hid (hcw0.out 25)
    clear hcw0
    generalize w1.alloc (.cells #[.int .i64 x, .int .i64 y] 25) = w2 at *
    generalize w1.heap.size = M at *
    go_loopw [4, 5] (fun u4 u5 wr => ∃ k : Nat, k ≤ N ∧ u5 = .int .i64 k ∧ u4 = .int .i64 (cnt (fun c => !edB x y (c : Nat)) k : Nat) ∧ CW w M x y wr) (fun _ u5 _ => N - (intOf u5).toNat)
    case atStart => exact ⟨0, Nat.zero_le _, rfl, rfl, hcw1.out⟩
    case round =>
      clear hcw1
      obtain ⟨k, hkN, rfl, rfl, hcw0⟩ := hrel
      have hcw := Lib.hid hcw0
      obtain ⟨m0, m1⟩ := hcw0.2.1
      clear hcw0
      have hcl := HCl.out k
      have HCk := Lib.hid (HCi.out k)
      have HEk := Lib.hid (fun X => HE.out (k : Int) X)
      go_wp2_with fail
      refine (HCo.out _).mono ?_
      rintro e w3 ⟨rfl, hb⟩
      have hcw1 := Lib.hid (hcw.out.call hb)
      clear hb hcw m0 m1
      obtain ⟨m0, m1⟩ := hcw1.out.2.1
      by_cases hlt : k < N
      · have hd : decide ((k : Int) < (N : Int)) = true := decide_eq_true (by omega)
        generalize edB x y (k : Nat) = eb at *
        have hbi : 0 ≤ biZ (!eb) ∧ biZ (!eb) ≤ 1 := by unfold biZ; split <;> omega
        have HJ1 := Lib.hid (fun X => HJ.out (!eb) X)
        generalize hdc : cnt (fun c => !edB x y (c : Nat)) k = d at *
        have q3 : IntKind.i64.wrap ((d : Int) + biZ (!eb)) = (d : Int) + biZ (!eb) := IntWalk.i64_in _ (by omega)
        go_wp2_with fail
        refine (HEk.out _).mono ?_
        rintro e w4 ⟨rfl, hb⟩
        have hcw2 := Lib.hid (hcw1.out.call hb)
        clear hb hcw1 m0 m1
        go_wp2_with fail
        refine (HJ1.out _).mono ?_
        rintro e w' ⟨rfl, rfl⟩
        go_wp2_with fail
        go_roundw
        case rel => exact ⟨k + 1, by omega, by go_num, congrArg (Value.int .i64) HCk.out.symm, hcw2.out⟩
        case measure => simp [intOf]; omega
      · obtain rfl : k = N := by omega
        have hd : decide ((k : Int) < (k : Int)) = false := by simp
        rw [hin]
        clear HCi HCl hin hcl HCk HEk HCo HJ
        go_wp2_with fail
        go_loopw [6] (fun u6 wr => ∃ g : Nat, g ≤ G ∧ u6 = .int .i64 g ∧ CW w M x y wr) (fun u6 _ => G - (intOf u6).toNat)
        case atStart => exact ⟨0, Nat.zero_le _, rfl, hcw1.out⟩
        case round =>
          clear hcw1 m0 m1
          obtain ⟨g, hg, rfl, hcw0⟩ := hrel
          have hcw := Lib.hid hcw0
          obtain ⟨m0, m1⟩ := hcw0.2.1
          clear hcw0
          go_wp2_with fail
          refine (HG _).mono ?_
          rintro e w5 ⟨rfl, hb⟩
          have hcw1 := Lib.hid (hcw.out.call hb)
          clear hb hcw m0 m1
          obtain ⟨m0, m1⟩ := hcw1.out.2.1
          by_cases hgG : g < G
          · have hd2 : decide ((g : Int) < (G : Int)) = true := decide_eq_true (by omega)
            obtain ⟨⟨f1, f2, f3⟩, f4, f5⟩ := HF.out g hgG
            have HC1 := Lib.hid (fun X => HC.out (g : Int) X)
            have HE1 := Lib.hid (fun X => HE.out (c1Z x y (g : Nat)) X)
            have HE2 := Lib.hid (fun X => HE.out (c2Z x y (g : Nat)) X)
            generalize edB x y (c1Z x y (g : Nat)) = ea at *
            generalize edB x y (c2Z x y (g : Nat)) = ez at *
            generalize c1Z x y (g : Nat) = a at *
            generalize c2Z x y (g : Nat) = b at *
            have hna : decide (a < 0) = false := decide_eq_false (by omega)
            have hnb : decide ((k : Int) ≤ b) = false := decide_eq_false (by omega)
            have q6 : IntKind.i64.wrap (b - a) = b - a := IntWalk.i64_in _ (by omega)
            have hb1 : ∃ t, (b - a != 1) = t ∧ (t = true → (b - a != x + 1) = false) := ⟨_, rfl, fun h => by
              rw [bne_iff_ne] at h
              rcases f4 with f4 | f4
              · exact absurd f4 h
              · rw [f4]; simp⟩
            obtain ⟨t1, ht1, ht2⟩ := hb1
            go_wp2_with fail
            refine (HC1.out _).mono ?_
            rintro e w6 ⟨rfl, hb⟩
            have hcw2 := Lib.hid (hcw1.out.call hb)
            clear hb hcw1 m0 m1
            obtain ⟨m0, m1⟩ := hcw2.out.2.1
            go_wp2_with fail
            refine (HA.out _).mono ?_
            rintro e w7 ⟨rfl, hb⟩
            have hcw3 := Lib.hid (hcw2.out.call hb)
            clear hb hcw2 m0 m1
            obtain ⟨m0, m1⟩ := hcw3.out.2.1
            clear f4 f1 f2 f3
            cases t1 with
            | true =>
              have ht3 := ht2 rfl
              clear ht2
              by_cases hx : 1 < x
              · have hx5 : decide (1 < x) = true := decide_eq_true hx
                by_cases hy : 1 < y
                · have hy5 : decide (1 < y) = true := decide_eq_true hy
                  cases ea with
                  | true =>
                    obtain rfl : ez = false := by
                      rcases f5 with h | h | h | h
                      · omega
                      · omega
                      · cases h
                      · exact h
                    clear f5
                    go_wp2_with fail
                    refine (HE1.out _).mono ?_
                    rintro e w8 ⟨rfl, hb⟩
                    have hcw4 := Lib.hid (hcw3.out.call hb)
                    clear hb hcw3 m0 m1
                    obtain ⟨m0, m1⟩ := hcw4.out.2.1
                    go_wp2_with fail
                    refine (HE2.out _).mono ?_
                    rintro e w9 ⟨rfl, hb⟩
                    have hcw5 := Lib.hid (hcw4.out.call hb)
                    clear hb hcw4 m0 m1
                    go_wp2_with fail
                    go_roundw
                    case rel => exact ⟨g + 1, by omega, by go_num, hcw5.out⟩
                    case measure => simp [intOf]; omega
                  | false =>
                    clear f5
                    go_wp2_with fail
                    refine (HE1.out _).mono ?_
                    rintro e w8 ⟨rfl, hb⟩
                    have hcw4 := Lib.hid (hcw3.out.call hb)
                    clear hb hcw3 m0 m1
                    go_wp2_with fail
                    go_roundw
                    case rel => exact ⟨g + 1, by omega, by go_num, hcw4.out⟩
                    case measure => simp [intOf]; omega
                · have hy5 : decide (1 < y) = false := decide_eq_false hy
                  clear f5
                  go_wp2_with fail
                  go_roundw
                  case rel => exact ⟨g + 1, by omega, by go_num, hcw3.out⟩
                  case measure => simp [intOf]; omega
              · have hx5 : decide (1 < x) = false := decide_eq_false hx
                clear f5
                go_wp2_with fail
                go_roundw
                case rel => exact ⟨g + 1, by omega, by go_num, hcw3.out⟩
                case measure => simp [intOf]; omega
            | false =>
              clear ht2
              by_cases hx : 1 < x
              · have hx5 : decide (1 < x) = true := decide_eq_true hx
                by_cases hy : 1 < y
                · have hy5 : decide (1 < y) = true := decide_eq_true hy
                  cases ea with
                  | true =>
                    obtain rfl : ez = false := by
                      rcases f5 with h | h | h | h
                      · omega
                      · omega
                      · cases h
                      · exact h
                    clear f5
                    go_wp2_with fail
                    refine (HE1.out _).mono ?_
                    rintro e w8 ⟨rfl, hb⟩
                    have hcw4 := Lib.hid (hcw3.out.call hb)
                    clear hb hcw3 m0 m1
                    obtain ⟨m0, m1⟩ := hcw4.out.2.1
                    go_wp2_with fail
                    refine (HE2.out _).mono ?_
                    rintro e w9 ⟨rfl, hb⟩
                    have hcw5 := Lib.hid (hcw4.out.call hb)
                    clear hb hcw4 m0 m1
                    go_wp2_with fail
                    go_roundw
                    case rel => exact ⟨g + 1, by omega, by go_num, hcw5.out⟩
                    case measure => simp [intOf]; omega
                  | false =>
                    clear f5
                    go_wp2_with fail
                    refine (HE1.out _).mono ?_
                    rintro e w8 ⟨rfl, hb⟩
                    have hcw4 := Lib.hid (hcw3.out.call hb)
                    clear hb hcw3 m0 m1
                    go_wp2_with fail
                    go_roundw
                    case rel => exact ⟨g + 1, by omega, by go_num, hcw4.out⟩
                    case measure => simp [intOf]; omega
                · have hy5 : decide (1 < y) = false := decide_eq_false hy
                  clear f5
                  go_wp2_with fail
                  go_roundw
                  case rel => exact ⟨g + 1, by omega, by go_num, hcw3.out⟩
                  case measure => simp [intOf]; omega
              · have hx5 : decide (1 < x) = false := decide_eq_false hx
                clear f5
                go_wp2_with fail
                go_roundw
                case rel => exact ⟨g + 1, by omega, by go_num, hcw3.out⟩
                case measure => simp [intOf]; omega
          · obtain rfl : g = G := by omega
            have hd2 : decide ((g : Int) < (g : Int)) = false := by simp
            have q7 : IntKind.i64.wrap ((x - 1) * (y - 1)) = (x - 1) * (y - 1) := IntWalk.i64_in _ (by have := HI9.out; omega)
            go_wp2_with fail
            go_ret
            exact HK.out _ hcw1.out.1
end Go.Proofs.Ytpocldadkhpapaa.fnCorners
