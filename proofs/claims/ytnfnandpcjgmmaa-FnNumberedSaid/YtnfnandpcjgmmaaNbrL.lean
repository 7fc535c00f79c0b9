/- The law of numbers: its walk, over the contracts of the program's functions. -/
import Derived.Test.YtnfnandpcjgmmaaNbrQ
import Derived.Test.YtnfnandpcjgmmaaTreA
namespace Go.Proofs.Ytnfnandpcjgmmaa.fnNumbered
open Go.ChangeShapes Go.WideShapes Go.ChangeAt Go.RowKit
open draw gridP gridC bitP mazeP mazeC mazeM mazeR mazeE bigK reachP reachM reachN reachD forest deadP treA nbrP nbrQ cntQ cntF
set_option linter.unusedVariables false

/-- The law's answer. -/
def Yes (w : World) (e : Ending) (w' : World) : Prop := e = .returned (.bool true) ∧ Below w.heap.size w w'
theorem yes_mk {w w' : World} (h : Below w.heap.size w w') : Yes w (.returned (.bool true)) w' := ⟨rfl, h⟩
/-- While the law goes on: the maze that was drawn. -/
def LM (w : World) (M : Nat) (x y z : Int) (X : World) : Prop := Below w.heap.size w X ∧ MBox M x y z X
theorem LM.call {w X X' : World} {M : Nat} {x y z : Int} (h : LM w M x y z X) (hb : Below X.heap.size X X') : LM w M x y z X' := ⟨below_call h.1 hb, h.2.call hb⟩
/-- A number below a, out of two bytes. -/
theorem two_bytes {r s a : Nat} (hr : r < 256) (hs : s < 256) (ha : 0 < a) (hb : a ≤ 16777216) : ∃ k : Nat, k < a ∧ ((r : Int) * 256 + (s : Int)).tmod (a : Int) = (k : Int) ∧ (a = 1 → k = 0) := by
  refine ⟨(r * 256 + s) % a, Nat.mod_lt _ ha, ?_, fun h => ?_⟩
  · rw [show (r : Int) * 256 + (s : Int) = ((r * 256 + s : Nat) : Int) by omega, IntWalk.rem_in _ _ (by omega)]; simp
  · subst h; exact Nat.mod_one _

set_option maxRecDepth 100000 in
set_option maxHeartbeats 4000000 in
theorem walk_at (A : Option Addr) (n c : Nat) (w : World) (hn : n ≤ maxLen) (hb : BytesIn w w.heap.size A n)
    (HNo : Hid (∀ x y z X, Calls Try.prog 10 #[.agg #[.int .i64 x, .int .i64 y, .int .i64 z]] X (Nm (nuZ x y z) X)))
    (HCa : Hid (∀ x y X, Calls Try.prog 11 #[.agg #[.int .i64 x, .int .i64 y]] X (Nm (cfZ x y 0 0) X)))
    (HMa : Hid (∀ x y k X, Calls Try.prog 12 #[.agg #[.int .i64 x, .int .i64 y], .int .i64 k] X (MzB (atX x y k) (atY x y k) (atO x y k) (atB x y k) X)))
    (HNm : Hid (∀ x y z X, Calls Try.prog 13 #[.agg #[.int .i64 x, .int .i64 y, .int .i64 z]] X (MzB x y (nmO x y z) (nmB x y z) X)))
    (HCt : Hid (∀ x y z X, Calls Try.prog 15 #[.agg #[.int .i64 x, .int .i64 y, .int .i64 z]] X (Nm (ctZ x y z) X)))
    (HFm : Hid (∀ x y X, Calls Try.prog 16 #[.agg #[.int .i64 x, .int .i64 y]] X (Mz (fmX x y) (fmY x y) (fmO x y) X))) :
    Calls Try.prog 3 #[.slice A n c] w (Yes w) := by
  have HK := @Lib.hid _ (fun w' h => @yes_mk w w' h)
  have HR := Lib.hid (Below.refl w.heap.size w)
  have HD := Lib.hid (drawPerfect_any A n c w hn hb)
  have HY := Lib.hid hb
  have HN := Lib.hid hn
  unfold maxLen at hn
  clear hb
  by_cases hbig : 1048576 < n
  · go_enter Try.func3, Try.ntmps3
    go_wp2_with fail
    refine (big_yes A n c w HN.out hbig).mono ?_
    rintro e w' ⟨rfl, rfl⟩
    go_wp2_with fail
    go_ret
    exact HK.out _ HR.out
  · go_enter Try.func3, Try.ntmps3
    go_wp2_with fail
    refine (big_no A n c w HN.out (by omega)).mono ?_
    rintro e w' ⟨rfl, rfl⟩
    go_wp2_with fail
    refine HD.out.mono ?_
    rintro e w1 ⟨x, y, o, hk, hz, rfl, hb1⟩
    obtain ⟨nn, a, f1, f2, f3, f4, f5, f6, f7, f8, f9, f10, f11, f12⟩ := numbers hk hz.1 hz.2
    have hfm : fmX x y = x ∧ fmY x y = y ∧ fmO x y = topZ x y := by
      unfold fmX fmY fmO
      have hk4 : 1 ≤ x ∧ x ≤ 4 ∧ 1 ≤ y ∧ y ≤ 4 := hk
      rw [if_pos hk4, if_pos hk4, if_pos hk4]
      exact ⟨rfl, rfl, rfl⟩
    have A1 := Lib.hid (HNo.out x y o)
    rw [f1] at A1
    have A2 := Lib.hid (HCa.out x y)
    rw [f2] at A2
    have A3 := Lib.hid (HMa.out x y nn)
    rw [f5, f6, f7, f8] at A3
    have A4 := Lib.hid (HNm.out x y o)
    rw [f9] at A4
    have A5 := Lib.hid (HFm.out x y)
    rw [hfm.1, hfm.2.1, hfm.2.2] at A5
    have A6 := Lib.hid (HCt.out x y (topZ x y))
    rw [f11] at A6
    have A7 : Hid (∀ k : Nat, k < a → ∀ X, Calls Try.prog 12 #[.agg #[.int .i64 x, .int .i64 y], .int .i64 k] X (MzB x y (atO x y k) true X)) := Lib.hid fun k h X => by
      have := HMa.out x y k X
      rwa [(f12 k h).1, (f12 k h).2.1, (f12 k h).2.2.1] at this
    have A8 : Hid (∀ k : Nat, k < a → ∀ X, Calls Try.prog 10 #[.agg #[.int .i64 x, .int .i64 y, .int .i64 (atO x y k)]] X (Nm k X)) := Lib.hid fun k h X => by
      have := HNo.out x y (atO x y k) X
      rwa [(f12 k h).2.2.2] at this
    have A9 : Hid (nn + 1 < a → ∀ X, Calls Try.prog 10 #[.agg #[.int .i64 x, .int .i64 y, .int .i64 (nmO x y o)]] X (Nm ((nn + 1 : Nat) : Int) X)) := Lib.hid fun h X => by
      have := HNo.out x y (nmO x y o) X
      rwa [f10 h] at this
    have hz1 := hb1.size
    have hlm0 : Hid (∀ T, LM w w1.heap.size x y o (w1.alloc (.cells #[.int .i64 x, .int .i64 y, .int .i64 o] T))) := fun T => ⟨hb1.alloc hz1 _, mbox_new x y o w1 T⟩
    have HY1 := Lib.hid (fun X (h : Below w.heap.size w X) => (HY.out.keep (w' := X) fun p hp => h.cell hp))
    clear HNo HCa HMa HNm HCt HFm HD HR HY hb1 hk hz f1 f2 f5 f6 f7 f8 f9 f10 f11 f12 hfm
    generalize topZ x y = tz at *
    generalize nmO x y o = no at *
    generalize (o : Int) = z at *
    go_wp2_with fail
    refine (A1.out _).mono ?_
    rintro e w2 ⟨rfl, hb⟩
    have hm2 := Lib.hid ((hlm0.out _).call hb)
    clear hb hlm0
    obtain ⟨c0, c1, c2⟩ := hm2.out.2.1
    go_wp2_with fail
    refine (A2.out _).mono ?_
    rintro e w3 ⟨rfl, hb⟩
    have hm3 := Lib.hid (hm2.out.call hb)
    clear hb hm2 c0 c1 c2
    obtain ⟨c0, c1, c2⟩ := hm3.out.2.1
    go_wp2_with fail
    refine (A3.out _).mono ?_
    rintro e w4 ⟨rfl, hb⟩
    have hm4 := Lib.hid ((hm3.out.call hb).call (below_box _ (.cells #[.int .i64 x, .int .i64 y, .int .i64 z] 27)))
    have hx4 := Lib.hid (mbox_new x y z w4 27)
    clear hb hm3 c0 c1 c2
    obtain ⟨c0, c1, c2⟩ := hm4.out.2.1
    go_wp2_with fail
    refine (A4.out _).mono ?_
    rintro e w5 ⟨rfl, hb⟩
    have hm5 := Lib.hid ((hm4.out.call hb).call (below_box _ (.cells #[.int .i64 x, .int .i64 y, .int .i64 no] 27)))
    have hx5 := Lib.hid ((hx4.out.call hb).call (below_box _ (.cells #[.int .i64 x, .int .i64 y, .int .i64 no] 27)))
    have hv5 := Lib.hid (mbox_new x y no w5 27)
    clear hb hm4 hx4 c0 c1 c2
    obtain ⟨c0, c1, c2⟩ := hm5.out.2.1
    have HAt := Lib.hid (fun i (i0 : (0 : Int) ≤ i) (i1 : i ≤ 1000000) => at_any A n c i _ w.heap.size HN.out (HY1.out _ hm5.out.1) i0 i1)
    clear HY1
    go_wp2_with fail
    refine (HAt.out 0 (by omega) (by omega)).mono ?_
    rintro e w6 ⟨r, hr, rfl, rfl⟩
    go_wp2_with fail
    refine (HAt.out 1 (by omega) (by omega)).mono ?_
    rintro e w7 ⟨s, hs, rfl, rfl⟩
    obtain ⟨kk, hkk, q3, hk1⟩ := two_bytes hr hs (show 0 < a by omega) f4
    have A7k := Lib.hid (A7.out kk hkk)
    have A8k := Lib.hid (A8.out kk hkk)
    clear A7 A8 HAt
    generalize atO x y kk = yk at *
    have q1 : IntKind.i64.wrap ((r : Int) * 256) = (r : Int) * 256 := IntWalk.i64_in _ (by omega)
    have q2 : IntKind.i64.wrap ((r : Int) * 256 + (s : Int)) = (r : Int) * 256 + (s : Int) := IntWalk.i64_in _ (by omega)
    rcases Nat.lt_or_ge 1 a with ha1 | ha1
    · have hla : ((a : Int) ≤ 1) = False := by simp; omega
      have ha0 : ((a : Int) = 0) = False := by simp; omega
      clear hk1
      go_wp2_with fail
      refine (A7k.out _).mono ?_
      rintro e w8 ⟨rfl, hb⟩
      have hm8 := Lib.hid ((hm5.out.call hb).call (below_box _ (.cells #[.int .i64 x, .int .i64 y, .int .i64 yk] 27)))
      have hx8 := Lib.hid ((hx5.out.call hb).call (below_box _ (.cells #[.int .i64 x, .int .i64 y, .int .i64 yk] 27)))
      have hv8 := Lib.hid ((hv5.out.call hb).call (below_box _ (.cells #[.int .i64 x, .int .i64 y, .int .i64 yk] 27)))
      have hy8 := Lib.hid (mbox_new x y yk w8 27)
      clear hb hm5 hx5 hv5 c0 c1 c2
      obtain ⟨c0, c1, c2⟩ := hm8.out.2.1
      obtain ⟨x0, x1, x2⟩ := hx8.out.1
      obtain ⟨v0, v1, v2⟩ := hv8.out.1
      obtain ⟨y0, y1, y2⟩ := hy8.out.1
      have p1 : IntKind.i64.wrap ((nn : Int) + 1) = (nn : Int) + 1 := IntWalk.i64_in _ (by omega)
      have hd1 : decide ((0 : Int) ≤ (nn : Int)) = true := decide_eq_true (by omega)
      have hd2 : decide ((nn : Int) < (a : Int)) = true := decide_eq_true (by omega)
      by_cases hmore : nn + 1 < a
      · have hd3 : decide ((nn : Int) + 1 < (a : Int)) = true := decide_eq_true (by omega)
        have A9m := Lib.hid (A9.out hmore)
        go_wp2_with fail
        refine (A9m.out _).mono ?_
        rintro e w9 ⟨rfl, hb⟩
        have hm9 := Lib.hid (hm8.out.call hb)
        have hy9 := Lib.hid (hy8.out.call hb)
        clear hb hm8 hy8 c0 c1 c2 y0 y1 y2
        obtain ⟨c0, c1, c2⟩ := hm9.out.2.1
        obtain ⟨y0, y1, y2⟩ := hy9.out.1
        go_wp2_with fail
        refine (A8k.out _).mono ?_
        rintro e w10 ⟨rfl, hb⟩
        have hm10 := Lib.hid (hm9.out.call hb)
        clear hb hm9 hy9 c0 c1 c2 y0 y1 y2
        obtain ⟨c0, c1, c2⟩ := hm10.out.2.1
        go_wp2_with fail
        refine (A5.out _).mono ?_
        rintro e w11 ⟨rfl, hb⟩
        have hm11 := Lib.hid (hm10.out.call hb)
        clear hb hm10 c0 c1 c2
        go_wp2_with fail
        refine (A6.out _).mono ?_
        rintro e w12 ⟨rfl, hb⟩
        have hm12 := Lib.hid (hm11.out.call hb)
        clear hb hm11
        go_wp2_with fail
        go_ret
        exact HK.out _ hm12.out.1
      · have hd3 : decide ((nn : Int) + 1 < (a : Int)) = false := decide_eq_false (by omega)
        go_wp2_with fail
        refine (A8k.out _).mono ?_
        rintro e w10 ⟨rfl, hb⟩
        have hm10 := Lib.hid (hm8.out.call hb)
        clear hb hm8 hy8 c0 c1 c2 y0 y1 y2
        obtain ⟨c0, c1, c2⟩ := hm10.out.2.1
        go_wp2_with fail
        refine (A5.out _).mono ?_
        rintro e w11 ⟨rfl, hb⟩
        have hm11 := Lib.hid (hm10.out.call hb)
        clear hb hm10 c0 c1 c2
        go_wp2_with fail
        refine (A6.out _).mono ?_
        rintro e w12 ⟨rfl, hb⟩
        have hm12 := Lib.hid (hm11.out.call hb)
        clear hb hm11
        go_wp2_with fail
        go_ret
        exact HK.out _ hm12.out.1
    · obtain rfl : a = 1 := by omega
      obtain rfl := hk1 rfl
      clear q3
      go_wp2_with fail
      refine (A7k.out _).mono ?_
      rintro e w8 ⟨rfl, hb⟩
      have hm8 := Lib.hid ((hm5.out.call hb).call (below_box _ (.cells #[.int .i64 x, .int .i64 y, .int .i64 yk] 27)))
      have hx8 := Lib.hid ((hx5.out.call hb).call (below_box _ (.cells #[.int .i64 x, .int .i64 y, .int .i64 yk] 27)))
      have hv8 := Lib.hid ((hv5.out.call hb).call (below_box _ (.cells #[.int .i64 x, .int .i64 y, .int .i64 yk] 27)))
      have hy8 := Lib.hid (mbox_new x y yk w8 27)
      clear hb hm5 hx5 hv5 c0 c1 c2
      obtain ⟨c0, c1, c2⟩ := hm8.out.2.1
      obtain ⟨x0, x1, x2⟩ := hx8.out.1
      obtain ⟨v0, v1, v2⟩ := hv8.out.1
      obtain ⟨y0, y1, y2⟩ := hy8.out.1
      have p1 : IntKind.i64.wrap ((nn : Int) + 1) = (nn : Int) + 1 := IntWalk.i64_in _ (by omega)
      have hd1 : decide ((0 : Int) ≤ (nn : Int)) = true := decide_eq_true (by omega)
      have hd2 : decide ((nn : Int) < (1 : Int)) = true := decide_eq_true (by omega)
      have hd3 : decide ((nn : Int) + 1 < (1 : Int)) = false := decide_eq_false (by omega)
      have hmore : ¬ nn + 1 < 1 := by omega
      go_wp2_with fail
      refine (A8k.out _).mono ?_
      rintro e w10 ⟨rfl, hb⟩
      have hm10 := Lib.hid (hm8.out.call hb)
      clear hb hm8 hy8 c0 c1 c2 y0 y1 y2
      obtain ⟨c0, c1, c2⟩ := hm10.out.2.1
      go_wp2_with fail
      refine (A5.out _).mono ?_
      rintro e w11 ⟨rfl, hb⟩
      have hm11 := Lib.hid (hm10.out.call hb)
      clear hb hm10 c0 c1 c2
      go_wp2_with fail
      refine (A6.out _).mono ?_
      rintro e w12 ⟨rfl, hb⟩
      have hm12 := Lib.hid (hm11.out.call hb)
      clear hb hm11
      go_wp2_with fail
      go_ret
      exact HK.out _ hm12.out.1
end Go.Proofs.Ytnfnandpcjgmmaa.fnNumbered
