/- The law of the right hand: its walk, over the contracts of the program's functions. -/
import Derived.Test.YtkknnikhpembiaaHandD
namespace Go.Proofs.Ytkknnikhpembiaa.fnHands
open Go.ChangeShapes Go.WideShapes Go.ChangeAt Go.RowKit
open draw gridP gridC gridE bitP mazeP mazeC mazeM mazeR mazeE intsP intK bigK reachP reachM reachN reachD forest intA listK handP handQ listW handM handD
set_option linter.unusedVariables false

/-- The law's answer. -/
def Yes (w : World) (e : Ending) (w' : World) : Prop := e = .returned (.bool true) ∧ Below w.heap.size w w'
theorem yes_mk {w w' : World} (h : Below w.heap.size w w') : Yes w (.returned (.bool true)) w' := ⟨rfl, h⟩
/-- While the law goes on: the maze, the walker, the walker after a step. -/
def LH (w : World) (M : Nat) (x y z c f : Int) (B : Nat) (a b : Int) (X : World) : Prop := Below w.heap.size w X ∧ Row3 M x y z X ∧ Row2 (M + 1) c f X ∧ Row2 B a b X
theorem LH.call {w X X' : World} {M B : Nat} {x y z c f a b : Int} (h : LH w M x y z c f B a b X) (hb : Below X.heap.size X X') : LH w M x y z c f B a b X' := ⟨below_call h.1 hb, h.2.1.call hb, h.2.2.1.call hb, h.2.2.2.call hb⟩

set_option maxRecDepth 100000 in
set_option maxHeartbeats 4000000 in
theorem walk_at (A : Option Addr) (n c : Nat) (w : World) (hn : n ≤ maxLen) (hb : BytesIn w w.heap.size A n)
    (HSt : Hid (∀ x y z c f X, Calls Try.prog 13 #[.agg #[.int .i64 x, .int .i64 y, .int .i64 z], .agg #[.int .i64 c, .int .i64 f]] X (Wk (hsC x y z c f) (hsF x y z c f) X)))
    (HCy : Hid (∀ x y z c f X, Calls Try.prog 14 #[.agg #[.int .i64 x, .int .i64 y, .int .i64 z], .agg #[.int .i64 c, .int .i64 f]] X (Nm (hcZ x y z c f) X)))
    (HRe : Hid (∀ x y z c f g X, Calls Try.prog 16 #[.agg #[.int .i64 x, .int .i64 y, .int .i64 z], .agg #[.int .i64 c, .int .i64 f], .int .i64 g] X (Bl (hrB x y z c f g) X)))
    (HCv : Hid (∀ x y z c f X, Calls Try.prog 17 #[.agg #[.int .i64 x, .int .i64 y, .int .i64 z], .agg #[.int .i64 c, .int .i64 f]] X (Ints (cvL x y z c f) X)))
    (HWk : Hid (∀ x y z c f k X, Calls Try.prog 18 #[.agg #[.int .i64 x, .int .i64 y, .int .i64 z], .agg #[.int .i64 c, .int .i64 f], .int .i64 k] X (Wks (hwI x y z c f k) X))) :
    Calls Try.prog 3 #[.slice A n c] w (Yes w) := by
  have HK := @Lib.hid _ (fun w' h => @yes_mk w w' h)
  have HR := Lib.hid (Below.refl w.heap.size w)
  have HD := Lib.hid (drawWalker_any A n c w hn hb)
  have HY := Lib.hid hb
  have HN := Lib.hid hn
  unfold maxLen at hn
  clear hb
  by_cases hbig : 1048576 < n
  · go_enter Try.func3, Try.ntmps3
    go_wp2_with fail
    refine (big_yes A n c w HN.out hbig).mono ?_
    rintro e w' ⟨rfl, rfl⟩
    go_wp2_with fail
    go_ret
    exact HK.out _ HR.out
  · go_enter Try.func3, Try.ntmps3
    go_wp2_with fail
    refine (big_no A n c w HN.out (by omega)).mono ?_
    rintro e w' ⟨rfl, rfl⟩
    go_wp2_with fail
    refine HD.out.mono ?_
    rintro e w1 ⟨x, y, o, c', f', ⟨hk, ⟨ho, hl, hp⟩, hc, hf⟩, rfl, hb1⟩
    have HC := Lib.hid (fun X => cellsA x y X)
    rw [show caN x y = cN x y by unfold caN; rw [if_pos hk]] at HC
    have hN16 := (deadR.nn3 hk).2.2
    have hN1 := (deadR.nn3 hk).2.1
    have HOne := Lib.hid (fun h1 => hands_one (f := f') hk ho h1 hc hf)
    have HMany := Lib.hid (fun h2 => hands hk ho hl hp h2 hc hf)
    have A1 := Lib.hid (HSt.out x y o c' f')
    have A2 := Lib.hid (HCy.out x y o c' f')
    have A3 := Lib.hid (HCy.out x y o (hsC x y o c' f') (hsF x y o c' f'))
    have A4 := Lib.hid (fun g => HRe.out x y o c' f' g)
    have A5 := Lib.hid (HCv.out x y o c' f')
    have A6 := Lib.hid (HWk.out x y o c' f' 5)
    have hwl : (hwI x y o c' f' 5).length = (hwL x y o c' f' 5).length := by unfold hwI; rw [List.length_map]
    have HY1 := Lib.hid (fun X (h : Below w.heap.size w X) => (HY.out.keep (w' := X) fun p hp => h.cell hp))
    have hz1 := hb1.size
    have hr3 : Hid (∀ T1 T2, Row3 w1.heap.size x y o ((w1.alloc (.cells #[.int .i64 x, .int .i64 y, .int .i64 o] T1)).alloc (.cells #[.int .i64 c', .int .i64 f'] T2))) := Lib.hid fun T1 T2 => (row3_new x y o w1 T1).call (below_box _ _)
    have hr2 : Hid (∀ T1 T2, Row2 (w1.heap.size + 1) c' f' ((w1.alloc (.cells #[.int .i64 x, .int .i64 y, .int .i64 o] T1)).alloc (.cells #[.int .i64 c', .int .i64 f'] T2))) := Lib.hid fun T1 T2 => by
      have := row2_new (c' : Int) (f' : Int) (w1.alloc (.cells #[.int .i64 x, .int .i64 y, .int .i64 o] T1)) T2
      simpa using this
    have hbl : Hid (∀ T1 T2, Below w.heap.size w ((w1.alloc (.cells #[.int .i64 x, .int .i64 y, .int .i64 o] T1)).alloc (.cells #[.int .i64 c', .int .i64 f'] T2))) := Lib.hid fun T1 T2 => (hb1.alloc hz1 _).alloc (by simp; omega) _
    clear HSt HCy HRe HCv HWk HD HR HY hb1 hk ho hl hp hc hf
    generalize hsC x y o c' f' = xc at *
    generalize hsF x y o c' f' = xf at *
    generalize cN x y = N at *
    go_wp2_with fail
    have hr3' := Lib.hid (hr3.out 27 29)
    have hr2' := Lib.hid (hr2.out 27 29)
    have hbl' := Lib.hid (hbl.out 27 29)
    obtain ⟨⟨m0, m1, m2⟩, -⟩ := row3_cells hr3'.out
    obtain ⟨⟨r0, r1⟩, -⟩ := row2_cells hr2'.out
    clear hr3 hr2 hbl
    go_wp2_with fail
    refine (HC.out _).mono ?_
    rintro e w2 ⟨rfl, hb⟩
    have hr32 := Lib.hid (hr3'.out.call hb)
    have hr22 := Lib.hid (hr2'.out.call hb)
    have hbl2 := Lib.hid (below_call hbl'.out hb)
    clear hb hr3' hr2' hbl' m0 m1 m2 r0 r1
    obtain ⟨⟨m0, m1, m2⟩, -⟩ := row3_cells hr32.out
    obtain ⟨⟨r0, r1⟩, -⟩ := row2_cells hr22.out
    go_wp2_with fail
    refine (A1.out _).mono ?_
    rintro e w3 ⟨rfl, hb⟩
    have hlh0 : Hid (∀ T, LH w w1.heap.size x y o c' f' w3.heap.size xc xf (w3.alloc (.cells #[.int .i64 xc, .int .i64 xf] T))) := Lib.hid fun T =>
      ⟨below_call (below_call hbl2.out hb) (below_box _ _), (hr32.out.call hb).call (below_box _ _), (hr22.out.call hb).call (below_box _ _), row2_new _ _ _ _⟩
    clear hb hr32 hr22 hbl2 m0 m1 m2 r0 r1
    by_cases hN2 : N = 1
    · obtain ⟨e1, e2⟩ := HOne.out hN2
      rw [e1] at A2
      have hq : ((N : Int) == 1) = true := by rw [hN2]; rfl
      have HX := Lib.hid e2
      clear HOne HMany A3 A4 A5 A6 e1 e2 hN2 hwl
      have hlh1 := Lib.hid (hlh0.out 29)
      clear hlh0
      obtain ⟨⟨m0, m1, m2⟩, -⟩ := row3_cells hlh1.out.2.1
      obtain ⟨⟨r0, r1⟩, -⟩ := row2_cells hlh1.out.2.2.1
      obtain ⟨⟨s0, s1⟩, -⟩ := row2_cells hlh1.out.2.2.2
      go_wp2_with fail
      generalize w3.alloc (.cells #[.int .i64 xc, .int .i64 xf] 29) = w4 at *
      generalize w3.heap.size = B at *
      refine (A2.out _).mono ?_
      rintro e w5 ⟨rfl, hb⟩
      have hlh2 := Lib.hid (hlh1.out.call hb)
      clear hb hlh1 m0 m1 m2 r0 r1 s0 s1
      obtain ⟨⟨m0, m1, m2⟩, -⟩ := row3_cells hlh2.out.2.1
      obtain ⟨⟨r0, r1⟩, -⟩ := row2_cells hlh2.out.2.2.1
      obtain ⟨⟨s0, s1⟩, -⟩ := row2_cells hlh2.out.2.2.2
      have hx2 : (xc == (c' : Int)) = true := by rw [HX.out]; simp
      go_wp2_with fail
      go_ret
      exact HK.out _ hlh2.out.1
    · obtain ⟨e1, e2, e3, e4⟩ := HMany.out (by omega)
      rw [e1] at A3
      have hq : ((N : Int) == 1) = false := by simp; omega
      have H3 := Lib.hid e3
      have H4 := Lib.hid (hwl.trans e4)
      have HG := Lib.hid e2
      clear HOne HMany A2 e1 e2 e3 e4 hwl
      generalize cvL x y o c' f' = cl at *
      generalize hwI x y o c' f' 5 = wl at *
      have hq1 : IntKind.i64.wrap ((N : Int) - 1) = (N : Int) - 1 := IntWalk.i64_in _ (by omega)
      have hq2 : IntKind.i64.wrap (2 * ((N : Int) - 1)) = 2 * ((N : Int) - 1) := IntWalk.i64_in _ (by omega)
      have hG0 : ((N : Int) = 0) = False := by simp; omega
      have hlh1 := Lib.hid (hlh0.out 29)
      clear hlh0
      obtain ⟨⟨m0, m1, m2⟩, -⟩ := row3_cells hlh1.out.2.1
      obtain ⟨⟨r0, r1⟩, -⟩ := row2_cells hlh1.out.2.2.1
      obtain ⟨⟨s0, s1⟩, -⟩ := row2_cells hlh1.out.2.2.2
      go_wp2_with fail
      generalize w3.alloc (.cells #[.int .i64 xc, .int .i64 xf] 29) = w4 at *
      generalize w3.heap.size = B at *
      refine (at_any A n c (0 : Int) w4 w.heap.size HN.out (HY1.out _ hlh1.out.1) (by omega) (by omega)).mono ?_
      rintro e w5 ⟨a, ha, rfl, rfl⟩
      obtain ⟨r, hr⟩ : ∃ r : Nat, (a : Int) % (N : Int) = (r : Int) := ⟨((a : Int) % (N : Int)).toNat, by have := Int.emod_nonneg (a : Int) (show (N : Int) ≠ 0 by omega); omega⟩
      have hrN : r < N := by have := Int.emod_lt_of_pos (a : Int) (show (0 : Int) < N by omega); omega
      have q2 : (a : Int).tmod (N : Int) = (r : Int) := by rw [IntWalk.rem_in _ _ (by omega), hr]
      have A4' := Lib.hid (fun X => A4.out (r : Nat) X)
      rw [HG.out r hrN] at A4'
      clear A4 HG hr ha
      go_wp2_with fail
      refine (A3.out _).mono ?_
      rintro e w6 ⟨rfl, hb⟩
      have hlh2 := Lib.hid (hlh1.out.call hb)
      clear hb hlh1 m0 m1 m2 r0 r1 s0 s1
      obtain ⟨⟨m0, m1, m2⟩, -⟩ := row3_cells hlh2.out.2.1
      obtain ⟨⟨r0, r1⟩, -⟩ := row2_cells hlh2.out.2.2.1
      obtain ⟨⟨s0, s1⟩, -⟩ := row2_cells hlh2.out.2.2.2
      go_wp2_with fail
      refine (A4'.out _).mono ?_
      rintro e w7 ⟨rfl, hb⟩
      have hlh3 := Lib.hid (hlh2.out.call hb)
      clear hb hlh2 m0 m1 m2 r0 r1 s0 s1
      obtain ⟨⟨m0, m1, m2⟩, -⟩ := row3_cells hlh3.out.2.1
      obtain ⟨⟨r0, r1⟩, -⟩ := row2_cells hlh3.out.2.2.1
      obtain ⟨⟨s0, s1⟩, -⟩ := row2_cells hlh3.out.2.2.2
      go_wp2_with fail
      refine (A5.out _).mono ?_
      rintro e w8 ⟨v1, rfl, ho1, hb⟩
      obtain ⟨Ac, cc, rfl⟩ := intsP.own_form ho1
      clear ho1
      have hlh4 := Lib.hid (hlh3.out.call hb)
      clear hb hlh3 m0 m1 m2 r0 r1 s0 s1
      obtain ⟨⟨m0, m1, m2⟩, -⟩ := row3_cells hlh4.out.2.1
      obtain ⟨⟨r0, r1⟩, -⟩ := row2_cells hlh4.out.2.2.1
      obtain ⟨⟨s0, s1⟩, -⟩ := row2_cells hlh4.out.2.2.2
      have H3' := H3.out
      rw [H3']
      clear H3'
      go_wp2_with fail
      refine (A6.out _).mono ?_
      rintro e w9 ⟨v2, rfl, ho2, hb⟩
      obtain ⟨Aw, cw, rfl⟩ := intsP.own_form ho2
      clear ho2
      have hlh5 := Lib.hid (hlh4.out.call hb)
      clear hb hlh4 m0 m1 m2 r0 r1 s0 s1
      obtain ⟨⟨m0, m1, m2⟩, -⟩ := row3_cells hlh5.out.2.1
      obtain ⟨⟨r0, r1⟩, -⟩ := row2_cells hlh5.out.2.2.1
      obtain ⟨⟨s0, s1⟩, -⟩ := row2_cells hlh5.out.2.2.2
      have H4' := H4.out
      rw [H4']
      clear H4'
      go_wp2_with fail
      go_ret
      exact HK.out _ hlh5.out.1
end Go.Proofs.Ytkknnikhpembiaa.fnHands
