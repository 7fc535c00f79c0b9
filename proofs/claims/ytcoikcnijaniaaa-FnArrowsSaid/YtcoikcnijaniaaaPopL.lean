/- The law of arrows: its walk, over the contracts of the program's functions. -/
import Derived.Test.YtcoikcnijaniaaaPopE
import Derived.Test.YtcoikcnijaniaaaPopQ
namespace Go.Proofs.Ytcoikcnijaniaaa.fnArrows
open Go.ChangeShapes Go.WideShapes Go.ChangeAt Go.RowKit
open draw gridP gridC gridE bitP mazeP mazeC mazeM mazeR mazeE intsP intA intK bigK reachP reachM reachN reachD forest perfP listK rowsP popP popQ popD popE listW
set_option linter.unusedVariables false

/-- The law's answer. -/
def Yes (w : World) (e : Ending) (w' : World) : Prop := e = .returned (.bool true) ∧ Below w.heap.size w w'
theorem yes_mk {w w' : World} (h : Below w.heap.size w w') : Yes w (.returned (.bool true)) w' := ⟨rfl, h⟩
/-- While the law goes on: the grid, the mazes. -/
def LB (w1 : World) (G : Nat) (x y : Int) (ms : List (Nat × Int × Int × Int)) (X : World) : Prop := Below w1.heap.size w1 X ∧ Row2 G x y X ∧ ∀ q ∈ ms, Row3 q.1 q.2.1 q.2.2.1 q.2.2.2 X
theorem LB.call {w1 X X' : World} {G : Nat} {x y : Int} {ms : List (Nat × Int × Int × Int)} (h : LB w1 G x y ms X) (hb : Below X.heap.size X X') : LB w1 G x y ms X' := ⟨below_call h.1 hb, h.2.1.call hb, fun q hq => (h.2.2 q hq).call hb⟩
theorem LB.maze {w1 X : World} {G : Nat} {x y : Int} {ms : List (Nat × Int × Int × Int)} (h : LB w1 G x y ms X) (a b o : Int) (T : TypeId) : LB w1 G x y ((X.heap.size, a, b, o) :: ms) (X.alloc (.cells #[.int .i64 a, .int .i64 b, .int .i64 o] T)) := by
  obtain ⟨h1, h2, h3⟩ := h.call (below_box X (.cells #[.int .i64 a, .int .i64 b, .int .i64 o] T))
  refine ⟨h1, h2, fun q hq => ?_⟩
  rcases List.mem_cons.1 hq with e | e
  · rw [e]; exact row3_new a b o X T
  · exact h3 q e
/-- What an order gives. -/
def Gv (x y : Int) (ls : List (List Int)) (l : List Int) (a b o u : Int) (k : Bool) : Prop := pmX x y ls l = a ∧ pmY x y ls l = b ∧ pmO x y ls l = o ∧ auZ x y ls l = u ∧ poB x y ls l = k
theorem gv_all {x y : Int} {ls : List (List Int)} {l l' : List Int} (hA : Ao x y ls) (h1 : l.length ≤ 5 ∧ ∀ u ∈ l, 0 ≤ u ∧ u < x * y) (h2 : l'.length ≤ 5 ∧ ∀ u ∈ l', 0 ≤ u ∧ u < x * y) :
    ∃ a b o u k, Gv x y ls l a b o u k ∧ Gv x y ls l' a b o u k ∧ (k = true → ipB a b o = true ∧ 0 ≤ u) ∧ (k = false → u = -1) := by
  have ho : ∀ l : List Int, (l.length ≤ 5 ∧ ∀ u ∈ l, 0 ≤ u ∧ u < x * y) → odB x y l = true := fun l h => by
    unfold odB
    rw [Bool.and_eq_true]
    refine ⟨decide_eq_true (by omega), ?_⟩
    rw [Bool.not_eq_true', List.any_eq_false]
    intro u hu
    simp [h.2 u hu]
  rcases arrows hA h1.2 h2.2 with ⟨e1, e2⟩ | ⟨t, L, L', o, e1, e2, e3⟩
  · have n1 := po_no (x := x) (y := y) (ls := ls) (l := l) (.inr (.inr e1))
    have n2 := po_no (x := x) (y := y) (ls := ls) (l := l') (.inr (.inr e2))
    obtain ⟨a1, a2, a3, a4⟩ := pm_bad n1
    obtain ⟨b1, b2, b3, b4⟩ := pm_bad n2
    exact ⟨0, 0, 0, -1, false, ⟨a1, a2, a3, a4, n1⟩, ⟨b1, b2, b3, b4, n2⟩, fun h => (by cases h), fun _ => rfl⟩
  · obtain ⟨a0, a1, a2, a3, a4⟩ := pm_good (ao_iff.2 hA) (ho l h1) e1
    obtain ⟨b0, b1, b2, b3, b4⟩ := pm_good (ao_iff.2 hA) (ho l' h2) e2
    exact ⟨x, y, o, _, true, ⟨a1, a2, a3, a4, a0⟩, ⟨b1, b2, b3, b4, b0⟩, fun _ => ⟨e3, Int.natCast_nonneg _⟩, fun h => (by cases h)⟩

set_option maxRecDepth 100000 in
set_option maxHeartbeats 4000000 in
theorem walk_at (A : Option Addr) (n c : Nat) (w : World) (hn : n ≤ maxLen) (hb : BytesIn w w.heap.size A n)
    (HPm : Hid (∀ x y A n c ls A2 n2 c2 l X, ls.length = n → n ≤ 1048576 → (∀ l ∈ ls, l.length ≤ 1048576) → MxIn X X.heap.size A ls → l.length = n2 → n2 ≤ 1048576 → IntsIn X X.heap.size A2 l → Calls Try.prog 22 #[.agg #[.int .i64 x, .int .i64 y], .slice A n c, .slice A2 n2 c2] X (MzB (pmX x y ls l) (pmY x y ls l) (pmO x y ls l) (poB x y ls l) X)))
    (HAu : Hid (∀ x y A n c ls A2 n2 c2 l X, ls.length = n → n ≤ 1048576 → (∀ l ∈ ls, l.length ≤ 1048576) → MxIn X X.heap.size A ls → l.length = n2 → n2 ≤ 1048576 → IntsIn X X.heap.size A2 l → Calls Try.prog 23 #[.agg #[.int .i64 x, .int .i64 y], .slice A n c, .slice A2 n2 c2] X (Nm (auZ x y ls l) X)))
    (HOk : Hid (∀ x y A n c ls X, ls.length = n → n ≤ 1048576 → (∀ l ∈ ls, l.length ≤ 1048576) → MxIn X X.heap.size A ls → Calls Try.prog 25 #[.agg #[.int .i64 x, .int .i64 y], .slice A n c] X (Bl (aoB x y ls) X)))
    (HIp : Hid (∀ x y z X, Calls Try.prog 24 #[.agg #[.int .i64 x, .int .i64 y, .int .i64 z]] X (Bl (ipB x y z) X))) :
    Calls Try.prog 4 #[.slice A n c] w (Yes w) := by
  have HK := @Lib.hid _ (fun w' h => @yes_mk w w' h)
  have HR := Lib.hid (Below.refl w.heap.size w)
  have HD := Lib.hid (drawArrows_any A n c w hn hb)
  have HN := Lib.hid hn
  unfold maxLen at hn
  clear hb
  by_cases hbig : 1048576 < n
  · clear HPm HAu HOk HIp HD
    go_enter Try.func4, Try.ntmps4
    go_wp2_with fail
    refine (big_yes A n c w HN.out hbig).mono ?_
    rintro e w' ⟨rfl, rfl⟩
    go_wp2_with fail
    go_ret
    exact HK.out _ HR.out
  · go_enter Try.func4, Try.ntmps4
    go_wp2_with fail
    refine (big_no A n c w HN.out (by omega)).mono ?_
    rintro e w' ⟨rfl, rfl⟩
    go_wp2_with fail
    refine HD.out.mono ?_
    rintro e w1 ⟨x, y, ls, v, l1, v1, l2, v2, ⟨hA, h1, h2⟩, rfl, hm, ho1, ho2, hb1⟩
    obtain ⟨A3, c3, rfl⟩ := hm.form
    obtain ⟨A5, c5, rfl⟩ := own_form ho1
    obtain ⟨A6, c6, rfl⟩ := own_form ho2
    obtain ⟨a, b, o, u, k, g1, g2, gT, gF⟩ := gv_all hA h1 h2
    have hAo := ao_iff.2 hA
    have hls : ls.length ≤ 1048576 ∧ ∀ l ∈ ls, l.length ≤ 1048576 := by
      have := hA.n16
      refine ⟨by omega, fun l hl => ?_⟩
      obtain ⟨i, hi⟩ := List.mem_iff_getElem?.1 hl
      have hil := (List.getElem?_eq_some_iff.1 hi).1
      have := (hA.2.2.2 i hil).1
      rw [rw_at hi] at this
      omega
    have P1 : Hid (∀ X, Below w1.heap.size w1 X → Calls Try.prog 22 #[.agg #[.int .i64 x, .int .i64 y], .slice A3 ls.length c3, .slice A5 l1.length c5] X (MzB a b o k X)) := Lib.hid fun X h => by
      have := HPm.out x y A3 ls.length c3 ls A5 l1.length c5 l1 X rfl hls.1 hls.2 ((hm.read.below h).more h.size) rfl (by omega) (((ints_own ho1).1.below h).more h.size)
      rwa [g1.1, g1.2.1, g1.2.2.1, g1.2.2.2.2] at this
    have P2 : Hid (∀ X, Below w1.heap.size w1 X → Calls Try.prog 22 #[.agg #[.int .i64 x, .int .i64 y], .slice A3 ls.length c3, .slice A6 l2.length c6] X (MzB a b o k X)) := Lib.hid fun X h => by
      have := HPm.out x y A3 ls.length c3 ls A6 l2.length c6 l2 X rfl hls.1 hls.2 ((hm.read.below h).more h.size) rfl (by omega) (((ints_own ho2).1.below h).more h.size)
      rwa [g2.1, g2.2.1, g2.2.2.1, g2.2.2.2.2] at this
    have U1 : Hid (∀ X, Below w1.heap.size w1 X → Calls Try.prog 23 #[.agg #[.int .i64 x, .int .i64 y], .slice A3 ls.length c3, .slice A5 l1.length c5] X (Nm u X)) := Lib.hid fun X h => by
      have := HAu.out x y A3 ls.length c3 ls A5 l1.length c5 l1 X rfl hls.1 hls.2 ((hm.read.below h).more h.size) rfl (by omega) (((ints_own ho1).1.below h).more h.size)
      rwa [g1.2.2.2.1] at this
    have U2 : Hid (∀ X, Below w1.heap.size w1 X → Calls Try.prog 23 #[.agg #[.int .i64 x, .int .i64 y], .slice A3 ls.length c3, .slice A6 l2.length c6] X (Nm u X)) := Lib.hid fun X h => by
      have := HAu.out x y A3 ls.length c3 ls A6 l2.length c6 l2 X rfl hls.1 hls.2 ((hm.read.below h).more h.size) rfl (by omega) (((ints_own ho2).1.below h).more h.size)
      rwa [g2.2.2.2.1] at this
    have O1 : Hid (∀ X, Below w1.heap.size w1 X → Calls Try.prog 25 #[.agg #[.int .i64 x, .int .i64 y], .slice A3 ls.length c3] X (Bl true X)) := Lib.hid fun X h => by
      have := HOk.out x y A3 ls.length c3 ls X rfl hls.1 hls.2 ((hm.read.below h).more h.size)
      rwa [hAo] at this
    have I1 : Hid (k = true → ∀ X, Calls Try.prog 24 #[.agg #[.int .i64 a, .int .i64 b, .int .i64 o]] X (Bl true X)) := Lib.hid fun h X => by
      have := HIp.out a b o X
      rwa [(gT h).1] at this
    have hL1 : Hid (∀ T, LB w1 w1.heap.size x y [] (w1.alloc (.cells #[.int .i64 x, .int .i64 y] T))) := Lib.hid fun T => ⟨below_box _ _, row2_new x y w1 T, fun q hq => absurd hq (by simp)⟩
    have HB1 := Lib.hid hb1
    have HT := Lib.hid (fun h => (gT h).2)
    have HF := Lib.hid gF
    generalize ls.length = m at *
    generalize l1.length = m1 at *
    generalize l2.length = m2 at *
    clear HPm HAu HOk HIp HD HR hA h1 h2 hm ho1 ho2 hb1 g1 g2 gT gF hAo hls
    go_wp2_with fail
    have hL := Lib.hid (hL1.out 25)
    clear hL1
    obtain ⟨⟨m0, m1'⟩, -⟩ := row2_cells hL.out.2.1
    go_wp2_with fail
    generalize w1.alloc (.cells #[.int .i64 x, .int .i64 y] 25) = wA at *
    refine (P1.out _ hL.out.1).mono ?_
    rintro e w2 ⟨rfl, hb⟩
    have hL2 := Lib.hid ((hL.out.call hb).maze a b o 27)
    clear hb hL m0 m1'
    obtain ⟨⟨m0, m1'⟩, -⟩ := row2_cells hL2.out.2.1
    go_wp2_with fail
    generalize w2.alloc (.cells #[.int .i64 a, .int .i64 b, .int .i64 o] 27) = wB at *
    refine (P2.out _ hL2.out.1).mono ?_
    rintro e w3 ⟨rfl, hb⟩
    have hL3 := Lib.hid ((hL2.out.call hb).maze a b o 27)
    clear hb hL2 m0 m1'
    obtain ⟨⟨m0, m1'⟩, -⟩ := row2_cells hL3.out.2.1
    go_wp2_with fail
    generalize w3.alloc (.cells #[.int .i64 a, .int .i64 b, .int .i64 o] 27) = wC at *
    refine (U1.out _ hL3.out.1).mono ?_
    rintro e w4 ⟨rfl, hb⟩
    have hL4 := Lib.hid (hL3.out.call hb)
    clear hb hL3 m0 m1'
    obtain ⟨⟨m0, m1'⟩, -⟩ := row2_cells hL4.out.2.1
    obtain ⟨⟨p0, p1, p2⟩, -⟩ := row3_cells (hL4.out.2.2 (w3.heap.size, a, b, o) (by simp))
    obtain ⟨⟨q0, q1, q2⟩, -⟩ := row3_cells (hL4.out.2.2 (w2.heap.size, a, b, o) (by simp))
    cases k
    · have hu := HF.out rfl
      subst hu
      clear I1 HT HF
      go_wp2_with fail
      refine (U2.out _ hL4.out.1).mono ?_
      rintro e w5 ⟨rfl, hb⟩
      have hL5 := Lib.hid (hL4.out.call hb)
      clear hb hL4 m0 m1' p0 p1 p2 q0 q1 q2
      obtain ⟨⟨m0, m1'⟩, -⟩ := row2_cells hL5.out.2.1
      go_wp2_with fail
      refine (O1.out _ hL5.out.1).mono ?_
      rintro e w6 ⟨rfl, hb⟩
      have hL6 := Lib.hid (hL5.out.call hb)
      clear hb hL5 m0 m1'
      go_wp2_with fail
      go_ret
      exact HK.out _ (below_call HB1.out hL6.out.1)
    · have hu := HT.out rfl
      have I2 := Lib.hid (I1.out rfl)
      clear I1 HT HF
      go_wp2_with fail
      refine (I2.out _).mono ?_
      rintro e w9 ⟨rfl, hb⟩
      have hL9 := Lib.hid (hL4.out.call hb)
      clear hb hL4 m0 m1' p0 p1 p2 q0 q1 q2
      obtain ⟨⟨m0, m1'⟩, -⟩ := row2_cells hL9.out.2.1
      go_wp2_with fail
      refine (U2.out _ hL9.out.1).mono ?_
      rintro e w5 ⟨rfl, hb⟩
      have hL5 := Lib.hid (hL9.out.call hb)
      clear hb hL9 m0 m1'
      obtain ⟨⟨m0, m1'⟩, -⟩ := row2_cells hL5.out.2.1
      go_wp2_with fail
      refine (O1.out _ hL5.out.1).mono ?_
      rintro e w6 ⟨rfl, hb⟩
      have hL6 := Lib.hid (hL5.out.call hb)
      clear hb hL5 m0 m1'
      go_wp2_with fail
      go_ret
      exact HK.out _ (below_call HB1.out hL6.out.1)
end Go.Proofs.Ytcoikcnijaniaaa.fnArrows
