/- The law of growing and dividing: its walk, over the contracts of the program's functions. -/
import Derived.Test.YthakbjdkcdppjaaGrwL
import Derived.Test.YthakbjdkcdppjaaGrwR
namespace Go.Proofs.Ythakbjdkcdppjaa.fnGrown
open Go.ChangeShapes Go.WideShapes Go.ChangeAt Go.RowKit
open draw gridP gridC gridE bitP mazeP mazeC mazeM mazeR mazeS intsP intA intK bigK reachP reachM reachN reachD listK listW perfP wayP ersP ersO grwP grwR grwL
set_option linter.unusedVariables false
set_option linter.unusedSimpArgs false

/-- The law's answer. -/
def Yes (w : World) (e : Ending) (w' : World) : Prop := e = .returned (.bool true) ∧ Below w.heap.size w w'
theorem yes_mk {w w' : World} (h : Below w.heap.size w w') : Yes w (.returned (.bool true)) w' := ⟨rfl, h⟩
/-- While the law goes on: the grid, the choices, the mazes. -/
def LG (w1 : World) (G : Nat) (x y : Int) (A : Option Addr) (l : List Int) (M N : Option (Nat × Int)) (X : World) : Prop :=
  Below w1.heap.size w1 X ∧ Row2 G x y X ∧ IntsIn X w1.heap.size A l ∧ (∀ q, M = some q → Row3 q.1 x y q.2 X) ∧ ∀ q, N = some q → Row3 q.1 x y q.2 X
section
variable {w1 X X' : World} {G : Nat} {x y z : Int} {A : Option Addr} {l : List Int} {M N : Option (Nat × Int)}
theorem LG.call (h : LG w1 G x y A l M N X) (hb : Below X.heap.size X X') : LG w1 G x y A l M N X' :=
  ⟨below_call h.1 hb, h.2.1.call hb, h.2.2.1.below (hb.mono h.1.size), fun q hq => (h.2.2.2.1 q hq).call hb, fun q hq => (h.2.2.2.2 q hq).call hb⟩
theorem LG.ints (h : LG w1 G x y A l M N X) : IntsIn X X.heap.size A l := h.2.2.1.more h.1.size
theorem LG.one (h : LG w1 G x y A l none N X) (z : Int) (T : TypeId) : LG w1 G x y A l (some (X.heap.size, z)) N (X.alloc (.cells #[.int .i64 x, .int .i64 y, .int .i64 z] T)) := by
  obtain ⟨h1, h2, h3, -, h5⟩ := h.call (below_box X (.cells #[.int .i64 x, .int .i64 y, .int .i64 z] T))
  exact ⟨h1, h2, h3, fun q hq => by cases hq; exact row3_new x y z X T, h5⟩
theorem LG.two (h : LG w1 G x y A l M none X) (z : Int) (T : TypeId) : LG w1 G x y A l M (some (X.heap.size, z)) (X.alloc (.cells #[.int .i64 x, .int .i64 y, .int .i64 z] T)) := by
  obtain ⟨h1, h2, h3, h4, -⟩ := h.call (below_box X (.cells #[.int .i64 x, .int .i64 y, .int .i64 z] T))
  exact ⟨h1, h2, h3, h4, fun q hq => by cases hq; exact row3_new x y z X T⟩
theorem LG.cells (h : LG w1 G x y A l M N X) : X.cell? ⟨G, 0, none⟩ = some (.int .i64 x) ∧ X.cell? ⟨G, 1, none⟩ = some (.int .i64 y) := (row2_cells h.2.1).1
end

set_option maxRecDepth 100000 in
set_option maxHeartbeats 2000000 in
theorem walk_at (A : Option Addr) (n c : Nat) (w : World) (hn : n ≤ maxLen) (hb : BytesIn w w.heap.size A n)
    (HPf : Hid (∀ x y z X, Calls Try.prog 11 #[.agg #[.int .i64 x, .int .i64 y, .int .i64 z]] X (Bl (ipB x y z) X)))
    (HGr : Hid (∀ x y A n c l X, l.length = n → n ≤ 1048576 → IntsIn X X.heap.size A l → n ≤ c → Calls Try.prog 9 #[.agg #[.int .i64 x, .int .i64 y], .slice A n c] X (Mz (fmX x y) (fmY x y) (gmO x y l) X)))
    (HDi : Hid (∀ x y A n c l X, l.length = n → n ≤ 1048576 → IntsIn X X.heap.size A l → n ≤ c → Calls Try.prog 10 #[.agg #[.int .i64 x, .int .i64 y], .slice A n c] X (Mz (fmX x y) (fmY x y) (dmO x y l) X)))
    (HCr : Hid (∀ x y X, Calls Try.prog 12 #[.agg #[.int .i64 x, .int .i64 y]] X (Nm (crZ x y) X))) :
    Calls Try.prog 3 #[.slice A n c] w (Yes w) := by
  have HK := @Lib.hid _ (fun w' h => @yes_mk w w' h)
  have HR := Lib.hid (Below.refl w.heap.size w)
  have HD := Lib.hid (drawChoices_any A n c w hn hb)
  have HN := Lib.hid hn
  unfold maxLen at hn
  clear hb
  by_cases hbig : 1048576 < n
  · clear HPf HGr HDi HCr HD
    go_enter Try.func3, Try.ntmps3
    go_wp2_with fail
    refine (big_yes A n c w HN.out hbig).mono ?_
    rintro e w' ⟨rfl, rfl⟩
    go_wp2_with fail
    go_ret
    exact HK.out _ HR.out
  · go_enter Try.func3, Try.ntmps3
    go_wp2_with fail
    refine (big_no A n c w HN.out (by omega)).mono ?_
    rintro e w' ⟨rfl, rfl⟩
    go_wp2_with fail
    refine HD.out.mono ?_
    rintro e w1 ⟨x, y, l, v, ⟨hk, hl, -⟩, rfl, ho, hb1⟩
    obtain ⟨A5, c5, rfl⟩ := own_form ho
    have hcap := (ersO.own_cap ho).1
    obtain ⟨e1, e2, e3⟩ := growing hk l
    have P1 : Hid (∀ X, IntsIn X X.heap.size A5 l → Calls Try.prog 9 #[.agg #[.int .i64 x, .int .i64 y], .slice A5 l.length c5] X (Mz x y (gmO x y l) X)) := Lib.hid fun X h => by
      have := HGr.out x y A5 l.length c5 l X rfl (by omega) h hcap
      unfold fmX fmY at this
      rwa [if_pos hk, if_pos hk] at this
    have P2 : Hid (∀ X, IntsIn X X.heap.size A5 l → Calls Try.prog 10 #[.agg #[.int .i64 x, .int .i64 y], .slice A5 l.length c5] X (Mz x y (dmO x y l) X)) := Lib.hid fun X h => by
      have := HDi.out x y A5 l.length c5 l X rfl (by omega) h hcap
      unfold fmX fmY at this
      rwa [if_pos hk, if_pos hk] at this
    have P3 : Hid (∀ X, Calls Try.prog 11 #[.agg #[.int .i64 x, .int .i64 y, .int .i64 (gmO x y l)]] X (Bl true X)) := Lib.hid fun X => by
      have := HPf.out x y (gmO x y l) X
      rwa [e1] at this
    have P4 : Hid (∀ X, Calls Try.prog 11 #[.agg #[.int .i64 x, .int .i64 y, .int .i64 (dmO x y l)]] X (Bl true X)) := Lib.hid fun X => by
      have := HPf.out x y (dmO x y l) X
      rwa [e2] at this
    have P5 := Lib.hid (fun X => HCr.out x y X)
    have hL1 : Hid (∀ T, LG w1 w1.heap.size x y A5 l none none (w1.alloc (.cells #[.int .i64 x, .int .i64 y] T))) := Lib.hid fun T => ⟨below_box _ _, row2_new x y w1 T, (ints_own ho).1.below (below_box _ _), (fun q hq => by cases hq), (fun q hq => by cases hq)⟩
    have HB1 := Lib.hid hb1
    clear HPf HGr HDi HCr HD HR ho hb1 hk e1 e2 hl hcap
    generalize gmO x y l = o1 at *
    generalize dmO x y l = o2 at *
    generalize crZ x y = cz at *
    go_wp2_with fail
    have hL := Lib.hid (hL1.out 25)
    clear hL1
    obtain ⟨m0, m1⟩ := hL.out.cells
    go_wp2_with fail
    generalize w1.alloc (.cells #[.int .i64 x, .int .i64 y] 25) = wA at *
    generalize hG : w1.heap.size = G at *
    refine (P1.out _ hL.out.ints).mono ?_
    rintro e w2 ⟨rfl, hb⟩
    have hL2 := Lib.hid ((hL.out.call hb).one o1 30)
    clear hb hL m0 m1
    obtain ⟨m0, m1⟩ := hL2.out.cells
    go_wp2_with fail
    generalize w2.alloc (.cells #[.int .i64 x, .int .i64 y, .int .i64 o1] 30) = wB at *
    generalize w2.heap.size = M1 at *
    refine (P2.out _ hL2.out.ints).mono ?_
    rintro e w3 ⟨rfl, hb⟩
    have hL3 := Lib.hid ((hL2.out.call hb).two o2 30)
    clear hb hL2 m0 m1
    obtain ⟨⟨p0, p1, p2⟩, -⟩ := row3_cells (hL3.out.2.2.2.1 _ rfl)
    go_wp2_with fail
    generalize w3.alloc (.cells #[.int .i64 x, .int .i64 y, .int .i64 o2] 30) = wC at *
    generalize w3.heap.size = M2 at *
    refine (P3.out _).mono ?_
    rintro e w4 ⟨rfl, hb⟩
    have hL4 := Lib.hid (hL3.out.call hb)
    clear hb hL3 p0 p1 p2
    obtain ⟨⟨q0, q1, q2⟩, -⟩ := row3_cells (hL4.out.2.2.2.2 _ rfl)
    go_wp2_with fail
    refine (P4.out _).mono ?_
    rintro e w5 ⟨rfl, hb⟩
    have hL5 := Lib.hid (hL4.out.call hb)
    clear hb hL4 q0 q1 q2
    obtain ⟨m0, m1⟩ := hL5.out.cells
    obtain ⟨⟨p0, p1, p2⟩, -⟩ := row3_cells (hL5.out.2.2.2.1 _ rfl)
    obtain ⟨⟨q0, q1, q2⟩, -⟩ := row3_cells (hL5.out.2.2.2.2 _ rfl)
    go_wp2_with fail
    refine (P5.out _).mono ?_
    rintro e w6 ⟨rfl, hb⟩
    have hL6 := Lib.hid (hL5.out.call hb)
    clear hb hL5
    have h3 : decide (0 ≤ cz) = true := decide_eq_true e3
    go_wp2_with fail
    go_ret
    exact HK.out _ (below_call HB1.out (by rw [← hG] at *; exact hL6.out.1))
end Go.Proofs.Ythakbjdkcdppjaa.fnGrown
