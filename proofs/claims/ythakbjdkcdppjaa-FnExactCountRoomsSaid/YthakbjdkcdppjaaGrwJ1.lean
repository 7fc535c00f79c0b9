/- Blocks of several cells; the contracts of the program's functions on spans and rooms. -/
import Derived.Test.YthakbjdkcdppjaaGrwI1
import Derived.Test.YthakbjdkcdppjaaGrwJ0
namespace Go.Proofs.Ythakbjdkcdppjaa.grwJ
open Go.ChangeShapes Go.WideShapes Go.ChangeAt Go.RowKit
open draw gridP gridC gridE bitP mazeP mazeC mazeM intsP reachP reachM reachN reachD intA listK wayP ersP ersO entO grwP grwO grwI
set_option linter.unusedVariables false

/-- A block with its cells. -/
def Blk (b : Nat) (vs : Array Value) (X : World) : Prop := ∃ T, X.heap[b]? = some (.cells vs T (0, 0))
section
variable {b g : Nat} {vs : Array Value} {X X' : World}
theorem blk_lt (h : Blk b vs X) : b < X.heap.size := by
  obtain ⟨T, h⟩ := h
  exact (Array.getElem?_eq_some_iff.1 h).1
theorem Blk.low {B : Nat} (h : Blk b vs X) (hb : Below B X X') (hB : b < B) : Blk b vs X' := by
  obtain ⟨T, h⟩ := h
  exact ⟨T, (hb.block b hB).trans h⟩
theorem Blk.call (h : Blk b vs X) (hb : Below X.heap.size X X') : Blk b vs X' := h.low hb (blk_lt h)
theorem blk_new (vs : Array Value) (W : World) (T : TypeId) : Blk W.heap.size vs (W.alloc (.cells vs T)) := ⟨T, heap_alloc_new W _⟩
theorem blk_cell (h : Blk b vs X) (i : Nat) (v : Value) (e : vs[i]? = some v) : X.cell? ⟨b, i, none⟩ = some v := by
  obtain ⟨T, h⟩ := h
  exact cell_of_row X b i _ _ _ (by rw [h]) |>.trans e
theorem blk_froz (h : Blk b vs X) (i : Nat) : X.frozen? ⟨b, i, none⟩ = false := by
  obtain ⟨T, h⟩ := h
  simp [World.frozen?, h]
theorem blk_put (h : Blk b vs X) (i : Nat) (u : Value) : Blk b (vs.setIfInBounds i u) (X.setCell ⟨b, i, none⟩ u) := by
  obtain ⟨T, h⟩ := h
  exact ⟨T, Go.heap_setCell_same X b i _ _ _ h⟩
theorem blk_far (h : Blk b vs X) {p : Addr} (hp : p.block ≠ b) (u : Value) : Blk b vs (X.setCell p u) := by
  obtain ⟨T, h⟩ := h
  exact ⟨T, (Below.heap_setCell X p u b (fun e => hp e.symm)).trans h⟩
theorem blk_grown (h : Blk b vs X) (hg : X.grownBy X' (some g)) (hne : b ≠ g) : Blk b vs X' := by
  have hl := blk_lt h
  obtain ⟨T, h⟩ := h
  exact ⟨T, (hg.block b hl (fun e => hne (Option.some.inj e))).trans h⟩
theorem blk2_cells {u0 u1 : Value} (h : Blk b #[u0, u1] X) : (X.cell? ⟨b, 0, none⟩ = some u0 ∧ X.cell? ⟨b, 1, none⟩ = some u1) ∧ X.frozen? ⟨b, 0, none⟩ = false ∧ X.frozen? ⟨b, 1, none⟩ = false :=
  ⟨⟨blk_cell h 0 _ rfl, blk_cell h 1 _ rfl⟩, blk_froz h 0, blk_froz h 1⟩
theorem blk4_cells {u0 u1 u2 u3 : Value} (h : Blk b #[u0, u1, u2, u3] X) : (X.cell? ⟨b, 0, none⟩ = some u0 ∧ X.cell? ⟨b, 1, none⟩ = some u1 ∧ X.cell? ⟨b, 2, none⟩ = some u2 ∧ X.cell? ⟨b, 3, none⟩ = some u3) ∧ X.frozen? ⟨b, 0, none⟩ = false ∧ X.frozen? ⟨b, 1, none⟩ = false ∧ X.frozen? ⟨b, 2, none⟩ = false ∧ X.frozen? ⟨b, 3, none⟩ = false :=
  ⟨⟨blk_cell h 0 _ rfl, blk_cell h 1 _ rfl, blk_cell h 2 _ rfl, blk_cell h 3 _ rfl⟩, blk_froz h 0, blk_froz h 1, blk_froz h 2, blk_froz h 3⟩
theorem blk5_cells {u0 u1 u2 u3 u4 : Value} (h : Blk b #[u0, u1, u2, u3, u4] X) : (X.cell? ⟨b, 0, none⟩ = some u0 ∧ X.cell? ⟨b, 1, none⟩ = some u1 ∧ X.cell? ⟨b, 2, none⟩ = some u2 ∧ X.cell? ⟨b, 3, none⟩ = some u3 ∧ X.cell? ⟨b, 4, none⟩ = some u4) ∧ X.frozen? ⟨b, 0, none⟩ = false ∧ X.frozen? ⟨b, 1, none⟩ = false ∧ X.frozen? ⟨b, 2, none⟩ = false ∧ X.frozen? ⟨b, 3, none⟩ = false ∧ X.frozen? ⟨b, 4, none⟩ = false :=
  ⟨⟨blk_cell h 0 _ rfl, blk_cell h 1 _ rfl, blk_cell h 2 _ rfl, blk_cell h 3 _ rfl, blk_cell h 4 _ rfl⟩, blk_froz h 0, blk_froz h 1, blk_froz h 2, blk_froz h 3, blk_froz h 4⟩
end

/-- A call answers a span and leaves all that was there. -/
def Spn (a b : Int) (w : World) (e : Ending) (w' : World) : Prop := e = .returned (.agg #[.int .i64 a, .int .i64 b]) ∧ Below w.heap.size w w'
def Spn2 (a b c d : Int) (w : World) (e : Ending) (w' : World) : Prop := e = .returned (.tuple #[.agg #[.int .i64 a, .int .i64 b], .agg #[.int .i64 c, .int .i64 d]]) ∧ Below w.heap.size w w'

theorem last_any (a b : Int) (W : World) (ha : 0 ≤ a ∧ a ≤ 8) (hb : 0 ≤ b ∧ b ≤ 8) :
    Calls Try.prog 65 #[.agg #[.int .i64 a, .int .i64 b]] W (Spn (a + b - 1) 1 W) := by
  go_enter Try.func65, Try.ntmps65
  go_wp2_with fail
  refine bodyPost_ret (v := .agg #[.int .i64 (a + b - 1), .int .i64 1]) (by simp [results, Try.results65, go_sem]) rfl ?_
  exact ⟨rfl, ((((Below.refl _ _).alloc (Nat.le_refl _) _).alloc (by simp) _))⟩

set_option maxRecDepth 100000 in
theorem cut_any (a b n : Int) (W : World) (ha : 0 ≤ a ∧ a ≤ 8) (hb : 0 ≤ b ∧ b ≤ 8) (hn : 0 ≤ n ∧ n ≤ 8) :
    Calls Try.prog 62 #[.agg #[.int .i64 a, .int .i64 b], .int .i64 n] W (Spn2 a n (a + n) (b - n) W) := by
  have h1 : IntKind.i64.wrap (a + n) = a + n := IntWalk.i64_in _ (by omega)
  have h2 : IntKind.i64.wrap (b - n) = b - n := IntWalk.i64_in _ (by omega)
  go_enter Try.func62, Try.ntmps62
  go_wp2_with fail
  go_region
  go_wp2_with fail
  refine bodyPost_ret (v := .tuple #[.agg #[.int .i64 a, .int .i64 n], .agg #[.int .i64 (a + n), .int .i64 (b - n)]]) (by simp [results, Try.results62, go_sem]) rfl ?_
  exact ⟨rfl, below_draws ((((Below.refl _ _).alloc (Nat.le_refl _) _).alloc (by simp) _).alloc (by simp; omega) _) 1⟩

/-- The grid's box, the room's box. -/
def CO (W : World) (x y c0 w r0 h : Int) (X : World) : Prop := Box W.heap.size x y X ∧ Blk (W.heap.size + 1) #[.int .i64 c0, .int .i64 w, .int .i64 r0, .int .i64 h] X
theorem CO.low {W X X' : World} {x y c0 w r0 h : Int} {B : Nat} (hc : CO W x y c0 w r0 h X) (hb : Below B X X') (hB : W.heap.size + 1 < B) : CO W x y c0 w r0 h X' := ⟨box_below hc.1 hb (by omega), hc.2.low hb hB⟩

set_option maxRecDepth 100000 in
set_option maxHeartbeats 1000000 in
theorem cellsOf_any (x y : Int) (c0 w r0 h : Nat) (W : World) (hx : 0 ≤ x ∧ x ≤ 4) (hcw : c0 + w ≤ 4) (hrh : r0 + h ≤ 4) :
    Calls Try.prog 64 #[.agg #[.int .i64 x, .int .i64 y], .agg #[.int .i64 (c0 : Int), .int .i64 (w : Int), .int .i64 (r0 : Int), .int .i64 (h : Int)]] W (Ints (rcL x c0 r0 w h) W) := by
  obtain ⟨i0, hi0, hz0, hz1, hz2⟩ := info_parts info_int
  have HK := @Lib.hid _ (fun w' v n' base => @ints_mk (rcL x c0 r0 w h) W w' v n' base)
  have hco0 : Hid (∀ T1 T2, CO W x y c0 w r0 h ((W.alloc (.cells #[.int .i64 x, .int .i64 y] T1)).alloc (.cells #[.int .i64 (c0 : Int), .int .i64 (w : Int), .int .i64 (r0 : Int), .int .i64 (h : Int)] T2))) := Lib.hid fun T1 T2 => by
    refine ⟨(box_new x y W T1).call (below_box _ _), ?_⟩
    have := blk_new #[.int .i64 (c0 : Int), .int .i64 (w : Int), .int .i64 (r0 : Int), .int .i64 (h : Int)] (W.alloc (.cells #[.int .i64 x, .int .i64 y] T1)) T2
    simpa using this
  have hol0 : Hid (∀ T1 T2, OL W (W.heap.size + 2) (rcL x c0 r0 w 0) (.slice none 0 0) ((W.alloc (.cells #[.int .i64 x, .int .i64 y] T1)).alloc (.cells #[.int .i64 (c0 : Int), .int .i64 (w : Int), .int .i64 (r0 : Int), .int .i64 (h : Int)] T2))) := Lib.hid fun T1 T2 =>
    ol_nil (((Below.refl _ _).alloc (Nat.le_refl _) _).alloc (by simp) _) (by omega) (by simp)
  have HLl := Lib.hid (fun i => rcL_len x c0 r0 w i)
  have HLs := Lib.hid (fun i => rcL_succ x c0 r0 w i)
  have HRl := Lib.hid (fun i j => rcR_len x c0 r0 i j)
  have HRs := Lib.hid (fun i j => rcR_succ x c0 r0 i j)
  go_enter Try.func64, Try.ntmps64
  go_wp2_with fail
  have hco := Lib.hid (hco0.out 25 80)
  have hol := Lib.hid (hol0.out 25 80)
  clear hco0 hol0
  go_loopw [5, 11] (fun u5 u11 wr => ∃ i : Nat, i ≤ h ∧ u11 = .int .i64 (i : Int) ∧ OL W (W.heap.size + 2) (rcL x c0 r0 w i) u5 wr ∧ CO W x y c0 w r0 h wr) (fun _ u11 _ => h - (intOf u11).toNat)
  case atStart => exact ⟨0, Nat.zero_le _, rfl, hol.out, hco.out⟩
  case round =>
    clear hol hco
    obtain ⟨i, hi, rfl, hol0, hco0⟩ := hrel
    have hol := Lib.hid hol0
    have hco := Lib.hid hco0
    obtain ⟨A5, c5, rfl⟩ := hol0.form
    have hk0 : (0 : Int) ≤ (i : Int) := Int.natCast_nonneg _
    by_cases hih : i < h
    · have hi2 : (i : Int) < (h : Int) := by omega
      obtain ⟨⟨r0', r1', r2', r3'⟩, -⟩ := blk4_cells hco0.2
      clear hol0 hco0
      go_wp2_with fail
      clear r0' r1' r2' r3'
      have hst : Hid (OL W (W.heap.size + 2) (rcL x c0 r0 w i ++ rcR x c0 r0 i 0) (.slice A5 (rcL x c0 r0 w i).length c5) wr) := Lib.hid (by rw [rcR_zero, List.append_nil]; exact hol.out)
      have hq0 : 0 ≤ ((r0 : Int) + (i : Int)) * x := Int.mul_nonneg (by omega) (by omega)
      have hq1 : ((r0 : Int) + (i : Int)) * x ≤ 4 * 4 := Int.mul_le_mul (by omega) (by omega) (by omega) (by omega)
      obtain ⟨q, hq⟩ : ∃ q, q = ((r0 : Int) + (i : Int)) * x := ⟨_, rfl⟩
      rw [← hq] at hq0 hq1
      have hq3 : wrap64 (((r0 : Int) + (i : Int)) * x) = q := by rw [← hq]; unfold wrap64; omega
      have HZ : Hid (∀ j : Nat, rcZ x c0 r0 i j = q + (c0 : Int) + (j : Int)) := Lib.hid fun j => by rw [hq]; rfl
      have hq4 : wrap64 (q + (c0 : Int)) = q + (c0 : Int) := by unfold wrap64; omega
      clear hq
      have hll : (rcL x c0 r0 w i).length ≤ 16 := by rw [HLl.out]; have : i * w ≤ 4 * 4 := Nat.mul_le_mul (by omega) (by omega); omega
      go_loopw [5, 17] (fun u5 u17 wq => ∃ j : Nat, j ≤ w ∧ u17 = .int .i64 (j : Int) ∧ OL W (W.heap.size + 2) (rcL x c0 r0 w i ++ rcR x c0 r0 i j) u5 wq ∧ CO W x y c0 w r0 h wq) (fun _ u17 _ => w - (intOf u17).toNat)
      case atStart => exact ⟨0, Nat.zero_le _, rfl, hst.out, hco.out⟩
      case round =>
        clear hst hco hol
        obtain ⟨j, hj, rfl, hol0, hco0⟩ := hrel
        have hol := Lib.hid hol0
        have hco := Lib.hid hco0
        obtain ⟨A6, c6, rfl⟩ := hol0.form
        have hj0 : (0 : Int) ≤ (j : Int) := Int.natCast_nonneg _
        have hsz := hol0.2.2.1
        by_cases hjw : j < w
        · have hj2 : (j : Int) < (w : Int) := by omega
          obtain ⟨⟨r0', r1', r2', r3'⟩, -⟩ := blk4_cells hco0.2
          obtain ⟨⟨b0, b1⟩, -⟩ := hco0.1
          have HNs : Hid (rcL x c0 r0 w i ++ rcR x c0 r0 i (j + 1) = (rcL x c0 r0 w i ++ rcR x c0 r0 i j) ++ [q + (c0 : Int) + (j : Int)]) := Lib.hid (by rw [HRs.out, HZ.out, List.append_assoc])
          have hq5 : wrap64 (q + (c0 : Int) + (j : Int)) = q + (c0 : Int) + (j : Int) := by unfold wrap64; omega
          have hl2 : (rcL x c0 r0 w i ++ rcR x c0 r0 i j).length ≤ 20 := by rw [List.length_append, HRl.out]; omega
          clear hol0 hco0
          generalize rcL x c0 r0 w i ++ rcR x c0 r0 i j = L at *
          go_wp2_with (at_builtin; refine wpList_append_lies _ rfl (.tmp 20) (.tmp 35) 26 rfl (W.heap.size + 2) 3 i0 _ 1 8 Try.underlying26 hi0 hz0 hz1 hz2 rfl (by omega) _ (L.length) _ rfl (hol.out.2.2.2.alloc _) ⟨wr.heap.size, 0, none⟩ 1 1 (icells [q + (c0 : Int) + (j : Int)]) rfl rfl (news_eqI rfl (heap_alloc_new wr _)) (oneCellI _) (by omega) (by unfold maxLen; omega) (by omega) (by simp; omega) (wr.heap.size + 1) (by simp) ?_; intro gg cap w3 hown' hgrow hat hlt2; clear hlt2; have HAt := Lib.hid hat; clear hat)
          have hn2 := hol.out.app hown' hgrow
          have HN1 := Lib.hid hn2.1
          have HN2 := Lib.hid (CO.low hco.out hn2.2 (Nat.lt_succ_self _))
          go_roundw
          case rel => exact ⟨j + 1, by omega, by go_num, by rw [HNs.out]; exact HN1.out, HN2.out⟩
          case measure => (try simp [intOf]); omega
        · obtain rfl : j = w := by omega
          clear hol0 hco0
          rw [← HLs.out] at hol ⊢
          go_wp2_with fail
          go_roundw
          case rel => exact ⟨i + 1, by omega, by go_num, hol.out, hco.out⟩
          case measure => (try simp [intOf]); omega
    · obtain rfl : i = h := by omega
      obtain ⟨⟨r0', r1', r2', r3'⟩, -⟩ := blk4_cells hco0.2
      clear hol0 hco0
      go_wp2_with fail
      go_ret
      exact HK.out _ _ _ _ rfl hol.out.2.2.2 hol.out.2.1 hol.out.1
end Go.Proofs.Ythakbjdkcdppjaa.grwJ
