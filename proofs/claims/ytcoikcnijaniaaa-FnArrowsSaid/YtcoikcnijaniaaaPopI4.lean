/- The contract of the program's popArrows. -/
import Derived.Test.YtcoikcnijaniaaaPopI3
import Derived.Test.YtcoikcnijaniaaaHasC
import Derived.Test.YtcoikcnijaniaaaPrgD
import Derived.Deep.CutRange
namespace Go.Proofs.Ytcoikcnijaniaaa.popI
open Go.ChangeShapes Go.WideShapes Go.ChangeAt Go.RowKit Go.Maps
open draw gridP gridC gridE bitP mazeP mazeC mazeM mazeR intsP reachP reachM reachN reachD intA intK listK rowsP setI wayP ersP ersO popP popO popW
set_option linter.unusedVariables false

set_option maxRecDepth 100000 in
/-- A set is made in the next block. -/
theorem setOf_at (A : Option Addr) (n c : Nat) (l : List Int) (W : World) (hn : n = l.length) (hm : n ≤ 1048576) (hi : IntsIn W W.heap.size A l) (hr : ∀ u ∈ l, -9223372036854775808 ≤ u ∧ u ≤ 9223372036854775807) :
    Calls Try.prog 43 #[.slice A n c] W (fun e w' => e = .returned (.map (some W.heap.size)) ∧ SetR W.heap.size l.length l w' ∧ Below W.heap.size W w') := by
  have hmm : (Instr.makeMap 66 (some (.int .i64 (n : Int)))).run Try.prog W = .ok (.map (some W.heap.size)) (W.alloc (.map #[] 0)) := by
    simp [Instr.makeMap, go_sem]
  have HR := Lib.hid (sf_start hi)
  have Hr := Lib.hid hr
  have hn' : l.length = n := hn.symm
  have HN := Lib.hid hn'
  clear hi hn hr hn'
  go_enter Try.func43, Try.ntmps43
  go_wp2_with fail
  clear hmm
  go_loopw [11] (fun u11 wr => ∃ k : Nat, k ≤ n ∧ u11 = .int .i64 k ∧ SF W A l k wr) (fun u11 _ => n - (intOf u11).toNat)
  case atStart => exact ⟨0, Nat.zero_le _, rfl, HR.out⟩
  case round =>
    obtain ⟨k, hk, rfl, hsf0⟩ := hrel
    have hsf := Lib.hid hsf0
    clear hsf0 HR
    by_cases hkn : k < n
    · obtain ⟨u, hu, hmem⟩ : ∃ u, l[k]? = some u ∧ u ∈ l := by
        have hkl : k < l.length := by have := HN.out; omega
        exact ⟨l[k], List.getElem?_eq_getElem hkl, List.getElem_mem hkl⟩
      obtain ⟨ad, rfl, hab, hcell⟩ := ints_cell hsf.out.2.2 hu
      have hkey := Lib.hid (key_int (Hr.out u hmem))
      have hown := Lib.hid hsf.out.2.1
      have HNx := @Lib.hid _ (fun X' p1 p2 => @sf_step W wr X' (some ad) l k u hsf.out hu p1 p2)
      have hk0 : (0 : Int) ≤ (k : Int) := Int.natCast_nonneg _
      have hk1 : (k : Int) < (n : Int) := by omega
      clear hu hmem
      go_wp2_with (at_mapUpdate; refine wpList_mapUpdate_own _ rfl _ _ _ 66 rfl 3 4 lawI Try.underlying66 _ W.heap.size k _ rfl hown.out (by unfold maxLen; omega) _ _ _ rfl rfl hkey.out _ [] (plainElem_bool Try.underlying4 true) ?_; intro w1 hown1 hgrow1)
      go_roundw
      case rel => exact ⟨k + 1, by omega, by go_num, HNx.out _ hown1 hgrow1⟩
      case measure => simp [intOf]; omega
    · obtain rfl : k = n := by omega
      go_wp2_with fail
      go_ret
      have h1 := hsf.out.2.1
      rw [List.take_of_length_le (by have := HN.out; omega)] at h1
      exact ⟨rfl, by rw [HN.out]; exact h1, hsf.out.1⟩

/-- What has been made so far for a popping: the list of the first cell, the set, the map, the popping's block. -/
def LG (S : World) (oB oI oT oP : Option Nat) (X : World) : Prop :=
  Below S.heap.size S X ∧
  (∀ g, oB = some g → g < X.heap.size ∧ X.heap[g]? = some (.cells #[.int .i64 0] 3 (0, 0))) ∧
  (∀ g, oI = some g → S.heap.size ≤ g ∧ g < X.heap.size ∧ SetR g 1 [0] X) ∧
  (∀ g, oT = some g → S.heap.size ≤ g ∧ g < X.heap.size ∧ X.ownsMap Try.prog 3 (plainElem Try.prog 3) g 0 (.map [] : DataW Unit)) ∧
  (∀ g, oP = some g → S.heap.size ≤ g ∧ g < X.heap.size ∧ ∃ T, X.heap[g]? = some (.cells #[.int .i64 0, .int .i64 0, .int .i64 0, .map none, .slice none 0 0, .map none] T (0, 0))) ∧
  (∀ g g', oI = some g → oT = some g' → g ≠ g')
theorem lg_new (S : World) : LG S none none none none S := ⟨Below.refl _ _, fun g e => (by cases e), fun g e => (by cases e), fun g e => (by cases e), fun g e => (by cases e), fun g g' e => (by cases e)⟩
theorem LG.call {S X X' : World} {oB oI oT oP : Option Nat} (h : LG S oB oI oT oP X) (hb : Below X.heap.size X X') : LG S oB oI oT oP X' := by
  obtain ⟨h1, h2, h3, h4, h5, h6⟩ := h
  have hs := hb.size
  refine ⟨below_call h1 hb, fun g e => ?_, fun g e => ?_, fun g e => ?_, fun g e => ?_, h6⟩
  · obtain ⟨a, b⟩ := h2 g e; exact ⟨by omega, (hb.block g a).trans b⟩
  · obtain ⟨a, b, c⟩ := h3 g e; exact ⟨a, by omega, c.call hb⟩
  · obtain ⟨a, b, c⟩ := h4 g e; exact ⟨a, by omega, omap_g c (grown_call hb) (fun e => by cases e)⟩
  · obtain ⟨a, b, T, c⟩ := h5 g e; exact ⟨a, by omega, T, (hb.block g b).trans c⟩
theorem LG.dr {S X : World} {oB oI oT oP : Option Nat} (h : LG S oB oI oT oP X) : LG S oB oI oT oP X.drew := h.call ⟨rfl, rfl, rfl, Nat.le_refl _, fun _ _ => rfl⟩
theorem LG.slice {S X : World} {oB oI oT oP : Option Nat} (h : LG S oB oI oT oP X) : LG S (some X.heap.size) oI oT oP (X.alloc (.cells #[.int .i64 0] 3)) := by
  obtain ⟨h1, h2, h3, h4, h5, h6⟩ := h.call (below_box X (.cells #[.int .i64 0] 3))
  exact ⟨h1, fun g e => by cases e; exact ⟨by simp, heap_alloc_new X _⟩, h3, h4, h5, h6⟩
theorem LG.set {S X X' : World} {oB oT oP : Option Nat} (h : LG S oB none oT oP X) (hs : SetR X.heap.size [(0 : Int)].length [0] X') (hb : Below X.heap.size X X') : LG S oB (some X.heap.size) oT oP X' := by
  have h0 := h.1.size
  have hT := fun g e => (h.2.2.2.1 g e).2.1
  obtain ⟨h1, h2, h3, h4, h5, h6⟩ := h.call hb
  exact ⟨h1, h2, fun g e => by cases e; exact ⟨h0, hs.lt, hs⟩, h4, h5, fun g g' e e' => by cases e; have := hT g' e'; omega⟩
theorem LG.map {S X : World} {oB oI oP : Option Nat} (h : LG S oB oI none oP X) : LG S oB oI (some X.heap.size) oP (X.alloc (.map #[] 0)) := by
  have h0 := h.1.size
  have hI := fun g e => (h.2.2.1 g e).2.1
  obtain ⟨h1, h2, h3, h4, h5, h6⟩ := h.call (below_box X (.map #[] 0))
  exact ⟨h1, h2, h3, fun g e => by cases e; exact ⟨h0, by simp, World.ownsMap_made _ _ _ _⟩, h5, fun g g' e e' => by cases e'; have := hI g e; omega⟩
theorem LG.pop {S X : World} {oB oI oT oP : Option Nat} {T : TypeId} (h : LG S oB oI oT oP X) : LG S oB oI oT (some X.heap.size) (X.alloc (.cells #[.int .i64 0, .int .i64 0, .int .i64 0, .map none, .slice none 0 0, .map none] T)) := by
  have h0 := h.1.size
  obtain ⟨h1, h2, h3, h4, h5, h6⟩ := h.call (below_box X (.cells #[.int .i64 0, .int .i64 0, .int .i64 0, .map none, .slice none 0 0, .map none] T))
  exact ⟨h1, h2, h3, h4, fun g e => by cases e; exact ⟨h0, by simp, T, heap_alloc_new X _⟩, h6⟩
theorem LG.cells {S X : World} {oB oI oT : Option Nat} {P : Nat} (h : LG S oB oI oT (some P) X) : (X.cell? ⟨P, 0, none⟩ = some (.int .i64 0) ∧ X.cell? ⟨P, 1, none⟩ = some (.int .i64 0) ∧ X.cell? ⟨P, 2, none⟩ = some (.int .i64 0) ∧ X.cell? ⟨P, 3, none⟩ = some (.map none) ∧ X.cell? ⟨P, 4, none⟩ = some (.slice none 0 0) ∧ X.cell? ⟨P, 5, none⟩ = some (.map none)) ∧ ∀ k, X.frozen? ⟨P, k, none⟩ = false ∨ 6 ≤ k := by
  obtain ⟨-, -, T, h⟩ := h.2.2.2.2.1 P rfl
  refine ⟨⟨cell_of_row X P 0 _ _ _ h, cell_of_row X P 1 _ _ _ h, cell_of_row X P 2 _ _ _ h, cell_of_row X P 3 _ _ _ h, cell_of_row X P 4 _ _ _ h, cell_of_row X P 5 _ _ _ h⟩, fun k => ?_⟩
  rcases Nat.lt_or_ge k 6 with hk | hk
  · left; simp [World.frozen?, h]
  · exact .inr hk
theorem LG.done {S X : World} {oB : Option Nat} {bi bt P n : Nat} {x y : Int} {va : Value} (h : LG S oB (some bi) (some bt) (some P) X) :
    PS P bi bt n x y va (fun _ => 0) [0] 0 ((((((X.setCell ⟨P, 0, none⟩ (.int .i64 x)).setCell ⟨P, 1, none⟩ (.int .i64 y)).setCell ⟨P, 2, none⟩ (.int .i64 0)).setCell ⟨P, 3, none⟩ (.map (some bi))).setCell ⟨P, 4, none⟩ va).setCell ⟨P, 5, none⟩ (.map (some bt))) ∧
    Below S.heap.size S ((((((X.setCell ⟨P, 0, none⟩ (.int .i64 x)).setCell ⟨P, 1, none⟩ (.int .i64 y)).setCell ⟨P, 2, none⟩ (.int .i64 0)).setCell ⟨P, 3, none⟩ (.map (some bi))).setCell ⟨P, 4, none⟩ va).setCell ⟨P, 5, none⟩ (.map (some bt))) ∧ S.heap.size ≤ P ∧ S.heap.size ≤ bi ∧ S.heap.size ≤ bt := by
  obtain ⟨h1, -, h3, h4, h5, h6⟩ := h
  obtain ⟨a1, a2, T, a3⟩ := h5 P rfl
  obtain ⟨b1, b2, b3⟩ := h3 bi rfl
  obtain ⟨c1, c2, c3⟩ := h4 bt rfl
  have hg : X.grownBy ((((((X.setCell ⟨P, 0, none⟩ (.int .i64 x)).setCell ⟨P, 1, none⟩ (.int .i64 y)).setCell ⟨P, 2, none⟩ (.int .i64 0)).setCell ⟨P, 3, none⟩ (.map (some bi))).setCell ⟨P, 4, none⟩ va).setCell ⟨P, 5, none⟩ (.map (some bt))) (some P) := grown_set (grown_set (grown_set (grown_set (grown_set (grown_one X _ _ _) _) _) _) _) _
  have n1 : P ≠ bi := by
    rintro rfl
    obtain ⟨es, clock, hb, -⟩ := b3
    rw [a3] at hb; cases hb
  have n2 : P ≠ bt := by
    rintro rfl
    obtain ⟨es, clock, hb, -⟩ := c3
    rw [a3] at hb; cases hb
  have n3 : bi ≠ bt := h6 bi bt rfl rfl
  have ht0 : ∀ m, tot (fun _ => 0) m = 0 := fun m => by
    induction m with
    | zero => rfl
    | succ m ih => unfold tot sm; unfold tot at ih; omega
  refine ⟨⟨⟨⟨T, by simp [World.setCell, Array.getElem?_modify, a3]⟩, set_g b3 hg (ne_some fun e => n1 e.symm), _, by rw [ht0]; exact omap_g c3 hg (ne_some fun e => n2 e.symm), tm_new⟩, n1, n2, n3⟩, ?_, a1, b1, c1⟩
  exact h1.grown hg h1.size fun g e => by cases e; exact a1

/-- What popArrows answers. -/
def PopA (x y : Int) (n : Nat) (va : Value) (R : Option ((Int → Nat) × List Int × Int)) (W : World) (e : Ending) (w' : World) : Prop :=
  Below W.heap.size W w' ∧ ((∃ t L o P bi bt, R = some (t, L, o) ∧ e = .returned (.tuple #[.agg #[.int .i64 x, .int .i64 y, .int .i64 o, .map (some bi), va, .map (some bt)], .bool true]) ∧ PS P bi bt n x y va t L o w' ∧ tot t n ≤ 960) ∨
    (R = none ∧ e = .returned (.tuple #[.agg #[.int .i64 0, .int .i64 0, .int .i64 0, .map none, .slice none 0 0, .map none], .bool false])))
/-- What stands in popArrows: the arguments' box, the answer's block. -/
def Zero6 (b : Nat) (X : World) : Prop := ∃ T, X.heap[b]? = some (.cells #[.int .i64 0, .int .i64 0, .int .i64 0, .map none, .slice none 0 0, .map none] T (0, 0))
def AQ (W : World) (x y : Int) (A A2 : Option Addr) (ls : List (List Int)) (l : List Int) (X : World) : Prop :=
  Below W.heap.size W X ∧ Box W.heap.size x y X ∧ Zero6 (W.heap.size + 1) X ∧ MxIn X W.heap.size A ls ∧ IntsIn X W.heap.size A2 l
theorem zero6_lt {b : Nat} {X : World} (h : Zero6 b X) : b < X.heap.size := by
  obtain ⟨T, h⟩ := h
  exact (Array.getElem?_eq_some_iff.1 h).1
theorem AQ.call {W X X' : World} {x y : Int} {A A2 : Option Addr} {ls : List (List Int)} {l : List Int} (h : AQ W x y A A2 ls l X) (hb : Below X.heap.size X X') : AQ W x y A A2 ls l X' := by
  obtain ⟨h1, h2, h3, h4, h5⟩ := h
  have hl := zero6_lt h3
  obtain ⟨T, h3⟩ := h3
  exact ⟨below_call h1 hb, h2.call hb, ⟨T, (hb.block _ hl).trans h3⟩, h4.below (hb.mono h1.size), h5.below (hb.mono h1.size)⟩
theorem AQ.dr {W X : World} {x y : Int} {A A2 : Option Addr} {ls : List (List Int)} {l : List Int} (h : AQ W x y A A2 ls l X) : AQ W x y A A2 ls l X.drew := h.call ⟨rfl, rfl, rfl, Nat.le_refl _, fun _ _ => rfl⟩
theorem aq_new {W : World} {x y : Int} {A A2 : Option Addr} {ls : List (List Int)} {l : List Int} (hi : MxIn W W.heap.size A ls) (hi2 : IntsIn W W.heap.size A2 l) (T T' : TypeId) : AQ W x y A A2 ls l ((W.alloc (.cells #[.int .i64 x, .int .i64 y] T)).alloc (.cells #[.int .i64 0, .int .i64 0, .int .i64 0, .map none, .slice none 0 0, .map none] T')) := by
  have hb : Below W.heap.size W ((W.alloc (.cells #[.int .i64 x, .int .i64 y] T)).alloc (.cells #[.int .i64 0, .int .i64 0, .int .i64 0, .map none, .slice none 0 0, .map none] T')) := ((Below.refl _ _).alloc (Nat.le_refl _) _).alloc (by simp) _
  refine ⟨hb, (box_new x y W T).call (below_box _ _), ⟨T', ?_⟩, hi.below hb, hi2.below hb⟩
  have := heap_alloc_new (W.alloc (.cells #[.int .i64 x, .int .i64 y] T)) (.cells #[.int .i64 0, .int .i64 0, .int .i64 0, .map none, .slice none 0 0, .map none] T')
  simpa using this
theorem zero6_cells {b : Nat} {X : World} (h : Zero6 b X) : (X.cell? ⟨b, 0, none⟩ = some (.int .i64 0) ∧ X.cell? ⟨b, 1, none⟩ = some (.int .i64 0) ∧ X.cell? ⟨b, 2, none⟩ = some (.int .i64 0) ∧ X.cell? ⟨b, 3, none⟩ = some (.map none) ∧ X.cell? ⟨b, 4, none⟩ = some (.slice none 0 0) ∧ X.cell? ⟨b, 5, none⟩ = some (.map none)) ∧ X.frozen? ⟨b, 0, none⟩ = false ∧ X.frozen? ⟨b, 1, none⟩ = false ∧ X.frozen? ⟨b, 2, none⟩ = false ∧ X.frozen? ⟨b, 3, none⟩ = false ∧ X.frozen? ⟨b, 4, none⟩ = false ∧ X.frozen? ⟨b, 5, none⟩ = false := by
  obtain ⟨T, h⟩ := h
  exact ⟨⟨cell_of_row X b 0 _ _ _ h, cell_of_row X b 1 _ _ _ h, cell_of_row X b 2 _ _ _ h, cell_of_row X b 3 _ _ _ h, cell_of_row X b 4 _ _ _ h, cell_of_row X b 5 _ _ _ h⟩, by simp [World.frozen?, h], by simp [World.frozen?, h], by simp [World.frozen?, h], by simp [World.frozen?, h], by simp [World.frozen?, h], by simp [World.frozen?, h]⟩
theorem od_is (x y : Int) (l : List Int) : odB x y l = (decide (l.length ≤ 100) && !l.any fun u => !decide (0 ≤ u ∧ u < x * y)) := rfl

theorem ret_set6 {Pr : Program} {fn : Func} {R : Ending → World → Prop} {a : Act} {X : World} {b : Nat} {T : TypeId} {u0 u1 u2 u3 u4 u5 x0 x1 x2 x3 x4 x5 : Value} (h : X.heap[b]? = some (.cells #[u0, u1, u2, u3, u4, u5] T (0, 0)))
    (K : ∀ Y : World, (Y.cell? ⟨b, 0, none⟩ = some x0 ∧ Y.cell? ⟨b, 1, none⟩ = some x1 ∧ Y.cell? ⟨b, 2, none⟩ = some x2 ∧ Y.cell? ⟨b, 3, none⟩ = some x3 ∧ Y.cell? ⟨b, 4, none⟩ = some x4 ∧ Y.cell? ⟨b, 5, none⟩ = some x5) → X.grownBy Y (some b) → bodyPost Pr fn R .ret a Y) :
    bodyPost Pr fn R .ret a ((((((X.setCell ⟨b, 0, none⟩ x0).setCell ⟨b, 1, none⟩ x1).setCell ⟨b, 2, none⟩ x2).setCell ⟨b, 3, none⟩ x3).setCell ⟨b, 4, none⟩ x4).setCell ⟨b, 5, none⟩ x5) := by
  have hY : ((((((X.setCell ⟨b, 0, none⟩ x0).setCell ⟨b, 1, none⟩ x1).setCell ⟨b, 2, none⟩ x2).setCell ⟨b, 3, none⟩ x3).setCell ⟨b, 4, none⟩ x4).setCell ⟨b, 5, none⟩ x5).heap[b]? = some (.cells #[x0, x1, x2, x3, x4, x5] T (0, 0)) := by simp [World.setCell, Array.getElem?_modify, h]
  have hg : X.grownBy ((((((X.setCell ⟨b, 0, none⟩ x0).setCell ⟨b, 1, none⟩ x1).setCell ⟨b, 2, none⟩ x2).setCell ⟨b, 3, none⟩ x3).setCell ⟨b, 4, none⟩ x4).setCell ⟨b, 5, none⟩ x5) (some b) := grown_set (grown_set (grown_set (grown_set (grown_set (grown_one X _ _ _) _) _) _) _) _
  generalize ((((((X.setCell ⟨b, 0, none⟩ x0).setCell ⟨b, 1, none⟩ x1).setCell ⟨b, 2, none⟩ x2).setCell ⟨b, 3, none⟩ x3).setCell ⟨b, 4, none⟩ x4).setCell ⟨b, 5, none⟩ x5) = Y at *
  exact K Y ⟨cell_of_row Y b 0 _ _ _ hY, cell_of_row Y b 1 _ _ _ hY, cell_of_row Y b 2 _ _ _ hY, cell_of_row Y b 3 _ _ _ hY, cell_of_row Y b 4 _ _ _ hY, cell_of_row Y b 5 _ _ _ hY⟩ hg
theorem LG.zero {S X : World} {oB oI oT : Option Nat} {P : Nat} (h : LG S oB oI oT (some P) X) : Zero6 P X := (h.2.2.2.2.1 P rfl).2.2
theorem AQ.grow {W X X' : World} {x y : Int} {A A2 : Option Addr} {ls : List (List Int)} {l : List Int} {row : Option Nat} (h : AQ W x y A A2 ls l X) (hg : X.grownBy X' row) (hr : ∀ g, row = some g → W.heap.size + 2 ≤ g) : AQ W x y A A2 ls l X' := by
  obtain ⟨h1, h2, h3, h4, h5⟩ := h
  have hl := zero6_lt h3
  have hb : Below W.heap.size X X' := (Below.refl W.heap.size X).grown hg h1.size fun g e => by have := hr g e; omega
  obtain ⟨T, h3⟩ := h3
  exact ⟨h1.grown hg h1.size fun g e => by have := hr g e; omega, box_g h2 hg fun e => by have := hr _ e.symm; omega, ⟨T, (hg.block _ hl fun e => by have := hr _ e.symm; omega).trans h3⟩, h4.below hb, h5.below hb⟩
theorem AQ.kp {W X X' : World} {x y : Int} {A A2 : Option Addr} {ls : List (List Int)} {l : List Int} {P bi bt : Nat} (h : AQ W x y A A2 ls l X) (hk : Kp P bi bt X X') (hP : W.heap.size + 2 ≤ P) (hbi : W.heap.size + 2 ≤ bi) (hbt : W.heap.size + 2 ≤ bt) : AQ W x y A A2 ls l X' := by
  obtain ⟨h1, h2, h3, h4, h5⟩ := h
  have hl := zero6_lt h3
  have hb : Below (W.heap.size + 2) X X' := hk.below hP hbi hbt (by omega)
  have hb' : Below W.heap.size X X' := hb.mono (by omega)
  obtain ⟨T, h3⟩ := h3
  exact ⟨h1.trans hb', ⟨⟨(hb.cell (show W.heap.size < W.heap.size + 2 by omega)).trans h2.1.1, (hb.cell (show W.heap.size < W.heap.size + 2 by omega)).trans h2.1.2⟩, Nat.lt_of_lt_of_le h2.2 hb.size⟩, ⟨T, (hb.block _ (by omega)).trans h3⟩, h4.below hb', h5.below hb'⟩
def bgK (l : List Int) (k : Nat) : List Int := l ++ (List.range k).map fun (j : Nat) => (j : Int)
theorem bgK_zero (l : List Int) : bgK l 0 = l := by simp [bgK]
theorem bgK_next (l : List Int) (k : Nat) : bgK l (k + 1) = bgK l k ++ [(k : Int)] := by simp [bgK, List.range_succ]
theorem bgK_len (l : List Int) (k : Nat) : (bgK l k).length = l.length + k := by simp [bgK]
theorem bg_rng {N : Int} {l : List Int} {k : Nat} (hl : ∀ u ∈ l, 0 ≤ u ∧ u < N) (hk : (k : Int) ≤ N) : ∀ u ∈ bgK l k, 0 ≤ u ∧ u < N := fun u hu => by
  rcases List.mem_append.1 hu with h | h
  · exact hl u h
  · obtain ⟨j, hj, rfl⟩ := List.mem_map.1 h
    have := List.mem_range.1 hj
    omega
theorem any_all {N : Int} {l : List Int} (h : (l.any fun u => !decide (0 ≤ u ∧ u < N)) = false) : ∀ u ∈ l, 0 ≤ u ∧ u < N := fun u hu => by
  have := List.any_eq_false.1 h u hu
  simpa using this
/-- What stands while the beginnings are gone through: with the beginnings' row. -/
def GQ (W : World) (x y : Int) (A A2 : Option Addr) (ls : List (List Int)) (l : List Int) (P bi bt n : Nat) (va : Value) (br : Nat) (t : Int → Nat) (L : List Int) (o : Int) (ord : List Int) (v : Value) (X : World) : Prop :=
  AQ W x y A A2 ls l X ∧ PS P bi bt n x y va t L o X ∧ X.ownsRow br 3 1 v ord.length (icells ord) ∧ (W.heap.size + 2 ≤ P ∧ W.heap.size + 2 ≤ bi ∧ W.heap.size + 2 ≤ bt) ∧ (P < br ∧ bi < br ∧ bt < br) ∧ br ≤ X.heap.size
section
variable {W X X' : World} {x y o : Int} {A A2 : Option Addr} {ls : List (List Int)} {l ord L w : List Int} {P bi bt n br : Nat} {va v : Value} {t t' : Int → Nat}
theorem GQ.call (h : GQ W x y A A2 ls l P bi bt n va br t L o ord v X) (hb : Below X.heap.size X X') : GQ W x y A A2 ls l P bi bt n va br t L o ord v X' :=
  ⟨h.1.call hb, h.2.1.call hb, own_call h.2.2.1 hb, h.2.2.2.1, h.2.2.2.2.1, Nat.le_trans h.2.2.2.2.2 hb.size⟩
theorem GQ.app {gg cap : Nat} {u : Int} {ob : Obj} (h : GQ W x y A A2 ls l P bi bt n va br t L o ord v X) (ho' : X'.ownsRow br 3 1 (.slice (some ⟨gg, 0, none⟩) (ord.length + 1) cap) (ord.length + 1) (icells ord ++ icells [u])) (hg : (X.alloc ob).grownBy X' v.ownBlock) :
    GQ W x y A A2 ls l P bi bt n va br t L o (ord ++ [u]) (.slice (some ⟨gg, 0, none⟩) (ord.length + 1) cap) X' := by
  obtain ⟨h1, h2, h3, ⟨h4, h5, h6⟩, ⟨h7, h8, h9⟩, h10⟩ := h
  have hlt : ∀ g, v.ownBlock = some g → br ≤ g := fun g e => (h3.lt g e).1
  exact ⟨(h1.call (below_box X ob)).grow hg (fun g e => by have := hlt g e; omega), (h2.call (below_box X ob)).grow hg (fun g e => by have := hlt g e; omega), by rw [List.length_append, icells_append]; exact ho', ⟨h4, h5, h6⟩, ⟨h7, h8, h9⟩, Nat.le_trans h10 (Nat.le_trans (by simp) hg.size)⟩
theorem gq_start (hq : AQ W x y A A2 ls l X) (hps : PS P bi bt n x y va t L o X) (ho : X'.ownsRow X.heap.size 3 1 v l.length (icells l)) (hb : Below X.heap.size X X') (h1 : W.heap.size + 2 ≤ P) (h2 : W.heap.size + 2 ≤ bi) (h3 : W.heap.size + 2 ≤ bt) : GQ W x y A A2 ls l P bi bt n va X.heap.size t L o l v X' :=
  ⟨hq.call hb, hps.call hb, ho, ⟨h1, h2, h3⟩, hps.lt, hb.size⟩
/-- A walk and a join. -/
theorem GQ.kp {L' : List Int} {o' : Int} (h : GQ W x y A A2 ls l P bi bt n va br t L o ord v X) (hk : Kp P bi bt X X') (hp : PS P bi bt n x y va t' L' o' X') : GQ W x y A A2 ls l P bi bt n va br t' L' o' ord v X' := by
  obtain ⟨h1, h2, h3, ⟨h4, h5, h6⟩, ⟨h7, h8, h9⟩, h10⟩ := h
  exact ⟨h1.kp hk h4 h5 h6, hp, hk.own h3 (fun g e => by have := (h3.lt g e).1; omega), ⟨h4, h5, h6⟩, ⟨h7, h8, h9⟩, Nat.le_trans h10 hk.2.1⟩
end
theorem AQ.cells {W X : World} {x y : Int} {A A2 : Option Addr} {ls : List (List Int)} {l : List Int} (h : AQ W x y A A2 ls l X) : X.cell? ⟨W.heap.size, 0, none⟩ = some (.int .i64 x) ∧ X.cell? ⟨W.heap.size, 1, none⟩ = some (.int .i64 y) := h.2.1.1
theorem LG.made {S X : World} {oB : Option Nat} {bi bt n P : Nat} {x y : Int} {va : Value} {T : TypeId} (h : LG S oB (some bi) (some bt) none X) (hP : X.heap.size = P) :
    PS P bi bt n x y va (fun _ => 0) [0] 0 (X.alloc (.cells #[.int .i64 x, .int .i64 y, .int .i64 0, .map (some bi), va, .map (some bt)] T)) ∧
    Below S.heap.size S (X.alloc (.cells #[.int .i64 x, .int .i64 y, .int .i64 0, .map (some bi), va, .map (some bt)] T)) ∧ S.heap.size ≤ P ∧ S.heap.size ≤ bi ∧ S.heap.size ≤ bt := by
  subst hP
  have h0 := h.1.size
  have hI := (h.2.2.1 bi rfl).2.1
  have hT := (h.2.2.2.1 bt rfl).2.1
  obtain ⟨h1, -, h3, h4, h5, h6⟩ := h.call (below_box X (.cells #[.int .i64 x, .int .i64 y, .int .i64 0, .map (some bi), va, .map (some bt)] T))
  obtain ⟨b1, b2, b3⟩ := h3 bi rfl
  obtain ⟨c1, c2, c3⟩ := h4 bt rfl
  have ht0 : ∀ m, tot (fun _ => 0) m = 0 := fun m => by
    induction m with
    | zero => rfl
    | succ m ih => unfold tot sm; unfold tot at ih; omega
  exact ⟨⟨⟨⟨T, heap_alloc_new X _⟩, b3, _, by rw [ht0]; exact c3, tm_new⟩, by omega, by omega, h6 bi bt rfl rfl⟩, h1, h0, b1, c1⟩
end Go.Proofs.Ytcoikcnijaniaaa.popI
