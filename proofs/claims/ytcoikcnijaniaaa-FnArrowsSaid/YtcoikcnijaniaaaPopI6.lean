/- The contracts of the program's PopMaze and ArrowsUsed. -/
import Derived.Test.YtcoikcnijaniaaaPopI5
namespace Go.Proofs.Ytcoikcnijaniaaa.popI
open Go.ChangeShapes Go.WideShapes Go.ChangeAt Go.RowKit Go.Maps
open draw gridP gridC gridE bitP mazeP mazeC mazeM mazeR intsP reachP reachM reachN reachD intA intK listK rowsP setI wayP ersP ersO popP popO popW
set_option linter.unusedVariables false

theorem below_set3b {W X Y : World} {b g : Nat} {u v w : Value} (h : Below b W X) (hb : b ≤ g) (hY : Y = ((X.setCell ⟨g, 0, none⟩ u).setCell ⟨g, 1, none⟩ v).setCell ⟨g, 2, none⟩ w) : Below b W Y := by
  subst hY
  exact Below.setCell (Below.setCell (Below.setCell h hb _) hb _) hb _
/-- Whether all is in order. -/
def inOrd (x y : Int) (ls : List (List Int)) (l : List Int) : Bool := aoB x y ls && odB x y l
theorem po_of {x y : Int} {ls : List (List Int)} {l : List Int} {t : Int → Nat} {L : List Int} {o : Int} (h : (if inOrd x y ls l then ppR x y ls l else none) = some (t, L, o)) :
    poB x y ls l = true ∧ pmX x y ls l = x ∧ pmY x y ls l = y ∧ pmO x y ls l = o ∧ auZ x y ls l = (tot t ls.length : Nat) := by
  by_cases hi : inOrd x y ls l = true
  · rw [if_pos hi] at h
    have h' := hi
    unfold inOrd at h'
    rw [Bool.and_eq_true] at h'
    exact pm_good h'.1 h'.2 h
  · rw [if_neg hi] at h; cases h
theorem po_not {x y : Int} {ls : List (List Int)} {l : List Int} (h : (if inOrd x y ls l then ppR x y ls l else none) = none) : poB x y ls l = false := by
  by_cases hi : inOrd x y ls l = true
  · rw [if_pos hi] at h
    exact po_no (.inr (.inr h))
  · unfold poB
    rw [show (aoB x y ls && odB x y l) = false from by rw [← Bool.not_eq_true]; exact hi]
    rfl
theorem box6_new (w : World) (T : TypeId) (a b c d e f : Value) : (w.alloc (.cells #[a, b, c, d, e, f] T)).cell? ⟨w.heap.size, 0, none⟩ = some a ∧ (w.alloc (.cells #[a, b, c, d, e, f] T)).cell? ⟨w.heap.size, 1, none⟩ = some b ∧ (w.alloc (.cells #[a, b, c, d, e, f] T)).cell? ⟨w.heap.size, 2, none⟩ = some c ∧ (w.alloc (.cells #[a, b, c, d, e, f] T)).cell? ⟨w.heap.size, 5, none⟩ = some f :=
  ⟨cell_of_row _ _ 0 _ _ _ (heap_alloc_new w _), cell_of_row _ _ 1 _ _ _ (heap_alloc_new w _), cell_of_row _ _ 2 _ _ _ (heap_alloc_new w _), cell_of_row _ _ 5 _ _ _ (heap_alloc_new w _)⟩
theorem sm_mono {f : Nat → Nat} {k n : Nat} (h : k ≤ n) : sm f k ≤ sm f n := by
  induction n with
  | zero => obtain rfl : k = 0 := by omega
            exact Nat.le_refl _
  | succ n ih =>
    rcases Nat.lt_or_ge n k with h' | h'
    · obtain rfl : k = n + 1 := by omega
      exact Nat.le_refl _
    · exact Nat.le_trans (ih h') (Nat.le_add_right _ _)

set_option maxRecDepth 100000 in
set_option maxHeartbeats 2000000 in
theorem popMaze_any (x y : Int) (A : Option Addr) (n c : Nat) (ls : List (List Int)) (A2 : Option Addr) (n2 c2 : Nat) (l : List Int) (W : World) (hn : ls.length = n) (hm : n ≤ 1048576) (hl : ∀ l ∈ ls, l.length ≤ 1048576) (hi : MxIn W W.heap.size A ls) (hn2 : l.length = n2) (hm2 : n2 ≤ 1048576) (hi2 : IntsIn W W.heap.size A2 l) :
    Calls Try.prog 22 #[.agg #[.int .i64 x, .int .i64 y], .slice A n c, .slice A2 n2 c2] W (MzB (pmX x y ls l) (pmY x y ls l) (pmO x y ls l) (poB x y ls l) W) := by
  have hb2 : ∀ T T', Below W.heap.size W ((W.alloc (.cells #[.int .i64 x, .int .i64 y] T)).alloc (.cells #[.int .i64 0, .int .i64 0, .int .i64 0] T')) := fun T T' => ((Below.refl _ _).alloc (Nat.le_refl _) _).alloc (by simp) _
  have HB := Lib.hid hb2
  have HR := Lib.hid (fun T T' => (by have := row3_new 0 0 0 (W.alloc (.cells #[.int .i64 x, .int .i64 y] T)) T'; simpa using this : Row3 (W.heap.size + 1) 0 0 0 ((W.alloc (.cells #[.int .i64 x, .int .i64 y] T)).alloc (.cells #[.int .i64 0, .int .i64 0, .int .i64 0] T'))))
  have HPa := Lib.hid (fun X (h : Below W.heap.size W X) => popArrows_any x y A n c ls A2 n2 c2 l X hn hm hl ((hi.below h).more h.size) hn2 hm2 ((hi2.below h).more h.size))
  have HY : Hid (∀ t L o w', (if inOrd x y ls l then ppR x y ls l else none) = some (t, L, o) → Below W.heap.size W w' → MzB (pmX x y ls l) (pmY x y ls l) (pmO x y ls l) (poB x y ls l) W (.returned (.tuple #[.agg #[.int .i64 x, .int .i64 y, .int .i64 o], .bool true])) w') := Lib.hid fun t L o w' h hb => by
    obtain ⟨h1, h2, h3, h4, -⟩ := po_of h
    rw [h1, h2, h3, h4]; exact ⟨rfl, hb⟩
  have HN : Hid ((if inOrd x y ls l then ppR x y ls l else none) = none → ∀ w', Below W.heap.size W w' → MzB (pmX x y ls l) (pmY x y ls l) (pmO x y ls l) (poB x y ls l) W (.returned (.tuple #[.agg #[.int .i64 0, .int .i64 0, .int .i64 0], .bool false])) w') := Lib.hid fun h w' hb => by
    obtain ⟨h2, h3, h4, -⟩ := pm_bad (po_not h)
    rw [po_not h, h2, h3, h4]; exact ⟨rfl, hb⟩
  rw [show (aoB x y ls && odB x y l) = inOrd x y ls l from rfl] at HPa
  clear hi hi2 hn hn2 hl hb2
  generalize (if inOrd x y ls l then ppR x y ls l else none) = R at *
  generalize pmX x y ls l = r1 at *
  generalize pmY x y ls l = r2 at *
  generalize pmO x y ls l = r3 at *
  generalize poB x y ls l = r4 at *
  go_enter Try.func22, Try.ntmps22
  go_wp2_with fail
  have hb0 := HB.out 25 27
  have hr0 := HR.out 25 27
  refine (HPa.out _ hb0).mono ?_
  rintro e w1 ⟨hb, h⟩
  have Hb1 := Lib.hid (below_call hb0 hb)
  have Hr1 := Lib.hid (hr0.call hb)
  clear hb0 hr0 hb HB HR HPa
  rcases h with ⟨t, L, o, P, bi, bt, hR, rfl, hps, -⟩ | ⟨hR, rfl⟩
  · have HE := Lib.hid (fun w' => HY.out t L o w' hR)
    obtain ⟨p0, p1, p2, -⟩ := box6_new w1 81 (.int .i64 x) (.int .i64 y) (.int .i64 o) (.map (some bi)) (.slice A n c) (.map (some bt))
    have Hr2 := Lib.hid (Hr1.out.call (below_box w1 (.cells #[.int .i64 x, .int .i64 y, .int .i64 o, .map (some bi), .slice A n c, .map (some bt)] 81)))
    have Hb2 := Lib.hid (below_call Hb1.out (below_box w1 (.cells #[.int .i64 x, .int .i64 y, .int .i64 o, .map (some bi), .slice A n c, .map (some bt)] 81)))
    obtain ⟨⟨e0, e1, e2⟩, f0, f1, f2⟩ := row3_cells Hr2.out
    clear hps hR HY HN Hr1 Hb1
    go_wp2_with fail
    refine ret_set3 e0 e1 e2 fun Y g0 g1 g2 hY => ?_
    exact bodyPost_ret (v := .tuple #[.agg #[.int .i64 x, .int .i64 y, .int .i64 o], .bool true]) (by simp [results, Try.results22, go_sem, g0, g1, g2]) rfl (HE.out Y (below_set3b Hb2.out (by omega) hY))
  · have HE := Lib.hid (HN.out hR)
    obtain ⟨p0, p1, p2, -⟩ := box6_new w1 81 (.int .i64 0) (.int .i64 0) (.int .i64 0) (.map none) (.slice none 0 0) (.map none)
    have Hr2 := Lib.hid (Hr1.out.call (below_box w1 (.cells #[.int .i64 0, .int .i64 0, .int .i64 0, .map none, .slice none 0 0, .map none] 81)))
    have Hb2 := Lib.hid (below_call Hb1.out (below_box w1 (.cells #[.int .i64 0, .int .i64 0, .int .i64 0, .map none, .slice none 0 0, .map none] 81)))
    obtain ⟨⟨e0, e1, e2⟩, f0, f1, f2⟩ := row3_cells Hr2.out
    clear hR HY HN Hr1 Hb1
    go_wp2_with fail
    refine ret_set3 e0 e1 e2 fun Y g0 g1 g2 hY => ?_
    exact bodyPost_ret (v := .tuple #[.agg #[.int .i64 0, .int .i64 0, .int .i64 0], .bool false]) (by simp [results, Try.results22, go_sem, g0, g1, g2]) rfl (HE.out Y (below_set3b Hb2.out (by omega) hY))

set_option maxRecDepth 100000 in
set_option maxHeartbeats 2000000 in
theorem arrowsUsed_any (x y : Int) (A : Option Addr) (n c : Nat) (ls : List (List Int)) (A2 : Option Addr) (n2 c2 : Nat) (l : List Int) (W : World) (hn : ls.length = n) (hm : n ≤ 1048576) (hl : ∀ l ∈ ls, l.length ≤ 1048576) (hi : MxIn W W.heap.size A ls) (hn2 : l.length = n2) (hm2 : n2 ≤ 1048576) (hi2 : IntsIn W W.heap.size A2 l) :
    Calls Try.prog 23 #[.agg #[.int .i64 x, .int .i64 y], .slice A n c, .slice A2 n2 c2] W (Nm (auZ x y ls l) W) := by
  have HB := Lib.hid (fun T => below_box W (.cells #[.int .i64 x, .int .i64 y] T))
  have HPa := Lib.hid (fun X (h : Below W.heap.size W X) => popArrows_any x y A n c ls A2 n2 c2 l X hn hm hl ((hi.below h).more h.size) hn2 hm2 ((hi2.below h).more h.size))
  have HY : Hid (∀ t L o w', (if inOrd x y ls l then ppR x y ls l else none) = some (t, L, o) → Below W.heap.size W w' → Nm (auZ x y ls l) W (.returned (.int .i64 ((tot t n : Nat) : Int))) w') := Lib.hid fun t L o w' h hb => by
    obtain ⟨-, -, -, -, h1⟩ := po_of h
    rw [h1, hn]; exact ⟨rfl, hb⟩
  have HN : Hid ((if inOrd x y ls l then ppR x y ls l else none) = none → ∀ w', Below W.heap.size W w' → Nm (auZ x y ls l) W (.returned (.int .i64 (-1))) w') := Lib.hid fun h w' hb => by
    obtain ⟨-, -, -, h1⟩ := pm_bad (po_not h)
    rw [h1]; exact ⟨rfl, hb⟩
  have hN16 : Hid (∀ t L o, (if inOrd x y ls l then ppR x y ls l else none) = some (t, L, o) → n ≤ 16) := Lib.hid fun t L o h => by
    have h1 := (po_of h).1
    unfold poB at h1
    simp only [Bool.and_eq_true] at h1
    have h2 := (ao_iff.1 h1.1.1).n16
    omega
  rw [show (aoB x y ls && odB x y l) = inOrd x y ls l from rfl] at HPa
  clear hi hi2 hn hn2 hl
  generalize (if inOrd x y ls l then ppR x y ls l else none) = R at *
  generalize auZ x y ls l = r1 at *
  go_enter Try.func23, Try.ntmps23
  go_wp2_with fail
  have hb0 := HB.out 25
  refine (HPa.out _ hb0).mono ?_
  rintro e w1 ⟨hb, h⟩
  have Hb1 := Lib.hid (below_call hb0 hb)
  clear hb0 hb HB HPa
  rcases h with ⟨t, L, o, P, bi, bt, hR, rfl, hps, htot⟩ | ⟨hR, rfl⟩
  · have HE := Lib.hid (fun w' => HY.out t L o w' hR)
    have hn16 := hN16.out t L o hR
    have hbx := below_box w1 (.cells #[.int .i64 x, .int .i64 y, .int .i64 o, .map (some bi), .slice A n c, .map (some bt)] 81)
    obtain ⟨-, -, -, p5⟩ := box6_new w1 81 (.int .i64 x) (.int .i64 y) (.int .i64 o) (.map (some bi)) (.slice A n c) (.map (some bt))
    have Hb2 := Lib.hid (below_call Hb1.out hbx)
    have Hps := Lib.hid (hps.call hbx)
    have HT : Hid (∀ k, k ≤ n → tot t k ≤ 960) := Lib.hid fun k hk => Nat.le_trans (sm_mono hk) htot
    clear hps hR HY HN Hb1 htot hN16 hbx
    go_wp2_with fail
    generalize w1.alloc (.cells #[.int .i64 x, .int .i64 y, .int .i64 o, .map (some bi), .slice A n c, .map (some bt)] 81) = X2 at *
    go_loopw [9, 22] (fun u9 u22 wr => ∃ k : Nat, k ≤ n ∧ u22 = .int .i64 k ∧ u9 = .int .i64 ((tot t k : Nat) : Int) ∧ wr = X2) (fun _ u22 _ => n - (intOf u22).toNat)
    case atStart => exact ⟨0, Nat.zero_le _, rfl, rfl, rfl⟩
    case round =>
      obtain ⟨k, hk, rfl, rfl, rfl⟩ := hrel
      have hk0 : (0 : Int) ≤ (k : Int) := Int.natCast_nonneg _
      by_cases hkn : k < n
      · have hk1 : (k : Int) < (n : Int) := by omega
        have hlk := top_at Hps.out.1.2.2 (show -9223372036854775808 ≤ (k : Int) ∧ (k : Int) ≤ 9223372036854775807 by omega)
        have HS : Hid (tot t (k + 1) = tot t k + t k) := Lib.hid rfl
        have h1 := HT.out (k + 1) (by omega)
        rw [HS.out] at h1
        generalize tot t k = T1 at *
        generalize t (k : Int) = V1 at *
        go_wp2_with fail
        go_roundw
        case rel => exact ⟨k + 1, by omega, by go_num, by rw [HS.out]; simp, by trivial⟩
        case measure => simp [intOf]; omega
      · obtain rfl : k = n := by omega
        generalize tot t k = T1 at *
        go_wp2_with fail
        go_ret
        exact HE.out _ Hb2.out
  · have HE := Lib.hid (HN.out hR)
    have Hb2 := Lib.hid (below_call Hb1.out (below_box w1 (.cells #[.int .i64 0, .int .i64 0, .int .i64 0, .map none, .slice none 0 0, .map none] 81)))
    clear hR HY HN Hb1
    go_wp2_with fail
    go_ret
    exact HE.out _ Hb2.out
end Go.Proofs.Ytcoikcnijaniaaa.popI
