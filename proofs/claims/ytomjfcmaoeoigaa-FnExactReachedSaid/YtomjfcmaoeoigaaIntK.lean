/- The laws' own words for lists of integers: equal lists are equal, marks are laid, and are found again. -/
import Derived.Test.YtomjfcmaoeoigaaIntsP
import Derived.WalkKit
import Derived.ProofKit
import Derived.OpenShut
import Derived.Below
import Derived.LoopTactic
import Derived.OwnWalk
import Derived.Laws.OwnMore
import Derived.Deep.QuietTactic
import Derived.BigQuiet
import Derived.Lib.Hide
namespace Go.Proofs.Ytomjfcmaoeoigaa.intK
open Go.ChangeShapes Go.WideShapes Go.ChangeAt Go.RowKit
open intsP
set_option linter.unusedVariables false

/-- The cells with the marks from m on. -/
def marks (m n : Nat) : List Value := (List.range n).map fun j => .int .i64 ((m + j : Nat) : Int)
theorem marks_length (m n : Nat) : (marks m n).length = n := by simp [marks]
theorem marks_at (m n j : Nat) (h : j < n) : (marks m n)[j]? = some (.int .i64 ((m + j : Nat) : Int)) := by simp [marks, h]
/-- The first j cells are marked. -/
def part (m j : Nat) (xs : List Value) : List Value := marks m j ++ xs.drop j
theorem part_zero (m : Nat) (xs : List Value) : part m 0 xs = xs := by simp [part, marks]
theorem part_all (m n : Nat) (xs : List Value) (h : xs.length = n) : part m n xs = marks m n := by simp [part, List.drop_of_length_le (Nat.le_of_eq h)]
theorem part_set (m j : Nat) (xs : List Value) (h : j < xs.length) : (part m j xs).set j (.int .i64 ((m + j : Nat) : Int)) = part m (j + 1) xs := by
  apply List.ext_getElem?
  intro i
  unfold part
  rw [List.getElem?_set, List.getElem?_append, List.getElem?_append, List.length_append, marks_length, marks_length, List.length_drop]
  by_cases hij : j = i
  · subst hij
    rw [if_pos rfl, if_pos (by omega), if_pos (by omega), marks_at _ _ _ (by omega)]
  · rw [if_neg hij]
    by_cases hlt : i < j
    · rw [if_pos hlt, if_pos (by omega), marks_at _ _ _ hlt, marks_at _ _ _ (by omega)]
    · rw [if_neg hlt, if_neg (by omega), List.getElem?_drop, List.getElem?_drop]
      congr 1; omega

set_option maxRecDepth 100000 in
/-- Two slices that hold the same integers are equal. -/
theorem eq_same (va vb : Value) (ba bb n : Nat) (xs : List Int) (w : World) (hx : xs.length = n) (hn : n ≤ 65536)
    (ha : w.ownsRow ba 3 1 va n (icells xs)) (hb : w.ownsRow bb 3 1 vb n (icells xs)) :
    Calls Try.prog 20 #[va, vb] w fun e w' => e = .returned (.bool true) ∧ ∃ d, w' = w.drewN d := by
  obtain ⟨Aa, ca, rfl⟩ := own_form ha
  obtain ⟨Ab, cb, rfl⟩ := own_form hb
  by_cases h0 : n = 0
  · subst h0
    clear ha hb
    go_enter Try.func20, Try.ntmps20
    go_wp2_with fail
    go_loopw [5] (fun u5 wr => u5 = .int .i64 0 ∧ wr = w) (fun _ _ => 0)
    case atStart => exact ⟨rfl, rfl⟩
    case round =>
      obtain ⟨rfl, rfl⟩ := hrel
      go_wp2_with fail
      go_ret
      exact ⟨rfl, 0, rfl⟩
  · obtain ⟨ga, ca', ea, _, hga⟩ := own_some ha (by omega)
    obtain ⟨gb, cb', eb, _, hgb⟩ := own_some hb (by omega)
    injection ea with ea1 _ ea2
    injection eb with eb1 _ eb2
    subst ea1 ea2 eb1 eb2
    have HA := Lib.hid (fun k (hk : k < n) => ha.cellAt k (by omega))
    have HB := Lib.hid (fun k (hk : k < n) => hb.cellAt k (by omega))
    have hnn : ((n : Int) != (n : Int)) = false := by simp
    clear ha hb
    go_enter Try.func20, Try.ntmps20
    go_wp2_with fail
    go_loopw [5] (fun u5 wr => ∃ k d : Nat, k ≤ n ∧ u5 = .int .i64 k ∧ wr = w.drewN d) (fun u5 _ => n - (intOf u5).toNat)
    case atStart => exact ⟨0, 0, Nat.zero_le _, rfl, rfl⟩
    case round =>
      obtain ⟨k, d, hk, rfl, rfl⟩ := hrel
      by_cases hlt : k < n
      · have e : (icells xs)[k]? = some (.int .i64 (xs[k]'(by omega))) := icells_at xs k (by omega)
        have c1 : w.cell? ⟨ga, k, none⟩ = some (.int .i64 (xs[k]'(by omega))) := (HA.out k hlt).trans e
        have c2 : w.cell? ⟨gb, k, none⟩ = some (.int .i64 (xs[k]'(by omega))) := (HB.out k hlt).trans e
        have hk0 : (0 : Int) ≤ (k : Int) := Int.natCast_nonneg _
        have hk1 : (k : Int) < (n : Int) := by omega
        clear e
        generalize xs[k]'(by omega) = x at c1 c2
        have hxx : (x != x) = false := by simp
        go_wp2_with fail
        go_quiet (fail)
        go_wp2_with fail
        go_roundw
        case rel => exact ⟨k + 1, _, by omega, by go_num, rfl⟩
        case measure => simp [intOf]; omega
      · go_wp2_with fail
        go_ret
        exact ⟨rfl, d, rfl⟩

/-- At the head of a round of marking. -/
def MkRel (base m n : Nat) (v : Value) (xs : List Value) (w : World) (u1 u5 : Value) (wr : World) : Prop :=
  ∃ j : Nat, j ≤ n ∧ u5 = .int .i64 j ∧ u1 = .int .i64 ((m + j : Nat) : Int) ∧ wr.ownsRow base 3 1 v n (part m j xs) ∧ Below base w wr
theorem mk_step {base m n j g c : Nat} {xs : List Value} {w wr : World} (hlt : j < n) (hx : xs.length = n) (hown : wr.ownsRow base 3 1 (.slice (some ⟨g, 0, none⟩) n c) n (part m j xs)) (hg : base ≤ g) (hb : Below base w wr) :
    MkRel base m n (.slice (some ⟨g, 0, none⟩) n c) xs w (.int .i64 ((m : Int) + (j : Int) + 1)) (.int .i64 ((j : Int) + 1)) (wr.setCell ⟨g, j, none⟩ (.int .i64 ((m : Int) + (j : Int)))) := by
  have h1 := hown.stored j (.int .i64 ((m + j : Nat) : Int))
  have e : (.int .i64 ((m : Int) + (j : Int)) : Value) = .int .i64 ((m + j : Nat) : Int) := by rw [show ((m + j : Nat) : Int) = (m : Int) + (j : Int) from by omega]
  rw [e]
  refine ⟨j + 1, hlt, by go_num, by rw [show ((m + (j + 1) : Nat) : Int) = (m : Int) + (j : Int) + 1 from by omega], ?_, hb.setCell hg _⟩
  rw [part_set m j xs (by omega)] at h1
  exact h1.1

set_option maxRecDepth 100000 in
/-- Marks are laid into a slice. -/
theorem mark_any (v : Value) (base n : Nat) (m : Nat) (mi : Int) (xs : List Value) (w : World) (hmi : mi = (m : Int)) (hm : 0 < m) (hn : m + n ≤ 1000000) (hB : base ≤ w.heap.size) (hown : w.ownsRow base 3 1 v n xs) :
    Calls Try.prog 21 #[v, .int .i64 mi] w fun e w' => e = .returned (.int .i64 ((m + n : Nat) : Int)) ∧ w'.ownsRow base 3 1 v n (marks m n) ∧ Below base w w' := by
  subst hmi
  have hxl : xs.length = n := by have := hown.1; omega
  by_cases h0 : n = 0
  · subst h0
    have hxs : xs = [] := List.eq_nil_of_length_eq_zero hxl
    subst hxs
    have HO := Lib.hid (show w.ownsRow base 3 1 v 0 (marks m 0) from hown)
    obtain ⟨A, c, rfl⟩ := own_form hown
    clear hown
    go_enter Try.func21, Try.ntmps21
    go_wp2_with fail
    go_loopw [1, 5] (fun u1 u5 wr => u1 = .int .i64 (m : Int) ∧ u5 = .int .i64 0 ∧ wr = w) (fun _ _ _ => 0)
    case atStart => exact ⟨rfl, rfl, rfl⟩
    case round =>
      obtain ⟨rfl, rfl, rfl⟩ := hrel
      go_wp2_with fail
      go_ret
      exact ⟨rfl, HO.out, Below.refl _ _⟩
  · obtain ⟨g, c, rfl, hg, hgs⟩ := own_some hown (by omega)
    have HO := Lib.hid (show w.ownsRow base 3 1 (.slice (some ⟨g, 0, none⟩) n c) n (part m 0 xs) by rw [part_zero]; exact hown)
    have HR := Lib.hid (Below.refl base w)
    clear hown
    go_enter Try.func21, Try.ntmps21
    go_wp2_with fail
    go_loopw [1, 5] (fun u1 u5 wr => MkRel base m n (.slice (some ⟨g, 0, none⟩) n c) xs w u1 u5 wr) (fun _ u5 _ => n - (intOf u5).toNat)
    case atStart => exact ⟨0, Nat.zero_le _, rfl, rfl, HO.out, HR.out⟩
    case round =>
      obtain ⟨j, hj, rfl, rfl, hown, hb⟩ := hrel
      clear HO HR
      by_cases hlt : j < n
      · have HS := Lib.hid (mk_step (w := w) hlt hxl hown hg hb)
        have hk0 : (0 : Int) ≤ (j : Int) := Int.natCast_nonneg _
        have hk1 : (j : Int) < (n : Int) := by omega
        have hpl : (part m j xs).length = n := by have := hown.1; omega
        have hcell : ∃ old, wr.cell? ⟨g, j, none⟩ = some old := ⟨(part m j xs)[j]'(by omega), by rw [hown.cellAt j (by omega), List.getElem?_eq_getElem (by omega)]⟩
        have hfz : wr.frozen? ⟨g, j, none⟩ = false := hown.frozenAt j
        obtain ⟨old, hcell⟩ := hcell
        clear hpl hown
        go_wp2_with fail
        go_roundw
        case rel => exact HS.out
        case measure => simp [intOf]; omega
      · obtain rfl : j = n := by omega
        rw [part_all m j xs hxl] at hown
        go_wp2_with fail
        go_ret
        exact ⟨rfl, hown, hb⟩

set_option maxRecDepth 100000 in
/-- Marks are found again. -/
theorem held_any (v : Value) (base n : Nat) (m : Nat) (mi : Int) (w : World) (hmi : mi = (m : Int)) (hm : 0 < m) (hn : m + n ≤ 1000000) (hown : w.ownsRow base 3 1 v n (marks m n)) :
    Calls Try.prog 22 #[v, .int .i64 mi] w fun e w' => e = .returned (.int .i64 ((m + n : Nat) : Int)) ∧ Below w.heap.size w w' := by
  subst hmi
  by_cases h0 : n = 0
  · subst h0
    obtain ⟨A, c, rfl⟩ := own_form hown
    clear hown
    go_enter Try.func22, Try.ntmps22
    go_wp2_with fail
    go_loopw [1, 5] (fun u1 u5 wr => u1 = .int .i64 (m : Int) ∧ u5 = .int .i64 0 ∧ wr = w) (fun _ _ _ => 0)
    case atStart => exact ⟨rfl, rfl, rfl⟩
    case round =>
      obtain ⟨rfl, rfl, rfl⟩ := hrel
      go_wp2_with fail
      go_ret
      exact ⟨rfl, Below.refl _ _⟩
  · obtain ⟨g, c, rfl, hg, hgs⟩ := own_some hown (by omega)
    have HC := Lib.hid (fun j (hj : j < n) => show w.cell? ⟨g, j, none⟩ = some (.int .i64 ((m : Int) + (j : Int))) by
      rw [hown.cellAt j (by omega), marks_at m n j hj]; simp)
    clear hown
    go_enter Try.func22, Try.ntmps22
    go_wp2_with fail
    go_loopw [1, 5] (fun u1 u5 wr => ∃ j : Nat, j ≤ n ∧ u5 = .int .i64 j ∧ u1 = .int .i64 ((m + j : Nat) : Int) ∧ wr = w) (fun _ u5 _ => n - (intOf u5).toNat)
    case atStart => exact ⟨0, Nat.zero_le _, rfl, rfl, rfl⟩
    case round =>
      obtain ⟨j, hj, rfl, rfl, rfl⟩ := hrel
      by_cases hlt : j < n
      · have hk0 : (0 : Int) ≤ (j : Int) := Int.natCast_nonneg _
        have hk1 : (j : Int) < (n : Int) := by omega
        have hcell := HC.out j hlt
        have hne : ((m : Int) + (j : Int) != (m : Int) + (j : Int)) = false := by simp
        go_wp2_with fail
        go_roundw
        case rel => exact ⟨j + 1, by omega, by go_num, by rw [show ((m + (j + 1) : Nat) : Int) = (m : Int) + (j : Int) + 1 from by omega], trivial⟩
        case measure => simp [intOf]; omega
      · obtain rfl : j = n := by omega
        go_wp2_with fail
        go_ret
        exact ⟨rfl, Below.refl _ _⟩

theorem eq_b (va vb : Value) (ba bb n : Nat) (xs : List Int) (w : World) (hx : xs.length = n) (hn : n ≤ 65536)
    (ha : w.ownsRow ba 3 1 va n (icells xs)) (hb : w.ownsRow bb 3 1 vb n (icells xs)) :
    Calls Try.prog 20 #[va, vb] w fun e w' => e = .returned (.bool true) ∧ Below w.heap.size w w' :=
  (eq_same va vb ba bb n xs w hx hn ha hb).mono fun e w' ⟨he, d, hw⟩ => ⟨he, by rw [hw]; exact ⟨rfl, rfl, rfl, Nat.le_refl _, fun _ _ => rfl⟩⟩
end Go.Proofs.Ytomjfcmaoeoigaa.intK
