/- Every clamped number of the law's draws is in its range and is not changed again: the walk of the law. -/
import Derived.Test.YtijpbjnghkkdeaaDrawD
import Derived.Test.YtijpbjnghkkdeaaClampC
namespace Go.Proofs.Ytijpbjnghkkdeaa.fnClamped
open Go.ChangeShapes Go.WideShapes Go.ChangeAt Go.RowKit
open draw clampC
set_option linter.unusedVariables false

/-- A draw of three numbers leaves all that was there. -/
def Three (w : World) (e : Ending) (w' : World) : Prop := ∃ a b c : Int, e = .returned (.tuple #[.int .i64 a, .int .i64 b, .int .i64 c]) ∧ Below w.heap.size w w'
theorem three_mk {w w' : World} (a b c : Int) (h : Below w.heap.size w w') : Three w (.returned (.tuple #[.int .i64 a, .int .i64 b, .int .i64 c])) w' := ⟨a, b, c, rfl, h⟩

theorem below_grown {B g : Nat} {a w w' : World} (h : Below B a w) (hg : w.grownBy w' (some g)) (hB : B ≤ g) (hw : B ≤ w.heap.size) : Below B a w' :=
  h.grown hg hw (fun k hk => by cases hk; exact hB)

theorem drawClamp_any (A : Option Addr) (n c : Nat) (w : World) (hn : n ≤ maxLen) (hb : BytesIn w w.heap.size A n) :
    Calls Try.prog 9 #[.slice A n c] w (Three w) := by
  have HK := @Lib.hid _ (fun w' a b c (h : Below w.heap.size w w') => @three_mk w w' a b c h)
  go_enter Try.func9, Try.ntmps9
  go_wp2_with fail
  refine (new_any A n c w hn hb).mono ?_
  rintro e w1 ⟨rfl, hc1, hb1, hs1⟩
  have hz1 : w.heap.size ≤ w1.heap.size := by omega
  clear hs1
  go_wp2_with fail
  refine (once_any _ _ _ hc1 (by omega) (by omega)).mono ?_
  rintro e w2 ⟨o, rfl, hc2, hg2⟩
  have hb2 := below_grown hb1 hg2 (Nat.le_refl _) hz1
  have hz2 := hb2.size
  clear hc1 hb1 hg2
  cases o
  · go_wp2_with fail
    refine (below_any _ _ _ hc2 (by omega) (by omega)).mono ?_
    rintro e w3 ⟨x, hx, rfl, hc3, hg3⟩
    clear hx
    have hb3 := below_grown hb2 hg3 (Nat.le_refl _) hz2
    have hz3 := hb3.size
    clear hc2 hb2 hg3
    go_wp2_with fail
    refine (below_any _ _ _ hc3 (by omega) (by omega)).mono ?_
    rintro e w4 ⟨y, hy, rfl, hc4, hg4⟩
    clear hy
    have hb4 := below_grown hb3 hg4 (Nat.le_refl _) hz3
    have hz4 := hb4.size
    clear hc3 hb3 hg4
    go_wp2_with fail
    refine (below_any _ _ _ hc4 (by omega) (by omega)).mono ?_
    rintro e w5 ⟨z, hz, rfl, hc5, hg5⟩
    clear hz
    have hb5 := below_grown hb4 hg5 (Nat.le_refl _) hz4
    clear hc4 hb4 hg5
    go_wp2_with fail
    go_ret3
    exact HK.out _ _ _ _ hb5
  · go_wp2_with fail
    refine (number_any _ _ hc2).mono ?_
    rintro e w3 ⟨x, rfl, hc3, hg3⟩
    have hb3 := below_grown hb2 hg3 (Nat.le_refl _) hz2
    have hz3 := hb3.size
    clear hc2 hb2 hg3
    go_wp2_with fail
    refine (number_any _ _ hc3).mono ?_
    rintro e w4 ⟨y, rfl, hc4, hg4⟩
    have hb4 := below_grown hb3 hg4 (Nat.le_refl _) hz3
    have hz4 := hb4.size
    clear hc3 hb3 hg4
    go_wp2_with fail
    refine (number_any _ _ hc4).mono ?_
    rintro e w5 ⟨z, rfl, hc5, hg5⟩
    have hb5 := below_grown hb4 hg5 (Nat.le_refl _) hz4
    clear hc4 hb4 hg5
    go_wp2_with fail
    go_ret3
    exact HK.out _ _ _ _ hb5

theorem clamp_is (n lo hi x : Int) (w : World) (h : clampZ n lo hi = x) :
    Calls Try.prog 10 #[.int .i64 n, .int .i64 lo, .int .i64 hi] w fun e w' => e = .returned (.int .i64 x) ∧ w = w' := h ▸ impl_clamp n lo hi w

/-- The law's answer. -/
def Yes (w : World) (e : Ending) (w' : World) : Prop := e = .returned (.bool true) ∧ Below w.heap.size w w'

theorem yes_mk {w w' : World} (h : Below w.heap.size w w') : Yes w (.returned (.bool true)) w' := ⟨rfl, h⟩

theorem walk (A : Option Addr) (n c : Nat) (w : World) (hn : n ≤ maxLen) (hb : BytesIn w w.heap.size A n) :
    Calls Try.prog 3 #[.slice A n c] w (Yes w) := by
  have HK := @Lib.hid _ (fun w' h => @yes_mk w w' h)
  have HR := Lib.hid (Below.refl w.heap.size w)
  have HD := Lib.hid (drawClamp_any A n c w hn hb)
  have HN := Lib.hid hn
  unfold maxLen at hn
  clear hb
  by_cases hbig : 1048576 < n
  · go_enter Try.func3, Try.ntmps3
    go_wp2_with fail
    refine (big_yes A n c w HN.out hbig).mono ?_
    rintro e w' ⟨rfl, rfl⟩
    go_wp2_with fail
    go_ret
    exact HK.out _ HR.out
  · go_enter Try.func3, Try.ntmps3
    go_wp2_with fail
    refine (big_no A n c w HN.out (by omega)).mono ?_
    rintro e w' ⟨rfl, rfl⟩
    go_wp2_with fail
    refine HD.out.mono ?_
    rintro e w1 ⟨x, a, b, rfl, hb1⟩
    have h735 : clampZ 7 3 5 = 5 := by decide
    have K735 := Lib.hid (fun W => clamp_is 7 3 5 5 W h735)
    clear h735 HD HR
    by_cases hba : b < a
    · have e1 : clampZ x a b = a := by unfold clampZ; rw [if_pos hba]
      have K1 := Lib.hid (fun W => clamp_is x a b a W e1)
      clear e1
      have haa : (a == a) = true := by simp
      go_wp2_with fail
      refine (K1.out _).mono ?_
      rintro e w' ⟨rfl, rfl⟩
      go_wp2_with fail
      refine (K735.out _).mono ?_
      rintro e w' ⟨rfl, rfl⟩
      go_wp2_with fail
      go_ret
      exact HK.out _ hb1
    · by_cases hxa : x < a
      · have e1 : clampZ x a b = a := by unfold clampZ; rw [if_neg hba, if_pos hxa]
        have e2 : clampZ a a b = a := by unfold clampZ; rw [if_neg hba, if_neg (by omega), if_neg (by omega)]
        have K1 := Lib.hid (fun W => clamp_is x a b a W e1)
        have K2 := Lib.hid (fun W => clamp_is a a b a W e2)
        clear e1 e2
        have haa : (a == a) = true := by simp
        go_wp2_with fail
        refine (K1.out _).mono ?_
        rintro e w' ⟨rfl, rfl⟩
        go_wp2_with fail
        refine (K2.out _).mono ?_
        rintro e w' ⟨rfl, rfl⟩
        go_wp2_with fail
        refine (K735.out _).mono ?_
        rintro e w' ⟨rfl, rfl⟩
        go_wp2_with fail
        go_ret
        exact HK.out _ hb1
      · by_cases hxb : b < x
        · have e1 : clampZ x a b = b := by unfold clampZ; rw [if_neg hba, if_neg hxa, if_pos hxb]
          have e2 : clampZ b a b = b := by unfold clampZ; rw [if_neg hba, if_neg (by omega), if_neg (by omega)]
          have K1 := Lib.hid (fun W => clamp_is x a b b W e1)
          have K2 := Lib.hid (fun W => clamp_is b a b b W e2)
          clear e1 e2
          have haa : (b == b) = true := by simp
          go_wp2_with fail
          refine (K1.out _).mono ?_
          rintro e w' ⟨rfl, rfl⟩
          go_wp2_with fail
          refine (K2.out _).mono ?_
          rintro e w' ⟨rfl, rfl⟩
          go_wp2_with fail
          refine (K735.out _).mono ?_
          rintro e w' ⟨rfl, rfl⟩
          go_wp2_with fail
          go_ret
          exact HK.out _ hb1
        · have e1 : clampZ x a b = x := by unfold clampZ; rw [if_neg hba, if_neg hxa, if_neg hxb]
          have K1 := Lib.hid (fun W => clamp_is x a b x W e1)
          clear e1
          have haa : (x == x) = true := by simp
          go_wp2_with fail
          refine (K1.out _).mono ?_
          rintro e w' ⟨rfl, rfl⟩
          go_wp2_with fail
          refine (K1.out _).mono ?_
          rintro e w' ⟨rfl, rfl⟩
          go_wp2_with fail
          refine (K735.out _).mono ?_
          rintro e w' ⟨rfl, rfl⟩
          go_wp2_with fail
          go_ret
          exact HK.out _ hb1
end Go.Proofs.Ytijpbjnghkkdeaa.fnClamped
