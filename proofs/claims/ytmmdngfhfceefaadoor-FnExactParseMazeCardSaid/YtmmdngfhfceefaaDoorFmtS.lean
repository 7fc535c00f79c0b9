/- The model's FormatInt answers the decimal numeral of every integer. -/
import Derived.Test.YtmmdngfhfceefaaDoorFmtP
import Derived.Test.YtmmdngfhfceefaaDoorFig
import Derived.WalkKit
import Derived.ProofKit
import Derived.OpenShut
import Derived.Below
import Derived.LoopTactic
import Derived.OwnWalk
import Derived.Deep.RegionHeld3
import Derived.Deep.AppendLies
import Derived.Lib.Hide
import Derived.Outline
import Derived.Laws.BytesArg
import Derived.Laws.BitsLemmas
import Derived.Laws.MakeOwn
import Derived.Laws.IdiomStrings
namespace Go.Proofs.YtmmdngfhfceefaaDoor.fmtS
open Go.ChangeShapes Go.WideShapes Go.ChangeAt Go.RowKit
open hexP fmtP fig
set_option linter.unusedVariables false



theorem figure_is (y : Int) (d : Nat) (h : y = d) (hd : d < 16) (w : World) :
    Calls Tryd.prog 56 #[.int .i64 y] w fun e w' => e = .returned (.int .u8 ((fig d).toNat : Int)) ∧ w = w' := by
  have := figure_any y w (by omega) (by omega)
  have e : y.toNat = d := by omega
  rw [e] at this
  exact this

theorem conv_one (w : World) (c : UInt8) : (convert 22 9 (.slice (some ⟨w.heap.size, 0, none⟩) 1 1)).run Tryd.prog (w.alloc (.cells #[.int .u8 (c.toNat : Int)] 5)) = .ok (.string ⟨#[c]⟩) (w.alloc (.cells #[.int .u8 (c.toNat : Int)] 5)) :=
  run_convert_bytes_back (P := Tryd.prog) _ 22 9 5 ⟨w.heap.size, 0, none⟩ 1 [c] Tryd.underlying22 Tryd.underlying5 Tryd.underlying9 fun j hj => by
    have : j = 0 := by simp at hj; omega
    subst this
    simp [Addr.add]

theorem ret_str {a b : ByteArray} (h : a = b) : Ending.returned (.string a) = .returned (.string b) := by rw [h]

/-- At the head of a round: the digits of x are still to be written, l are written. -/
def FmtRel (n : Int) (w : World) (u0 u4 : Value) (wr : World) : Prop :=
  ∃ (x : Int) (l : List UInt8), u0 = .int .i64 x ∧ u4 = .string ⟨l.toArray⟩ ∧ -9223372036854775808 ≤ x ∧ x ≤ 9223372036854775807 ∧ dg n.natAbs = dg x.natAbs ++ l ∧ Below w.heap.size w wr

theorem fmt_step {n x : Int} {w wr : World} {l : List UInt8} (h0 : x ≠ 0) (h1 : -9223372036854775808 ≤ x) (h2 : x ≤ 9223372036854775807) (hl : dg n.natAbs = dg x.natAbs ++ l) (hb : Below w.heap.size w wr) (o : Obj) :
    FmtRel n w (.int .i64 (x.tdiv 10)) (.string ⟨(fig (x.natAbs % 10) :: l).toArray⟩) (wr.alloc o) := by
  have ha := tdiv_abs x
  refine ⟨_, _, rfl, rfl, by omega, by omega, ?_, hb.alloc hb.size _⟩
  rw [hl, dg_step x.natAbs (by omega), ha]
  simp

set_option maxRecDepth 100000 in
theorem format_any (n : Int) (w : World) (h1 : -9223372036854775808 ≤ n) (h2 : n ≤ 9223372036854775807) :
    Calls Tryd.prog 34 #[.int .i64 n] w fun e w' => e = .returned (.string ⟨(Lib.itoa n).toArray⟩) ∧ Below w.heap.size w w' := by
  by_cases hz : n = 0
  · subst hz
    rw [itoa_zero]
    go_enter Tryd.func34, Tryd.ntmps34
    go_wp2
    go_ret
    exact ⟨rfl, Below.refl _ _⟩
  · have hz' : (n == 0) = false := by simpa using hz
    have HB := Lib.hid (Below.refl w.heap.size w)
    have HZ := Lib.hid hz
    clear hz
    have hsgn : decide (n < 0) = true ∨ decide (n < 0) = false := by cases decide (n < 0) <;> simp
    go_enter Tryd.func34, Tryd.ntmps34
    go_wp2
    go_loopw [0, 4] (fun u0 u4 wr => FmtRel n w u0 u4 wr) (fun u0 _ _ => (intOf u0).natAbs)
    case atStart => exact ⟨n, [], rfl, rfl, h1, h2, by simp, HB.out⟩
    case round =>
      obtain ⟨x, l, rfl, rfl, hx1, hx2, hl, hb⟩ := hrel
      have HL := Lib.hid hl
      clear hl HB
      have hlen : l.length ≤ 19 := by
        have := dg_len19 n h1 h2
        rw [HL.out, List.length_append] at this; omega
      by_cases hx0 : x = 0
      · subst hx0
        have hl : dg n.natAbs = l := by simpa [dg] using HL.out
        subst hl
        clear HL
        by_cases hn : n < 0
        · have HI := Lib.hid (itoa_neg n hn)
          have hd : decide (n < 0) = true := by simpa using hn
          go_wp2
          go_ret
          exact ⟨ret_str (by rw [HI.out]; rfl), hb⟩
        · have HI := Lib.hid (itoa_pos n (by have := HZ.out; omega))
          have hd : decide (n < 0) = false := by simpa using hn
          go_wp2
          go_ret
          exact ⟨ret_str (by rw [HI.out]), hb⟩
      · have hx0' : (x != 0) = true := by simpa using hx0
        have HC := Lib.hid (conv_one wr (fig (x.natAbs % 10)))
        have HS := Lib.hid (fun o => fmt_step (w := w) hx0 hx1 hx2 HL.out hb o)
        by_cases hpos : 0 < x
        · have K := Lib.hid (fun W => figure_is (x % 10) (x.natAbs % 10) (by omega) (by omega) W)
          have HD := Lib.hid (show x.tdiv 10 = x / 10 from Int.tdiv_eq_ediv_of_nonneg (by omega))
          clear hx0
          go_wp2_with fail
          refine (K.out _).mono ?_
          rintro e w' ⟨rfl, rfl⟩
          have hcv := HC.out
          go_wp2_with fail
          go_roundw
          case rel =>
            have := HS.out (.cells #[.int .u8 ((fig (x.natAbs % 10)).toNat : Int)] 5)
            rw [HD.out] at this
            exact this
          case measure => simp [intOf]; omega
        · have hneg : x < 0 := by omega
          have ha := tmod_abs x
          have hq := tdiv_abs x
          have hm1 : x.tmod 10 ≤ 0 := by
            have e : x.tmod 10 = -((-x).tmod 10) := by rw [Int.neg_tmod, Int.neg_neg]
            have := Int.tmod_nonneg (a := -x) 10 (by omega)
            omega
          have hm2 : -10 < x.tmod 10 := by omega
          have hq1 : -9223372036854775808 ≤ x.tdiv 10 := by omega
          have hq2 : x.tdiv 10 ≤ 9223372036854775807 := by omega
          have HQ := Lib.hid (show (x.tdiv 10).natAbs < x.natAbs by omega)
          by_cases hm : x.tmod 10 < 0
          · have K := Lib.hid (fun W => figure_is (-x.tmod 10) (x.natAbs % 10) (by omega) (by omega) W)
            clear hx0 ha hq
            go_wp2_with fail
            refine (K.out _).mono ?_
            rintro e w' ⟨rfl, rfl⟩
            have hcv := HC.out
            go_wp2_with fail
            go_roundw
            case rel => exact HS.out _
            case measure =>
              show (x.tdiv 10).natAbs < x.natAbs
              exact HQ.out
          · have K := Lib.hid (fun W => figure_is (x.tmod 10) (x.natAbs % 10) (by omega) (by omega) W)
            clear hx0 ha hq
            go_wp2_with fail
            refine (K.out _).mono ?_
            rintro e w' ⟨rfl, rfl⟩
            have hcv := HC.out
            go_wp2_with fail
            go_roundw
            case rel => exact HS.out _
            case measure =>
              show (x.tdiv 10).natAbs < x.natAbs
              exact HQ.out
end Go.Proofs.YtmmdngfhfceefaaDoor.fmtS
